/- The walks through the document's post: turning a bit. -/
import Derived.Test.YtckfjkhjnpkobaaRefTake
namespace Go.Proofs.Ytckfjkhjnpkobaa
open Go.RowKit

theorem flat_same {α : Type} (f : α → List Value) (L : List α) (i : Nat) (hi : i < L.length) (x' : α) (hx : f x' = f L[i]) : (L.set i x').flatMap f = L.flatMap f := by
  rw [List.flatMap_def, List.flatMap_def, List.map_set, hx]
  have : f L[i] = (L.map f)[i]'(by simpa using hi) := by simp
  rw [this, List.set_getElem_self]
theorem RowIn.congr {α : Type} {f : α → List Value} {size : Nat} {e : TypeId} {w : World} {F : Nat → Prop} {A : Option Addr} {c : Nat} {L : List α} (h : RowIn f size e w F A c L) (i : Nat) (hi : i < L.length) (x' : α) (hx : f x' = f L[i]) : RowIn f size e w F A c (L.set i x') :=
  ⟨h.fits, by rw [List.length_set, flat_same f L i hi x' hx]; exact h.row, h.blk⟩
/-- a bit of one packet is turned -/
theorem RefIs.turned {w : World} {F : Nat → Prop} {g : Nat} {L : List (Pl × Bool)} {A1 A2 A3 A4 : Option Addr} {c1 c2 c3 c4 : Nat} {C : List (Int × Int)} (h : RefIs w F g L A1 c1 A2 c2 C A3 c3 A4 c4) (n m q b : Nat) (hn : n < L.length) (hq : L[n].1.A = some ⟨q, 0, none⟩) (hb : A2 = some ⟨b, 0, none⟩) (v : Nat) (hv : v < 256)
    (hf : Po.flip L[n].1.p.d m = L[n].1.p.d.set (m / 8) v) :
    RefIs ((w.setCell ⟨q, m / 8, none⟩ (.int .u8 (v : Int))).setCell ⟨b, n, none⟩ (.bool true)) F g (L.set n (⟨Po.flipP L[n].1.p m, L[n].1.A, L[n].1.c⟩, true)) A1 c1 A2 c2 C A3 c3 A4 c4 ∧
      Turned F w ((w.setCell ⟨q, m / 8, none⟩ (.int .u8 (v : Int))).setCell ⟨b, n, none⟩ (.bool true)) := by
  have hqF : F q := (h.byt.own _ (List.getElem_mem hn)).2.2 q (by rw [hq]; rfl)
  have hbF : F b := h.tur.blk b (by rw [hb]; rfl)
  have ht1 := Turned.one w q (m / 8) (.int .u8 (v : Int))
  have ht2 := Turned.one (w.setCell ⟨q, m / 8, none⟩ (.int .u8 (v : Int))) b n (.bool true)
  have htt : Turned (fun k => k = q ∨ k = b) w ((w.setCell ⟨q, m / 8, none⟩ (.int .u8 (v : Int))).setCell ⟨b, n, none⟩ (.bool true)) := (ht1.mono (fun _ h => .inl h)).then_ ht2 (fun _ _ h => .inr h)
  have tagq : ∃ cur, w.heap[q]? = some (.cells cur 5 (0, 0)) := by
    have ho := (h.byt.own _ (List.getElem_mem hn)).1
    rcases ho.row.2 with ⟨h0, _⟩ | ⟨g', cap, cur, hv, _, hh, _⟩
    · injection h0 with h0; rw [hq] at h0; cases h0
    · have hA : L[n].1.A = some ⟨g', 0, none⟩ := by injection hv
      rw [hq] at hA
      obtain rfl : q = g' := by injection hA with e; injection e
      exact ⟨cur, hh⟩
  have tagb := h.tur.tag (k := b) (by rw [hb]; rfl)
  obtain ⟨cq, hcq⟩ := tagq
  obtain ⟨cb, hcb⟩ := tagb
  have hgq : g ≠ q := fun e => by rw [← e, h.obj] at hcq; exact absurd (Obj.cells.inj (Option.some.inj hcq)).2.1 (by decide)
  have hgb : g ≠ b := fun e => h.ne2 (by rw [hb, e]; rfl)
  have hqb : q ≠ b := fun e => by rw [e, hcb] at hcq; exact absurd (Obj.cells.inj (Option.some.inj hcq)).2.1 (by decide)
  refine ⟨⟨fun k hk => Nat.lt_of_lt_of_le (h.lt k hk) htt.size, h.has, ?_, ?_, ?_, ?_, ?_, h.ab, ?_, by rw [List.length_set]; exact h.len, h.cuts⟩, htt.mono (fun k hk => by rcases hk with rfl | rfl <;> assumption)⟩
  · rw [List.length_set]
    exact (htt.block g (h.lt g h.has) (fun e => e.elim hgq hgb)).trans h.obj
  · refine (h.row.keep htt (fun k hk e => ?_)).congr n hn _ (by simp [cellsP, Po.flipP, Po.flip_length])
    rcases e with rfl | rfl
    · exact h.row.ne hcq (by decide) hk
    · exact h.row.ne hcb (by decide) hk
  · have hr1 := h.tur.keep ht1 (fun k hk e => by subst e; exact h.tur.ne hcq (by decide) hk)
    have := hr1.put hb n 0 hn (by omega) (.bool true) (⟨Po.flipP L[n].1.p m, L[n].1.A, L[n].1.c⟩, true) (by simp [cellsB])
    rw [Nat.mul_one, Nat.add_zero] at this
    exact this
  · exact h.ra.keep htt (fun k hk e => by rcases e with rfl | rfl; exact h.ra.ne hcq (by decide) hk; exact h.ra.ne hcb (by decide) hk)
  · exact h.rb.keep htt (fun k hk e => by rcases e with rfl | rfl; exact h.rb.ne hcq (by decide) hk; exact h.rb.ne hcb (by decide) hk)
  · refine ⟨fun r hr => ?_, ?_⟩
    · obtain ⟨j, hj, rfl⟩ := List.getElem_of_mem hr
      rw [List.length_set] at hj
      by_cases hjn : n = j
      · subst hjn
        have ho := h.byt.own L[n] (List.getElem_mem hn)
        rw [List.getElem_set_self]
        refine ⟨?_, ?_, ho.2.2⟩
        · have h1 := ho.1
          show OwnsB _ _ _ L[n].1.A L[n].1.c (Po.flip L[n].1.p.d m)
          rw [hf]
          rw [hq] at h1 ⊢
          exact (h1.set_ (m / 8) v hv).turned ht2 (fun k hk e => by injection hk with hk; have hk : q = k := hk; omega)
        · show (Po.flip L[n].1.p.d m).length ≤ 1024
          rw [Po.flip_length]
          exact ho.2.1
      · rw [List.getElem_set_ne hjn]
        have ho := h.byt.own L[j] (List.getElem_mem hj)
        exact ⟨ho.1.turned htt (fun k hk e => e.elim (fun e => h.byt.ne hn hj hjn (k := q) (by rw [hq]; rfl) (by rw [hk, e])) (fun e => by subst e; exact ho.1.ne hcb (by decide) hk)), ho.2⟩
    · have e : ((L.set n (⟨Po.flipP L[n].1.p m, L[n].1.A, L[n].1.c⟩, true)).map fun q : Pl × Bool => blk q.1.A) = L.map fun q => blk q.1.A := by
        rw [List.map_set]
        have : blk L[n].1.A = (L.map fun q : Pl × Bool => blk q.1.A)[n]'(by simpa using hn) := by simp
        show (L.map fun q : Pl × Bool => blk q.1.A).set n (blk L[n].1.A) = _
        rw [this, List.set_getElem_self]
      rw [e]
      exact h.byt.apart

theorem xor_weight : ∀ V, V < 256 → ∀ Y, Y < 8 → (V / 2 ^ Y % 2 = 1 → 2 ^ Y ≤ V ∧ V ^^^ 2 ^ Y = V - 2 ^ Y) ∧ (V / 2 ^ Y % 2 ≠ 1 → V + 2 ^ Y < 256 ∧ V ^^^ 2 ^ Y = V + 2 ^ Y) := by decide +kernel
theorem pow_le (Y : Nat) (h : Y < 8) : 2 ^ Y ≤ 128 ∧ 1 ≤ 2 ^ Y := by
  have : Y = 0 ∨ Y = 1 ∨ Y = 2 ∨ Y = 3 ∨ Y = 4 ∨ Y = 5 ∨ Y = 6 ∨ Y = 7 := by omega
  rcases this with rfl | rfl | rfl | rfl | rfl | rfl | rfl | rfl <;> decide

set_option maxHeartbeats 1600000 in
set_option maxRecDepth 100000 in
theorem refTurn_yes (F : Nat → Prop) (g : Nat) (s : Po.St) (n m : Nat) (w : World) (h : RefAt w F g s) (ht : Po.has s n = true) (hbit : m / 8 < (Po.pkt s n).1.d.length) (hfr : (Po.pkt s n).2 = false) :
    Calls Try.prog 33 #[.pointer (some ⟨g, 0, none⟩), .int .i64 (n : Int), .int .i64 (m : Int)] w fun e w' =>
      e = .returned (.int .i64 0) ∧ RefAt w' F g (Po.turn s n m) ∧ Turned F w w' := by
  have HH := hid (refThere_any F g s n w h)
  rw [ht] at HH
  obtain ⟨h0, h1⟩ := Po.has_iff.1 ht
  obtain ⟨L, A1, c1, A2, c2, C, A3, c3, A4, c4, hI, hs, hc⟩ := h
  have hl : s.l.length = L.length := by rw [hs, List.length_map]
  have hn : n < L.length := by omega
  have hpk := pkt_at hs n hn
  rw [hpk] at hbit hfr
  obtain ⟨b, b', rfl, hA2, hFb, hFb', d0, d1, d2, d3, hbf, hbf', hO, hd⟩ := hI.item n hn
  have hbit' : m / 8 < L[n].1.p.d.length := hbit
  have hfr' : L[n].2 = false := hfr
  rw [hfr'] at d3
  obtain ⟨q, hq, _, hqs, e0, ef⟩ := hO.at_ hbit'
  rw [hq] at d2
  have hv8 := hO.small L[n].1.p.d[m / 8] (List.getElem_mem hbit')
  obtain ⟨g0, g1, _, _⟩ := hI.cells
  have HI := hid (And.intro hI (And.intro hs hc))
  have HQ := hid (And.intro hq (And.intro hpk hA2))
  have hgq : q ≠ g := fun e => by
    have := hI.neB L[n] (List.getElem_mem hn)
    rw [hq, e] at this
    exact this rfl
  have hqb' : q ≠ b' := fun e => by
    obtain ⟨cur, hcur⟩ := hI.tur.tag (k := b') (by rw [hA2]; rfl)
    exact (hI.byt.own _ (List.getElem_mem hn)).1.ne hcur (by decide) (by rw [hq, e]; rfl)
  have hk0 : (n : Int) < (L.length : Int) := by omega
  have hm0 : (0 : Int) ≤ (m : Int) := Int.natCast_nonneg m
  have hqd : (m : Int).tdiv 8 = ((m / 8 : Nat) : Int) := by rw [Int.tdiv_eq_ediv_of_nonneg (by omega)]; omega
  have hqm : (m : Int).tmod 8 = ((m % 8 : Nat) : Int) := by rw [Int.tmod_eq_emod_of_nonneg (by omega)]; omega
  obtain ⟨D, hD⟩ : ∃ D, D = L[n].1.p.d.length := ⟨_, rfl⟩
  obtain ⟨V, hV⟩ : ∃ V, V = L[n].1.p.d[m / 8] := ⟨_, rfl⟩
  obtain ⟨X, hX⟩ : ∃ X, X = m / 8 := ⟨_, rfl⟩
  obtain ⟨cc, hcc⟩ : ∃ cc, cc = L[n].1.c := ⟨_, rfl⟩
  have hXs : X ≤ 1024 := by rw [hX]; exact Nat.le_trans (Nat.le_of_lt hbit') hd
  have d2' : w.cell? ⟨b, n * 3 + 2, none⟩ = some (.slice (some ⟨q, 0, none⟩) D cc) := by rw [hD, hcc]; exact d2
  have e0' : w.cell? ⟨q, X, none⟩ = some (.int .u8 (V : Int)) := by rw [hX, hV]; exact e0
  have ef' : w.frozen? ⟨q, X, none⟩ = false := by rw [hX]; exact ef
  have hXD : X < D := by rw [hX, hD]; exact hbit'
  have hXD0 : (X : Int) < (D : Int) := Int.ofNat_lt.2 hXD
  have hV8 : V < 256 := by rw [hV]; exact hv8
  have hqd' : (m : Int).tdiv 8 = (X : Int) := by rw [hX]; exact hqd
  have hXs1 : (X : Int) ≤ 1024 := Int.ofNat_le.2 hXs
  have hXs0 : (0 : Int) ≤ (X : Int) := Int.natCast_nonneg X
  have hDX : ¬ (D : Int) ≤ (X : Int) := Int.not_le.2 hXD0
  have hm1 : ¬ (m : Int) < 0 := Int.not_lt.2 hm0
  have hV' : V = (L[n].1.p.d[m / 8]?).getD 0 := by rw [List.getElem?_eq_getElem hbit', hV]; rfl
  obtain ⟨Y, hY⟩ : ∃ Y, Y = m % 8 := ⟨_, rfl⟩
  have hqm' : (m : Int).tmod 8 = (Y : Int) := by rw [hY]; exact hqm
  have hY8 : Y < 8 := by rw [hY]; exact Nat.mod_lt _ (by decide)
  have hY81 : (Y : Int) < 8 := Int.ofNat_lt.2 hY8
  have hY80 : (0 : Int) ≤ (Y : Int) := Int.natCast_nonneg Y
  have HY := hid hY
  have HN := hid (And.intro hn (And.intro hV' hX))
  rw [hA2] at g1
  have fb' := hbf' n
  clear hI hs hpk ht h1 hl hO hbit hfr hfr' d0 d1 hq hd d2 e0 ef hv8 hqd hqm hY hV hV' hbit' hD hX hcc hbf hbf' hA2 hc
  go_enter Try.func33, Try.ntmps33
  go_wp2_with fail
  refine HH.out.mono ?_
  rintro e w9 ⟨rfl, hw9⟩
  subst hw9
  go_wp2_with fail
  go_loopw [7, 8] (fun x i wr => ∃ k M : Nat, k ≤ Y ∧ M ≤ 128 ∧ x = .int .i64 (M : Nat) ∧ i = .int .i64 (k : Nat) ∧ Hid (M = 2 ^ k) ∧ wr = w9) (fun _ i _ => Y - (RowKit.intOf i).toNat)
  case atStart => exact ⟨0, 1, by omega, by omega, rfl, rfl, hid rfl, rfl⟩
  case round =>
    obtain ⟨k, M, hk, hM, rfl, rfl, hP, hwr⟩ := hrel
    subst hwr
    by_cases hlt : k < Y
    · have hk1 : (k : Int) < (Y : Int) := Int.ofNat_lt.2 hlt
      have hP2 : Hid (2 * M = 2 ^ (k + 1)) := hid (by rw [hP.out, Nat.pow_succ]; omega)
      have hM2 : 2 * M ≤ 128 := by rw [hP2.out]; exact (pow_le (k + 1) (by omega)).1
      go_wp2_with fail
      go_roundw
      case rel => exact ⟨k + 1, 2 * M, by omega, hM2, by go_num, by go_num, hP2, trivial⟩
      case measure => simp [RowKit.intOf]; omega
    · obtain rfl : k = Y := by omega
      have hkk : ¬ (k : Int) < (k : Int) := by omega
      have hxw := xor_weight V hV8 k hY8
      rw [← hP.out] at hxw
      have hM1 : 1 ≤ M := by rw [hP.out]; exact (pow_le k hY8).2
      have hM0 : (M : Int) ≠ 0 := by omega
      have hM00 : ((M : Int) == 0) = false := by simpa using hM0
      have hq1 : (V : Int).tdiv (M : Int) = ((V / M : Nat) : Int) := by rw [Int.tdiv_eq_ediv_of_nonneg (by omega)]; exact (Int.natCast_ediv V M).symm
      obtain ⟨Q, hQ⟩ : ∃ Q, Q = V / M := ⟨_, rfl⟩
      have hQ8 : Q < 256 := by rw [hQ]; exact Nat.lt_of_le_of_lt (Nat.div_le_self V M) hV8
      have hq2 : (Q : Int).tmod 2 = ((Q % 2 : Nat) : Int) := by rw [Int.tmod_eq_emod_of_nonneg (Int.natCast_nonneg Q)]; rfl
      rw [← hQ] at hq1 hxw
      have HX := hid (And.intro hP.out hxw)
      by_cases hR : Q % 2 = 1
      · have hq2' : (Q : Int).tmod 2 = 1 := by rw [hq2, hR]; rfl
        have hge := (hxw.1 hR).1
        have hge0 : (M : Int) ≤ (V : Int) := Int.ofNat_le.2 hge
        clear hxw hQ hq2
        go_wp2_with fail
        have hval : (V : Int) - (M : Int) = ((V ^^^ 2 ^ k : Nat) : Int) := by rw [← HX.out.1, (HX.out.2.1 hR).2]; omega
        rw [hval]
        go_ret
        obtain ⟨hn1, hV1, hX1⟩ := HN.out
        have hx2 : V ^^^ 2 ^ k < 256 := by have := Nat.xor_lt_two_pow (n := 8) hV8 (Nat.lt_of_le_of_lt (pow_le k hY8).1 (show 128 < 2 ^ 8 by decide)); simpa using this
        obtain ⟨hP2, hT⟩ := RefIs.turned HI.out.1 n m q b' hn1 HQ.out.1 HQ.out.2.2 (V ^^^ 2 ^ k) hx2 (by unfold Po.flip; rw [← hV1, HY.out])
        rw [← hX1] at hP2 hT
        refine ⟨rfl, ⟨_, _, _, _, _, _, _, _, _, _, hP2, ?_, HI.out.2.2⟩, hT⟩
        show s.l.set n (Po.flipP (Po.pkt s n).1 m, true) = _
        rw [HQ.out.2.1, HI.out.2.1, List.map_set]
        rfl
      · have hq2' : (Q : Int).tmod 2 = 0 := by rw [hq2, show Q % 2 = 0 by omega]; rfl
        have hge := (hxw.2 hR).1
        have hge0 : (V : Int) + (M : Int) < 256 := by omega
        clear hxw hQ hq2
        go_wp2_with fail
        have hval : (V : Int) + (M : Int) = ((V ^^^ 2 ^ k : Nat) : Int) := by rw [← HX.out.1, (HX.out.2.2 hR).2]; omega
        rw [hval]
        go_ret
        obtain ⟨hn1, hV1, hX1⟩ := HN.out
        have hx2 : V ^^^ 2 ^ k < 256 := by have := Nat.xor_lt_two_pow (n := 8) hV8 (Nat.lt_of_le_of_lt (pow_le k hY8).1 (show 128 < 2 ^ 8 by decide)); simpa using this
        obtain ⟨hP2, hT⟩ := RefIs.turned HI.out.1 n m q b' hn1 HQ.out.1 HQ.out.2.2 (V ^^^ 2 ^ k) hx2 (by unfold Po.flip; rw [← hV1, HY.out])
        rw [← hX1] at hP2 hT
        refine ⟨rfl, ⟨_, _, _, _, _, _, _, _, _, _, hP2, ?_, HI.out.2.2⟩, hT⟩
        show s.l.set n (Po.flipP (Po.pkt s n).1 m, true) = _
        rw [HQ.out.2.1, HI.out.2.1, List.map_set]
        rfl

set_option maxHeartbeats 1600000 in
set_option maxRecDepth 100000 in
theorem refTurn_no (F : Nat → Prop) (g : Nat) (s : Po.St) (i bit : Int) (hbi : InInt bit) (w : World) (h : RefAt w F g s) (hno : Po.has s i = false ∨ Po.bitIn s i bit = false ∨ (Po.pkt s i).2 = true) :
    Calls Try.prog 33 #[.pointer (some ⟨g, 0, none⟩), .int .i64 i, .int .i64 bit] w fun e w' =>
      e = .returned (.int .i64 (Po.turnE s i bit)) ∧ w' = w := by
  have HH := hid (refThere_any F g s i w h)
  obtain ⟨t, ht⟩ : ∃ t, t = Po.has s i := ⟨_, rfl⟩
  rw [← ht] at HH
  cases t
  · have e1 : Hid (Po.turnE s i bit = 6) := hid (by unfold Po.turnE; rw [← ht]; rfl)
    clear h hno ht
    go_enter Try.func33, Try.ntmps33
    go_wp2_with fail
    refine HH.out.mono ?_
    rintro e w9 ⟨rfl, hw9⟩
    subst hw9
    go_wp2_with fail
    go_ret
    exact ⟨ret_int e1.out.symm, rfl⟩
  · obtain ⟨h0, h1⟩ := Po.has_iff.1 ht.symm
    obtain ⟨n, rfl⟩ := Int.eq_ofNat_of_zero_le h0
    obtain ⟨L, A1, c1, A2, c2, C, A3, c3, A4, c4, hI, hs, hc⟩ := h
    have hl : s.l.length = L.length := by rw [hs, List.length_map]
    have hn : n < L.length := by omega
    have hpk := pkt_at hs n hn
    obtain ⟨b, b', rfl, rfl, hFb, hFb', d0, d1, d2, d3, _, _, hO, hd⟩ := hI.item n hn
    obtain ⟨g0, g1, _, _⟩ := hI.cells
    have hk0 : (n : Int) < (L.length : Int) := by omega
    have hE : Po.turnE s n bit = if Po.bitIn s n bit then (if L[n].2 then 7 else 0) else 3 := by unfold Po.turnE; rw [← ht, hpk]; rfl
    have hbt : Po.bitIn s n bit = (decide (0 ≤ bit) && decide (bit / 8 < (L[n].1.p.d.length : Int))) := by unfold Po.bitIn; rw [hpk]; rfl
    have hno' : Po.bitIn s n bit = false ∨ L[n].2 = true := by
      rcases hno with hno | hno | hno
      · rw [hno] at ht; cases ht
      · exact .inl hno
      · rw [hpk] at hno; exact .inr hno
    obtain ⟨D, hD⟩ : ∃ D, D = L[n].1.p.d.length := ⟨_, rfl⟩
    rw [← hD] at d2 hbt hd
    by_cases hb0 : bit < 0
    · have e1 : Hid (Po.turnE s n bit = 3) := hid (by rw [hE, hbt, decide_eq_false (by omega)]; rfl)
      clear hI hs hpk ht hno hno' h1 hl hO hd d0 d1 d2 d3 hE hbt hD hc
      go_enter Try.func33, Try.ntmps33
      go_wp2_with fail
      refine HH.out.mono ?_
      rintro e w9 ⟨rfl, hw9⟩
      subst hw9
      go_wp2_with fail
      go_ret
      exact ⟨ret_int e1.out.symm, rfl⟩
    · obtain ⟨m, rfl⟩ := Int.eq_ofNat_of_zero_le (show 0 ≤ bit by omega)
      have hqd : (m : Int).tdiv 8 = ((m / 8 : Nat) : Int) := by rw [Int.tdiv_eq_ediv_of_nonneg (by omega)]; omega
      by_cases hX : m / 8 < D
      · have hin : Po.bitIn s n m = true := by rw [hbt, decide_eq_true (by omega), decide_eq_true (by omega)]; rfl
        have ht2 : L[n].2 = true := by
          rcases hno' with hno' | hno'
          · rw [hin] at hno'; cases hno'
          · exact hno'
        have e1 : Hid (Po.turnE s n m = 7) := hid (by rw [hE, hin, ht2]; rfl)
        rw [ht2] at d3
        obtain ⟨X, hX1⟩ : ∃ X, X = m / 8 := ⟨_, rfl⟩
        rw [← hX1] at hqd hX
        have hXs1 : (X : Int) ≤ 1024 := by omega
        have hXs0 : (0 : Int) ≤ (X : Int) := Int.natCast_nonneg X
        have hDX : ¬ (D : Int) ≤ (X : Int) := by omega
        clear hI hs hpk ht hno hno' h1 hl hO hd d0 d1 hE hbt hD hin ht2 hX1 hc
        go_enter Try.func33, Try.ntmps33
        go_wp2_with fail
        refine HH.out.mono ?_
        rintro e w9 ⟨rfl, hw9⟩
        subst hw9
        go_wp2_with fail
        go_ret
        exact ⟨ret_int e1.out.symm, rfl⟩
      · have e1 : Hid (Po.turnE s n m = 3) := hid (by rw [hE, hbt, decide_eq_true (by omega), decide_eq_false (show ¬ (m : Int) / 8 < (D : Int) by omega)]; rfl)
        obtain ⟨X, hX1⟩ : ∃ X, X = m / 8 := ⟨_, rfl⟩
        rw [← hX1] at hqd hX
        have hXs1 : (X : Int) ≤ 1152921504606846976 := by have := hbi.2; omega
        have hXs0 : (0 : Int) ≤ (X : Int) := Int.natCast_nonneg X
        have hDX : (D : Int) ≤ (X : Int) := by omega
        clear hI hs hpk ht hno hno' h1 hl hO hd d0 d1 d3 hE hbt hD hX1 hbi hc
        go_enter Try.func33, Try.ntmps33
        go_wp2_with fail
        refine HH.out.mono ?_
        rintro e w9 ⟨rfl, hw9⟩
        subst hw9
        go_wp2_with fail
        go_ret
        exact ⟨ret_int e1.out.symm, rfl⟩

theorem refTurn_any (F : Nat → Prop) (g : Nat) (s : Po.St) (i bit : Int) (hbi : InInt bit) (w : World) (h : RefAt w F g s) :
    Calls Try.prog 33 #[.pointer (some ⟨g, 0, none⟩), .int .i64 i, .int .i64 bit] w fun e w' =>
      e = .returned (.int .i64 (Po.turnE s i bit)) ∧ ∃ F', RefAt w' F' g (Po.turnS s i bit) ∧ Step F F' w w' := by
  by_cases hno : Po.has s i = false ∨ Po.bitIn s i bit = false ∨ (Po.pkt s i).2 = true
  · refine (refTurn_no F g s i bit hbi w h hno).mono ?_
    rintro e w' ⟨he, rfl⟩
    refine ⟨he, F, ?_, Step.refl F _⟩
    have : Po.turnS s i bit = s := by
      unfold Po.turnS
      rw [if_neg]
      rcases hno with hno | hno | hno <;> simp [hno]
    rw [this]
    exact h
  · have h1 : Po.has s i = true := by
      rcases hb : Po.has s i with _ | _
      · exact absurd (.inl hb) hno
      · rfl
    have h2 : Po.bitIn s i bit = true := by
      rcases hb : Po.bitIn s i bit with _ | _
      · exact absurd (.inr (.inl hb)) hno
      · rfl
    have h3 : (Po.pkt s i).2 = false := by
      rcases hb : (Po.pkt s i).2 with _ | _
      · rfl
      · exact absurd (.inr (.inr hb)) hno
    obtain ⟨n, rfl⟩ := Int.eq_ofNat_of_zero_le (Po.has_iff.1 h1).1
    have h4 : 0 ≤ bit ∧ bit / 8 < ((Po.pkt s n).1.d.length : Int) := by unfold Po.bitIn at h2; simpa using h2
    obtain ⟨m, rfl⟩ := Int.eq_ofNat_of_zero_le h4.1
    refine (refTurn_yes F g s n m w h h1 (by have := h4.2; omega) h3).mono ?_
    rintro e w' ⟨he, hP, hT⟩
    refine ⟨?_, F, ?_, ⟨hT, fun _ h => .inl h⟩⟩
    · rw [he]; unfold Po.turnE; rw [h1, h2, h3]; rfl
    · have : Po.turnS s n m = Po.turn s n m := by
        unfold Po.turnS
        rw [h1, h2, h3]
        simp
      rw [this]
      exact hP
end Go.Proofs.Ytckfjkhjnpkobaa
