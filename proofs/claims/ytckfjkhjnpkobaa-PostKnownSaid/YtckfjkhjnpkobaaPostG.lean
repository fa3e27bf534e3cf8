/- The walk through the post's turning of a bit. -/
import Derived.Test.YtckfjkhjnpkobaaPostF
namespace Go.Proofs.Ytckfjkhjnpkobaa
open Go.RowKit

/-- a bit of one packet is turned -/
theorem PostIs.turned {w : World} {F : Nat → Prop} {g : Nat} {L : List (Pl × Bool)} {A : Option Addr} {c : Nat} {C : List (Int × Int)} {A' : Option Addr} {c' : Nat} (h : PostIs w F g L A c C A' c') (n m q b : Nat) (hn : n < L.length) (hq : L[n].1.A = some ⟨q, 0, none⟩) (hb : A = some ⟨b, 0, none⟩) (v : Nat) (hv : v < 256)
    (hf : Po.flip L[n].1.p.d m = L[n].1.p.d.set (m / 8) v) :
    PostIs ((w.setCell ⟨q, m / 8, none⟩ (.int .u8 (v : Int))).setCell ⟨b, n * 4 + 3, none⟩ (.bool true)) F g (L.set n (⟨Po.flipP L[n].1.p m, L[n].1.A, L[n].1.c⟩, true)) A c C A' c' ∧
      Turned F w ((w.setCell ⟨q, m / 8, none⟩ (.int .u8 (v : Int))).setCell ⟨b, n * 4 + 3, none⟩ (.bool true)) := by
  have hqF : F q := (h.byt.own _ (List.getElem_mem hn)).2.2 q (by rw [hq]; rfl)
  have hbF : F b := h.row.blk b (by rw [hb]; rfl)
  have ht1 := Turned.one w q (m / 8) (.int .u8 (v : Int))
  have ht2 := Turned.one (w.setCell ⟨q, m / 8, none⟩ (.int .u8 (v : Int))) b (n * 4 + 3) (.bool true)
  have htt : Turned (fun k => k = q ∨ k = b) w ((w.setCell ⟨q, m / 8, none⟩ (.int .u8 (v : Int))).setCell ⟨b, n * 4 + 3, none⟩ (.bool true)) := (ht1.mono (fun _ h => .inl h)).then_ ht2 (fun _ _ h => .inr h)
  have hgq : g ≠ q := fun e => h.byt_ne _ (List.getElem_mem hn) (by rw [hq, e]; rfl)
  have hgb : g ≠ b := fun e => h.row_ne (by rw [hb, e]; rfl)
  have hqb : q ≠ b := fun e => h.byt_row (k := b) (by rw [hb]; rfl) _ (List.getElem_mem hn) (by rw [hq, e]; rfl)
  have hbl : b < w.heap.size := h.lt b hbF
  refine ⟨⟨fun k hk => Nat.lt_of_lt_of_le (h.lt k hk) htt.size, h.has, ?_, ?_, ?_, ?_, by rw [List.length_set]; exact h.len, h.cuts⟩, htt.mono (fun k hk => by rcases hk with rfl | rfl <;> assumption)⟩
  · rw [List.length_set]
    exact (htt.block g (h.lt g h.has) (fun e => e.elim hgq hgb)).trans h.obj
  · have hr1 := h.row.keep ht1 (fun k hk e => h.byt_row hk _ (List.getElem_mem hn) (by rw [hq, e]; rfl))
    refine hr1.put hb n 3 hn (by omega) (.bool true) _ ?_
    simp [cellsT, Po.flipP, Po.flip_length]
  · exact h.cut.keep htt (fun k hk e => e.elim (fun e => h.byt_cut hk _ (List.getElem_mem hn) (by rw [hq, e]; rfl)) (fun e => h.row_cut (k := k) (by rw [hb, e]; rfl) hk))
  · refine ⟨fun r hr => ?_, ?_⟩
    · obtain ⟨j, hj, rfl⟩ := List.getElem_of_mem hr
      rw [List.length_set] at hj
      by_cases hjn : n = j
      · subst hjn
        have ho := h.byt.own L[n] (List.getElem_mem hn)
        rw [List.getElem_set_self]
        refine ⟨?_, ?_, ho.2.2⟩
        · have h1 := ho.1
          show OwnsB _ _ _ L[n].1.A L[n].1.c (Po.flip L[n].1.p.d m)
          rw [hf]
          rw [hq] at h1 ⊢
          exact (h1.set_ (m / 8) v hv).turned ht2 (fun k hk e => by injection hk with hk; have hk : q = k := hk; omega)
        · show (Po.flip L[n].1.p.d m).length ≤ 1024
          rw [Po.flip_length]
          exact ho.2.1
      · rw [List.getElem_set_ne hjn]
        have ho := h.byt.own L[j] (List.getElem_mem hj)
        exact ⟨ho.1.turned htt (fun k hk e => e.elim (fun e => h.byt.ne hn hj hjn (k := q) (by rw [hq]; rfl) (by rw [hk, e])) (fun e => h.byt_row (k := b) (by rw [hb]; rfl) _ (List.getElem_mem hj) (by rw [hk, e]))), ho.2⟩
    · have e : ((L.set n (⟨Po.flipP L[n].1.p m, L[n].1.A, L[n].1.c⟩, true)).map fun q : Pl × Bool => blk q.1.A) = L.map fun q => blk q.1.A := by
        rw [List.map_set]
        have : blk L[n].1.A = (L.map fun q : Pl × Bool => blk q.1.A)[n]'(by simpa using hn) := by simp
        show (L.map fun q : Pl × Bool => blk q.1.A).set n (blk L[n].1.A) = _
        rw [this, List.set_getElem_self]
      rw [e]
      exact h.byt.apart

theorem xor_pow (V Y : Nat) (hV : V < 256) (hY : Y < 8) : bits .xor .u8 (V : Int) ((2 : Int) ^ Y % 256) = ((V ^^^ 2 ^ Y : Nat) : Int) ∧ V ^^^ 2 ^ Y < 256 := by
  have h1 : 2 ^ Y < 256 := by
    have : Y = 0 ∨ Y = 1 ∨ Y = 2 ∨ Y = 3 ∨ Y = 4 ∨ Y = 5 ∨ Y = 6 ∨ Y = 7 := by omega
    rcases this with rfl | rfl | rfl | rfl | rfl | rfl | rfl | rfl <;> decide
  have h2 : (2 : Int) ^ Y % 256 = ((2 ^ Y : Nat) : Int) := by
    have : (2 : Int) ^ Y = ((2 ^ Y : Nat) : Int) := by simp
    rw [this]
    exact Int.emod_eq_of_lt (Int.natCast_nonneg _) (Int.ofNat_lt.2 h1)
  rw [h2]
  exact ⟨u8_xor_nat V (2 ^ Y) hV h1, by have := Nat.xor_lt_two_pow (n := 8) hV h1; simpa using this⟩
theorem wrap_small (X : Nat) (h : X ≤ 1024) : IntKind.i64.wrap (X : Int) = (X : Int) := by rw [IntKind.wrap_i64]; omega
set_option maxHeartbeats 1600000 in
set_option maxRecDepth 100000 in
theorem turn_yes (F : Nat → Prop) (g : Nat) (s : Po.St) (n m : Nat) (w : World) (h : PostAt w F g s) (ht : Po.has s n = true) (hbit : m / 8 < (Po.pkt s n).1.d.length) (hfr : (Po.pkt s n).2 = false) :
    Calls Try.prog 24 #[.pointer (some ⟨g, 0, none⟩), .int .i64 (n : Int), .int .i64 (m : Int)] w fun e w' =>
      e = .returned (.int .i64 0) ∧ PostAt w' F g (Po.turn s n m) ∧ Turned F w w' := by
  have HH := hid (has_any F g s n w h)
  rw [ht] at HH
  obtain ⟨h0, h1⟩ := Po.has_iff.1 ht
  obtain ⟨L, A, c, A', c', hI, hs⟩ := h
  have hl : s.l.length = L.length := by rw [hs, List.length_map]
  have hn : n < L.length := by omega
  have hpk := pkt_at hs n hn
  rw [hpk] at hbit hfr
  obtain ⟨b, rfl, hbg, hbs, hFb, d0, d1, d2, d3, hbf, hO, hd⟩ := hI.item n hn
  have hbit' : m / 8 < L[n].1.p.d.length := hbit
  have hfr' : L[n].2 = false := hfr
  rw [hfr'] at d3
  obtain ⟨q, hq, _, hqs, e0, ef⟩ := hO.at_ hbit'
  rw [hq] at d2
  have hv8 := hO.small L[n].1.p.d[m / 8] (List.getElem_mem hbit')
  have g0 := hI.cell0
  have HI := hid (And.intro hI hs)
  have HQ := hid (And.intro hq hpk)
  have hk0 : (n : Int) < (L.length : Int) := by omega
  have hm0 : (0 : Int) ≤ (m : Int) := Int.natCast_nonneg m
  have hqd : (m : Int).tdiv 8 = ((m / 8 : Nat) : Int) := by rw [Int.tdiv_eq_ediv_of_nonneg (by omega)]; omega
  have hqm : (m : Int).tmod 8 = ((m % 8 : Nat) : Int) := by rw [Int.tmod_eq_emod_of_nonneg (by omega)]; omega
  have hqb : q ≠ b := fun e => hI.byt_row (k := b) rfl _ (List.getElem_mem hn) (by rw [hq, e]; rfl)
  obtain ⟨D, hD⟩ : ∃ D, D = L[n].1.p.d.length := ⟨_, rfl⟩
  obtain ⟨V, hV⟩ : ∃ V, V = L[n].1.p.d[m / 8] := ⟨_, rfl⟩
  obtain ⟨X, hX⟩ : ∃ X, X = m / 8 := ⟨_, rfl⟩
  obtain ⟨cc, hcc⟩ : ∃ cc, cc = L[n].1.c := ⟨_, rfl⟩
  have hXs : X ≤ 1024 := by rw [hX]; exact Nat.le_trans (Nat.le_of_lt hbit') hd
  have d2' : w.cell? ⟨b, n * 4 + 2, none⟩ = some (.slice (some ⟨q, 0, none⟩) D cc) := by rw [hD, hcc]; exact d2
  have e0' : w.cell? ⟨q, X, none⟩ = some (.int .u8 (V : Int)) := by rw [hX, hV]; exact e0
  have ef' : w.frozen? ⟨q, X, none⟩ = false := by rw [hX]; exact ef
  have hXD : X < D := by rw [hX, hD]; exact hbit'
  have hXD0 : (X : Int) < (D : Int) := Int.ofNat_lt.2 hXD
  have hV8 : V < 256 := by rw [hV]; exact hv8
  have hqd' : (m : Int).tdiv 8 = (X : Int) := by rw [hX]; exact hqd
  have hXs1 : (X : Int) ≤ 1024 := Int.ofNat_le.2 hXs
  have hXs0 : (0 : Int) ≤ (X : Int) := Int.natCast_nonneg X
  have hDX : ¬ (D : Int) ≤ (X : Int) := Int.not_le.2 hXD0
  have hm1 : ¬ (m : Int) < 0 := Int.not_lt.2 hm0
  have hV' : V = (L[n].1.p.d[m / 8]?).getD 0 := by rw [List.getElem?_eq_getElem hbit', hV]; rfl
  obtain ⟨Y, hY⟩ : ∃ Y, Y = m % 8 := ⟨_, rfl⟩
  have hqm' : (m : Int).tmod 8 = (Y : Int) := by rw [hY]; exact hqm
  have hY8 : Y < 8 := by rw [hY]; exact Nat.mod_lt _ (by decide)
  have hY81 : (Y : Int) < 8 := Int.ofNat_lt.2 hY8
  have hY80 : (0 : Int) ≤ (Y : Int) := Int.natCast_nonneg Y
  have HY := hid hY
  have HN := hid (And.intro hn (And.intro hD (And.intro hV' (And.intro hX hcc))))
  clear hI hs hpk ht h1 hl hO hbit hfr hfr' d0 d1 hq hd d2 e0 ef hv8 hqd hqm hY hV hV' hbit' hD hX hcc
  go_enter Try.func24, Try.ntmps24
  go_wp2_with fail
  refine HH.out.mono ?_
  rintro e w9 ⟨rfl, hw9⟩
  subst hw9
  go_wp2_with fail
  have hw1 : IntKind.i64.wrap (X : Int) = (X : Int) := wrap_small X hXs
  have hw2 : IntKind.i64.wrap (Y : Int) = (Y : Int) := wrap_small Y (Nat.le_trans (Nat.le_of_lt hY8) (by decide))
  have hxt : (X : Int).toNat = X := Int.toNat_natCast X
  go_still_tail 14, (by kernel_rfl)
  go_wp2_with fail
  obtain ⟨hx1, hx2⟩ := xor_pow V Y hV8 hY8
  rw [hx1]
  go_ret
  obtain ⟨hn1, hD1, hV1, hX1, _⟩ := HN.out
  obtain ⟨hP, hT⟩ := PostIs.turned HI.out.1 n m q b hn1 HQ.out.1 rfl (V ^^^ 2 ^ Y) hx2 (by unfold Po.flip; rw [← hV1, HY.out])
  rw [← hX1] at hP hT
  refine ⟨rfl, PostAt.drew ⟨_, _, _, _, _, hP, ?_⟩, hT.drew⟩
  show s.l.set n (Po.flipP (Po.pkt s n).1 m, true) = _
  rw [HQ.out.2, HI.out.2, List.map_set]
  rfl

set_option maxHeartbeats 1600000 in
set_option maxRecDepth 100000 in
theorem turn_no (F : Nat → Prop) (g : Nat) (s : Po.St) (i bit : Int) (hbi : InInt bit) (w : World) (h : PostAt w F g s) (hno : Po.has s i = false ∨ Po.bitIn s i bit = false ∨ (Po.pkt s i).2 = true) :
    Calls Try.prog 24 #[.pointer (some ⟨g, 0, none⟩), .int .i64 i, .int .i64 bit] w fun e w' =>
      e = .returned (.int .i64 (Po.turnE s i bit)) ∧ w' = w := by
  have HH := hid (has_any F g s i w h)
  obtain ⟨t, ht⟩ : ∃ t, t = Po.has s i := ⟨_, rfl⟩
  rw [← ht] at HH
  cases t
  · have e1 : Hid (Po.turnE s i bit = 6) := hid (by unfold Po.turnE; rw [← ht]; rfl)
    clear h hno ht
    go_enter Try.func24, Try.ntmps24
    go_wp2_with fail
    refine HH.out.mono ?_
    rintro e w9 ⟨rfl, hw9⟩
    subst hw9
    go_wp2_with fail
    go_ret
    exact ⟨ret_int e1.out.symm, rfl⟩
  · obtain ⟨h0, h1⟩ := Po.has_iff.1 ht.symm
    obtain ⟨n, rfl⟩ := Int.eq_ofNat_of_zero_le h0
    obtain ⟨L, A, c, A', c', hI, hs⟩ := h
    have hl : s.l.length = L.length := by rw [hs, List.length_map]
    have hn : n < L.length := by omega
    have hpk := pkt_at hs n hn
    obtain ⟨b, rfl, hbg, hbs, hFb, d0, d1, d2, d3, hbf, hO, hd⟩ := hI.item n hn
    have g0 := hI.cell0
    have hk0 : (n : Int) < (L.length : Int) := by omega
    have hE : Po.turnE s n bit = if Po.bitIn s n bit then (if L[n].2 then 7 else 0) else 3 := by unfold Po.turnE; rw [← ht, hpk]; rfl
    have hbt : Po.bitIn s n bit = (decide (0 ≤ bit) && decide (bit / 8 < (L[n].1.p.d.length : Int))) := by unfold Po.bitIn; rw [hpk]; rfl
    have hno' : Po.bitIn s n bit = false ∨ L[n].2 = true := by
      rcases hno with hno | hno | hno
      · rw [hno] at ht; cases ht
      · exact .inl hno
      · rw [hpk] at hno; exact .inr hno
    obtain ⟨D, hD⟩ : ∃ D, D = L[n].1.p.d.length := ⟨_, rfl⟩
    rw [← hD] at d2 hbt hd
    by_cases hb0 : bit < 0
    · have e1 : Hid (Po.turnE s n bit = 3) := hid (by rw [hE, hbt, decide_eq_false (by omega)]; rfl)
      clear hI hs hpk ht hno hno' h1 hl hO hd d0 d1 d2 d3 hE hbt hD
      go_enter Try.func24, Try.ntmps24
      go_wp2_with fail
      refine HH.out.mono ?_
      rintro e w9 ⟨rfl, hw9⟩
      subst hw9
      go_wp2_with fail
      go_ret
      exact ⟨ret_int e1.out.symm, rfl⟩
    · obtain ⟨m, rfl⟩ := Int.eq_ofNat_of_zero_le (show 0 ≤ bit by omega)
      have hqd : (m : Int).tdiv 8 = ((m / 8 : Nat) : Int) := by rw [Int.tdiv_eq_ediv_of_nonneg (by omega)]; omega
      by_cases hX : m / 8 < D
      · have hin : Po.bitIn s n m = true := by rw [hbt, decide_eq_true (by omega), decide_eq_true (by omega)]; rfl
        have ht2 : L[n].2 = true := by
          rcases hno' with hno' | hno'
          · rw [hin] at hno'; cases hno'
          · exact hno'
        have e1 : Hid (Po.turnE s n m = 7) := hid (by rw [hE, hin, ht2]; rfl)
        rw [ht2] at d3
        obtain ⟨X, hX1⟩ : ∃ X, X = m / 8 := ⟨_, rfl⟩
        rw [← hX1] at hqd hX
        have hXs1 : (X : Int) ≤ 1024 := by omega
        have hXs0 : (0 : Int) ≤ (X : Int) := Int.natCast_nonneg X
        have hDX : ¬ (D : Int) ≤ (X : Int) := by omega
        clear hI hs hpk ht hno hno' h1 hl hO hd d0 d1 hE hbt hD hin ht2 hX1
        go_enter Try.func24, Try.ntmps24
        go_wp2_with fail
        refine HH.out.mono ?_
        rintro e w9 ⟨rfl, hw9⟩
        subst hw9
        go_wp2_with fail
        go_ret
        exact ⟨ret_int e1.out.symm, rfl⟩
      · have e1 : Hid (Po.turnE s n m = 3) := hid (by rw [hE, hbt, decide_eq_true (by omega), decide_eq_false (show ¬ (m : Int) / 8 < (D : Int) by omega)]; rfl)
        obtain ⟨X, hX1⟩ : ∃ X, X = m / 8 := ⟨_, rfl⟩
        rw [← hX1] at hqd hX
        have hXs1 : (X : Int) ≤ 1152921504606846976 := by have := hbi.2; omega
        have hXs0 : (0 : Int) ≤ (X : Int) := Int.natCast_nonneg X
        have hDX : (D : Int) ≤ (X : Int) := by omega
        clear hI hs hpk ht hno hno' h1 hl hO hd d0 d1 d3 hE hbt hD hX1 hbi
        go_enter Try.func24, Try.ntmps24
        go_wp2_with fail
        refine HH.out.mono ?_
        rintro e w9 ⟨rfl, hw9⟩
        subst hw9
        go_wp2_with fail
        go_ret
        exact ⟨ret_int e1.out.symm, rfl⟩

theorem turn_any (F : Nat → Prop) (g : Nat) (s : Po.St) (i bit : Int) (hbi : InInt bit) (w : World) (h : PostAt w F g s) :
    Calls Try.prog 24 #[.pointer (some ⟨g, 0, none⟩), .int .i64 i, .int .i64 bit] w fun e w' =>
      e = .returned (.int .i64 (Po.turnE s i bit)) ∧ ∃ F', PostAt w' F' g (Po.turnS s i bit) ∧ Step F F' w w' := by
  by_cases hno : Po.has s i = false ∨ Po.bitIn s i bit = false ∨ (Po.pkt s i).2 = true
  · refine (turn_no F g s i bit hbi w h hno).mono ?_
    rintro e w' ⟨he, rfl⟩
    refine ⟨he, F, ?_, Step.refl F _⟩
    have : Po.turnS s i bit = s := by
      unfold Po.turnS
      rw [if_neg]
      rcases hno with hno | hno | hno <;> simp [hno]
    rw [this]
    exact h
  · have h1 : Po.has s i = true := by
      rcases hb : Po.has s i with _ | _
      · exact absurd (.inl hb) hno
      · rfl
    have h2 : Po.bitIn s i bit = true := by
      rcases hb : Po.bitIn s i bit with _ | _
      · exact absurd (.inr (.inl hb)) hno
      · rfl
    have h3 : (Po.pkt s i).2 = false := by
      rcases hb : (Po.pkt s i).2 with _ | _
      · rfl
      · exact absurd (.inr (.inr hb)) hno
    obtain ⟨n, rfl⟩ := Int.eq_ofNat_of_zero_le (Po.has_iff.1 h1).1
    have h4 : 0 ≤ bit ∧ bit / 8 < ((Po.pkt s n).1.d.length : Int) := by unfold Po.bitIn at h2; simpa using h2
    obtain ⟨m, rfl⟩ := Int.eq_ofNat_of_zero_le h4.1
    refine (turn_yes F g s n m w h h1 (by have := h4.2; omega) h3).mono ?_
    rintro e w' ⟨he, hP, hT⟩
    refine ⟨?_, F, ?_, ⟨hT, fun _ h => .inl h⟩⟩
    · rw [he]; unfold Po.turnE; rw [h1, h2, h3]; rfl
    · have : Po.turnS s n m = Po.turn s n m := by
        unfold Po.turnS
        rw [h1, h2, h3]
        simp
      rw [this]
      exact hP
end Go.Proofs.Ytckfjkhjnpkobaa
