/- Texts of the proof, one behind the other: Turn08, IntRows, KitPick. -/
import Derived.Test.YtdgijnolpjaheaaGreatPartBC
import Derived.Test.YtdgijnolpjaheaaGreatPartAZ
import Derived.Test.YtdgijnolpjaheaaGreatPartAJ
import Derived.Test.YtdgijnolpjaheaaGreatPartAD
import Derived.Test.YtdgijnolpjaheaaGreatPartAP
import Derived.Test.YtdgijnolpjaheaaGreatRows
import Derived.Test.YtdgijnolpjaheaaGreatPartAB
import Derived.Test.YtdgijnolpjaheaaGreatPartAM
import Derived.Deep.Slices
import Derived.Deep.Fields
import Derived.ChangeSame
import Derived.WalkLawsBesides
import Derived.ProofKit
import Derived.OpenShut
import Derived.Test.YtdgijnolpjaheaaGreatPartAA
import Derived.Deep.QuietTactic
import Derived.BigQuiet
namespace Go.Proofs.YtdgijnolpjaheaaGreat
open Go.RowKit
namespace KT
theorem fine6 {X : P} {ts : List Ck.Op} (h : Shape6 X ts) (hc : X.c.length ≤ 4096) (hk : X.k ≤ 4096) : Ck.Small ts ∧ Ck.Fine (Sx.new 10) ts := by
  have hlen : ts.length = 6 := by simpa using congrArg List.length h
  unfold Shape6 at h
  match ts, hlen, h with
  | [t0, t1, t2, t3, t4, t5], _, h =>
    simp only [List.map_cons, List.map_nil, List.cons.injEq, Prod.mk.injEq, and_true] at h
    obtain ⟨⟨a0, b0, c0⟩, ⟨a1, b1, c1⟩, ⟨a2, b2, c2⟩, ⟨a3, b3, c3⟩, ⟨a4, b4, c4⟩, ⟨a5, b5, c5⟩⟩ := h
    refine ⟨⟨by simp, fun t ht => ?_⟩, Ck.fine_two a0 (fun t ht => ?_)⟩
    · simp only [List.mem_cons, List.not_mem_nil, or_false] at ht
      rcases ht with rfl | rfl | rfl | rfl | rfl | rfl <;> omega
    · simp only [List.mem_cons, List.not_mem_nil, or_false] at ht
      rcases ht with rfl | rfl | rfl | rfl <;> omega
theorem runs6 {X : P} (g : Nat) (ts : List Ck.Op) (h : Shape6 X ts) (hc : X.c.length ≤ 4096) (hk : X.k ≤ 4096) (w : World) (ho : Ck.IsOps w w.heap.size (some ⟨g, 0, none⟩) ts) :
    Calls Tryz.prog 5 #[.int .i64 10, .slice (some ⟨g, 0, none⟩) 6 6] w fun e w' => e = .returned (.bool true) ∧ Below w.heap.size w w' := by
  have hlen : ts.length = 6 := by simpa using congrArg List.length h
  have := runs_any (some ⟨g, 0, none⟩) 6 ts (fine6 h hc hk).1 (fine6 h hc hk).2 w ho
  rwa [hlen] at this
end KT
set_option maxRecDepth 100000 in
set_option maxHeartbeats 3200000 in
theorem turned_any (w : World) : Calls Tryz.prog 6 #[] w fun e w' => e = .returned (.bool true) ∧ Below w.heap.size w w' := by
  have HNW := hid (new_any 10 (by omega) w)
  go_enter Tryz.func6, Tryz.ntmps6
  go_wp2_with fail
  refine HNW.out.mono ?_
  rintro e w1 ⟨d, rfl, hd1, hb1⟩
  have H1 := hid (And.intro hd1 hb1)
  have HRW := hid (row_any 50 (by omega) w1)
  clear hd1 hb1 HNW
  go_wp2_with fail
  refine HRW.out.mono ?_
  rintro e w2 ⟨A, c, L, rfl, hL, ho, hb2⟩
  have HS := hid (C.save_any (fun k => k < w.heap.size) d (Sx.new 10) 1 3 5 (by unfold Ck.Right; show _ ∧ _ ∧ _ ≤ ((10 : Nat) : Int); omega) (by unfold Ck.Epoch; omega) A c L 50 hL (by have := ho.cap; omega) ho.capLe ho.none_ (by decide) w2 (fun k hk => by have := H1.out.2.size; have := hb2.size; omega) (H1.out.1.below hb2) ho.reads)
  have HB2 := hid (H1.out.2.trans (hb2.mono H1.out.2.size))
  have HNZ : Hid (∀ k, d.has k → w.heap.size ≤ k) := hid (fun k hk => Nat.le_of_not_lt (H1.out.1.off k hk))
  clear ho hb2 HRW hL
  go_wp2_with fail
  refine HS.out.mono ?_
  intro e w3 S3
  have hret := S3.ret
  subst hret
  obtain ⟨s, hs⟩ : ∃ s, s = (Ck.save false (Sx.new 10) (Ck.slot 1 3 5) 5 L).2 := ⟨_, rfl⟩
  have HD : Hid (DiskAt w3 (fun k => k < w.heap.size) d s ∧ Below w.heap.size w w3) := hid ⟨by rw [hs]; exact S3.disk, HB2.out.trans (S3.turned.below HB2.out.size HNZ.out)⟩
  clear S3 hs HS H1 HB2 HNZ
  go_wp2_with fail
  go_loopw [3] (fun iv wr => ∃ i : Nat, 4 ≤ i ∧ i ≤ 6 ∧ iv = .int .i64 i ∧ Hid (DiskAt wr (fun k => k < w.heap.size) d s ∧ Below w.heap.size w wr)) (fun i _ => 6 - (RowKit.intOf i).toNat)
  case atStart => exact ⟨4, by omega, by omega, rfl, HD⟩
  case round =>
    clear HD
    obtain ⟨i, hi4, hi6, rfl, HD⟩ := hrel
    by_cases hlt : i < 6
    · have hi0 : (i : Int) < 6 := by omega
      have HR := hid (read_any _ d s (i : Int) wr HD.out.1)
      obtain ⟨b, hbq⟩ : ∃ b, b = Sx.rdB s (i : Int) := ⟨_, rfl⟩
      have hbl : b.length ≤ 64 := by rw [hbq]; exact HD.out.1.rdLen _
      rw [← hbq] at HR
      have HBL := hid hbl
      clear hbq
      go_wp2_with fail
      refine HR.out.mono ?_
      rintro e w4 ⟨Ab, cb, rfl, ho4, hb4⟩
      have HB4 := hid (And.intro ho4 (And.intro (HD.out.1.below hb4) (HD.out.2.trans (hb4.mono HD.out.2.size))))
      clear ho4 hb4 HR
      go_wp2_with fail
      go_loopw [6] (fun kv wq => ∃ k : Nat, k ≤ b.length ∧ kv = .int .i64 k ∧ Hid (Below w4.heap.size w4 wq)) (fun k _ => b.length - (RowKit.intOf k).toNat)
      case atStart => exact ⟨0, by omega, rfl, hid (Below.refl _ _)⟩
      case round =>
        obtain ⟨k, hk, rfl, HQ⟩ := hrel
        by_cases hkb : k < b.length
        · have hk0 : (k : Int) < (b.length : Int) := by omega
          have HCP := hid (copy_N wr.heap.size Ab cb b b.length rfl (by omega) wr (HB4.out.1.below HQ.out).reads (Nat.le_refl _))
          clear HD
          go_wp2_with fail
          refine HCP.out.mono ?_
          rintro e w5 ⟨A', c', rfl, ho5, hb5⟩
          obtain ⟨g, rfl, hg1, _, hcg, hfg⟩ := ho5.at_ hkb
          have hx8 := ho5.small _ (List.getElem_mem hkb)
          have hx9 : b[k] ^^^ 1 < 256 := by
            have := Nat.xor_lt_two_pow (n := 8) hx8 (show 1 < 2 ^ 8 by decide)
            simpa using this
          have hs := ho5.set_ k (b[k] ^^^ 1) hx9
          have hbs : Below w4.heap.size w4 (w5.setCell ⟨g, k, none⟩ (.int .u8 (b[k] ^^^ 1 : Nat))) := HQ.out.trans ((hb5.setCell hg1 _).mono HQ.out.size)
          have HX : Hid (bits .xor .u8 ((b[k] : Nat) : Int) 1 = ((b[k] ^^^ 1 : Nat) : Int)) := hid (u8_xor_nat b[k] 1 hx8 (by omega))
          have HSB := hid (And.intro hbs (And.intro hs (And.intro ho5.cap ho5.capLe)))
          have hK : (k : Int) < (b.length : Int) := hk0
          obtain ⟨x, hx⟩ : ∃ x, x = b[k] := ⟨_, rfl⟩
          rw [← hx] at hcg HX HSB
          clear hx8 hx9 hs hbs ho5 hb5 HCP hx
          go_wp2_with fail
          rw [HX.out]
          obtain ⟨w6, hw6⟩ : ∃ w6, w6 = w5.setCell ⟨g, k, none⟩ (.int .u8 (x ^^^ 1 : Nat)) := ⟨_, rfl⟩
          rw [← hw6] at HSB
          rw [← hw6]
          clear hw6 hcg hfg
          have hXo : (KT.P.mk (i : Int) (some ⟨g, 0, none⟩) c' (b.set k (x ^^^ 1)) Ab cb b k).Ok w6 :=
            ⟨by unfold InInt; show _ ≤ (i : Int) ∧ (i : Int) ≤ _; omega, HSB.out.2.1.reads, ⟨HSB.out.2.1.cap, HSB.out.2.2.2⟩, (fun h => by cases h), (HB4.out.1.below HSB.out.1).reads, ⟨HB4.out.1.cap, HB4.out.1.capLe⟩, HB4.out.1.none_, hkb⟩
          have hlb := HBL.out
          refine KT.region12L (X := KT.P.mk (i : Int) (some ⟨g, 0, none⟩) c' (b.set k (x ^^^ 1)) Ab cb b k) (base := w6) hXo (by kernel_rfl) rfl (by simp) rfl rfl (Below.refl _ _) (fun u g2 ts wz hts hops hbz => ?_)
          have HRN := hid (KT.runs6 g2 ts hts (by show (b.set k _).length ≤ _; rw [List.length_set]; omega) (by show k ≤ _; omega) wz hops)
          have HBZ := hid (HSB.out.1.trans (hbz.mono HSB.out.1.size))
          clear hXo hts hops hbz HSB HX
          go_wp2_with fail
          refine HRN.out.mono ?_
          rintro e w7 ⟨rfl, hb7⟩
          have HB7 := hid (HBZ.out.trans (hb7.mono HBZ.out.size))
          clear hb7 HRN HBZ
          go_wp2_with fail
          go_roundw
          case rel => exact ⟨k + 1, by omega, by go_num, HB7⟩
          case measure => simp [RowKit.intOf]; omega
        · obtain rfl : k = b.length := by omega
          have HDN : Hid (DiskAt wr (fun k => k < w.heap.size) d s ∧ Below w.heap.size w wr) := hid ⟨HB4.out.2.1.below HQ.out, HB4.out.2.2.trans (HQ.out.mono HB4.out.2.2.size)⟩
          clear HD HB4
          go_wp2_with fail
          go_roundw
          case rel => exact ⟨i + 1, by omega, by omega, by go_num, HDN⟩
          case measure => simp [RowKit.intOf]; omega
    · obtain rfl : i = 6 := by omega
      go_wp2
      go_ret
      exact ⟨rfl, HD.out.2⟩
end Go.Proofs.YtdgijnolpjaheaaGreat
namespace Go.Proofs.YtdgijnolpjaheaaGreat
open Go.RowKit Go.ChangeShapes Go.WideShapes Go.Deep

/-- Below block B a slice at A holds these rows of numbers. -/
def IsIntRows (w : World) (B : Nat) (A : Option Addr) (L : List (List Int)) : Prop :=
  ∀ k, k < L.length → ∃ b off, A = some ⟨b, off, none⟩ ∧ b < B ∧ ∀ i (h : i < L.length), ∃ A' c', w.cell? ⟨b, off + i, none⟩ = some (.slice A' L[i].length c') ∧ IsInts w B A' L[i] ∧ (L[i].length ≤ c' ∧ c' ≤ maxLen) ∧ (A' = none → c' = 0)
namespace IsIntRows
variable {w w' : World} {B : Nat} {A : Option Addr} {L : List (List Int)}
theorem nil : IsIntRows w B A [] := fun k h => by simp at h
theorem below (h : IsIntRows w B A L) (hb : Below B w w') : IsIntRows w' B A L := fun k hk => by
  obtain ⟨b, off, e, hlt, hc⟩ := h k hk
  refine ⟨b, off, e, hlt, fun i hi => ?_⟩
  obtain ⟨A', c', h1, h2, h3⟩ := hc i hi
  exact ⟨A', c', (hb.cell hlt).trans h1, h2.below hb, h3⟩
end IsIntRows
theorem cellsOf_ints : Tryz.prog.cellsOf 22 = 1 := by kernel_rfl
set_option maxRecDepth 100000 in
theorem introws_of_trod {H : Type} {enc : TypeId × Value → H} {W : World} {fuel : Nat} {cs : List Value} {x : DataW H × List MemPlace} (h : DataW.trod enc Tryz.prog W 0 (fun _ => true) true fuel 48 cs = some x) :
    ∃ (a : Option Addr) (c : Nat) (L : List (List Int)), cs = [.slice a L.length c] ∧ IsIntRows W W.heap.size a L ∧ (L.length ≤ c ∧ c ≤ maxLen) ∧ (a = none → c = 0) := by
  rcases open_slice Tryz.underlying48 h with ⟨hcs, _⟩ | ⟨a, len, cap, m, n, D, Pl, hcs, _, hl, hm, hmm, _, hi⟩
  · exact ⟨none, 0, [], hcs, IsIntRows.nil, ⟨Nat.le_refl _, Nat.zero_le _⟩, fun _ => rfl⟩
  · simp only [if_true] at hmm
    subst hmm
    rw [cellsOf_ints] at hi
    have hth : ∀ i, i < len → ∃ l : List Int, (∃ A' c', W.cells? 0 (a.add (i * 1)) 1 = some [.slice A' l.length c'] ∧ IsInts W W.heap.size A' l ∧ (l.length ≤ c' ∧ c' ≤ maxLen) ∧ (A' = none → c' = 0)) := fun i hlt => by
      obtain ⟨cs', h1, h2⟩ := hi i (by omega)
      obtain ⟨A', c', l, h3, h4⟩ := ints_of_trod h2
      subst h3
      exact ⟨l, A', c', h1, h4⟩
    refine ⟨some a, m, (List.range len).attach.map (fun i => (hth i.1 (List.mem_range.1 i.2)).choose), ?_, fun k hk => ?_, ?_, fun h => by cases h⟩
    · rw [hcs]; simp
    · have hk' : k < len := by simpa using hk
      obtain ⟨A0, c0, hcs0, _⟩ := (hth 0 (by omega)).choose_spec
      obtain ⟨_, hcl, hat⟩ := World.cells?_some hcs0
      have hsp := hat 0 (by omega)
      rw [List.getElem?_eq_getElem (by simp)] at hsp
      have hlt := World.block_lt_of_cell? _ _ hsp
      have hspot := World.cell?_spot hsp
      obtain ⟨b, off, spot⟩ := a
      have hs : spot = none := by simpa [Addr.add] using hspot
      subst hs
      have hb : b < W.heap.size := by
        simpa [Addr.add] using hlt
      refine ⟨b, off, rfl, hb, fun i hi' => ?_⟩
      have hi2 : i < len := by simpa using hi'
      simp only [List.getElem_map, List.getElem_attach, List.getElem_range]
      obtain ⟨A', c', h1, h2⟩ := (hth i hi2).choose_spec
      refine ⟨A', c', ?_, h2⟩
      obtain ⟨_, _, hat'⟩ := World.cells?_some h1
      have h3 := hat' 0 (by omega)
      refine (congrArg W.cell? ?_).trans h3
      rw [add_off, add_off, Nat.mul_one, Nat.add_zero]
    · simp; exact ⟨hl, hm⟩
end Go.Proofs.YtdgijnolpjaheaaGreat
namespace Go.Proofs.YtdgijnolpjaheaaGreat
open Go.RowKit

/-- Go's remainder, brought to 0 or more -/
theorem tmod_cases (k n : Int) (hn : 1 ≤ n) : (0 ≤ k.tmod n ∧ k.tmod n = k % n) ∨ (k.tmod n < 0 ∧ -n < k.tmod n ∧ k.tmod n + n = k % n) := by
  have h3 := Int.emod_nonneg k (show n ≠ 0 by omega)
  have h4 := Int.emod_lt_of_pos k (show 0 < n by omega)
  have h2 := Int.tmod_eq_emod (a := k) (b := n)
  have h5 : (n.natAbs : Int) = n := by omega
  by_cases hc : 0 ≤ k ∨ n ∣ k
  · rw [if_pos hc] at h2; left; omega
  · rw [if_neg hc] at h2
    have h6 : k % n ≠ 0 := fun e => hc (Or.inr (Int.dvd_of_emod_eq_zero e))
    right; omega

theorem pick_none (k n : Int) (hn : n < 1) (w : World) :
    Calls Tryz.prog 52 #[.int .i64 k, .int .i64 n] w fun e w' => e = .returned (.int .i64 0) ∧ w = w' := by
  go_enter Tryz.func52, Tryz.ntmps52
  go_wp2
  go_ret
  exact ⟨rfl, rfl⟩
set_option maxHeartbeats 400000 in
theorem pick_some (k n : Int) (hn : 1 ≤ n) (hn2 : (Lit.int .i64 n).wf = true) (w : World) :
    Calls Tryz.prog 52 #[.int .i64 k, .int .i64 n] w fun e w' => e = .returned (.int .i64 (k % n)) ∧ w = w' := by
  have hb : n ≤ 9223372036854775807 := by simp [Lit.wf] at hn2; omega
  rcases tmod_cases k n hn with ⟨h, e⟩ | ⟨h, h2, e⟩
  · have E := hid e
    clear e
    go_enter Tryz.func52, Tryz.ntmps52
    go_wp2
    go_ret
    exact ⟨by rw [← E.out]; rfl, rfl⟩
  · have E := hid e
    clear e
    go_enter Tryz.func52, Tryz.ntmps52
    go_wp2
    go_ret
    exact ⟨by rw [← E.out]; rfl, rfl⟩
theorem pick_lt (k n : Int) (hn : 1 ≤ n) (hn2 : n ≤ 9223372036854775807) (w : World) :
    Calls Tryz.prog 52 #[.int .i64 k, .int .i64 n] w fun e w' => (∃ p : Nat, e = .returned (.int .i64 p) ∧ (p : Int) < n) ∧ w = w' := by
  refine (pick_some k n hn (by simp [Lit.wf, IntKind.min, IntKind.max, IntKind.signed, IntKind.bits]; omega) w).mono fun e w' ⟨he, hw⟩ => ?_
  have h1 := Int.emod_nonneg k (show (n : Int) ≠ 0 by omega)
  have h2 := Int.emod_lt_of_pos k (show (0 : Int) < n by omega)
  exact ⟨⟨(k % n).toNat, by rw [he, Int.toNat_of_nonneg h1], by omega⟩, hw⟩
end Go.Proofs.YtdgijnolpjaheaaGreat
