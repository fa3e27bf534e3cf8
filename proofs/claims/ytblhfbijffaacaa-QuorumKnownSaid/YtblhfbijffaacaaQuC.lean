/- The walks through the library's Concat; merged, Voters and Members. -/
import Derived.Test.YtblhfbijffaacaaConf
import Derived.Test.YtblhfbijffaacaaGrowInts
import Derived.Test.YtblhfbijffaacaaCompact
namespace Go.Proofs.Ytblhfbijffaacaa
open Go.RowKit

/-- lists of ints, their slices side by side from ⟨b, 0⟩ on -/
structure IRows (w : World) (B b : Nat) (L : List (List Int)) : Prop where
  at_ : ∀ i (h : i < L.length), ∃ a k, w.cell? ⟨b, i, none⟩ = some (.slice a L[i].length k) ∧ IsInts w B a L[i] ∧ (a = none → k = 0)
theorem flat_step (L : List (List Int)) (k : Nat) (h : k < L.length) : (L.take (k + 1)).flatten = (L.take k).flatten ++ L[k] := by
  rw [List.take_succ_eq_append_getElem h, List.flatten_append]; simp
theorem flat_le (L : List (List Int)) (k : Nat) : (L.take k).flatten.length ≤ L.flatten.length := by
  have h : L.flatten.length = (L.take k ++ L.drop k).flatten.length := by rw [List.take_append_drop]
  rw [List.flatten_append, List.length_append] at h
  omega

set_option maxRecDepth 100000 in
set_option maxHeartbeats 1000000 in
theorem concat_any (B b : Nat) (L : List (List Int)) (c : Nat) (hL : L.length ≤ 1000) (hF : L.flatten.length ≤ 100000) (w : World) (h0 : IRows w B b L) (hb : b < w.heap.size) (hB : B ≤ w.heap.size) :
    Calls Try.prog 46 #[.slice (some ⟨b, 0, none⟩) L.length c] w fun e w' => ∃ A c', e = .returned (.slice A L.flatten.length c') ∧ OwnsI 3 w' w.heap.size A c' L.flatten ∧ Below w.heap.size w w' := by
  obtain ⟨i0, hi, hz0, hz1, hz2⟩ := info_parts I.info_int
  have h := hid h0
  have HF := hid hF
  clear h0 hF
  go_enter Try.func46, Try.ntmps46
  go_wp2_with fail
  go_loopw [3, 11] (fun v i wr => ∃ k m : Nat, k ≤ L.length ∧ m ≤ 100000 ∧ v = .int .i64 m ∧ i = .int .i64 k ∧ w = wr ∧ Hid (m = (L.take k).flatten.length)) (fun _ i _ => L.length - (intOf i).toNat)
  case atStart => exact ⟨0, 0, by omega, by omega, rfl, rfl, rfl, hid (by simp)⟩
  case round =>
    obtain ⟨k, m, hk, hm, rfl, rfl, rfl, hs⟩ := hrel
    by_cases hlt : k < L.length
    · obtain ⟨a, ka, hcell, _, _⟩ := h.out.at_ k hlt
      have hst := flat_step L k hlt
      have hle := flat_le L (k + 1)
      rw [hst, List.length_append, ← hs.out] at hle
      have hm2 : m + L[k].length ≤ 100000 := by have := HF.out; omega
      have HS := hid hst
      clear hst hle
      generalize hn : L[k].length = n at *
      have HN := hid hn
      clear hn
      have hneg : ¬ ((m : Int) + (n : Int) < 0) := by omega
      go_wp2_with fail
      go_roundw
      case rel => exact ⟨k + 1, m + n, by omega, hm2, by go_num, by go_num, trivial, hid (by rw [HS.out, List.length_append, ← hs.out, HN.out])⟩
      case measure => simp [intOf]; omega
    · obtain rfl : k = L.length := by omega
      have HG := hid (grow_none m (by omega) w)
      go_wp2_with fail
      refine HG.out.mono ?_
      rintro e w1 ⟨A1, c1, rfl, hown1, hbel1⟩
      have HO := hid hown1
      have HB := hid hbel1
      clear hown1 hbel1 HG
      go_wp2_with fail
      go_loopw [6, 27] (fun v i wr => ∃ (k : Nat) (A : Option Addr) (c2 : Nat), k ≤ L.length ∧ v = .slice A (L.take k).flatten.length c2 ∧ i = .int .i64 k ∧ OwnsI 3 wr w.heap.size A c2 (L.take k).flatten ∧ Below w.heap.size w wr) (fun _ i _ => L.length - (intOf i).toNat)
      case atStart => exact ⟨0, A1, c1, by omega, by simp, rfl, by simpa using HO.out, HB.out⟩
      case round =>
        clear HO HB
        obtain ⟨k, A, c2, hk, rfl, rfl, hown, hbel⟩ := hrel
        by_cases hlt : k < L.length
        · obtain ⟨a, ka, hcell0, hrow, hnil⟩ := h.out.at_ k hlt
          have hcell : wr.cell? ⟨b, k, none⟩ = some (.slice a L[k].length ka) := (hbel.cell (by exact hb)).trans hcell0
          have hrow2 : IsInts wr w.heap.size a L[k] := (hrow.more hB).below hbel
          have hst := flat_step L k hlt
          have hle := flat_le L (k + 1)
          rw [hst, List.length_append] at hle
          have hbase := hbel.size
          have H3 := hid (And.intro hown hbel)
          have hsum : ((L.take k).flatten.length + L[k].length) * 8 ≤ 140737488355328 := by have := HF.out; omega
          have HL := hid hst
          have hlen : (L.take (k + 1)).flatten.length = (L.take k).flatten.length + L[k].length := by rw [hst, List.length_append]
          have HN := hid hlen
          clear hst hle hrow hcell0 hlen
          go_wp2_with (at_builtin; refine wpList_append_intsN rfl _ _ 22 rfl w.heap.size 3 i0 Try.underlying22 hi hz0 hz1 hz2 A c2 (L.take k).flatten _ rfl rfl hown w.heap.size a ka L[k] _ rfl rfl hnil hrow2 (L.take (k + 1)).flatten HL.out.symm hsum hbase ?_)
          intro A3 c3 w3 hown3 hbel3
          have H4 := hid (And.intro hown3 (H3.out.2.trans hbel3))
          clear hown3 hbel3 hown hbel
          go_wp2_with fail
          go_roundw
          case rel => exact ⟨k + 1, A3, c3, by omega, by rw [HN.out]; simp, by go_num, H4.out.1, H4.out.2⟩
          case measure => simp [intOf]; omega
        · obtain rfl : k = L.length := by omega
          rw [List.take_length] at hown
          have H3 := hid (And.intro hown hbel)
          clear hown hbel
          go_wp2_with fail
          go_ret
          exact ⟨A, c2, ret_len (by rw [List.take_length]), H3.out.1, H3.out.2⟩
theorem merge_sorted (l : List Int) : (l.mergeSort (fun x y => decide (x ≤ y))).Pairwise (· ≤ ·) := by
  have := List.pairwise_mergeSort (le := fun (x y : Int) => decide (x ≤ y)) (fun a b c h1 h2 => by simp at *; omega) (fun a b => by simp; omega) l
  exact this.imp (fun h => by simpa using h)
theorem merged_any (B b : Nat) (L : List (List Int)) (c : Nat) (hL : L.length ≤ 1000) (hF : L.flatten.length ≤ 100000) (w : World) (h0 : IRows w B b L) (hb : b < w.heap.size) (hB : B ≤ w.heap.size) :
    Calls Try.prog 31 #[.slice (some ⟨b, 0, none⟩) L.length c] w fun e w' => ∃ A c', e = .returned (.slice A (Qu.uni L.flatten).length c') ∧ OwnsI 3 w' w.heap.size A c' (Qu.uni L.flatten) ∧ Below w.heap.size w w' := by
  have hc := hid (concat_any B b L c hL hF w h0 hb hB)
  have HF := hid hF
  have hu0 : Lib.compact (L.flatten.mergeSort (fun x y => decide (x ≤ y))) = Qu.uni L.flatten := by
    have h1 := uni_compact (merge_sorted L.flatten)
    refine Qu.Uni.unique (l := L.flatten) ⟨h1.1, fun x => (h1.2 x).trans (List.mergeSort_perm _ _).mem_iff⟩ (Qu.uni_is _)
  have hsz0 : (L.flatten.mergeSort (fun x y => decide (x ≤ y))).length = L.flatten.length := by simp
  have hs0 := fun A c1 w1 hown => sort_own w.heap.size A c1 L.flatten (by have := HF.out; omega) w1 hown
  generalize L.flatten.mergeSort (fun x y => decide (x ≤ y)) = M at *
  generalize Qu.uni L.flatten = U at *
  generalize L.flatten = F at *
  subst hu0
  have HS0 := hid hs0
  clear h0 hF hs0
  go_enter Try.func31, Try.ntmps31
  go_wp2_with fail
  refine hc.out.mono ?_
  rintro e w1 ⟨A, c1, rfl, hown, hbel⟩
  have HB := hid hbel
  have hs := hid (HS0.out A c1 w1 hown)
  have hlt := hown.blkLt
  have HLT := hid hlt
  clear hown hbel hlt hc
  go_wp2_with fail
  refine hs.out.mono ?_
  rintro e w2 ⟨rfl, hown2, hg2⟩
  have HB2 := hid (below_grown hg2 HB.out.size (fun k e => (HLT.out k e).1))
  have hcomp := compact_own w.heap.size A c1 M (by rw [hsz0]; have := HF.out; omega) w2 hown2
  rw [hsz0] at hcomp
  have hc2 := hid hcomp
  clear hown2 hg2 hs hcomp
  go_wp2_with fail
  refine hc2.out.mono ?_
  rintro e w3 ⟨rfl, hown3, hg3⟩
  have HB3 := hid (below_grown hg3 (Nat.le_trans HB.out.size HB2.out.size) (fun k e => (HLT.out k e).1))
  have HO3 := hid hown3
  clear hown3 hg3
  go_wp2_with fail
  go_ret
  exact ⟨A, c1, rfl, HO3.out, HB.out.trans (HB2.out.trans HB3.out)⟩
theorem in_uni {l : List Int} (h : ∀ x ∈ l, InInt x) : ∀ x ∈ Qu.uni l, InInt x := fun x hx => h x (Qu.uni_mem.1 hx)

set_option maxHeartbeats 400000 in
theorem voters_any (B : Nat) (c : Qu.Cf) (hs : Short c) (a0 a1 a2 : Option Addr) (k0 k1 k2 : Nat) (w : World) (h : CIs w B c a0 a1 a2 k0 k1 k2) (hB : B ≤ w.heap.size) :
    Calls Try.prog 13 #[.agg #[.slice a0 c.old.length k0, .slice a1 c.new.length k1, .slice a2 c.lrn.length k2]] w fun e w' => ∃ A c', e = .returned (.slice A (Qu.uni (c.old ++ c.new)).length c') ∧ OwnsI 3 w' w.heap.size A c' (Qu.uni (c.old ++ c.new)) ∧ Below w.heap.size w w' := by
  have hb1 : Below w.heap.size w ((w.alloc (.cells #[.slice a0 c.old.length k0, .slice a1 c.new.length k1, .slice a2 c.lrn.length k2] 24)).alloc (.cells #[.slice a0 c.old.length k0, .slice a1 c.new.length k1] 22)) :=
    ((Below.refl _ _).alloc (Nat.le_refl _) _).alloc (by simp) _
  have hR : IRows ((w.alloc (.cells #[.slice a0 c.old.length k0, .slice a1 c.new.length k1, .slice a2 c.lrn.length k2] 24)).alloc (.cells #[.slice a0 c.old.length k0, .slice a1 c.new.length k1] 22)) B (w.heap.size + 1) [c.old, c.new] := by
    refine ⟨fun i hi => ?_⟩
    have hrow : ∀ j, ((w.alloc (.cells #[.slice a0 c.old.length k0, .slice a1 c.new.length k1, .slice a2 c.lrn.length k2] 24)).alloc (.cells #[.slice a0 c.old.length k0, .slice a1 c.new.length k1] 22)).cell? ⟨w.heap.size + 1, j, none⟩ = (#[.slice a0 c.old.length k0, .slice a1 c.new.length k1] : Array Value)[j]? := fun j => by
      have := cell_of_row ((w.alloc (.cells #[.slice a0 c.old.length k0, .slice a1 c.new.length k1, .slice a2 c.lrn.length k2] 24)).alloc (.cells #[.slice a0 c.old.length k0, .slice a1 c.new.length k1] 22)) (w.heap.size + 1) j #[.slice a0 c.old.length k0, .slice a1 c.new.length k1] 22 (0, 0) (by have := heap_alloc_new (w.alloc (.cells #[.slice a0 c.old.length k0, .slice a1 c.new.length k1, .slice a2 c.lrn.length k2] 24)) (.cells #[.slice a0 c.old.length k0, .slice a1 c.new.length k1] 22); rwa [World.size_alloc] at this)
      exact this
    match i, hi with
    | 0, _ => exact ⟨a0, k0, hrow 0, h.o.below (hb1.mono hB), h.zo⟩
    | 1, _ => exact ⟨a1, k1, hrow 1, h.n.below (hb1.mono hB), h.zn⟩
  have hfl : [c.old, c.new].flatten = c.old ++ c.new := by simp
  have hlen : [c.old, c.new].flatten.length ≤ 100000 := by rw [hfl, List.length_append]; have := hs.1; have := hs.2.1; omega
  have hM := merged_any B (w.heap.size + 1) [c.old, c.new] 2 (by simp) hlen _ hR (by simp) (by simp; omega)
  rw [hfl] at hM
  have HM := hid hM
  have HB := hid hb1
  clear hM hb1 hR h hfl hlen
  go_enter Try.func13, Try.ntmps13
  go_wp2_with fail
  refine HM.out.mono ?_
  rintro e w3 ⟨A, c1, rfl, hown, hbel⟩
  have HO := hid hown
  have HB2 := hid hbel
  clear hown hbel HM
  go_wp2_with fail
  go_ret
  exact ⟨A, c1, rfl, HO.out.weaken (by simp; omega), HB.out.trans (HB2.out.mono (by simp; omega))⟩

set_option maxHeartbeats 400000 in
theorem members_any (B : Nat) (c : Qu.Cf) (hs : Short c) (a0 a1 a2 : Option Addr) (k0 k1 k2 : Nat) (w : World) (h : CIs w B c a0 a1 a2 k0 k1 k2) (hB : B ≤ w.heap.size) :
    Calls Try.prog 14 #[.agg #[.slice a0 c.old.length k0, .slice a1 c.new.length k1, .slice a2 c.lrn.length k2]] w fun e w' => ∃ A c', e = .returned (.slice A (Qu.uni (c.old ++ c.new ++ c.lrn)).length c') ∧ OwnsI 3 w' w.heap.size A c' (Qu.uni (c.old ++ c.new ++ c.lrn)) ∧ Below w.heap.size w w' := by
  have hb1 : Below w.heap.size w ((w.alloc (.cells #[.slice a0 c.old.length k0, .slice a1 c.new.length k1, .slice a2 c.lrn.length k2] 24)).alloc (.cells #[.slice a0 c.old.length k0, .slice a1 c.new.length k1, .slice a2 c.lrn.length k2] 22)) :=
    ((Below.refl _ _).alloc (Nat.le_refl _) _).alloc (by simp) _
  have hR : IRows ((w.alloc (.cells #[.slice a0 c.old.length k0, .slice a1 c.new.length k1, .slice a2 c.lrn.length k2] 24)).alloc (.cells #[.slice a0 c.old.length k0, .slice a1 c.new.length k1, .slice a2 c.lrn.length k2] 22)) B (w.heap.size + 1) [c.old, c.new, c.lrn] := by
    refine ⟨fun i hi => ?_⟩
    have hrow : ∀ j, ((w.alloc (.cells #[.slice a0 c.old.length k0, .slice a1 c.new.length k1, .slice a2 c.lrn.length k2] 24)).alloc (.cells #[.slice a0 c.old.length k0, .slice a1 c.new.length k1, .slice a2 c.lrn.length k2] 22)).cell? ⟨w.heap.size + 1, j, none⟩ = (#[.slice a0 c.old.length k0, .slice a1 c.new.length k1, .slice a2 c.lrn.length k2] : Array Value)[j]? := fun j => by
      have := cell_of_row ((w.alloc (.cells #[.slice a0 c.old.length k0, .slice a1 c.new.length k1, .slice a2 c.lrn.length k2] 24)).alloc (.cells #[.slice a0 c.old.length k0, .slice a1 c.new.length k1, .slice a2 c.lrn.length k2] 22)) (w.heap.size + 1) j #[.slice a0 c.old.length k0, .slice a1 c.new.length k1, .slice a2 c.lrn.length k2] 22 (0, 0) (by have := heap_alloc_new (w.alloc (.cells #[.slice a0 c.old.length k0, .slice a1 c.new.length k1, .slice a2 c.lrn.length k2] 24)) (.cells #[.slice a0 c.old.length k0, .slice a1 c.new.length k1, .slice a2 c.lrn.length k2] 22); rwa [World.size_alloc] at this)
      exact this
    match i, hi with
    | 0, _ => exact ⟨a0, k0, hrow 0, h.o.below (hb1.mono hB), h.zo⟩
    | 1, _ => exact ⟨a1, k1, hrow 1, h.n.below (hb1.mono hB), h.zn⟩
    | 2, _ => exact ⟨a2, k2, hrow 2, h.l.below (hb1.mono hB), h.zl⟩
  have hfl : [c.old, c.new, c.lrn].flatten = c.old ++ c.new ++ c.lrn := by simp
  have hlen : [c.old, c.new, c.lrn].flatten.length ≤ 100000 := by rw [hfl, List.length_append, List.length_append]; have := hs.1; have := hs.2.1; have := hs.2.2; omega
  have hM := merged_any B (w.heap.size + 1) [c.old, c.new, c.lrn] 3 (by simp) hlen _ hR (by simp) (by simp; omega)
  rw [hfl] at hM
  have HM := hid hM
  have HB := hid hb1
  clear hM hb1 hR h hfl hlen
  go_enter Try.func14, Try.ntmps14
  go_wp2_with fail
  refine HM.out.mono ?_
  rintro e w3 ⟨A, c1, rfl, hown, hbel⟩
  have HO := hid hown
  have HB2 := hid hbel
  clear hown hbel HM
  go_wp2_with fail
  go_ret
  exact ⟨A, c1, ret_len (by rw [List.append_assoc]), HO.out.weaken (by simp; omega), HB.out.trans (HB2.out.mono (by simp; omega))⟩
end Go.Proofs.Ytblhfbijffaacaa
