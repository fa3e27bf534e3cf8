/- Texts of the proof, one behind the other: SortI, Compact, QuC, RqI, RqA, KitInts, RqB, RqC, VoC, VoD, ImMath, KitEq, Reader, ImMem, ImBox, VoE, RlT, Clone, RlOwn, RlU, ImSince, VoF, VoG, VoH, KitEnEq, KitSame, KitEnCopy, KitLog. -/
import Derived.Test.YtkmbkihfdilmbaaRows
import Derived.Test.YtkmbkihfdilmbaaVoteKnownPartAA
import Derived.Lib.SlKeysI
import Derived.Shelf.SortM.Plain
import Derived.Shelf.SortM.SortNone
import Derived.Shelf.SlicesG.CompactI
import Derived.StillTailTactics
import Derived.BigQuiet
import Derived.Deep.RegionHeld3
import Derived.WalkMore
import Derived.Deep.QuietTactic
import Derived.Deep.MidRow
import Derived.Deep.WholeRow
import Derived.Lib.SliceRun
namespace Go.Proofs.Ytkmbkihfdilmbaa
open Go.RowKit Go.Maps Go.Sort Go.Shelf
def sortA_ren : Go.Shelf.Ren := ⟨fun | 5 => 82 | 8 => 88 | 7 => 87 | 19 => 99 | 20 => 100 | 10 => 90 | 11 => 91 | 12 => 92 | 13 => 93 | 14 => 94 | 15 => 95 | 16 => 96 | 17 => 97 | 18 => 98 | 30 => 101 | 31 => 102 | 32 => 103 | 33 => 104 | 34 => 105 | 35 => 106 | 40 => 107 | n => n, fun | 23 => 22 | 25 => 3 | 3 => 3 | 32 => 108 | 22 => 22 | 0 => 0 | 44 => 119 | 46 => 100 | 4 => 4 | 36 => 112 | 35 => 111 | 41 => 80 | 5 => 5 | 9 => 9 | 53 => 121 | 57 => 125 | 63 => 128 | 64 => 89 | n => n, fun n => n⟩
theorem sortA : Go.Proofs.SlLaysM.n5 Try.prog sortA_ren := {
  mixed := by kernel_rfl
  f5 := ⟨Try.f82.name, by decide, Try.func82.trans (congrArg some (by kernel_rfl))⟩
  f7 := ⟨Try.f87.name, by decide, Try.func87.trans (congrArg some (by kernel_rfl))⟩
  f8 := Try.func88.trans (congrArg some (by kernel_rfl))
  f10 := ⟨Try.f90.name, by decide, Try.func90.trans (congrArg some (by kernel_rfl))⟩
  f11 := ⟨Try.f91.name, by decide, Try.func91.trans (congrArg some (by kernel_rfl))⟩
  f12 := ⟨Try.f92.name, by decide, Try.func92.trans (congrArg some (by kernel_rfl))⟩
  f13 := ⟨Try.f93.name, by decide, Try.func93.trans (congrArg some (by kernel_rfl))⟩
  f14 := ⟨Try.f94.name, by decide, Try.func94.trans (congrArg some (by kernel_rfl))⟩
  f15 := ⟨Try.f95.name, by decide, Try.func95.trans (congrArg some (by kernel_rfl))⟩
  f16 := ⟨Try.f96.name, by decide, Try.func96.trans (congrArg some (by kernel_rfl))⟩
  f17 := ⟨Try.f97.name, by decide, Try.func97.trans (congrArg some (by kernel_rfl))⟩
  f18 := ⟨Try.f98.name, by decide, Try.func98.trans (congrArg some (by kernel_rfl))⟩
  f19 := Try.func99.trans (congrArg some (by kernel_rfl))
  f20 := Try.func100.trans (congrArg some (by kernel_rfl))
  f30 := ⟨Try.f101.name, by decide, Try.func101.trans (congrArg some (by kernel_rfl))⟩
  f31 := Try.func102.trans (congrArg some (by kernel_rfl))
  f32 := Try.func103.trans (congrArg some (by kernel_rfl))
  f33 := ⟨Try.f104.name, by decide, Try.func104.trans (congrArg some (by kernel_rfl))⟩
  f34 := ⟨Try.f105.name, by decide, Try.func105.trans (congrArg some (by kernel_rfl))⟩
  f35 := ⟨Try.f106.name, by decide, Try.func106.trans (congrArg some (by kernel_rfl))⟩
  f40 := ⟨Try.f107.name, by decide, Try.func107.trans (congrArg some (by kernel_rfl))⟩
  t0 := Try.underlying0
  a0 := Try.isAgg0
  z0 := Try.sizeOf0
  v0 := Try.zeroValue0
  t3 := Try.underlying3
  a3 := Try.isAgg3
  z3 := Try.sizeOf3
  v3 := Try.zeroValue3
  t4 := Try.underlying4
  a4 := Try.isAgg4
  z4 := Try.sizeOf4
  v4 := Try.zeroValue4
  t5 := Try.underlying5
  a5 := Try.isAgg5
  z5 := Try.sizeOf5
  v5 := Try.zeroValue5
  t9 := Try.underlying9
  a9 := Try.isAgg9
  z9 := Try.sizeOf9
  v9 := Try.zeroValue9
  t22 := Try.underlying22
  a22 := Try.isAgg22
  z22 := Try.sizeOf22
  v22 := Try.zeroValue22
  t23 := Try.underlying22
  a23 := Try.isAgg22
  z23 := Try.sizeOf22
  v23 := Try.zeroValue22
  t25 := Try.underlying3
  a25 := Try.isAgg3
  z25 := Try.sizeOf3
  v25 := Try.zeroValue3
  t32 := Try.underlying108
  a32 := Try.isAgg108
  z32 := Try.sizeOf108
  v32 := Try.zeroValue108
  t35 := Try.underlying111
  a35 := Try.isAgg111
  z35 := Try.sizeOf111
  v35 := Try.zeroValue111
  t36 := Try.underlying112
  a36 := Try.isAgg112
  z36 := Try.sizeOf112
  v36 := Try.zeroValue112
  t41 := Try.underlying80
  a41 := Try.isAgg80
  z41 := Try.sizeOf80
  v41 := Try.zeroValue80
  t44 := Try.underlying119
  a44 := Try.isAgg119
  z44 := Try.sizeOf119
  v44 := Try.zeroValue119
  t46 := Try.underlying100
  a46 := Try.isAgg100
  z46 := Try.sizeOf100
  v46 := Try.zeroValue100
  t53 := Try.underlying121
  a53 := Try.isAgg121
  z53 := Try.sizeOf121
  v53 := Try.zeroValue121
  t57 := Try.underlying125
  a57 := Try.isAgg125
  z57 := Try.sizeOf125
  v57 := Try.zeroValue125
  t63 := Try.underlying128
  a63 := Try.isAgg128
  z63 := Try.sizeOf128
  v63 := Try.zeroValue128
  t64 := Try.underlying89
  a64 := Try.isAgg89
  z64 := Try.sizeOf89
  v64 := Try.zeroValue89 }
set_option maxRecDepth 100000 in
theorem sort_own (base : Nat) (A : Option Addr) (c : Nat) (l : List Int) (hl : l.length ≤ 17592186044000) (w : World) (h : OwnsI 3 w base A c l) :
    Calls Try.prog 82 #[.slice A l.length c] w fun e w' => e = .returned (.tuple #[]) ∧ OwnsI 3 w' base A c (l.mergeSort (fun x y => decide (x ≤ y))) ∧ w.grownBy w' (blk A) := by
  have hsm : ∀ x ∈ l.mergeSort (fun x y => decide (x ≤ y)), InInt x := fun x hx => h.small x ((List.mergeSort_perm l _).mem_iff.1 hx)
  rcases h.row.2 with ⟨hv, h0⟩ | ⟨g, cap, cur, hv, hg, hgb, hc, h2, h3, h4⟩
  · have hl0 : l = [] := List.eq_nil_of_length_eq_zero h0
    subst hl0
    refine (AnyM.slices_Sort_int_none sortA A c w).mono ?_
    rintro e w' ⟨rfl, rfl⟩
    exact ⟨rfl, by simpa using h, grown_refl _ _⟩
  · obtain ⟨rfl, rfl⟩ : A = some ⟨g, 0, none⟩ ∧ c = cap := by injection hv with h1 h2 h3; exact ⟨h1, h3⟩
    have hH : Holds encZ w g 0 l.toArray := holds_of_block_i hgb (by rw [Nat.mul_one] at h4; exact h4)
    refine (AnyM.slices_Sort_int sortA g 0 c l w hH (Array.getElem?_eq_some_iff.1 hgb).1 (by omega)).mono ?_
    rintro e w' ⟨rfl, n, os, rfl⟩
    refine ⟨rfl, ⟨hsm, ?_⟩, grownBy_sorted_i _⟩
    have hlen : (l.mergeSort (fun x y => decide (x ≤ y))).length = l.length := by simp
    rw [hlen]
    exact ownsRow_sorted_i hlen hg hgb hc h2 h3
end Go.Proofs.Ytkmbkihfdilmbaa
namespace Go.Proofs.Ytkmbkihfdilmbaa
open Go.RowKit Go.Maps Go.Sort Go.Shelf
def compA_ren : Go.Shelf.Ren := ⟨fun | 43 => 83 | n => n, fun | 0 => 0 | 3 => 3 | 4 => 4 | 22 => 22 | 23 => 3 | n => n, fun n => n⟩
theorem compA : Go.Proofs.SlLaysN.n43 Try.prog compA_ren := {
  mixed := by kernel_rfl
  f43 := ⟨Try.f83.name, by decide, Try.func83.trans (congrArg some (by kernel_rfl))⟩
  t0 := Try.underlying0
  a0 := Try.isAgg0
  z0 := Try.sizeOf0
  v0 := Try.zeroValue0
  t3 := Try.underlying3
  a3 := Try.isAgg3
  z3 := Try.sizeOf3
  v3 := Try.zeroValue3
  t4 := Try.underlying4
  a4 := Try.isAgg4
  z4 := Try.sizeOf4
  v4 := Try.zeroValue4
  t22 := Try.underlying22
  a22 := Try.isAgg22
  z22 := Try.sizeOf22
  v22 := Try.zeroValue22
  t23 := Try.underlying3
  a23 := Try.isAgg3
  z23 := Try.sizeOf3
  v23 := Try.zeroValue3
  i23 := by kernel_rfl }
theorem sub_compact (l : List Int) : ∀ x ∈ Lib.compact l, x ∈ l := by
  intro x hx
  unfold Lib.compact Lib.compactUpTo at hx
  obtain ⟨j, hj, rfl⟩ := List.mem_map.1 hx
  have hj := List.mem_range.1 (List.mem_filter.1 hj).1
  have : l.toArray[j]! = l[j] := by simp [hj]
  rw [this]
  exact List.getElem_mem hj
theorem compact_len (l : List Int) : (Lib.compact l).length ≤ l.length := by
  unfold Lib.compact Lib.compactUpTo
  rw [List.length_map]
  have := List.length_filter_le (Lib.keeps l.toArray) (List.range l.length)
  simpa using this
theorem uni_compact {l : List Int} (hs : l.Pairwise (· ≤ ·)) : Qu.Uni (Lib.compact l) l := by
  have hg : ∀ j (h : j < l.length), l.toArray[j]! = l[j] := fun j h => by simp [h]
  constructor
  · unfold Lib.compact Lib.compactUpTo
    rw [List.pairwise_map]
    refine List.Pairwise.imp_of_mem ?_ ((List.pairwise_lt_range (n := l.length)).filter (Lib.keeps l.toArray))
    intro a b ha hb hab
    have hb1 := List.mem_range.1 (List.mem_filter.1 hb).1
    have hb2 := (List.mem_filter.1 hb).2
    unfold Lib.keeps at hb2
    rw [hg a (by omega), hg b hb1]
    rcases of_decide_eq_true hb2 with h0 | h0
    · omega
    · rw [hg b hb1, hg (b - 1) (by omega)] at h0
      have h1 : l[a] ≤ l[b - 1] := by
        rcases Nat.lt_or_eq_of_le (show a ≤ b - 1 by omega) with h2 | h2
        · exact (List.pairwise_iff_getElem.1 hs) a (b - 1) (by omega) (by omega) h2
        · subst h2; omega
      have h2 : l[b - 1] ≤ l[b] := (List.pairwise_iff_getElem.1 hs) (b - 1) b (by omega) hb1 (by omega)
      omega
  · intro x
    refine ⟨sub_compact l x, fun hx => ?_⟩
    obtain ⟨j, hj, rfl⟩ := List.getElem_of_mem hx
    -- the first place that holds it
    have key : ∀ j, ∀ (hj : j < l.length), l[j] ∈ Lib.compact l := by
      intro j
      induction j with
      | zero =>
        intro hj
        unfold Lib.compact Lib.compactUpTo
        exact List.mem_map.2 ⟨0, List.mem_filter.2 ⟨List.mem_range.2 hj, by simp [Lib.keeps]⟩, hg 0 hj⟩
      | succ j ih =>
        intro hj
        by_cases he : l[j + 1] = l[j]
        · rw [he]; exact ih (by omega)
        · unfold Lib.compact Lib.compactUpTo
          refine List.mem_map.2 ⟨j + 1, List.mem_filter.2 ⟨List.mem_range.2 hj, ?_⟩, hg _ hj⟩
          unfold Lib.keeps
          refine decide_eq_true (.inr ?_)
          rw [hg _ hj, show j + 1 - 1 = j from rfl, hg _ (by omega)]
          exact he
    exact key j hj
theorem heap_putRow_g {w : World} {g n : Nat} {cur : Array Value} {e : TypeId} {fr : Nat × Nat} (d : Array Int) (hb : w.heap[g]? = some (.cells cur e fr)) :
    (putRow encZ (Sort.ahead w n) g 0 d).heap[g]? = some (.cells (putCells encZ 0 d cur) e fr) := by
  have := heap_sorted_i (n := n) (os := #[]) d hb
  rwa [grow_empty] at this
set_option maxRecDepth 100000 in
theorem compact_own (base : Nat) (A : Option Addr) (c : Nat) (l : List Int) (hl : l.length ≤ 17592186044000) (w : World) (h : OwnsI 3 w base A c l) :
    Calls Try.prog 83 #[.slice A l.length c] w fun e w' => e = .returned (.slice A (Lib.compact l).length c) ∧ OwnsI 3 w' base A c (Lib.compact l) ∧ w.grownBy w' (blk A) := by
  have hsm : ∀ x ∈ Lib.compact l, InInt x := fun x hx => h.small x (sub_compact l x hx)
  rcases h.row.2 with ⟨hv, h0⟩ | ⟨g, cap, cur, hv, hg, hgb, hc, h2, h3, h4⟩
  · have hl0 : l = [] := List.eq_nil_of_length_eq_zero h0
    subst hl0
    refine (AnyG.slices_Compact_int_empty compA A c w).mono ?_
    rintro e w' ⟨rfl, rfl⟩
    exact ⟨rfl, h, grown_refl _ _⟩
  · obtain ⟨rfl, rfl⟩ : A = some ⟨g, 0, none⟩ ∧ c = cap := by injection hv with h1 h2 h3; exact ⟨h1, h3⟩
    have hH : Holds encZ w g 0 l.toArray := holds_of_block_i hgb (by rw [Nat.mul_one] at h4; exact h4)
    refine (AnyG.slices_Compact_int compA g 0 c l w hH (by omega) hc).mono ?_
    rintro e w' ⟨rfl, n, rfl⟩
    have hle := compact_len l
    refine ⟨rfl, ⟨hsm, ?_⟩, by have := grownBy_sorted_i (w := w) (g := g) (n := n) (os := #[]) (Lib.compact l ++ List.replicate (l.length - (Lib.compact l).length) 0).toArray; rwa [grow_empty] at this⟩
    refine ⟨by simp [ints], .inr ⟨g, c, _, rfl, hg, heap_putRow_g _ hgb, by omega, h2, by simp [putCells, h3], ?_⟩⟩
    rw [Nat.mul_one]
    have hts : (Lib.compact l ++ List.replicate (l.length - (Lib.compact l).length) (0 : Int)).length = l.length := by simp; omega
    have ht := take_putCells_i cur (Lib.compact l ++ List.replicate (l.length - (Lib.compact l).length) (0 : Int)) (by rw [hts]; omega)
    have h5 := congrArg (fun xs => xs.take (Lib.compact l).length) ht
    simp only [List.take_take] at h5
    rw [hts, Nat.min_eq_left hle] at h5
    rw [h5, ← List.map_take, List.take_left']
    · rfl
    · rfl
end Go.Proofs.Ytkmbkihfdilmbaa
namespace Go.Proofs.Ytkmbkihfdilmbaa
open Go.RowKit
structure IRows (w : World) (B b : Nat) (L : List (List Int)) : Prop where
  at_ : ∀ i (h : i < L.length), ∃ a k, w.cell? ⟨b, i, none⟩ = some (.slice a L[i].length k) ∧ IsInts w B a L[i] ∧ (a = none → k = 0)
theorem flat_step (L : List (List Int)) (k : Nat) (h : k < L.length) : (L.take (k + 1)).flatten = (L.take k).flatten ++ L[k] := by
  rw [List.take_succ_eq_append_getElem h, List.flatten_append]; simp
theorem flat_le (L : List (List Int)) (k : Nat) : (L.take k).flatten.length ≤ L.flatten.length := by
  have h : L.flatten.length = (L.take k ++ L.drop k).flatten.length := by rw [List.take_append_drop]
  rw [List.flatten_append, List.length_append] at h
  omega
set_option maxRecDepth 100000 in
set_option maxHeartbeats 1000000 in
theorem concat_any (B b : Nat) (L : List (List Int)) (c : Nat) (hL : L.length ≤ 1000) (hF : L.flatten.length ≤ 100000) (w : World) (h0 : IRows w B b L) (hb : b < w.heap.size) (hB : B ≤ w.heap.size) :
    Calls Try.prog 81 #[.slice (some ⟨b, 0, none⟩) L.length c] w fun e w' => ∃ A c', e = .returned (.slice A L.flatten.length c') ∧ OwnsI 3 w' w.heap.size A c' L.flatten ∧ Below w.heap.size w w' := by
  obtain ⟨i0, hi, hz0, hz1, hz2⟩ := info_parts I.info_int
  have h := hid h0
  have HF := hid hF
  clear h0 hF
  go_enter Try.func81, Try.ntmps81
  go_wp2_with fail
  go_loopw [3, 11] (fun v i wr => ∃ k m : Nat, k ≤ L.length ∧ m ≤ 100000 ∧ v = .int .i64 m ∧ i = .int .i64 k ∧ w = wr ∧ Hid (m = (L.take k).flatten.length)) (fun _ i _ => L.length - (RowKit.intOf i).toNat)
  case atStart => exact ⟨0, 0, by omega, by omega, rfl, rfl, rfl, hid (by simp)⟩
  case round =>
    obtain ⟨k, m, hk, hm, rfl, rfl, rfl, hs⟩ := hrel
    by_cases hlt : k < L.length
    · obtain ⟨a, ka, hcell, _, _⟩ := h.out.at_ k hlt
      have hst := flat_step L k hlt
      have hle := flat_le L (k + 1)
      rw [hst, List.length_append, ← hs.out] at hle
      have hm2 : m + L[k].length ≤ 100000 := by have := HF.out; omega
      have HS := hid hst
      clear hst hle
      generalize hn : L[k].length = n at *
      have HN := hid hn
      clear hn
      have hneg : ¬ ((m : Int) + (n : Int) < 0) := by omega
      go_wp2_with fail
      go_roundw
      case rel => exact ⟨k + 1, m + n, by omega, hm2, by go_num, by go_num, trivial, hid (by rw [HS.out, List.length_append, ← hs.out, HN.out])⟩
      case measure => simp [RowKit.intOf]; omega
    · obtain rfl : k = L.length := by omega
      have HG := hid (grow_none m (by omega) w)
      go_wp2_with fail
      refine HG.out.mono ?_
      rintro e w1 ⟨A1, c1, rfl, hown1, hbel1⟩
      have HO := hid hown1
      have HB := hid hbel1
      clear hown1 hbel1 HG
      go_wp2_with fail
      go_loopw [6, 27] (fun v i wr => ∃ (k : Nat) (A : Option Addr) (c2 : Nat), k ≤ L.length ∧ v = .slice A (L.take k).flatten.length c2 ∧ i = .int .i64 k ∧ OwnsI 3 wr w.heap.size A c2 (L.take k).flatten ∧ Below w.heap.size w wr) (fun _ i _ => L.length - (RowKit.intOf i).toNat)
      case atStart => exact ⟨0, A1, c1, by omega, by simp, rfl, by simpa using HO.out, HB.out⟩
      case round =>
        clear HO HB
        obtain ⟨k, A, c2, hk, rfl, rfl, hown, hbel⟩ := hrel
        by_cases hlt : k < L.length
        · obtain ⟨a, ka, hcell0, hrow, hnil⟩ := h.out.at_ k hlt
          have hcell : wr.cell? ⟨b, k, none⟩ = some (.slice a L[k].length ka) := (hbel.cell (by exact hb)).trans hcell0
          have hrow2 : IsInts wr w.heap.size a L[k] := (hrow.more hB).below hbel
          have hst := flat_step L k hlt
          have hle := flat_le L (k + 1)
          rw [hst, List.length_append] at hle
          have hbase := hbel.size
          have H3 := hid (And.intro hown hbel)
          have hsum : ((L.take k).flatten.length + L[k].length) * 8 ≤ 140737488355328 := by have := HF.out; omega
          have HL := hid hst
          have hlen : (L.take (k + 1)).flatten.length = (L.take k).flatten.length + L[k].length := by rw [hst, List.length_append]
          have HN := hid hlen
          clear hst hle hrow hcell0 hlen
          go_wp2_with (at_builtin; refine wpList_append_intsN rfl _ _ 22 rfl w.heap.size 3 i0 Try.underlying22 hi hz0 hz1 hz2 A c2 (L.take k).flatten _ rfl rfl hown w.heap.size a ka L[k] _ rfl rfl hnil hrow2 (L.take (k + 1)).flatten HL.out.symm hsum hbase ?_)
          intro A3 c3 w3 hown3 hbel3
          have H4 := hid (And.intro hown3 (H3.out.2.trans hbel3))
          clear hown3 hbel3 hown hbel
          go_wp2_with fail
          go_roundw
          case rel => exact ⟨k + 1, A3, c3, by omega, by rw [HN.out]; simp, by go_num, H4.out.1, H4.out.2⟩
          case measure => simp [RowKit.intOf]; omega
        · obtain rfl : k = L.length := by omega
          rw [List.take_length] at hown
          have H3 := hid (And.intro hown hbel)
          clear hown hbel
          go_wp2_with fail
          go_ret
          exact ⟨A, c2, ret_len (by rw [List.take_length]), H3.out.1, H3.out.2⟩
theorem merge_sorted (l : List Int) : (l.mergeSort (fun x y => decide (x ≤ y))).Pairwise (· ≤ ·) := by
  have := List.pairwise_mergeSort (le := fun (x y : Int) => decide (x ≤ y)) (fun a b c h1 h2 => by simp at *; omega) (fun a b => by simp; omega) l
  exact this.imp (fun h => by simpa using h)
theorem merged_any (B b : Nat) (L : List (List Int)) (c : Nat) (hL : L.length ≤ 1000) (hF : L.flatten.length ≤ 100000) (w : World) (h0 : IRows w B b L) (hb : b < w.heap.size) (hB : B ≤ w.heap.size) :
    Calls Try.prog 74 #[.slice (some ⟨b, 0, none⟩) L.length c] w fun e w' => ∃ A c', e = .returned (.slice A (Qu.uni L.flatten).length c') ∧ OwnsI 3 w' w.heap.size A c' (Qu.uni L.flatten) ∧ Below w.heap.size w w' := by
  have hc := hid (concat_any B b L c hL hF w h0 hb hB)
  have HF := hid hF
  have hu0 : Lib.compact (L.flatten.mergeSort (fun x y => decide (x ≤ y))) = Qu.uni L.flatten := by
    have h1 := uni_compact (merge_sorted L.flatten)
    refine Qu.Uni.unique (l := L.flatten) ⟨h1.1, fun x => (h1.2 x).trans (List.mergeSort_perm _ _).mem_iff⟩ (Qu.uni_is _)
  have hsz0 : (L.flatten.mergeSort (fun x y => decide (x ≤ y))).length = L.flatten.length := by simp
  have hs0 := fun A c1 w1 hown => sort_own w.heap.size A c1 L.flatten (by have := HF.out; omega) w1 hown
  generalize L.flatten.mergeSort (fun x y => decide (x ≤ y)) = M at *
  generalize Qu.uni L.flatten = U at *
  generalize L.flatten = F at *
  subst hu0
  have HS0 := hid hs0
  clear h0 hF hs0
  go_enter Try.func74, Try.ntmps74
  go_wp2_with fail
  refine hc.out.mono ?_
  rintro e w1 ⟨A, c1, rfl, hown, hbel⟩
  have HB := hid hbel
  have hs := hid (HS0.out A c1 w1 hown)
  have hlt := hown.blkLt
  have HLT := hid hlt
  clear hown hbel hlt hc
  go_wp2_with fail
  refine hs.out.mono ?_
  rintro e w2 ⟨rfl, hown2, hg2⟩
  have HB2 := hid (below_grown hg2 HB.out.size (fun k e => (HLT.out k e).1))
  have hcomp := compact_own w.heap.size A c1 M (by rw [hsz0]; have := HF.out; omega) w2 hown2
  rw [hsz0] at hcomp
  have hc2 := hid hcomp
  clear hown2 hg2 hs hcomp
  go_wp2_with fail
  refine hc2.out.mono ?_
  rintro e w3 ⟨rfl, hown3, hg3⟩
  have HB3 := hid (below_grown hg3 (Nat.le_trans HB.out.size HB2.out.size) (fun k e => (HLT.out k e).1))
  have HO3 := hid hown3
  clear hown3 hg3
  go_wp2_with fail
  go_ret
  exact ⟨A, c1, rfl, HO3.out, HB.out.trans (HB2.out.trans HB3.out)⟩
set_option maxHeartbeats 400000 in
theorem voters_any (B : Nat) (c : Qu.Cf) (hs : Short c) (a0 a1 a2 : Option Addr) (k0 k1 k2 : Nat) (w : World) (h : CIs w B c a0 a1 a2 k0 k1 k2) (hB : B ≤ w.heap.size) :
    Calls Try.prog 63 #[.agg #[.slice a0 c.old.length k0, .slice a1 c.new.length k1, .slice a2 c.lrn.length k2]] w fun e w' => ∃ A c', e = .returned (.slice A (Qu.uni (c.old ++ c.new)).length c') ∧ OwnsI 3 w' w.heap.size A c' (Qu.uni (c.old ++ c.new)) ∧ Below w.heap.size w w' := by
  have hb1 : Below w.heap.size w ((w.alloc (.cells #[.slice a0 c.old.length k0, .slice a1 c.new.length k1, .slice a2 c.lrn.length k2] 37)).alloc (.cells #[.slice a0 c.old.length k0, .slice a1 c.new.length k1] 22)) :=
    ((Below.refl _ _).alloc (Nat.le_refl _) _).alloc (by simp) _
  have hR : IRows ((w.alloc (.cells #[.slice a0 c.old.length k0, .slice a1 c.new.length k1, .slice a2 c.lrn.length k2] 37)).alloc (.cells #[.slice a0 c.old.length k0, .slice a1 c.new.length k1] 22)) B (w.heap.size + 1) [c.old, c.new] := by
    refine ⟨fun i hi => ?_⟩
    have hrow : ∀ j, ((w.alloc (.cells #[.slice a0 c.old.length k0, .slice a1 c.new.length k1, .slice a2 c.lrn.length k2] 37)).alloc (.cells #[.slice a0 c.old.length k0, .slice a1 c.new.length k1] 22)).cell? ⟨w.heap.size + 1, j, none⟩ = (#[.slice a0 c.old.length k0, .slice a1 c.new.length k1] : Array Value)[j]? := fun j => by
      have := cell_of_row ((w.alloc (.cells #[.slice a0 c.old.length k0, .slice a1 c.new.length k1, .slice a2 c.lrn.length k2] 37)).alloc (.cells #[.slice a0 c.old.length k0, .slice a1 c.new.length k1] 22)) (w.heap.size + 1) j #[.slice a0 c.old.length k0, .slice a1 c.new.length k1] 22 (0, 0) (by have := heap_alloc_new (w.alloc (.cells #[.slice a0 c.old.length k0, .slice a1 c.new.length k1, .slice a2 c.lrn.length k2] 37)) (.cells #[.slice a0 c.old.length k0, .slice a1 c.new.length k1] 22); rwa [World.size_alloc] at this)
      exact this
    match i, hi with
    | 0, _ => exact ⟨a0, k0, hrow 0, h.o.below (hb1.mono hB), h.zo⟩
    | 1, _ => exact ⟨a1, k1, hrow 1, h.n.below (hb1.mono hB), h.zn⟩
  have hfl : [c.old, c.new].flatten = c.old ++ c.new := by simp
  have hlen : [c.old, c.new].flatten.length ≤ 100000 := by rw [hfl, List.length_append]; have := hs.1; have := hs.2.1; omega
  have hM := merged_any B (w.heap.size + 1) [c.old, c.new] 2 (by simp) hlen _ hR (by simp) (by simp; omega)
  rw [hfl] at hM
  have HM := hid hM
  have HB := hid hb1
  clear hM hb1 hR h hfl hlen
  go_enter Try.func63, Try.ntmps63
  go_wp2_with fail
  refine HM.out.mono ?_
  rintro e w3 ⟨A, c1, rfl, hown, hbel⟩
  have HO := hid hown
  have HB2 := hid hbel
  clear hown hbel HM
  go_wp2_with fail
  go_ret
  exact ⟨A, c1, rfl, HO.out.weaken (by simp; omega), HB.out.trans (HB2.out.mono (by simp; omega))⟩
end Go.Proofs.Ytkmbkihfdilmbaa
namespace Go.Proofs.Ytkmbkihfdilmbaa
open Go.RowKit
set_option maxRecDepth 100000
set_option maxHeartbeats 400000 in
theorem in_any (B : Nat) (A : Option Addr) (c : Nat) (l : List Int) (hl : l.length ≤ 100000) (x : Int) (w : World) (h : IsInts w B A l) :
    Calls Try.prog 89 #[.slice A l.length c, .int .i64 x] w fun e w' => e = .returned (.bool (decide (x ∈ l))) ∧ w' = w := by
  go_enter Try.func89, Try.ntmps89
  go_wp2
  go_loopw [5] (fun i wr => ∃ k : Nat, k ≤ l.length ∧ i = .int .i64 k ∧ wr = w ∧ Hid (x ∉ l.take k)) (fun i _ => l.length - (RowKit.intOf i).toNat)
  case atStart => exact ⟨0, by omega, rfl, rfl, hid (by simp)⟩
  case round =>
    obtain ⟨k, hk, rfl, rfl, hs⟩ := hrel
    by_cases hlt : k < l.length
    · obtain ⟨b, off, rfl, _, hc⟩ := h.cells k hlt
      have hck := hc k hlt
      clear hc h
      by_cases he : l[k] = x
      · have hbe : (l[k] == x) = true := by rw [beq_iff_eq]; exact he
        have HE := hid he
        clear he
        go_wp2
        go_ret
        exact ⟨by rw [decide_eq_true (show x ∈ l by rw [← HE.out]; exact List.getElem_mem hlt)]; rfl, rfl⟩
      · have hbe : (l[k] == x) = false := by rw [beq_eq_false_iff_ne]; exact he
        have HE := hid he
        clear he
        go_wp2
        go_roundw
        case rel =>
          refine ⟨k + 1, by omega, by go_num, trivial, hid ?_⟩
          rw [List.take_succ_eq_append_getElem hlt, List.mem_append, List.mem_singleton]
          rintro (h1 | h1)
          · exact hs.out h1
          · exact HE.out h1.symm
        case measure => simp [RowKit.intOf]; omega
    · obtain rfl : k = l.length := by omega
      have := hs.out
      rw [List.take_length] at this
      have HF := hid this
      clear this
      go_wp2
      go_ret
      exact ⟨by rw [decide_eq_false HF.out]; rfl, rfl⟩
end Go.Proofs.Ytkmbkihfdilmbaa
namespace Go.Proofs.Ytkmbkihfdilmbaa
open Go.RowKit
end Go.Proofs.Ytkmbkihfdilmbaa
namespace Go.Proofs.Ytkmbkihfdilmbaa.I
open Go.RowKit
end Go.Proofs.Ytkmbkihfdilmbaa.I
namespace Go.Proofs.Ytkmbkihfdilmbaa
open Go.RowKit
namespace Qu
def wstep (n : Int) (s : Bool × List Int) (x : Int) : Bool × List Int := if s.1 = false ∧ n < x then (true, s.2 ++ [n, x]) else (s.1, s.2 ++ [x])
def wto (l : List Int) (n : Int) (k : Nat) : Bool × List Int := (l.take k).foldl (wstep n) (decide (n ∈ l), [])
def wend (n : Int) (s : Bool × List Int) : List Int := if s.1 then s.2 else s.2 ++ [n]
theorem wto_succ (l : List Int) (n : Int) (k : Nat) (h : k < l.length) : wto l n (k + 1) = wstep n (wto l n k) l[k] := by
  unfold wto; rw [List.take_succ_eq_append_getElem h, List.foldl_append]; rfl
theorem wto_len (l : List Int) (n : Int) : ∀ k, k ≤ l.length → (wto l n k).2.length ≤ k + (if (wto l n k).1 then 1 else 0)
  | 0, _ => by simp [wto]
  | k + 1, h => by
    have ih := wto_len l n k (by omega)
    rw [wto_succ l n k (by omega)]
    unfold wstep
    split
    · rename_i h1
      rw [h1.1] at ih
      simp at ih ⊢; omega
    · simp only [List.length_append, List.length_cons, List.length_nil]; omega
theorem wto_in {l : List Int} {n : Int} (hn : n ∈ l) : ∀ k, k ≤ l.length → wto l n k = (true, l.take k)
  | 0, _ => by simp [wto, hn]
  | k + 1, h => by
    rw [wto_succ l n k (by omega), wto_in hn k (by omega), List.take_succ_eq_append_getElem (by omega)]
    simp [wstep]
theorem wto_out {l : List Int} {n : Int} (hs : l.Pairwise (· < ·)) (hn : n ∉ l) : ∀ k, k ≤ l.length →
    (wto l n k).2.Pairwise (· < ·) ∧ (∀ y, y ∈ (wto l n k).2 ↔ y ∈ l.take k ∨ ((wto l n k).1 = true ∧ y = n)) ∧ ((wto l n k).1 = true ↔ ∃ y ∈ l.take k, n < y)
  | 0, _ => by simp [wto, hn]
  | k + 1, h => by
    obtain ⟨h1, h2, h3⟩ := wto_out hs hn k (by omega)
    have hlt : ∀ y ∈ l.take k, y < l[k] := fun y hy => by
      obtain ⟨i, hi, rfl⟩ := List.getElem_of_mem hy
      rw [List.length_take] at hi
      rw [List.getElem_take]
      exact (List.pairwise_iff_getElem.1 hs) i k (by omega) (by omega) (by omega)
    have hne : l[k] ≠ n := fun e => hn (e ▸ List.getElem_mem (by omega))
    rw [wto_succ l n k (by omega), List.take_succ_eq_append_getElem (by omega)]
    unfold wstep
    by_cases hc : (wto l n k).1 = false ∧ n < l[k]
    · rw [if_pos hc]
      have hall : ∀ y ∈ l.take k, y < n := fun y hy => by
        by_cases h4 : n < y
        · have := h3.2 ⟨y, hy, h4⟩; rw [hc.1] at this; cases this
        · have : y ≠ n := fun e => hn (e ▸ List.mem_of_mem_take hy)
          omega
      have hmem : ∀ y ∈ (wto l n k).2, y ∈ l.take k := fun y hy => by
        rcases (h2 y).1 hy with h4 | h4
        · exact h4
        · rw [hc.1] at h4; cases h4.1
      refine ⟨?_, fun y => ?_, ?_⟩
      · rw [List.pairwise_append]
        refine ⟨h1, by simp [hc.2], fun a ha b hb => ?_⟩
        have := hall a (hmem a ha)
        simp at hb
        rcases hb with rfl | rfl
        · exact this
        · omega
      · rw [List.mem_append, List.mem_append, h2 y, hc.1]
        simp
        constructor
        · rintro (h4 | h4 | h4)
          · exact .inl (.inl h4)
          · exact .inr h4
          · exact .inl (.inr h4)
        · rintro ((h4 | h4) | h4)
          · exact .inl h4
          · exact .inr (.inr h4)
          · exact .inr (.inl h4)
      · simp only [true_iff]
        exact ⟨l[k], List.mem_append_right _ (List.mem_singleton_self _), hc.2⟩
    · rw [if_neg hc]
      refine ⟨?_, fun y => ?_, ?_⟩
      · rw [List.pairwise_append]
        refine ⟨h1, by simp, fun a ha b hb => ?_⟩
        simp at hb
        subst hb
        rcases (h2 a).1 ha with h4 | h4
        · exact hlt a h4
        · obtain ⟨y, hy, h5⟩ := h3.1 h4.1
          have := hlt y hy
          omega
      · rw [List.mem_append, List.mem_append, h2 y]
        constructor
        · rintro ((h4 | h4) | h4)
          · exact .inl (.inl h4)
          · exact .inr h4
          · exact .inl (.inr h4)
        · rintro ((h4 | h4) | h4)
          · exact .inl (.inl h4)
          · exact .inr h4
          · exact .inl (.inr h4)
      · rw [h3]
        constructor
        · rintro ⟨y, hy, h4⟩; exact ⟨y, List.mem_append_left _ hy, h4⟩
        · rintro ⟨y, hy, h4⟩
          rcases List.mem_append.1 hy with hy | hy
          · exact ⟨y, hy, h4⟩
          · simp at hy
            subst hy
            by_cases h5 : (wto l n k).1 = false
            · exact absurd ⟨h5, h4⟩ hc
            · exact h3.1 (by simpa using h5)
theorem with_is (L : List Int) (n : Int) : wend n (wto (uni L) n (uni L).length) = uni (L ++ [n]) := by
  have hu := uni_is L
  refine Uni.unique (l := L ++ [n]) ?_ (uni_is _)
  unfold wend
  by_cases hn : n ∈ uni L
  · rw [wto_in hn _ (Nat.le_refl _)]
    simp only [if_true, List.take_length]
    refine ⟨hu.1, fun y => ?_⟩
    rw [List.mem_append, hu.2 y]
    constructor
    · exact .inl
    · rintro (h | h)
      · exact h
      · simp at h; subst h; exact (hu.2 _).1 hn
  · obtain ⟨h1, h2, h3⟩ := wto_out hu.1 hn _ (Nat.le_refl _)
    rw [List.take_length] at h2 h3
    cases hb : (wto (uni L) n (uni L).length).1
    · rw [hb] at h2 h3
      simp only [Bool.false_eq_true, if_false]
      refine ⟨?_, fun y => ?_⟩
      · rw [List.pairwise_append]
        refine ⟨h1, by simp, fun a ha b hb' => ?_⟩
        simp at hb'
        subst hb'
        rcases (h2 a).1 ha with h4 | h4
        · by_cases h5 : b < a
          · have := h3.2 ⟨a, h4, h5⟩; cases this
          · have : a ≠ b := fun e => hn (e ▸ h4)
            omega
        · cases h4.1
      · rw [List.mem_append, List.mem_append, h2 y, hu.2 y]
        simp
    · rw [hb] at h2
      simp only [if_true]
      refine ⟨h1, fun y => ?_⟩
      rw [h2 y, List.mem_append, hu.2 y]
      simp
end Qu
set_option maxRecDepth 100000 in
set_option maxHeartbeats 1000000 in
theorem with_any (B : Nat) (A : Option Addr) (c : Nat) (l : List Int) (hl0 : l.length ≤ 10000) (n : Int) (hn0 : InInt n) (w : World) (h0 : IsInts w B A l) (hB : B ≤ w.heap.size) :
    Calls Try.prog 84 #[.slice A l.length c, .int .i64 n] w fun e w' => ∃ A' c', e = .returned (.slice A' (Qu.wend n (Qu.wto l n l.length)).length c') ∧ OwnsI 3 w' w.heap.size A' c' (Qu.wend n (Qu.wto l n l.length)) ∧ Below w.heap.size w w' := by
  obtain ⟨i0, hi, hz0, hz1, hz2⟩ := info_parts I.info_int
  have h := hid h0
  have hn := hid hn0
  have HI := hid (in_any B A c l (by omega) n w h0)
  have hl := hl0
  clear h0 hn0 hl0
  go_enter Try.func84, Try.ntmps84
  go_wp2_with fail
  refine HI.out.mono ?_
  rintro e w1 ⟨rfl, rfl⟩
  go_wp2_with fail
  go_loopw [5, 6, 7] (fun v b i wr => ∃ (k m : Nat) (ld : Bool) (A2 : Option Addr) (c2 : Nat) (out : List Int), k ≤ l.length ∧ v = .slice A2 m c2 ∧ b = .bool ld ∧ i = .int .i64 k ∧ Hid (out.length = m ∧ (ld, out) = Qu.wto l n k ∧ OwnsI 3 wr w1.heap.size A2 c2 out ∧ Below w1.heap.size w1 wr)) (fun _ _ i _ => l.length - (RowKit.intOf i).toNat)
  case atStart => exact ⟨0, 0, decide (n ∈ l), none, 0, [], by omega, rfl, rfl, rfl, hid ⟨rfl, by simp [Qu.wto], OwnsI.nil _ _ _, Below.refl _ _⟩⟩
  case round =>
    obtain ⟨k, m, ld, A2, c2, out, hk, rfl, rfl, rfl, HR⟩ := hrel
    have hlen : m ≤ k + 1 := by
      have h1 := Qu.wto_len l n k hk
      rw [← HR.out.2.1] at h1
      have := HR.out.1
      simp only at h1
      split at h1 <;> omega
    by_cases hlt : k < l.length
    · obtain ⟨b, off, rfl, hb, hcell⟩ := h.out.cells k hlt
      have hck : wr.cell? ⟨b, off + k, none⟩ = some (.int .i64 l[k]) := (HR.out.2.2.2.cell (p := ⟨b, off + k, none⟩) (by show b < _; omega)).trans (hcell k hlt)
      have hxin := h.out.small _ (List.getElem_mem hlt)
      have HX := hid hxin
      have HST := hid (Qu.wto_succ l n k hlt)
      have hblt : b < wr.heap.size := World.block_lt_of_cell? _ _ hck
      clear hcell hxin
      generalize l[k] = x at *
      by_cases hc : ld = false ∧ n < x
      · obtain ⟨rfl, hnx⟩ := hc
        have hown := HR.out.2.2.1
        have hbase := HR.out.2.2.2.size
        have hln := HR.out.1
        have HB := hid (And.intro hck hblt)
        have HN := hid hnx
        go_wp2_with (at_builtin; refine wpList_append_intN rfl _ _ 22 rfl w1.heap.size 3 i0 Try.underlying22 hi hz0 hz1 hz2 A2 c2 out m hln rfl (hown.alloc _) ⟨wr.heap.size, 0, none⟩ 1 n hn.out rfl (by simp) (out ++ [n]) rfl (by omega) (by simp; omega) ?_)
        intro A3 c3 w3 hown3 hbel3
        have hbel3' : Below w1.heap.size w1 w3 := (HR.out.2.2.2.alloc HR.out.2.2.2.size _).trans hbel3
        have hck3 : w3.cell? ⟨b, off + k, none⟩ = some (.int .i64 x) := by
          have h1 := (hbel3'.cell (p := ⟨b, off + k, none⟩) (by show b < w1.heap.size; omega))
          have h2 := (HR.out.2.2.2.cell (p := ⟨b, off + k, none⟩) (by show b < w1.heap.size; omega))
          rw [h1, ← h2]; exact HB.out.1
        have hbase3 := hbel3'.size
        have HB3 := hid hbel3'
        clear hown hbel3 hbase hbel3' hck
        go_wp2_with (at_builtin; refine wpList_append_intN rfl _ _ 22 rfl w1.heap.size 3 i0 Try.underlying22 hi hz0 hz1 hz2 A3 c3 (out ++ [n]) (m + 1) (by rw [List.length_append, hln]; rfl) rfl (hown3.alloc _) ⟨w3.heap.size, 0, none⟩ 1 x HX.out rfl (by simp) (out ++ [n, x]) (by simp) (by omega) (by simp; omega) ?_)
        intro A4 c4 w4 hown4 hbel4
        have H4 := hid (And.intro hown4 ((HB3.out.alloc HB3.out.size _).trans hbel4))
        have HLN := hid hln
        clear hown3 hown4 hbel4 hck3 hln
        go_wp2
        go_roundw
        case rel =>
          refine ⟨k + 1, m + 1 + 1, true, A4, c4, out ++ [n, x], by omega, rfl, rfl, by go_num, hid ⟨by simp [HLN.out], ?_, H4.out.1, H4.out.2⟩⟩
          rw [HST.out, ← HR.out.2.1]
          simp [Qu.wstep, HN.out]
        case measure => simp [RowKit.intOf]; omega
      · have hown := HR.out.2.2.1
        have hbase := HR.out.2.2.2.size
        have hln := HR.out.1
        have HC := hid hc
        have hst : (ld, out ++ [x]) = Qu.wto l n (k + 1) := by
          rw [HST.out, ← HR.out.2.1]
          unfold Qu.wstep
          rw [if_neg hc]
        have HS := hid hst
        clear hst HST
        rcases Bool.eq_false_or_eq_true ld with rfl | rfl
        · clear hc HC
          go_wp2_with (at_builtin; refine wpList_append_intN rfl _ _ 22 rfl w1.heap.size 3 i0 Try.underlying22 hi hz0 hz1 hz2 A2 c2 out m hln rfl (hown.alloc _) ⟨wr.heap.size, 0, none⟩ 1 x HX.out rfl (by simp) (out ++ [x]) rfl (by omega) (by simp; omega) ?_)
          intro A3 c3 w3 hown3 hbel3
          have H4 := hid (And.intro hown3 ((HR.out.2.2.2.alloc HR.out.2.2.2.size _).trans hbel3))
          have HLN := hid hln
          clear hown hown3 hbel3 hck hln
          go_wp2
          go_roundw
          case rel => exact ⟨k + 1, m + 1, true, A3, c3, out ++ [x], by omega, rfl, rfl, by go_num, hid ⟨by simp [HLN.out], HS.out, H4.out.1, H4.out.2⟩⟩
          case measure => simp [RowKit.intOf]; omega
        · have hnx : ¬ n < x := fun e => hc ⟨rfl, e⟩
          clear hc HC
          go_wp2_with (at_builtin; refine wpList_append_intN rfl _ _ 22 rfl w1.heap.size 3 i0 Try.underlying22 hi hz0 hz1 hz2 A2 c2 out m hln rfl (hown.alloc _) ⟨wr.heap.size, 0, none⟩ 1 x HX.out rfl (by simp) (out ++ [x]) rfl (by omega) (by simp; omega) ?_)
          intro A3 c3 w3 hown3 hbel3
          have H4 := hid (And.intro hown3 ((HR.out.2.2.2.alloc HR.out.2.2.2.size _).trans hbel3))
          have HLN := hid hln
          clear hown hown3 hbel3 hck hln
          go_wp2
          go_roundw
          case rel => exact ⟨k + 1, m + 1, false, A3, c3, out ++ [x], by omega, rfl, rfl, by go_num, hid ⟨by simp [HLN.out], HS.out, H4.out.1, H4.out.2⟩⟩
          case measure => simp [RowKit.intOf]; omega
    · obtain rfl : k = l.length := by omega
      have hown := HR.out.2.2.1
      have hbase := HR.out.2.2.2.size
      have hln := HR.out.1
      have HE := hid HR.out.2.1
      rcases Bool.eq_false_or_eq_true ld with rfl | rfl
      · have hw : Qu.wend n (Qu.wto l n l.length) = out := by rw [← HE.out]; rfl
        have HW := hid hw
        clear hw
        have HLN := hid hln
        clear hln
        have HO := hid hown
        clear hown
        go_wp2
        go_ret
        rw [HW.out]
        exact ⟨A2, c2, ret_len HLN.out.symm, HO.out, HR.out.2.2.2⟩
      · have hw : Qu.wend n (Qu.wto l n l.length) = out ++ [n] := by rw [← HE.out]; rfl
        have HW := hid hw
        clear hw
        go_wp2_with (at_builtin; refine wpList_append_intN rfl _ _ 22 rfl w1.heap.size 3 i0 Try.underlying22 hi hz0 hz1 hz2 A2 c2 out m hln rfl (hown.alloc _) ⟨wr.heap.size, 0, none⟩ 1 n hn.out rfl (by simp) (out ++ [n]) rfl (by omega) (by simp; omega) ?_)
        intro A3 c3 w3 hown3 hbel3
        have H4 := hid (And.intro hown3 ((HR.out.2.2.2.alloc HR.out.2.2.2.size _).trans hbel3))
        have HLN := hid hln
        clear hown hown3 hbel3 hln
        go_wp2
        go_ret
        rw [HW.out]
        exact ⟨A3, c3, ret_len (by simp [HLN.out]), H4.out.1, H4.out.2⟩
end Go.Proofs.Ytkmbkihfdilmbaa
namespace Go.Proofs.Ytkmbkihfdilmbaa
open Go.RowKit
theorem withU_any (B : Nat) (A : Option Addr) (c m : Nat) (L : List Int) (hm : (Qu.uni L).length = m) (hl : L.length ≤ 5000) (n : Int) (hn : InInt n) (w : World) (h : IsInts w B A (Qu.uni L)) (hB : B ≤ w.heap.size) :
    Calls Try.prog 84 #[.slice A m c, .int .i64 n] w fun e w' => ∃ A' c' m', e = .returned (.slice A' m' c') ∧ Hid ((Qu.uni (L ++ [n])).length = m' ∧ IsInts w' w'.heap.size A' (Qu.uni (L ++ [n])) ∧ Below w.heap.size w w') := by
  subst hm
  have hle := (Qu.uni_is L).length_le
  have := with_any B A c (Qu.uni L) (by omega) n hn w h hB
  rw [Qu.with_is] at this
  refine this.mono ?_
  rintro e w' ⟨A', c', rfl, ho, hb⟩
  exact ⟨A', c', _, rfl, hid ⟨rfl, ho.reads, hb⟩⟩
set_option maxRecDepth 100000 in
set_option maxHeartbeats 1000000 in
theorem all_any (B B' : Nat) (A A' : Option Addr) (c c' m : Nat) (L l : List Int) (hL : L.length ≤ 2000) (hl : l.length ≤ 2000) (w : World) (h0 : IsInts w B A (Qu.uni L)) (hm0 : (Qu.uni L).length = m) (h0' : IsInts w B' A' l) (hB : B ≤ w.heap.size) (hB' : B' ≤ w.heap.size) :
    Calls Try.prog 75 #[.slice A m c, .slice A' l.length c'] w fun e w' => ∃ A' c' m', e = .returned (.slice A' m' c') ∧ Hid ((Qu.uni (L ++ l)).length = m' ∧ IsInts w' w'.heap.size A' (Qu.uni (L ++ l)) ∧ Below w.heap.size w w') := by
  have h := hid h0
  have h' := hid h0'
  have hm := hid hm0
  clear h0 h0' hm0
  go_enter Try.func75, Try.ntmps75
  go_wp2_with fail
  go_loopw [0, 5] (fun v i wr => ∃ (k m2 : Nat) (A2 : Option Addr) (c2 : Nat), k ≤ l.length ∧ v = .slice A2 m2 c2 ∧ i = .int .i64 k ∧ Hid ((Qu.uni (L ++ l.take k)).length = m2 ∧ IsInts wr wr.heap.size A2 (Qu.uni (L ++ l.take k)) ∧ Below w.heap.size w wr)) (fun _ i _ => l.length - (RowKit.intOf i).toNat)
  case atStart => exact ⟨0, m, A, c, by omega, rfl, rfl, hid ⟨by simpa using hm.out, by simpa using h.out.more hB, Below.refl _ _⟩⟩
  case round =>
    obtain ⟨k, m2, A2, c2, hk, rfl, rfl, HR⟩ := hrel
    by_cases hlt : k < l.length
    · obtain ⟨b, off, rfl, hb, hcell⟩ := h'.out.cells k hlt
      have hck : wr.cell? ⟨b, off + k, none⟩ = some (.int .i64 l[k]) := (HR.out.2.2.cell (p := ⟨b, off + k, none⟩) (by show b < _; omega)).trans (hcell k hlt)
      have HC := withU_any wr.heap.size A2 c2 m2 (L ++ l.take k) HR.out.1 (by rw [List.length_append, List.length_take]; omega) l[k] (h'.out.small _ (List.getElem_mem hlt)) wr HR.out.2.1 (Nat.le_refl _)
      rw [List.append_assoc, ← List.take_succ_eq_append_getElem hlt] at HC
      have HCC := hid HC
      clear HC hcell
      go_wp2_with fail
      refine HCC.out.mono ?_
      rintro e w1 ⟨A3, c3, m3, rfl, H3⟩
      clear HCC
      go_wp2
      go_roundw
      case rel => exact ⟨k + 1, m3, A3, c3, by omega, rfl, by go_num, hid ⟨H3.out.1, H3.out.2.1, bthen HR.out.2.2 H3.out.2.2 HR.out.2.2.size⟩⟩
      case measure => simp [RowKit.intOf]; omega
    · obtain rfl : k = l.length := by omega
      have H1 := HR.out
      rw [List.take_length] at H1
      have H2 := hid H1
      clear H1 HR
      go_wp2
      go_ret
      exact ⟨A2, c2, m2, rfl, H2⟩
set_option maxRecDepth 100000 in
set_option maxHeartbeats 1000000 in
theorem refVoters_any (B : Nat) (c : Qu.Cf) (hs : c.old.length ≤ 2000 ∧ c.new.length ≤ 2000 ∧ True) (a0 a1 a2 : Option Addr) (k0 k1 k2 : Nat) (w : World) (h : CIs w B c a0 a1 a2 k0 k1 k2) (hB : B ≤ w.heap.size) :
    Calls Try.prog 64 #[.agg #[.slice a0 c.old.length k0, .slice a1 c.new.length k1, .slice a2 c.lrn.length k2]] w fun e w' => ∃ A' c' m', e = .returned (.slice A' m' c') ∧ Hid ((Qu.uni (c.old ++ c.new)).length = m' ∧ IsInts w' w'.heap.size A' (Qu.uni (c.old ++ c.new)) ∧ Below w.heap.size w w') := by
  obtain ⟨wb, hwb⟩ : ∃ wb, wb = w.alloc (.cells #[.slice a0 c.old.length k0, .slice a1 c.new.length k1, .slice a2 c.lrn.length k2] 37) := ⟨_, rfl⟩
  have hbel : Below w.heap.size w wb := by rw [hwb]; exact (Below.refl _ _).alloc (Nat.le_refl _) _
  have hsz : wb.heap.size = w.heap.size + 1 := by rw [hwb]; simp
  have hrow : wb.heap[w.heap.size]? = some (.cells #[.slice a0 c.old.length k0, .slice a1 c.new.length k1, .slice a2 c.lrn.length k2] 37 (0, 0)) := by rw [hwb]; exact heap_alloc_new w _
  have c0 : wb.cell? ⟨w.heap.size, 0, none⟩ = some (.slice a0 c.old.length k0) := cell_of_row wb w.heap.size 0 _ _ _ hrow
  have c1 : wb.cell? ⟨w.heap.size, 1, none⟩ = some (.slice a1 c.new.length k1) := cell_of_row wb w.heap.size 1 _ _ _ hrow
  have c0d : wb.drew.cell? ⟨w.heap.size, 0, none⟩ = some (.slice a0 c.old.length k0) := c0
  have c1d : wb.drew.cell? ⟨w.heap.size, 1, none⟩ = some (.slice a1 c.new.length k1) := c1
  have hI := h.below (hbel.mono hB)
  have HB := hid hbel
  have HI := hid hI
  have HF := hid (And.intro hB hsz)
  have H1 := hid (all_any 0 B none a0 0 k0 0 [] c.old (by simp) (by have := hs.1; omega) wb.drew IsInts.nil rfl (hI.o.drew) (Nat.zero_le _) (by show B ≤ wb.heap.size; omega))
  have HX : Hid (∀ w3 A cp m, Hid ((Qu.uni ([] ++ c.old)).length = m ∧ IsInts w3 w3.heap.size A (Qu.uni ([] ++ c.old)) ∧ Below wb.drew.heap.size wb.drew w3) → Hid (w3.cell? ⟨w.heap.size, 0, none⟩ = some (.slice a0 c.old.length k0) ∧ w3.cell? ⟨w.heap.size, 1, none⟩ = some (.slice a1 c.new.length k1)) ∧
      Hid (Calls Try.prog 75 #[.slice A m cp, .slice a1 c.new.length k1] w3 fun e w' => ∃ A' c' m', e = .returned (.slice A' m' c') ∧ Hid (w'.cell? ⟨w.heap.size, 0, none⟩ = some (.slice a0 c.old.length k0) ∧ w'.cell? ⟨w.heap.size, 1, none⟩ = some (.slice a1 c.new.length k1)) ∧ Hid ((Qu.uni (c.old ++ c.new)).length = m' ∧ IsInts w' w'.heap.size A' (Qu.uni (c.old ++ c.new)) ∧ Below w.heap.size w w'))) := hid fun w3 A cp m h3 => by
    obtain ⟨h31, h32, h33⟩ := h3.out
    rw [List.nil_append] at h31 h32
    have h1 := HF.out.1
    have h2 := HF.out.2
    have h4 : wb.drew.heap.size = wb.heap.size := rfl
    have h5 := h33.size
    have hK : w3.cell? ⟨w.heap.size, 0, none⟩ = some (.slice a0 c.old.length k0) ∧ w3.cell? ⟨w.heap.size, 1, none⟩ = some (.slice a1 c.new.length k1) :=
      ⟨(h33.cell (p := ⟨w.heap.size, 0, none⟩) (by show w.heap.size < _; omega)).trans c0d, (h33.cell (p := ⟨w.heap.size, 1, none⟩) (by show w.heap.size < _; omega)).trans c1d⟩
    refine ⟨hid hK, hid ((all_any w3.heap.size B A a1 cp k1 m c.old c.new (by have := hs.1; omega) (by have := hs.2.1; omega) w3 h32 h31 (HI.out.n.drew.below (h33.mono (by omega))) (Nat.le_refl _) (by omega)).mono ?_)⟩
    rintro e w4 ⟨A4, c4, m4, he, h6⟩
    refine ⟨A4, c4, m4, he, hid ⟨(h6.out.2.2.cell (World.block_lt_of_cell? _ _ hK.1)).trans hK.1, (h6.out.2.2.cell (World.block_lt_of_cell? _ _ hK.2)).trans hK.2⟩, hid ⟨h6.out.1, h6.out.2.1, bthen (bthen (Below.drew HB.out) h33 (by omega)) h6.out.2.2 (by omega)⟩⟩
  clear hbel hI h hsz hrow hB
  go_enter Try.func64, Try.ntmps64
  go_wp2_with fail
  rw [← hwb]; clear hwb
  go_region_held3 (fun w' => w'.cell? ⟨w.heap.size, 0, none⟩ = some (.slice a0 c.old.length k0) ∧ w'.cell? ⟨w.heap.size, 1, none⟩ = some (.slice a1 c.new.length k1))
    (first | exact ⟨c0d, c1d⟩ | exact ⟨HK4.out.1, HK4.out.2⟩ | exact ⟨HK3.out.1, HK3.out.2⟩ | fail)
    (first
      | (go_at_call 75; refine HO3.out.mono ?_; rintro e4 w4 ⟨A4, p4, m4, rfl, HK4, HR⟩)
      | (go_at_call 75; refine H1.out.mono ?_; rintro e3 w3 ⟨A3, p3, m3, rfl, H3⟩; obtain ⟨HK3, HO3⟩ := HX.out w3 A3 p3 m3 H3))
  go_wp2
  go_ret
  exact ⟨A4, p4, m4, rfl, HR⟩
end Go.Proofs.Ytkmbkihfdilmbaa
namespace Go.Proofs.Ytkmbkihfdilmbaa.Vo
open Go Go.RowKit
open Rl (En Lg)
set_option maxRecDepth 100000
set_option linter.unusedVariables false
def askC (id group term index prev : Int) (n : Int) : List Value := [.int .i64 1, .int .i64 id, .int .i64 n, .int .i64 group, .int .i64 term, .int .i64 index, .int .i64 prev, .int .i64 0, .int .i64 0, .int .i64 0, .int .i64 0, .int .i64 0, .int .i64 0, .int .i64 0, .bool false, .slice none 0 0, .slice none 0 0]
theorem askC_len (id group term index prev n : Int) : (askC id group term index prev n).length = 17 := rfl
theorem askC_one (id group term index prev n : Int) : ∀ u ∈ askC id group term index prev n, u.oneCell' = true := by
  intro u hu
  simp [askC] at hu
  rcases hu with rfl | rfl | rfl | rfl | rfl | rfl | rfl | rfl | rfl | rfl <;> rfl
theorem info_msg : (Try.prog.info? 31).map (fun i => (i.zero, i.size, i.bytes)) = some (some (.agg #[.int .i64 0, .int .i64 0, .int .i64 0, .int .i64 0, .int .i64 0, .int .i64 0, .int .i64 0, .int .i64 0, .int .i64 0, .int .i64 0, .int .i64 0, .int .i64 0, .int .i64 0, .int .i64 0, .bool false, .slice none 0 0, .slice none 0 0]), 17, 168) := by kernel_rfl
def others (id : Int) (c : Qu.Cf) : List Int := (Qu.uni (c.old ++ c.new)).filter (fun n => !decide (n = id))
set_option maxHeartbeats 6400000 in
theorem asks_any (id group term : Int) (g : Lg) (Ag : Option Addr) (cg : Nat) (c : Qu.Cf) (a0 a1 a2 : Option Addr) (k0 k1 k2 : Nat) (hg : Rl.Ok g) (hs : c.old.length ≤ 300 ∧ c.new.length ≤ 300 ∧ c.lrn.length ≤ 300) (w : World) (h : LgIs w w.heap.size g Ag cg) (hc : CIs w w.heap.size c a0 a1 a2 k0 k1 k2) :
    Calls Try.prog 40 #[.int .i64 id, .int .i64 group, .int .i64 term, .agg #[.int .i64 g.base, .int .i64 g.term, .slice Ag g.es.length cg], .agg #[.slice a0 c.old.length k0, .slice a1 c.new.length k1, .slice a2 c.lrn.length k2]] w fun e w' => ∃ A' c' n', e = .returned (.slice A' n' c') ∧ n' = (others id c).length ∧ RowIn (askC id group term g.last g.lastT) 17 31 w' (fun k => w.heap.size ≤ k) A' c' (others id c) ∧ Below w.heap.size w w' := by
  obtain ⟨i0, hi, hz0, hz1, hz2⟩ := info_parts info_msg
  obtain ⟨hb, hz⟩ := boxes w #[.int .i64 g.base, .int .i64 g.term, .slice Ag g.es.length cg] #[.slice a0 c.old.length k0, .slice a1 c.new.length k1, .slice a2 c.lrn.length k2] 25 37
  have HL := hid (last_any w.heap.size g Ag cg hg _ (h.below hb) hb.size)
  have HB := hid hb
  have HC := hid hc
  have HS := hid hs
  have CI : Hid (∀ w3, Below ((w.alloc (.cells #[.int .i64 g.base, .int .i64 g.term, .slice Ag g.es.length cg] 25)).alloc (.cells #[.slice a0 c.old.length k0, .slice a1 c.new.length k1, .slice a2 c.lrn.length k2] 37)).heap.size ((w.alloc (.cells #[.int .i64 g.base, .int .i64 g.term, .slice Ag g.es.length cg] 25)).alloc (.cells #[.slice a0 c.old.length k0, .slice a1 c.new.length k1, .slice a2 c.lrn.length k2] 37)) w3 → w3.cell? ⟨w.heap.size + 1, 0, none⟩ = some (.slice a0 c.old.length k0) ∧ w3.cell? ⟨w.heap.size + 1, 1, none⟩ = some (.slice a1 c.new.length k1) ∧ w3.cell? ⟨w.heap.size + 1, 2, none⟩ = some (.slice a2 c.lrn.length k2)) := hid (fun w3 hb3 => by
    have q := heap_alloc_new (w.alloc (.cells #[.int .i64 g.base, .int .i64 g.term, .slice Ag g.es.length cg] 25)) (.cells #[.slice a0 c.old.length k0, .slice a1 c.new.length k1, .slice a2 c.lrn.length k2] 37)
    rw [World.size_alloc] at q
    have q2 := (hb3.block _ (by omega)).trans q
    exact ⟨cell_of_row _ _ 0 _ _ _ q2, cell_of_row _ _ 1 _ _ _ q2, cell_of_row _ _ 2 _ _ _ q2⟩)
  obtain ⟨la, hla⟩ : ∃ la, g.last = la := ⟨_, rfl⟩
  obtain ⟨lt, hlt⟩ : ∃ lt, g.lastT = lt := ⟨_, rfl⟩
  rw [hla, hlt] at HL
  rw [hla, hlt]
  clear h hb hz hc hs hla hlt
  go_enter Try.func40, Try.ntmps40
  go_wp2_with fail
  go_step3
  go_wp2_with fail
  refine HL.out.mono ?_
  rintro e w3 ⟨rfl, hb3⟩
  have HB3 := hid (HB.out.trans (hb3.mono HB.out.size))
  obtain ⟨d0, d1, d2⟩ := CI.out w3 hb3
  have HV := hid (voters_any w3.heap.size c ⟨by have := HS.out.1; omega, by have := HS.out.2.1; omega, by have := HS.out.2.2; omega⟩ a0 a1 a2 k0 k1 k2 w3 ((HC.out.below HB3.out).more HB3.out.size) (Nat.le_refl _))
  clear hb3 CI HL
  go_wp2_with fail
  go_step3
  go_wp2_with fail
  refine HV.out.mono ?_
  rintro e w4 ⟨A4, c4, rfl, ho4, hb4⟩
  obtain ⟨U, hU⟩ : ∃ U, U = Qu.uni (c.old ++ c.new) := ⟨_, rfl⟩
  rw [← hU] at ho4
  rw [← hU]
  have HU : Hid (others id c = U.filter (fun n => !decide (n = id))) := hid (by unfold others; rw [hU])
  have hlen : U.length ≤ 600 := by rw [hU]; have := (Qu.uni_is (c.old ++ c.new)).length_le; rw [List.length_append] at this; have := HS.out; omega
  have HI := hid ho4.reads
  have HB4 := hid (HB3.out.trans (hb4.mono HB3.out.size))
  clear hb4 ho4 hU HV d0 d1 d2
  go_wp2_with fail
  go_loopw [24, 13] (fun iv av wr => ∃ (k : Nat) (A1 : Option Addr) (c1 n : Nat), k ≤ U.length ∧ iv = .int .i64 (k : Int) ∧ av = .slice A1 n c1 ∧ Hid (Below w4.heap.size w4 wr ∧ RowIn (askC id group term la lt) 17 31 wr (fun k => w4.heap.size ≤ k) A1 c1 ((U.take k).filter (fun n => !decide (n = id))) ∧ ((U.take k).filter (fun n => !decide (n = id))).length = n ∧ n ≤ k)) (fun iv _ _ => U.length - (RowKit.intOf iv).toNat)
  case atStart => exact ⟨0, none, 0, 0, Nat.zero_le _, rfl, rfl, hid ⟨Below.refl _ _, RowIn.nil (askC_len _ _ _ _ _) _ _ _, rfl, Nat.le_refl _⟩⟩
  case round =>
    obtain ⟨k, A1, c1, n, hk, rfl, rfl, HR⟩ := hrel
    by_cases hlt : k < U.length
    · have hlt0 : (k : Int) < (U.length : Int) := by omega
      obtain ⟨b, off, hA, hbl, hcell⟩ := HI.out.cells k hlt
      have hck : wr.cell? ⟨b, off + k, none⟩ = some (.int .i64 U[k]) := (HR.out.1.cell (p := ⟨b, off + k, none⟩) hbl).trans (hcell k hlt)
      have hth : U.take (k + 1) = U.take k ++ [U[k]] := List.take_succ_eq_append_getElem hlt
      obtain ⟨x, hx⟩ : ∃ x, x = U[k] := ⟨_, rfl⟩
      rw [← hx] at hck hth
      have HT := hid hth
      have HBK := hid HR.out.2.2.2
      clear hcell hx hth
      subst hA
      by_cases hxi : x = id
      · have bx : (x == id) = true := by simpa using hxi
        have HF : Hid (Below w4.heap.size w4 wr ∧ RowIn (askC id group term la lt) 17 31 wr (fun k => w4.heap.size ≤ k) A1 c1 ((U.take (k + 1)).filter (fun n => !decide (n = id))) ∧ ((U.take (k + 1)).filter (fun n => !decide (n = id))).length = n ∧ n ≤ k + 1) := hid (by
          rw [HT.out, List.filter_append, List.filter_cons_of_neg (by simp [hxi]), List.filter_nil, List.append_nil]
          exact ⟨HR.out.1, HR.out.2.1, HR.out.2.2.1, by have := HBK.out; omega⟩)
        clear hxi HR
        go_wp2_with fail
        go_roundw
        case rel => exact ⟨k + 1, A1, c1, n, by omega, by go_num, rfl, HF⟩
        case measure => simp [RowKit.intOf]; omega
      · have bx : (x == id) = false := by simpa using hxi
        have hrow5 := HR.out.2.1.below ((Below.refl wr.heap.size wr).alloc (Nat.le_refl _) (.cells (askC id group term la lt x).toArray 31))
        have hcells : ∀ j, j < 17 → (wr.alloc (.cells (askC id group term la lt x).toArray 31)).cell? ((⟨wr.heap.size, 0, none⟩ : Addr).add j) = (askC id group term la lt x)[j]? := fun j hj => by
          rw [add_off, Nat.zero_add, cell_of_row _ _ _ _ _ _ (heap_alloc_new wr _)]
          simp [askC]
        have hn6 : n ≤ 700 := by have := HBK.out; omega
        have HLN := hid HR.out.2.2.1
        have HXI := hid hxi
        have hln := HLN.out
        clear hxi
        go_wp2_with (at_builtin; refine wpList_append_row rfl _ _ 58 rfl i0 _ Try.underlying58 hi hz0 hz1 hz2 rfl (by decide) hrow5 n hln rfl x ⟨wr.heap.size, 0, none⟩ 1 rfl hcells (askC_one _ _ _ _ _ _) (by omega) (by omega) ?_)
        intro A6 c6 w6 hrow6 hg6 _
        have HF : Hid (Below w4.heap.size w4 w6 ∧ RowIn (askC id group term la lt) 17 31 w6 (fun k => w4.heap.size ≤ k) A6 c6 ((U.take (k + 1)).filter (fun n => !decide (n = id))) ∧ ((U.take (k + 1)).filter (fun n => !decide (n = id))).length = n + 1 ∧ n + 1 ≤ k + 1) := hid (by
          have h1 := HR.out.1
          have hb5 : Below wr.heap.size wr (wr.alloc (.cells (askC id group term la lt x).toArray 31)) := (Below.refl _ wr).alloc (Nat.le_refl _) _
          have hz5 := hb5.size
          have hz1' := h1.size
          rw [HT.out, List.filter_append, List.filter_cons_of_pos (by simp [HXI.out]), List.filter_nil]
          exact ⟨h1.trans ((hb5.mono h1.size).trans (below_grown hg6 (by omega) (fun k hk => HR.out.2.1.blk k hk))), hrow6.mono (fun k hk => (hrow6.blk k hk).elim (fun h => h) (fun h => by omega)), by rw [List.length_append, HLN.out]; rfl, by have := HBK.out; omega⟩)
        clear hrow5 hcells hrow6 hg6 HR hln
        go_wp2_with fail
        go_roundw
        case rel => exact ⟨k + 1, A6, c6, n + 1, by omega, by go_num, rfl, HF⟩
        case measure => simp [RowKit.intOf]; omega
    · obtain rfl : k = U.length := by omega
      have HF : Hid (n = (others id c).length ∧ RowIn (askC id group term la lt) 17 31 wr (fun k => w.heap.size ≤ k) A1 c1 (others id c) ∧ Below w.heap.size w wr) := hid (by
        have h := HR.out
        rw [List.take_length] at h
        rw [HU.out]
        exact ⟨h.2.2.1.symm, h.2.1.mono (fun k hk => Nat.le_trans HB4.out.size (h.2.1.blk k hk)), HB4.out.trans (h.1.mono HB4.out.size)⟩)
      clear HR hlt
      go_wp2_with fail
      try rw [Exit.noGoto_ret]
      go_ret
      exact ⟨A1, c1, n, rfl, HF.out⟩
end Go.Proofs.Ytkmbkihfdilmbaa.Vo
namespace Go.Proofs.Ytkmbkihfdilmbaa.Vo
open Go Go.RowKit
open Rl (En Lg)
set_option maxRecDepth 100000
set_option linter.unusedVariables false
set_option maxHeartbeats 6400000 in
theorem refAsks_any (id group term : Int) (g : Lg) (Ag : Option Addr) (cg : Nat) (c : Qu.Cf) (a0 a1 a2 : Option Addr) (k0 k1 k2 : Nat) (hg : Rl.Ok g) (hs : c.old.length ≤ 300 ∧ c.new.length ≤ 300 ∧ c.lrn.length ≤ 300) (w : World) (h : LgIs w w.heap.size g Ag cg) (hc : CIs w w.heap.size c a0 a1 a2 k0 k1 k2) :
    Calls Try.prog 41 #[.int .i64 id, .int .i64 group, .int .i64 term, .agg #[.int .i64 g.base, .int .i64 g.term, .slice Ag g.es.length cg], .agg #[.slice a0 c.old.length k0, .slice a1 c.new.length k1, .slice a2 c.lrn.length k2]] w fun e w' => ∃ A' c' n', e = .returned (.slice A' n' c') ∧ n' = (others id c).length ∧ RowIn (askC id group term g.last g.lastT) 17 31 w' (fun k => w.heap.size ≤ k) A' c' (others id c) ∧ Below w.heap.size w w' := by
  obtain ⟨i0, hi, hz0, hz1, hz2⟩ := info_parts info_msg
  obtain ⟨hb, hz⟩ := boxes w #[.int .i64 g.base, .int .i64 g.term, .slice Ag g.es.length cg] #[.slice a0 c.old.length k0, .slice a1 c.new.length k1, .slice a2 c.lrn.length k2] 25 37
  have HB := hid hb
  have HC := hid hc
  have HS := hid hs
  have LI : Hid (∀ w3, Below ((w.alloc (.cells #[.int .i64 g.base, .int .i64 g.term, .slice Ag g.es.length cg] 25)).alloc (.cells #[.slice a0 c.old.length k0, .slice a1 c.new.length k1, .slice a2 c.lrn.length k2] 37)).heap.size ((w.alloc (.cells #[.int .i64 g.base, .int .i64 g.term, .slice Ag g.es.length cg] 25)).alloc (.cells #[.slice a0 c.old.length k0, .slice a1 c.new.length k1, .slice a2 c.lrn.length k2] 37)) w3 → w3.cell? ⟨w.heap.size, 0, none⟩ = some (.int .i64 g.base) ∧ w3.cell? ⟨w.heap.size, 1, none⟩ = some (.int .i64 g.term) ∧ w3.cell? ⟨w.heap.size, 2, none⟩ = some (.slice Ag g.es.length cg)) := hid (fun w3 hb3 => by
    have q : ((w.alloc (.cells #[.int .i64 g.base, .int .i64 g.term, .slice Ag g.es.length cg] 25)).alloc (.cells #[.slice a0 c.old.length k0, .slice a1 c.new.length k1, .slice a2 c.lrn.length k2] 37)).heap[w.heap.size]? = some (.cells #[.int .i64 g.base, .int .i64 g.term, .slice Ag g.es.length cg] 25 (0, 0)) := by rw [heap_alloc_old _ _ (by simp)]; exact heap_alloc_new w _
    have q2 := (hb3.block _ (by omega)).trans q
    exact ⟨cell_of_row _ _ 0 _ _ _ q2, cell_of_row _ _ 1 _ _ _ q2, cell_of_row _ _ 2 _ _ _ q2⟩)
  obtain ⟨la, hla⟩ : ∃ la, g.last = la := ⟨_, rfl⟩
  obtain ⟨lt, hlt⟩ : ∃ lt, g.lastT = lt := ⟨_, rfl⟩
  rw [hla, hlt]
  clear hb hz hc hs
  go_enter Try.func41, Try.ntmps41
  have HV := hid (refVoters_any w.heap.size c ⟨by have := HS.out.1; omega, by have := HS.out.2.1; omega, trivial⟩ a0 a1 a2 k0 k1 k2 _ (HC.out.below HB.out) HB.out.size)
  go_wp2_with fail
  refine HV.out.mono ?_
  rintro e w4 ⟨A4, c4, m4, rfl, ho4⟩
  obtain ⟨U, hU⟩ : ∃ U, U = Qu.uni (c.old ++ c.new) := ⟨_, rfl⟩
  rw [← hU] at ho4
  obtain ⟨hm4, hi4, hb4⟩ := ho4.out
  have HU : Hid (others id c = U.filter (fun n => !decide (n = id))) := hid (by unfold others; rw [hU])
  have hlen : U.length ≤ 600 := by rw [hU]; have := (Qu.uni_is (c.old ++ c.new)).length_le; rw [List.length_append] at this; have := HS.out; omega
  subst hm4
  have HI := hid hi4
  have HB4 := hid (HB.out.trans (hb4.mono HB.out.size))
  have e0 := (LI.out w4 hb4).1
  have e1 := (LI.out w4 hb4).2.1
  have e2 := (LI.out w4 hb4).2.2
  have HL := hid (refLast_any w.heap.size g Ag cg hg w4 (h.below HB4.out) HB4.out.size)
  rw [hla, hlt] at HL
  clear hb4 hi4 ho4 hU HV h hla hlt
  go_wp2_with fail
  refine HL.out.mono ?_
  rintro e v4 ⟨rfl, hb5⟩
  have HB5 := hid hb5
  clear hb5 e0 e1 e2 HL
  go_wp2_with fail
  go_loopw [15, 11] (fun iv av wr => ∃ (k : Nat) (A1 : Option Addr) (c1 n : Nat), k ≤ U.length ∧ iv = .int .i64 (k : Int) ∧ av = .slice A1 n c1 ∧ Hid (Below v4.heap.size v4 wr ∧ RowIn (askC id group term la lt) 17 31 wr (fun k => v4.heap.size ≤ k) A1 c1 ((U.take k).filter (fun n => !decide (n = id))) ∧ ((U.take k).filter (fun n => !decide (n = id))).length = n ∧ n ≤ k)) (fun iv _ _ => U.length - (RowKit.intOf iv).toNat)
  case atStart => exact ⟨0, none, 0, 0, Nat.zero_le _, rfl, rfl, hid ⟨Below.refl _ _, RowIn.nil (askC_len _ _ _ _ _) _ _ _, rfl, Nat.le_refl _⟩⟩
  case round =>
    obtain ⟨k, A1, c1, n, hk, rfl, rfl, HR⟩ := hrel
    by_cases hlt : k < U.length
    · have hlt0 : (k : Int) < (U.length : Int) := by omega
      obtain ⟨b, off, hA, hbl, hcell⟩ := HI.out.cells k hlt
      have hck : wr.cell? ⟨b, off + k, none⟩ = some (.int .i64 U[k]) := (HR.out.1.cell (p := ⟨b, off + k, none⟩) (Nat.lt_of_lt_of_le hbl HB5.out.size)).trans ((HB5.out.cell (p := ⟨b, off + k, none⟩) hbl).trans (hcell k hlt))
      have hth : U.take (k + 1) = U.take k ++ [U[k]] := List.take_succ_eq_append_getElem hlt
      obtain ⟨x, hx⟩ : ∃ x, x = U[k] := ⟨_, rfl⟩
      rw [← hx] at hck hth
      have HT := hid hth
      have HBK := hid HR.out.2.2.2
      clear hcell hx hth
      subst hA
      by_cases hxi : x = id
      · have bx : (x != id) = false := by simpa using hxi
        have HF : Hid (Below v4.heap.size v4 wr ∧ RowIn (askC id group term la lt) 17 31 wr (fun k => v4.heap.size ≤ k) A1 c1 ((U.take (k + 1)).filter (fun n => !decide (n = id))) ∧ ((U.take (k + 1)).filter (fun n => !decide (n = id))).length = n ∧ n ≤ k + 1) := hid (by
          rw [HT.out, List.filter_append, List.filter_cons_of_neg (by simp [hxi]), List.filter_nil, List.append_nil]
          exact ⟨HR.out.1, HR.out.2.1, HR.out.2.2.1, by have := HBK.out; omega⟩)
        clear hxi HR
        go_wp2_with fail
        go_roundw
        case rel => exact ⟨k + 1, A1, c1, n, by omega, by go_num, rfl, HF⟩
        case measure => simp [RowKit.intOf]; omega
      · have bx : (x != id) = true := by simpa using hxi
        have hrow5 := HR.out.2.1.below ((Below.refl wr.heap.size wr).alloc (Nat.le_refl _) (.cells (askC id group term la lt x).toArray 31))
        have hcells : ∀ j, j < 17 → (wr.alloc (.cells (askC id group term la lt x).toArray 31)).cell? ((⟨wr.heap.size, 0, none⟩ : Addr).add j) = (askC id group term la lt x)[j]? := fun j hj => by
          rw [add_off, Nat.zero_add, cell_of_row _ _ _ _ _ _ (heap_alloc_new wr _)]
          simp [askC]
        have hn6 : n ≤ 700 := by have := HBK.out; omega
        have HLN := hid HR.out.2.2.1
        have HXI := hid hxi
        have hln := HLN.out
        clear hxi
        go_wp2_with (at_builtin; refine wpList_append_row rfl _ _ 58 rfl i0 _ Try.underlying58 hi hz0 hz1 hz2 rfl (by decide) hrow5 n hln rfl x ⟨wr.heap.size, 0, none⟩ 1 rfl hcells (askC_one _ _ _ _ _ _) (by omega) (by omega) ?_)
        intro A6 c6 w6 hrow6 hg6 _
        have HF : Hid (Below v4.heap.size v4 w6 ∧ RowIn (askC id group term la lt) 17 31 w6 (fun k => v4.heap.size ≤ k) A6 c6 ((U.take (k + 1)).filter (fun n => !decide (n = id))) ∧ ((U.take (k + 1)).filter (fun n => !decide (n = id))).length = n + 1 ∧ n + 1 ≤ k + 1) := hid (by
          have h1 := HR.out.1
          have hb5 : Below wr.heap.size wr (wr.alloc (.cells (askC id group term la lt x).toArray 31)) := (Below.refl _ wr).alloc (Nat.le_refl _) _
          have hz5 := hb5.size
          have hz1' := h1.size
          rw [HT.out, List.filter_append, List.filter_cons_of_pos (by simp [HXI.out]), List.filter_nil]
          exact ⟨h1.trans ((hb5.mono h1.size).trans (below_grown hg6 (by omega) (fun k hk => HR.out.2.1.blk k hk))), hrow6.mono (fun k hk => (hrow6.blk k hk).elim (fun h => h) (fun h => by omega)), by rw [List.length_append, HLN.out]; rfl, by have := HBK.out; omega⟩)
        clear hrow5 hcells hrow6 hg6 HR hln
        go_wp2_with fail
        go_roundw
        case rel => exact ⟨k + 1, A6, c6, n + 1, by omega, by go_num, rfl, HF⟩
        case measure => simp [RowKit.intOf]; omega
    · obtain rfl : k = U.length := by omega
      have HF : Hid (n = (others id c).length ∧ RowIn (askC id group term la lt) 17 31 wr (fun k => w.heap.size ≤ k) A1 c1 (others id c) ∧ Below w.heap.size w wr) := hid (by
        have h := HR.out
        rw [List.take_length] at h
        rw [HU.out]
        exact ⟨h.2.2.1.symm, h.2.1.mono (fun k hk => Nat.le_trans (Nat.le_trans HB4.out.size HB5.out.size) (h.2.1.blk k hk)), HB4.out.trans ((HB5.out.trans (h.1.mono HB5.out.size)).mono HB4.out.size)⟩)
      clear HR hlt
      go_wp2_with fail
      go_ret
      exact ⟨A1, c1, n, rfl, HF.out⟩
end Go.Proofs.Ytkmbkihfdilmbaa.Vo
namespace Go.Proofs.Ytkmbkihfdilmbaa.Im
open Rl (En Lg)
open Qu (Cf)
open Pk (St rdInt rdBlob rdInts enc encs)
set_option linter.unusedVariables false
def InI (v : Int) : Prop := -9223372036854775808 ≤ v ∧ v ≤ 9223372036854775807
structure Codec {α : Type} (N : Nat) (one : St → α × St) (en : α → List Nat) (ok : α → Prop) : Prop where
  back : ∀ x t, ok x → one ⟨en x ++ t, false⟩ = (x, ⟨t, false⟩)
  cut : ∀ x n, ok x → n < (en x).length → (one ⟨(en x).take n, false⟩).2 = Pk.gone
  gone : (one Pk.gone).2 = Pk.gone
  only : ∀ s, s.small → (one s).2.bad = false → s.rest = en (one s).1 ++ (one s).2.rest ∧ s.bad = false
  small : ∀ s, s.small → (one s).2.small
  sok : ∀ s, s.ok → (one s).2.ok
  short : ∀ s, (one s).2.rest.length ≤ s.rest.length
  good : ∀ s, s.small → s.rest.length ≤ N → ok (one s).1
  tiny : ∀ x, ok x → ∀ y ∈ en x, y < 256
  eight : ∀ x, 8 ≤ (en x).length
def rdP {α β : Type} (f : St → α × St) (g : St → β × St) (s : St) : (α × β) × St := (((f s).1, (g (f s).2).1), (g (f s).2).2)
def rdM {α β : Type} (h : α → β) (f : St → α × St) (s : St) : β × St := (h (f s).1, (f s).2)
def rdN {α : Type} (one : St → α × St) : Nat → St → List α × St
  | 0, s => ([], s)
  | n + 1, s => if s.bad = true then ([], s) else ((one s).1 :: (rdN one n (one s).2).1, (rdN one n (one s).2).2)
def rdL {α : Type} (one : St → α × St) (s : St) : List α × St :=
  if (rdInt s).1 < 0 ∨ (((rdInt s).2.rest.length / 8 : Nat) : Int) < (rdInt s).1 then ([], Pk.gone) else rdN one (rdInt s).1.toNat (rdInt s).2
def encL {α : Type} (one : α → List Nat) (l : List α) : List Nat := enc l.length ++ l.flatMap one
def encB (d : List Nat) : List Nat := enc d.length ++ d
def encI (l : List Int) : List Nat := enc l.length ++ encs l
theorem take_app (a b : List Nat) (n : Nat) (h : a.length ≤ n) : (a ++ b).take n = a ++ b.take (n - a.length) := by
  rw [List.take_append, List.take_of_length_le h]
theorem take_app_lt (a b : List Nat) (n : Nat) (h : n < a.length) : (a ++ b).take n = a.take n := by
  rw [List.take_append, show n - a.length = 0 by omega]; simp
theorem enc_sgn (l : List Nat) (h : l.length = 8) (hs : ∀ x ∈ l, x < 256) : enc (Pk.sgn (Pk.num l)) = l := by
  have h1 : Pk.num l < 18446744073709551616 := by
    have := Pk.num_lt l hs
    rw [h] at this
    exact this
  match l, h, hs with
  | [a, b, c, d, e, f, g, i], _, hs =>
    have ha := hs a (by simp)
    have hb := hs b (by simp)
    have hc := hs c (by simp)
    have hd := hs d (by simp)
    have he := hs e (by simp)
    have hf := hs f (by simp)
    have hg := hs g (by simp)
    have hi := hs i (by simp)
    have hn : Pk.num [a, b, c, d, e, f, g, i] = ((((((a * 256 + b) * 256 + c) * 256 + d) * 256 + e) * 256 + f) * 256 + g) * 256 + i := by simp [Pk.num]
    rw [hn] at h1 ⊢
    unfold Pk.sgn Pk.enc Pk.byteOf
    simp only [List.cons.injEq, and_true]
    refine ⟨?_, ?_, ?_, ?_, ?_, ?_, ?_, ?_⟩ <;> (split <;> omega)
theorem rdInt_only (s : St) (hs : s.small) (hb : (rdInt s).2.bad = false) : s.rest = enc (rdInt s).1 ++ (rdInt s).2.rest ∧ s.bad = false := by
  unfold rdInt at hb ⊢
  split at hb
  · cases hb
  · rename_i h
    rw [if_neg h]
    refine ⟨?_, hb⟩
    show s.rest = enc (Pk.sgn (Pk.num (s.rest.take 8))) ++ s.rest.drop 8
    rw [enc_sgn _ (by rw [List.length_take]; omega) (fun x hx => hs x (List.mem_of_mem_take hx)), List.take_append_drop]
theorem rdInt_cut (v : Int) (n : Nat) (h : n < 8) : rdInt ⟨(enc v).take n, false⟩ = (0, Pk.gone) := by
  unfold rdInt; rw [if_pos (by simp only [List.length_take, Pk.enc_length]; omega)]
theorem Codec.int (N : Nat) : Codec N rdInt enc InI where
  back := fun x t hx => Pk.rdInt_enc x t false hx
  cut := fun x n _ hn => by rw [rdInt_cut x n (by rw [Pk.enc_length] at hn; exact hn)]
  gone := rfl
  only := rdInt_only
  small := Pk.rdInt_small
  sok := Pk.rdInt_ok
  short := Pk.rdInt_short
  good := fun s hs _ => Pk.rdInt_in s hs
  tiny := fun x _ => Pk.enc_small x
  eight := fun x => by rw [Pk.enc_length]; exact Nat.le_refl _
theorem well_of {s : St} {P : Prop} (h : ¬ (s.bad = true ∨ P)) : s.bad = false := by
  rcases hh : s.bad with _ | _
  · rfl
  · exact absurd (Or.inl hh) h
theorem Codec.blob (N : Nat) (hN : N ≤ 1000000000000) : Codec N rdBlob encB (fun d => (∀ x ∈ d, x < 256) ∧ d.length ≤ N) where
  back := fun l t ⟨_, h⟩ => by
    have e := Pk.rdInt_enc (l.length : Int) (l ++ t) false ⟨by omega, by omega⟩
    unfold rdBlob encB
    rw [List.append_assoc, e, if_neg (by simp; omega)]
    simp
  cut := fun l n ⟨_, h⟩ hn => by
    unfold encB at hn ⊢
    rw [List.length_append, Pk.enc_length] at hn
    by_cases h8 : n < 8
    · rw [take_app_lt _ _ _ (by rw [Pk.enc_length]; exact h8)]
      unfold rdBlob
      rw [rdInt_cut _ _ h8]; rfl
    · rw [take_app _ _ _ (by rw [Pk.enc_length]; omega)]
      have e := Pk.rdInt_enc (l.length : Int) (l.take (n - (enc (l.length : Int)).length)) false ⟨by omega, by omega⟩
      unfold rdBlob
      rw [e, if_pos (Or.inr (Or.inr (by simp only [List.length_take, Pk.enc_length]; omega)))]
  gone := rfl
  only := fun s hs hb => by
    have h1 := Pk.rdInt_small s hs
    unfold rdBlob at hb ⊢
    split at hb
    · cases hb
    · rename_i h
      rw [if_neg h]
      obtain ⟨h2, h3⟩ := rdInt_only s hs (well_of h)
      refine ⟨?_, h3⟩
      have hl : ((((rdInt s).2.rest.take (rdInt s).1.toNat).length : Nat) : Int) = (rdInt s).1 := by rw [List.length_take]; omega
      show s.rest = (enc ((((rdInt s).2.rest.take (rdInt s).1.toNat).length : Nat) : Int) ++ (rdInt s).2.rest.take (rdInt s).1.toNat) ++ (rdInt s).2.rest.drop (rdInt s).1.toNat
      rw [hl, List.append_assoc, List.take_append_drop]; exact h2
  small := fun s hs => (Pk.rdBlob_small s hs).1
  sok := fun s _ => Pk.rdBlob_ok s
  short := fun s => (Pk.rdBlob_short s).1
  good := fun s hs hl => ⟨(Pk.rdBlob_small s hs).2, Nat.le_trans (Pk.rdBlob_short s).2 hl⟩
  tiny := fun l ⟨h, _⟩ y hy => by
    unfold encB at hy
    rcases List.mem_append.1 hy with hy | hy
    · exact Pk.enc_small _ y hy
    · exact h y hy
  eight := fun l => by unfold encB; rw [List.length_append, Pk.enc_length]; omega
theorem encs_nums : ∀ (n : Nat) (l : List Nat), (∀ x ∈ l, x < 256) → 8 * n ≤ l.length → encs (Pk.nums n l) = l.take (8 * n) := by
  intro n
  induction n with
  | zero => intro l _ _; rfl
  | succ n ih =>
    intro l hs hl
    rw [Pk.nums_snoc, Pk.encs_snoc, ih l hs (by omega), enc_sgn _ (by rw [List.length_take, List.length_drop]; omega) (fun x hx => hs x (List.mem_of_mem_drop (List.mem_of_mem_take hx)))]
    rw [show 8 * (n + 1) = 8 * n + 8 by omega, List.take_add]
theorem Codec.ints (N : Nat) (hN : N ≤ 1000000000000) : Codec N rdInts encI (fun l => (∀ v ∈ l, InI v) ∧ l.length ≤ N) where
  back := fun l t ⟨hv, h⟩ => by
    have e := Pk.rdInt_enc (l.length : Int) (encs l ++ t) false ⟨by omega, by omega⟩
    have el := Pk.encs_length l
    unfold rdInts encI
    rw [List.append_assoc, e, if_neg (by simp [el]; omega)]
    simp only [Int.toNat_natCast]
    rw [Pk.nums_encs l t hv, List.drop_left' el]
  cut := fun l n ⟨_, h⟩ hn => by
    have el := Pk.encs_length l
    unfold encI at hn ⊢
    rw [List.length_append, Pk.enc_length, el] at hn
    by_cases h8 : n < 8
    · rw [take_app_lt _ _ _ (by rw [Pk.enc_length]; exact h8)]
      unfold rdInts
      rw [rdInt_cut _ _ h8]; rfl
    · rw [take_app _ _ _ (by rw [Pk.enc_length]; omega)]
      have e := Pk.rdInt_enc (l.length : Int) ((encs l).take (n - (enc (l.length : Int)).length)) false ⟨by omega, by omega⟩
      unfold rdInts
      rw [e, if_pos (Or.inr (Or.inr (by simp only [List.length_take, Pk.enc_length, el]; omega)))]
  gone := rfl
  only := fun s hs hb => by
    have h1 := Pk.rdInt_small s hs
    unfold rdInts at hb ⊢
    split at hb
    · cases hb
    · rename_i h
      rw [if_neg h]
      obtain ⟨h2, h3⟩ := rdInt_only s hs (well_of h)
      refine ⟨?_, h3⟩
      show s.rest = (enc (((Pk.nums (rdInt s).1.toNat (rdInt s).2.rest).length : Nat) : Int) ++ encs (Pk.nums (rdInt s).1.toNat (rdInt s).2.rest)) ++ (rdInt s).2.rest.drop (8 * (rdInt s).1.toNat)
      rw [Pk.nums_length, encs_nums _ _ h1 (by omega), List.append_assoc, List.take_append_drop, show (((rdInt s).1.toNat : Nat) : Int) = (rdInt s).1 by omega]
      exact h2
  small := Pk.rdInts_small
  sok := fun s _ => Pk.rdInts_ok s
  short := fun s => (Pk.rdInts_short s).1
  good := fun s hs hl => ⟨Pk.rdInts_in s hs, by have := (Pk.rdInts_short s).2; omega⟩
  tiny := fun l _ y hy => by
    unfold encI at hy
    rcases List.mem_append.1 hy with hy | hy
    · exact Pk.enc_small _ y hy
    · exact Pk.encs_small l y hy
  eight := fun l => by unfold encI; rw [List.length_append, Pk.enc_length]; omega
section
variable {α β : Type} {N : Nat} {f : St → α × St} {g : St → β × St} {e1 : α → List Nat} {e2 : β → List Nat} {o1 : α → Prop} {o2 : β → Prop}
theorem Codec.map (h1 : Codec N f e1 o1) (h : α → β) (k : β → α) (hk : ∀ a, k (h a) = a) (hh : ∀ b, h (k b) = b) : Codec N (rdM h f) (fun b => e1 (k b)) (fun b => o1 (k b)) where
  back := fun x t hx => by unfold rdM; rw [h1.back _ t hx]; simp only []; rw [hh]
  cut := fun x n hx hn => h1.cut _ n hx hn
  gone := h1.gone
  only := fun s hs hb => by
    have := h1.only s hs hb
    unfold rdM
    simp only [hk]
    exact this
  small := h1.small
  sok := h1.sok
  short := h1.short
  good := fun s hs hl => by show o1 (k (h (f s).1)); rw [hk]; exact h1.good s hs hl
  tiny := fun x hx => h1.tiny _ hx
  eight := fun x => h1.eight _
theorem rdN_back (h1 : Codec N f e1 o1) : ∀ (L : List α) (t : List Nat), (∀ x ∈ L, o1 x) → rdN f L.length ⟨L.flatMap e1 ++ t, false⟩ = (L, ⟨t, false⟩) := by
  intro L
  induction L with
  | nil => intro t _; rfl
  | cons x L ih =>
    intro t h
    show (if false = true then _ else _) = _
    rw [if_neg (by decide)]
    simp only [List.flatMap_cons, List.append_assoc]
    rw [h1.back x _ (h x List.mem_cons_self)]
    simp only []
    rw [ih t (fun y hy => h y (List.mem_cons_of_mem _ hy))]
theorem rdN_gone (n : Nat) : rdN f n Pk.gone = ([], Pk.gone) := by
  cases n with
  | zero => rfl
  | succ n => show (if true = true then _ else _) = _; rw [if_pos rfl]
theorem rdN_cut (h1 : Codec N f e1 o1) : ∀ (L : List α) (n : Nat), (∀ x ∈ L, o1 x) → n < (L.flatMap e1).length → (rdN f L.length ⟨(L.flatMap e1).take n, false⟩).2 = Pk.gone := by
  intro L
  induction L with
  | nil => intro n _ h; simp at h
  | cons x L ih =>
    intro n h hn
    show (if false = true then _ else _ : List α × St).2 = _
    rw [if_neg (by decide)]
    simp only []
    rw [List.flatMap_cons] at hn ⊢
    rw [List.length_append] at hn
    by_cases hc : n < (e1 x).length
    · rw [take_app_lt _ _ _ hc, h1.cut x n (h x List.mem_cons_self) hc, rdN_gone]
    · rw [take_app _ _ _ (by omega), h1.back x _ (h x List.mem_cons_self)]
      exact ih _ (fun y hy => h y (List.mem_cons_of_mem _ hy)) (by omega)
theorem rdN_only (h1 : Codec N f e1 o1) : ∀ (n : Nat) (s : St), s.small → (rdN f n s).2.bad = false → s.rest = (rdN f n s).1.flatMap e1 ++ (rdN f n s).2.rest ∧ s.bad = false ∧ (rdN f n s).1.length = n := by
  intro n
  induction n with
  | zero => intro s hs hb; exact ⟨rfl, hb, rfl⟩
  | succ n ih =>
    intro s hs hb
    rcases hsb : s.bad with _ | _
    · have e : rdN f (n + 1) s = ((f s).1 :: (rdN f n (f s).2).1, (rdN f n (f s).2).2) := by show (if s.bad = true then _ else _) = _; rw [hsb, if_neg (by decide)]
      rw [e] at hb ⊢
      obtain ⟨q1, q2, q3⟩ := ih _ (h1.small s hs) hb
      obtain ⟨q4, q5⟩ := h1.only s hs q2
      refine ⟨?_, rfl, by simp [q3]⟩
      show s.rest = ((f s).1 :: (rdN f n (f s).2).1).flatMap e1 ++ (rdN f n (f s).2).2.rest
      rw [List.flatMap_cons, List.append_assoc, ← q1, ← q4]
    · have e : rdN f (n + 1) s = ([], s) := by show (if s.bad = true then _ else _) = _; rw [hsb, if_pos rfl]
      rw [e] at hb
      have hb' : s.bad = false := hb
      rw [hsb] at hb'; cases hb'
theorem rdN_keeps {P : St → Prop} (h : ∀ s, P s → P (f s).2) : ∀ (n : Nat) (s : St), P s → P (rdN f n s).2 := by
  intro n
  induction n with
  | zero => intro s hs; exact hs
  | succ n ih =>
    intro s hs
    show P (if s.bad = true then _ else _ : List α × St).2
    split
    · exact hs
    · exact ih _ (h s hs)
theorem rdN_all {P : St → Prop} {Q : α → Prop} (h : ∀ s, P s → P (f s).2) (hq : ∀ s, P s → Q (f s).1) : ∀ (n : Nat) (s : St), P s → (∀ x ∈ (rdN f n s).1, Q x) ∧ (rdN f n s).1.length ≤ n := by
  intro n
  induction n with
  | zero => intro s hs; exact ⟨fun x hx => (by cases hx), Nat.zero_le _⟩
  | succ n ih =>
    intro s hs
    have e : rdN f (n + 1) s = if s.bad = true then ([], s) else ((f s).1 :: (rdN f n (f s).2).1, (rdN f n (f s).2).2) := rfl
    rw [e]
    split
    · exact ⟨fun x hx => (by cases hx), Nat.zero_le _⟩
    · obtain ⟨q1, q2⟩ := ih _ (h s hs)
      refine ⟨fun x hx => ?_, by simp; exact q2⟩
      rcases List.mem_cons.1 hx with rfl | hx
      · exact hq s hs
      · exact q1 x hx
theorem rdL_gone : rdL f Pk.gone = ([], Pk.gone) := by
  have e : rdInt Pk.gone = (0, Pk.gone) := rfl
  unfold rdL
  rw [e]; rfl
theorem enc_tiny (v : Int) : ∀ y ∈ enc v, y < 256 := Pk.enc_small v
theorem flat_eight (h1 : Codec N f e1 o1) (L : List α) : 8 * L.length ≤ (L.flatMap e1).length := by
  induction L with
  | nil => simp
  | cons x L ih => rw [List.flatMap_cons, List.length_append, List.length_cons]; have := h1.eight x; omega
theorem Codec.list (h1 : Codec N f e1 o1) (hN : N ≤ 1000000000000) : Codec N (rdL f) (encL e1) (fun l => (∀ x ∈ l, o1 x) ∧ l.length ≤ N) where
  back := fun L t ⟨hL, hl⟩ => by
    have h8 := flat_eight h1 L
    unfold rdL encL
    rw [List.append_assoc, Pk.rdInt_enc _ _ _ ⟨by omega, by omega⟩]
    simp only []
    rw [if_neg (by rw [List.length_append]; omega)]
    exact rdN_back h1 L t hL
  cut := fun L n ⟨hL, hl⟩ hn => by
    unfold encL at hn ⊢
    rw [List.length_append, Pk.enc_length] at hn
    unfold rdL
    by_cases h : n < 8
    · have e : (enc (L.length : Int) ++ L.flatMap e1).take n = (enc (L.length : Int)).take n := take_app_lt _ _ _ h
      have e2 : rdInt ⟨(enc (L.length : Int)).take n, false⟩ = (0, Pk.gone) := by
        unfold rdInt; rw [if_pos (by simp only [List.length_take, Pk.enc_length]; omega)]
      rw [e, e2]; rfl
    · rw [take_app _ _ _ (by rw [Pk.enc_length]; omega), Pk.rdInt_enc _ _ _ ⟨by omega, by omega⟩]
      simp only []
      split
      · rfl
      · exact rdN_cut h1 L _ hL (by rw [Pk.enc_length]; omega)
  gone := by rw [rdL_gone]
  only := fun s hs hb => by
    have e : rdL f s = if (rdInt s).1 < 0 ∨ (((rdInt s).2.rest.length / 8 : Nat) : Int) < (rdInt s).1 then ([], Pk.gone) else rdN f (rdInt s).1.toNat (rdInt s).2 := rfl
    rw [e] at hb ⊢
    split at hb
    · cases hb
    · rename_i hc
      rw [if_neg hc]
      obtain ⟨q1, q2, q3⟩ := rdN_only h1 _ _ (Pk.rdInt_small s hs) hb
      obtain ⟨q4, q5⟩ := rdInt_only s hs q2
      refine ⟨?_, q5⟩
      unfold encL
      rw [q3, List.append_assoc, ← q1, show (((rdInt s).1.toNat : Nat) : Int) = (rdInt s).1 by omega]
      exact q4
  small := fun s hs => by
    unfold rdL
    split
    · exact Pk.gone_small
    · exact rdN_keeps h1.small _ _ (Pk.rdInt_small s hs)
  sok := fun s hs => by
    unfold rdL
    split
    · exact Pk.gone_ok
    · exact rdN_keeps h1.sok _ _ (Pk.rdInt_ok s hs)
  short := fun s => by
    have h := Pk.rdInt_short s
    unfold rdL
    split
    · exact Nat.zero_le _
    · exact rdN_keeps (P := fun x => x.rest.length ≤ s.rest.length) (fun x hx => Nat.le_trans (h1.short x) hx) _ _ h
  good := fun s hs hl => by
    have h := Pk.rdInt_short s
    unfold rdL
    split
    · exact ⟨fun x hx => (by cases hx), Nat.zero_le _⟩
    · rename_i hc
      obtain ⟨q1, q2⟩ := rdN_all (P := fun x => x.small ∧ x.rest.length ≤ N) (Q := o1) (fun x hx => ⟨h1.small x hx.1, Nat.le_trans (h1.short x) hx.2⟩) (fun x hx => h1.good x hx.1 hx.2) (rdInt s).1.toNat (rdInt s).2 ⟨Pk.rdInt_small s hs, Nat.le_trans h hl⟩
      exact ⟨q1, by omega⟩
  tiny := fun L ⟨hL, _⟩ y hy => by
    unfold encL at hy
    rcases List.mem_append.1 hy with hy | hy
    · exact enc_tiny _ y hy
    · obtain ⟨x, hx, hy⟩ := List.mem_flatMap.1 hy
      exact h1.tiny x (hL x hx) y hy
  eight := fun L => by unfold encL; rw [List.length_append, Pk.enc_length]; omega
end
structure Pt where
  log : Lg
  cf : Cf
  sn : List Nat
deriving DecidableEq
structure Hd where
  g : Int
  t : Int
  v : Int
  p : Pt
deriving DecidableEq
structure Vt where
  x : Int
  p : Int
  r : Int
  b : Int
  v : Int
deriving DecidableEq
structure Im where
  hs : List Hd
  vs : List Vt
deriving DecidableEq
structure Ch where
  k : Int
  g : Int
  t : Int
  v : Int
  f : Int
  p : Pt
  a : Vt
deriving DecidableEq
def rdE : St → En × St := rdM (fun p => ⟨p.1.1, p.1.2, p.2⟩) (rdP (rdP rdInt rdInt) rdBlob)
def rdLg : St → Lg × St := rdM (fun p => ⟨p.1.1, p.1.2, p.2⟩) (rdP (rdP rdInt rdInt) (rdL rdE))
def rdCf : St → Cf × St := rdM (fun p => ⟨p.1.1, p.1.2, p.2⟩) (rdP (rdP rdInts rdInts) rdInts)
def rdPt : St → Pt × St := rdM (fun p => ⟨p.1.1, p.1.2, p.2⟩) (rdP (rdP rdLg rdCf) rdBlob)
def rdH : St → Hd × St := rdM (fun p => ⟨p.1.1.1, p.1.1.2, p.1.2, p.2⟩) (rdP (rdP (rdP rdInt rdInt) rdInt) rdPt)
def rdV : St → Vt × St := rdM (fun p => ⟨p.1.1.1.1, p.1.1.1.2, p.1.1.2, p.1.2, p.2⟩) (rdP (rdP (rdP (rdP rdInt rdInt) rdInt) rdInt) rdInt)
def rdIm : St → Im × St := rdM (fun p => ⟨p.1, p.2⟩) (rdP (rdL rdH) (rdL rdV))
def encE (e : En) : List Nat := (enc e.t ++ enc e.k) ++ encB e.d
def okV (v : Vt) : Prop := (((InI v.x ∧ InI v.p) ∧ InI v.r) ∧ InI v.b) ∧ InI v.v
section
variable (N : Nat) (hN : N ≤ 1000000000000)
include hN
end
def fin (s : St) : Int := if s.bad = true then 4 else if 0 < s.rest.length then 2 else 0
def whole {α : Type} (one : St → α × St) (no : α) (b : List Nat) : α × Int := if fin (one ⟨b, false⟩).2 ≠ 0 then (no, fin (one ⟨b, false⟩).2) else ((one ⟨b, false⟩).1, 0)
section
variable {α : Type} {N : Nat} {f : St → α × St} {e1 : α → List Nat} {o1 : α → Prop} (h1 : Codec N f e1 o1) (no : α)
include h1
end
def asc {α : Type} (lt : α → α → Bool) : List α → Bool
  | [] => true
  | [_] => true
  | a :: b :: l => lt a b && asc lt (b :: l)
def ltH (a b : Hd) : Bool := decide (a.g < b.g)
def ltV (a b : Vt) : Bool := decide (a.x < b.x) || (decide (a.x = b.x) && decide (a.p < b.p))
def sorted (x : Im) : Bool := asc ltH x.hs && asc ltV x.vs
def get (b : List Nat) : Im × Int := if (whole rdIm ⟨[], []⟩ b).2 = 0 ∧ sorted (whole rdIm ⟨[], []⟩ b).1 = false then (⟨[], []⟩, 15) else whole rdIm ⟨[], []⟩ b
end Go.Proofs.Ytkmbkihfdilmbaa.Im
namespace Go.Proofs.Ytkmbkihfdilmbaa
open Go.RowKit
theorem take_succ_eq (l m : List Nat) (k : Nat) (h1 : k < l.length) (h2 : k < m.length) (h : l.take k = m.take k) (he : l[k] = m[k]) : l.take (k + 1) = m.take (k + 1) := by
  rw [List.take_succ_eq_append_getElem h1, List.take_succ_eq_append_getElem h2, h, he]
set_option maxHeartbeats 400000 in
theorem same_any (B B' : Nat) (A A' : Option Addr) (c c' : Nat) (l m : List Nat) (hl : l.length ≤ maxLen) (hm : m.length ≤ maxLen) (w : World) (h : IsBytes w B A l) (h' : IsBytes w B' A' m) :
    Calls Try.prog 53 #[.slice A l.length c, .slice A' m.length c'] w fun e w' => e = .returned (.bool (decide (l = m))) ∧ ∃ n, w' = w.drewN n := by
  unfold maxLen at hl hm
  by_cases hne : l.length = m.length
  · have hb : ((l.length : Int) != (m.length : Int)) = false := by rw [bne_eq_false_iff_eq]; omega
    have HN := hid hne
    clear hne
    go_enter Try.func53, Try.ntmps53
    go_wp2
    go_loopw [5] (fun i wr => ∃ k n : Nat, k ≤ l.length ∧ i = .int .i64 k ∧ wr = w.drewN n ∧ Hid (l.take k = m.take k)) (fun i _ => l.length - (RowKit.intOf i).toNat)
    case atStart => exact ⟨0, 0, by omega, rfl, rfl, hid rfl⟩
    case round =>
      obtain ⟨k, n, hk, rfl, rfl, hs⟩ := hrel
      by_cases hlt : k < l.length
      · have hlt' : k < m.length := by have := HN.out; omega
        obtain ⟨b, off, rfl, _, hc⟩ := h.cells k hlt
        obtain ⟨b', off', rfl, _, hc'⟩ := h'.cells k hlt'
        have hck := hc k hlt
        have hck' := hc' k hlt'
        clear hc hc'
        by_cases he : l[k] = m[k]
        · have hbe : (((l[k] : Nat) : Int) != ((m[k] : Nat) : Int)) = false := by rw [bne_eq_false_iff_eq]; omega
          have HE := hid he
          clear he
          go_wp2
          go_quiet (fail)
          go_wp2
          go_roundw
          case rel => exact ⟨k + 1, _, by omega, by go_num, rfl, hid (take_succ_eq l m k hlt hlt' hs.out HE.out)⟩
          case measure => simp [RowKit.intOf]; omega
        · have hbe : (((l[k] : Nat) : Int) != ((m[k] : Nat) : Int)) = true := by rw [bne_iff_ne]; omega
          have hfin : decide (l = m) = false := by
            rw [decide_eq_false_iff_not]; rintro rfl; exact he rfl
          have HF := hid hfin
          clear he hfin
          go_wp2
          go_quiet (fail)
          go_wp2
          go_ret
          exact ⟨by rw [HF.out]; rfl, _, by rw [World.drewN_drewN]⟩
      · obtain rfl : k = l.length := by omega
        have hfin : decide (l = m) = true := by
          rw [decide_eq_true_iff]
          have e := hs.out
          rw [List.take_length, HN.out, List.take_length] at e
          exact e
        have HF := hid hfin
        clear hfin
        go_wp2
        go_ret
        exact ⟨by rw [HF.out]; rfl, _, rfl⟩
  · have hb : ((l.length : Int) != (m.length : Int)) = true := by rw [bne_iff_ne]; omega
    have hfin : decide (l = m) = false := by
      rw [decide_eq_false_iff_not]; rintro rfl; exact hne rfl
    have HF := hid hfin
    clear hfin hne
    go_enter Try.func53, Try.ntmps53
    go_wp2
    go_ret
    exact ⟨by rw [HF.out]; rfl, 0, rfl⟩
theorem info_u8 : (Try.prog.info? 5).map (fun i => (i.zero, i.size, i.bytes)) = some (some (.int .u8 0), 1, 1) := by kernel_rfl
theorem bytes_snoc (l : List Nat) (k : Nat) (h : k < l.length) : bytes (l.take k) ++ [Value.int .u8 (l[k] : Nat)] = bytes (l.take (k + 1)) := by
  unfold bytes; rw [List.take_succ_eq_append_getElem h, List.map_append]; rfl
theorem same_N (B B' : Nat) (A A' : Option Addr) (c c' : Nat) (l m : List Nat) (n k : Nat) (hn : l.length = n) (hk : m.length = k) (hl : n ≤ maxLen) (hm : k ≤ maxLen) (w : World) (h : IsBytes w B A l) (h' : IsBytes w B' A' m) :
    Calls Try.prog 53 #[.slice A n c, .slice A' k c'] w fun e w' => e = .returned (.bool (decide (l = m))) ∧ ∃ j, w' = w.drewN j := by
  subst hn; subst hk; exact same_any B B' A A' c c' l m hl hm w h h'
end Go.Proofs.Ytkmbkihfdilmbaa
namespace Go.Proofs.Ytkmbkihfdilmbaa
open Go.RowKit
theorem row_cell {w : World} {g : Nat} {cs : Array Value} {t : TypeId} (h : w.heap[g]? = some (.cells cs t (0, 0))) (i : Nat) : w.cell? ⟨g, i, none⟩ = cs[i]? := cell_of_row w g i cs t (0, 0) h
theorem row_free {w : World} {g : Nat} {cs : Array Value} {t : TypeId} (h : w.heap[g]? = some (.cells cs t (0, 0))) (i : Nat) : w.frozen? ⟨g, i, none⟩ = false := by simp [World.frozen?, h]
theorem row_lt {w : World} {g : Nat} {o : Obj} (h : w.heap[g]? = some o) : g < w.heap.size := by
  rcases Nat.lt_or_ge g w.heap.size with hlt | hge
  · exact hlt
  · rw [Array.getElem?_eq_none hge] at h; cases h
theorem row_set {w : World} {g : Nat} {cs : Array Value} {t : TypeId} (h : w.heap[g]? = some (.cells cs t (0, 0))) (i : Nat) (u : Value) :
    (w.setCell ⟨g, i, none⟩ u).heap[g]? = some (.cells (cs.setIfInBounds i u) t (0, 0)) := by
  simp [World.setCell, Array.getElem?_modify, h]
namespace Rdr
variable {w w' : World} {g : Nat} {s : Pk.St}
end Rdr
theorem IsBytes.drop {w : World} {B : Nat} {ad : Addr} {l : List Nat} (h : IsBytes w B (some ad) l) (m : Nat) (hm : m < l.length) : IsBytes w B (some (ad.add m)) (l.drop m) := by
  refine ⟨fun x hx => h.small x (List.mem_of_mem_drop hx), fun k hk => ?_⟩
  obtain ⟨b, off, e, hb, hc⟩ := h.cells m hm
  injection e with e
  subst e
  refine ⟨b, off + m, by rw [add_off], hb, fun i hi => ?_⟩
  rw [List.length_drop] at hi
  rw [List.getElem_drop, Nat.add_assoc]
  exact hc (m + i) (by omega)
theorem IsBytes.put {w : World} {g : Nat} {A : Option Addr} {l : List Nat} (h : IsBytes w g A l) (k : Nat) (u : Value) : IsBytes (w.setCell ⟨g, k, none⟩ u).drew g A l := (h.below ((Below.refl g w).setCell (Nat.le_refl _) _)).drew
end Go.Proofs.Ytkmbkihfdilmbaa
namespace Go.Proofs.Ytkmbkihfdilmbaa.Im
open Go.RowKit
open Rl (En Lg)
open Qu (Cf)
set_option maxRecDepth 100000
set_option linter.unusedVariables false
structure Ad where
  e : Option Addr
  ce : Nat
  o : Option Addr
  co : Nat
  n : Option Addr
  cn : Nat
  l : Option Addr
  cl : Nat
  s : Option Addr
  cs : Nat
def A0 : Ad := ⟨none, 0, none, 0, none, 0, none, 0, none, 0⟩
def Room (n c : Nat) (A : Option Addr) : Prop := (n ≤ c ∧ c ≤ maxLen) ∧ (A = none → c = 0)
structure IsPt (w : World) (B : Nat) (p : Pt) (a : Ad) : Prop where
  es : IsEnts w B a.e p.log.es
  o : IsInts w B a.o p.cf.old
  n : IsInts w B a.n p.cf.new
  l : IsInts w B a.l p.cf.lrn
  s : IsBytes w B a.s p.sn
  re : Room p.log.es.length a.ce a.e
  ro : Room p.cf.old.length a.co a.o
  rn : Room p.cf.new.length a.cn a.n
  rl : Room p.cf.lrn.length a.cl a.l
  rs : Room p.sn.length a.cs a.s
  num : InInt p.log.base ∧ InInt p.log.term
namespace IsPt
variable {w w' : World} {B B' : Nat} {p : Pt} {a : Ad}
theorem below (h : IsPt w B p a) (hb : Below B w w') : IsPt w' B p a := ⟨h.es.below hb, h.o.below hb, h.n.below hb, h.l.below hb, h.s.below hb, h.re, h.ro, h.rn, h.rl, h.rs, h.num⟩
theorem more (h : IsPt w B p a) (hB : B ≤ B') : IsPt w B' p a := ⟨h.es.more hB, h.o.more hB, h.n.more hB, h.l.more hB, h.s.more hB, h.re, h.ro, h.rn, h.rl, h.rs, h.num⟩
end IsPt
structure Hq where
  h : Hd
  a : Ad
structure Cq where
  c : Ch
  a : Ad
def cellsH (q : Hq) : List Value := [.int .i64 q.h.g, .int .i64 q.h.t, .int .i64 q.h.v, .int .i64 q.h.p.log.base, .int .i64 q.h.p.log.term, .slice q.a.e q.h.p.log.es.length q.a.ce, .slice q.a.o q.h.p.cf.old.length q.a.co, .slice q.a.n q.h.p.cf.new.length q.a.cn, .slice q.a.l q.h.p.cf.lrn.length q.a.cl, .slice q.a.s q.h.p.sn.length q.a.cs]
def cellsV (v : Vt) : List Value := [.int .i64 v.x, .int .i64 v.p, .int .i64 v.r, .int .i64 v.b, .int .i64 v.v]
def cellsC (q : Cq) : List Value := [.int .i64 q.c.k, .int .i64 q.c.g, .int .i64 q.c.t, .int .i64 q.c.v, .int .i64 q.c.f, .int .i64 q.c.p.log.base, .int .i64 q.c.p.log.term, .slice q.a.e q.c.p.log.es.length q.a.ce, .slice q.a.o q.c.p.cf.old.length q.a.co, .slice q.a.n q.c.p.cf.new.length q.a.cn, .slice q.a.l q.c.p.cf.lrn.length q.a.cl, .slice q.a.s q.c.p.sn.length q.a.cs, .int .i64 q.c.a.x, .int .i64 q.c.a.p, .int .i64 q.c.a.r, .int .i64 q.c.a.b, .int .i64 q.c.a.v]
structure IsRow {α : Type} (f : α → List Value) (size : Nat) (w : World) (B : Nat) (A : Option Addr) (L : List α) : Prop where
  at_ : ∀ k, k < L.length → ∃ b off, A = some ⟨b, off, none⟩ ∧ b < B ∧ ∀ i (h : i < L.length), w.rangeAt b (off + i * size) (f L[i])
namespace IsRow
variable {α : Type} {f : α → List Value} {size : Nat} {w w' : World} {B B' : Nat} {A : Option Addr} {L : List α}
theorem nil : IsRow f size w B A ([] : List α) := ⟨fun k h => by simp at h⟩
theorem below (h : IsRow f size w B A L) (hb : Below B w w') : IsRow f size w' B A L := ⟨fun k hk => by
  obtain ⟨b, off, e, hlt, hc⟩ := h.at_ k hk
  exact ⟨b, off, e, hlt, fun i hi j v hv => (hb.cell (p := ⟨b, off + i * size + j, none⟩) hlt).trans (hc i hi j v hv)⟩⟩
theorem more (h : IsRow f size w B A L) (hB : B ≤ B') : IsRow f size w B' A L := ⟨fun k hk => by
  obtain ⟨b, off, e, hlt, hc⟩ := h.at_ k hk
  exact ⟨b, off, e, by omega, hc⟩⟩
end IsRow
structure IsHds (w : World) (B : Nat) (A : Option Addr) (Q : List Hq) : Prop where
  row : IsRow cellsH 10 w B A Q
  pt : ∀ q ∈ Q, IsPt w B q.h.p q.a
  num : ∀ q ∈ Q, InInt q.h.g ∧ InInt q.h.t ∧ InInt q.h.v
structure IsVs (w : World) (B : Nat) (A : Option Addr) (L : List Vt) : Prop where
  row : IsRow cellsV 5 w B A L
  num : ∀ v ∈ L, okV v
structure IsCs (w : World) (B : Nat) (A : Option Addr) (Q : List Cq) : Prop where
  row : IsRow cellsC 17 w B A Q
  pt : ∀ q ∈ Q, IsPt w B q.c.p q.a
  num : ∀ q ∈ Q, (InInt q.c.k ∧ InInt q.c.g ∧ InInt q.c.t ∧ InInt q.c.v ∧ InInt q.c.f) ∧ okV q.c.a
theorem IsHds.below {w w' : World} {B : Nat} {A : Option Addr} {Q : List Hq} (h : IsHds w B A Q) (hb : Below B w w') : IsHds w' B A Q := ⟨h.row.below hb, fun q hq => (h.pt q hq).below hb, h.num⟩
theorem IsHds.more {w : World} {B B' : Nat} {A : Option Addr} {Q : List Hq} (h : IsHds w B A Q) (hB : B ≤ B') : IsHds w B' A Q := ⟨h.row.more hB, fun q hq => (h.pt q hq).more hB, h.num⟩
theorem IsVs.below {w w' : World} {B : Nat} {A : Option Addr} {Q : List Vt} (h : IsVs w B A Q) (hb : Below B w w') : IsVs w' B A Q := ⟨h.row.below hb, h.num⟩
theorem IsVs.more {w : World} {B B' : Nat} {A : Option Addr} {Q : List Vt} (h : IsVs w B A Q) (hB : B ≤ B') : IsVs w B' A Q := ⟨h.row.more hB, h.num⟩
theorem IsCs.below {w w' : World} {B : Nat} {A : Option Addr} {Q : List Cq} (h : IsCs w B A Q) (hb : Below B w w') : IsCs w' B A Q := ⟨h.row.below hb, fun q hq => (h.pt q hq).below hb, h.num⟩
theorem IsCs.more {w : World} {B B' : Nat} {A : Option Addr} {Q : List Cq} (h : IsCs w B A Q) (hB : B ≤ B') : IsCs w B' A Q := ⟨h.row.more hB, fun q hq => (h.pt q hq).more hB, h.num⟩
def ldX (t : TypeId) (a : Value) : Sem Value := Instr.loadAt t a
def stX (t : TypeId) (a v : Value) : Sem Unit := Instr.storeAt t a v
theorem loadAt_hard (a : Value) : Instr.loadAt 52 a = ldX 52 a := rfl
theorem storeAt_hard (a v : Value) : Instr.storeAt 52 a v = stX 52 a v := rfl
theorem range_row {w : World} {b : Nat} {cs : List Value} {t : TypeId} {fr : Nat × Nat} (h : w.heap[b]? = some (.cells cs.toArray t fr)) : w.rangeAt b 0 cs := fun j v hv => by
  rw [Nat.zero_add, cell_of_row w b j _ _ fr h, List.getElem?_toArray]; exact hv
theorem stNew (w : World) (t : TypeId) (n : Nat) (hi : (Try.prog.info? t).map (·.size) = some n) (cs cs' : Array Value) (h : cs.size = n) (h' : cs'.size = n) (h1 : cs'.all (·.oneCell') = true) : (stX t (.pointer (some ⟨w.heap.size, 0, none⟩)) (.agg cs')).run Try.prog (w.alloc (.cells cs t)) = .ok () (w.alloc (.cells cs' t)) :=
  run_storeVar_new w _ cs cs' (by rw [hi, h']) (by rw [h, h']) h1
end Go.Proofs.Ytkmbkihfdilmbaa.Im
namespace Go.Proofs.Ytkmbkihfdilmbaa.Im
open Go.RowKit
set_option maxRecDepth 100000
theorem ldRow {t : TypeId} {n : Nat} {d : TypeDesc} (hi : (Try.prog.info? t).map (·.size) = some n) (hu : Try.prog.underlying t = some d) (hd : d.isRow = true) {w : World} {b : Nat} {cs : Array Value} {t' : TypeId} {fr : Nat × Nat} (hg : w.heap[b]? = some (.cells cs t' fr)) (h : cs.size = n) : (ldX t (.pointer (some ⟨b, 0, none⟩))).run Try.prog w = .ok (.agg cs) w :=
  run_loadVar_row w b t' t cs fr d hg hu (by cases d <;> first | rfl | cases hd) (by rw [hi, h])
theorem stRow {t : TypeId} {n : Nat} (hi : (Try.prog.info? t).map (·.size) = some n) {w : World} {b : Nat} {cs cs' : Array Value} {t' : TypeId} (hg : w.heap[b]? = some (.cells cs t' (0, 0))) (h : cs.size = n) (h' : cs'.size = n) (h1 : cs'.all (·.oneCell') = true) : (stX t (.pointer (some ⟨b, 0, none⟩)) (.agg cs')).run Try.prog w = .ok () (w.setRow b cs') :=
  run_storeVar_row w b t' t cs cs' hg (by rw [hi, h']) (by rw [h, h']) h1
theorem row_turned (w : World) (b : Nat) (cs : Array Value) : Turned (fun k => k = b) w (w.setRow b cs) := ⟨rfl, rfl, rfl, by simp, fun k _ hk => setRow_other w b k cs hk⟩
theorem loadAt_conf3 (a : Value) : Instr.loadAt 37 a = ldX 37 a := rfl
theorem storeAt_conf3 (a v : Value) : Instr.storeAt 37 a v = stX 37 a v := rfl
theorem info_conf33 : (Try.prog.info? 37).map (·.size) = some 3 := by kernel_rfl
end Go.Proofs.Ytkmbkihfdilmbaa.Im
namespace Go.Proofs.Ytkmbkihfdilmbaa.Vo
open Go Go.RowKit
open Rl (En Lg)
open Ms (M)
open Im (ldX stX)
set_option maxRecDepth 100000
set_option linter.unusedVariables false
theorem loadAt_msgV (a : Value) : Instr.loadAt 31 a = ldX 31 a := rfl
theorem storeAt_msgV (a v : Value) : Instr.storeAt 31 a v = stX 31 a v := rfl
theorem info_msgV : (Try.prog.info? 31).map (·.size) = some 17 := by kernel_rfl
attribute [local go_sem ↓] loadAt_msgV storeAt_msgV
def askM (f t i p : Int) : M := ⟨1, f, 1, 0, t, i, p, 0, 0, 0, 0, 0, 0, 0, false, [], []⟩
theorem asked_any (f t i p : Int) (w : World) :
    Calls Try.prog 9 #[.int .i64 f, .int .i64 t, .int .i64 i, .int .i64 p] w fun e w' => e = .returned (.agg #[.int .i64 ((askM f t i p)).K, .int .i64 ((askM f t i p)).F, .int .i64 ((askM f t i p)).T, .int .i64 ((askM f t i p)).g, .int .i64 ((askM f t i p)).t, .int .i64 ((askM f t i p)).i, .int .i64 ((askM f t i p)).p, .int .i64 ((askM f t i p)).c, .int .i64 ((askM f t i p)).r, .int .i64 ((askM f t i p)).x, .int .i64 ((askM f t i p)).a, .int .i64 ((askM f t i p)).b, .int .i64 ((askM f t i p)).v, .int .i64 ((askM f t i p)).s, .bool ((askM f t i p)).ok, .slice none ((askM f t i p)).es.length 0, .slice none ((askM f t i p)).d.length 0]) ∧ Below w.heap.size w w' := by
  have hst := Im.stNew w 31 17 info_msgV #[.int .i64 0, .int .i64 0, .int .i64 0, .int .i64 0, .int .i64 0, .int .i64 0, .int .i64 0, .int .i64 0, .int .i64 0, .int .i64 0, .int .i64 0, .int .i64 0, .int .i64 0, .int .i64 0, .bool false, .slice none 0 0, .slice none 0 0] #[.int .i64 1, .int .i64 f, .int .i64 1, .int .i64 0, .int .i64 t, .int .i64 i, .int .i64 p, .int .i64 0, .int .i64 0, .int .i64 0, .int .i64 0, .int .i64 0, .int .i64 0, .int .i64 0, .bool false, .slice none 0 0, .slice none 0 0] rfl rfl (by simp [Value.oneCell'])
  have H2 := hid (And.intro (heap_alloc_new w (.cells #[.int .i64 1, .int .i64 f, .int .i64 1, .int .i64 0, .int .i64 t, .int .i64 i, .int .i64 p, .int .i64 0, .int .i64 0, .int .i64 0, .int .i64 0, .int .i64 0, .int .i64 0, .int .i64 0, .bool false, .slice none 0 0, .slice none 0 0] 31)) ((Below.refl _ w).alloc (Nat.le_refl _) (.cells #[.int .i64 1, .int .i64 f, .int .i64 1, .int .i64 0, .int .i64 t, .int .i64 i, .int .i64 p, .int .i64 0, .int .i64 0, .int .i64 0, .int .i64 0, .int .i64 0, .int .i64 0, .int .i64 0, .bool false, .slice none 0 0, .slice none 0 0] 31)))
  obtain ⟨w2, hw2⟩ : ∃ w2, w2 = w.alloc (.cells #[.int .i64 1, .int .i64 f, .int .i64 1, .int .i64 0, .int .i64 t, .int .i64 i, .int .i64 p, .int .i64 0, .int .i64 0, .int .i64 0, .int .i64 0, .int .i64 0, .int .i64 0, .int .i64 0, .bool false, .slice none 0 0, .slice none 0 0] 31) := ⟨_, rfl⟩
  rw [← hw2] at hst H2
  clear hw2
  go_enter Try.func9, Try.ntmps9
  go_wp2_with fail
  refine bodyPost_ret (results_cell_row rfl _ _ w.heap.size _ _ _ _ rfl H2.out.1 Try.underlying31 rfl (by rw [info_msgV]; rfl)) rfl ?_
  exact ⟨rfl, H2.out.2⟩
end Go.Proofs.Ytkmbkihfdilmbaa.Vo
namespace Go.Proofs.Ytkmbkihfdilmbaa
open Go.RowKit
end Go.Proofs.Ytkmbkihfdilmbaa
namespace Go.Proofs.Ytkmbkihfdilmbaa
open Go.RowKit
end Go.Proofs.Ytkmbkihfdilmbaa
namespace Go.Proofs.Ytkmbkihfdilmbaa
open Go.RowKit
end Go.Proofs.Ytkmbkihfdilmbaa
namespace Go.Proofs.Ytkmbkihfdilmbaa
open Go.RowKit
end Go.Proofs.Ytkmbkihfdilmbaa
namespace Go.Proofs.Ytkmbkihfdilmbaa.Im
open Go.RowKit
open Rl (En Lg)
set_option maxRecDepth 100000
set_option linter.unusedVariables false
theorem loadAt_log1 (a : Value) : Instr.loadAt 25 a = ldX 25 a := rfl
theorem storeAt_log1 (a v : Value) : Instr.storeAt 25 a v = stX 25 a v := rfl
theorem info_log33 : (Try.prog.info? 25).map (·.size) = some 3 := by kernel_rfl
attribute [local go_sem ↓] loadAt_log1 storeAt_log1
def sinceM (g : Lg) (b t : Int) : Lg := if g.cutE b = 0 ∧ (g.cut b).term = t then g.cut b else ⟨b, t, []⟩
end Go.Proofs.Ytkmbkihfdilmbaa.Im
namespace Go.Proofs.Ytkmbkihfdilmbaa.Vo
open Go Go.RowKit
open Rl (En Lg)
open Im (ldX stX)
set_option maxRecDepth 100000
set_option linter.unusedVariables false
attribute [local go_sem ↓] Im.loadAt_log1 Im.storeAt_log1
def sevenL : Lg := ⟨5, 2, [⟨2, 0, []⟩, ⟨3, 0, []⟩]⟩
theorem seven_any (w : World) :
    Calls Try.prog 7 #[] w fun e w' => ∃ A, e = .returned (.agg #[.int .i64 5, .int .i64 2, .slice A 2 2]) ∧ LgIs w' w'.heap.size sevenL A 2 ∧ Below w.heap.size w w' := by
  obtain ⟨hb, hz⟩ := boxes w #[.int .i64 0, .int .i64 0, .slice none 0 0] #[.int .i64 2, .int .i64 0, .slice none 0 0, .int .i64 3, .int .i64 0, .slice none 0 0] 25 64
  have q0 : ((w.alloc (.cells #[.int .i64 0, .int .i64 0, .slice none 0 0] 25)).alloc (.cells #[.int .i64 2, .int .i64 0, .slice none 0 0, .int .i64 3, .int .i64 0, .slice none 0 0] 64)).heap[w.heap.size]? = some (.cells #[.int .i64 0, .int .i64 0, .slice none 0 0] 25 (0, 0)) := by rw [heap_alloc_old _ _ (by simp)]; exact heap_alloc_new w _
  have q1 := heap_alloc_new (w.alloc (.cells #[.int .i64 0, .int .i64 0, .slice none 0 0] 25)) (.cells #[.int .i64 2, .int .i64 0, .slice none 0 0, .int .i64 3, .int .i64 0, .slice none 0 0] 64)
  rw [World.size_alloc] at q1
  obtain ⟨w2, hw2⟩ : ∃ w2, w2 = (w.alloc (.cells #[.int .i64 0, .int .i64 0, .slice none 0 0] 25)).alloc (.cells #[.int .i64 2, .int .i64 0, .slice none 0 0, .int .i64 3, .int .i64 0, .slice none 0 0] 64) := ⟨_, rfl⟩
  rw [← hw2] at hb hz q0 q1
  have hst := Im.stRow Im.info_log33 (cs' := #[.int .i64 5, .int .i64 2, .slice (some ⟨w.heap.size + 1, 0, none⟩) 2 2]) q0 rfl rfl (by simp [Value.oneCell'])
  have r9 := setRow_heap w2 w.heap.size _ #[.int .i64 5, .int .i64 2, .slice (some ⟨w.heap.size + 1, 0, none⟩) 2 2] _ _ q0
  have t9 := Im.row_turned w2 w.heap.size #[.int .i64 5, .int .i64 2, .slice (some ⟨w.heap.size + 1, 0, none⟩) 2 2]
  have HF : Hid ((w2.setRow w.heap.size #[.int .i64 5, .int .i64 2, .slice (some ⟨w.heap.size + 1, 0, none⟩) 2 2]).heap[w.heap.size]? = some (.cells #[.int .i64 5, .int .i64 2, .slice (some ⟨w.heap.size + 1, 0, none⟩) 2 2] 25 (0, 0)) ∧ LgIs (w2.setRow w.heap.size #[.int .i64 5, .int .i64 2, .slice (some ⟨w.heap.size + 1, 0, none⟩) 2 2]) (w2.setRow w.heap.size #[.int .i64 5, .int .i64 2, .slice (some ⟨w.heap.size + 1, 0, none⟩) 2 2]).heap.size sevenL (some ⟨w.heap.size + 1, 0, none⟩) 2 ∧ Below w.heap.size w (w2.setRow w.heap.size #[.int .i64 5, .int .i64 2, .slice (some ⟨w.heap.size + 1, 0, none⟩) 2 2])) := hid (by
    have hz9 := t9.size
    have q9 := (t9.block (w.heap.size + 1) (by omega) (by omega)).trans q1
    have cc : ∀ j, (w2.setRow w.heap.size #[.int .i64 5, .int .i64 2, .slice (some ⟨w.heap.size + 1, 0, none⟩) 2 2]).cell? ⟨w.heap.size + 1, j, none⟩ = _ := fun j => cell_of_row _ _ j _ _ _ q9
    refine ⟨r9, ⟨⟨by simp [sevenL, InInt], fun k hk => ⟨w.heap.size + 1, 0, rfl, by omega, fun i hi => ?_⟩⟩, ⟨by decide, by decide⟩, by simp, by simp [sevenL, InInt]⟩, hb.trans (t9.below hb.size (fun k hk => by omega))⟩
    have hi2 : i < 2 := hi
    rcases i with _ | _ | i
    · exact ⟨none, 0, cc 0, cc 1, cc 2, IsBytes.nil, by simp [sevenL]⟩
    · exact ⟨none, 0, cc 3, cc 4, cc 5, IsBytes.nil, by simp [sevenL]⟩
    · omega)
  rw [hw2] at hst
  clear q0 q1 hb hz r9 t9
  go_enter Try.func7, Try.ntmps7
  go_wp2_with fail
  try rw [← hw2]
  clear hst hw2
  refine bodyPost_ret (results_cell_row rfl _ _ w.heap.size _ _ _ _ rfl HF.out.1 Try.underlying25 rfl (by rw [Im.info_log33]; rfl)) rfl ?_
  exact ⟨_, rfl, HF.out.2⟩
end Go.Proofs.Ytkmbkihfdilmbaa.Vo
namespace Go.Proofs.Ytkmbkihfdilmbaa.Vo
open Go Go.RowKit
open Rl (En Lg)
open Im (ldX stX)
set_option maxRecDepth 100000
set_option linter.unusedVariables false
attribute [local go_sem ↓] Im.loadAt_log1 Im.storeAt_log1
theorem long_any (g : Lg) (A : Option Addr) (c : Nat) (hb : (0 ≤ g.base ∧ g.base ≤ 1099511627776) ∧ (0 ≤ g.term ∧ g.term ≤ 1099511627776)) (hbig : big g.es 2000 65536 = false) (w : World) (h : LgIs w w.heap.size g A c) :
    Calls Try.prog 32 #[.agg #[.int .i64 g.base, .int .i64 g.term, .slice A g.es.length c]] w fun e w' => e = .returned (.bool false) ∧ Below w.heap.size w w' := by
  obtain ⟨w1, hw1⟩ : ∃ w1, w1 = w.alloc (.cells #[.int .i64 g.base, .int .i64 g.term, .slice A g.es.length c] 25) := ⟨_, rfl⟩
  have q1 : w1.heap[w.heap.size]? = some (.cells #[.int .i64 g.base, .int .i64 g.term, .slice A g.es.length c] 25 (0, 0)) := by rw [hw1]; exact heap_alloc_new w _
  have hb1 : Below w.heap.size w w1 := by rw [hw1]; exact (Below.refl _ w).alloc (Nat.le_refl _) _
  have HE := hid (big_any w.heap.size A c g.es.length g.es rfl 2000 65536 (by decide) (by decide) w1 (h.es.below hb1))
  rw [hbig] at HE
  have c0 : w1.cell? ⟨w.heap.size, 0, none⟩ = some (.int .i64 g.base) := cell_of_row _ _ 0 _ _ _ q1
  have c1 : w1.cell? ⟨w.heap.size, 1, none⟩ = some (.int .i64 g.term) := cell_of_row _ _ 1 _ _ _ q1
  have c2 : w1.cell? ⟨w.heap.size, 2, none⟩ = some (.slice A g.es.length c) := cell_of_row _ _ 2 _ _ _ q1
  have HB := hid hb1
  have h1 : ¬ g.base < 0 := by omega
  have h2 : ¬ 1099511627776 < g.base := by omega
  have h3 : ¬ g.term < 0 := by omega
  have h4 : ¬ 1099511627776 < g.term := by omega
  clear q1 hb1 h hbig hb
  go_enter Try.func32, Try.ntmps32
  go_wp2_with fail
  rw [← hw1]
  refine HE.out.mono ?_
  rintro e w2 ⟨rfl, rfl⟩
  clear hw1
  go_wp2_with fail
  go_ret
  exact ⟨rfl, HB.out⟩
end Go.Proofs.Ytkmbkihfdilmbaa.Vo
namespace Go.Proofs.Ytkmbkihfdilmbaa.Vo
open Go Go.RowKit
open Rl (En Lg)
open Ms (M)
set_option maxRecDepth 100000
set_option linter.unusedVariables false
theorem row_lt' {w : World} {g : Nat} {o : Obj} (h : w.heap[g]? = some o) : g < w.heap.size := (Array.getElem?_eq_some_iff.1 h).1
theorem seven_ok : Rl.Ok sevenL := by unfold Rl.Ok sevenL; simp
theorem grants7_any (f t i p : Int) (term v : Int) (r : Bool) (hr : grants term v sevenL (askM f t i p) = r) (A : Option Addr) (w : World) (h : LgIs w w.heap.size sevenL A 2) :
    Calls Try.prog 13 #[.int .i64 term, .int .i64 v, .agg #[.int .i64 5, .int .i64 2, .slice A 2 2], .agg #[.int .i64 1, .int .i64 f, .int .i64 1, .int .i64 0, .int .i64 t, .int .i64 i, .int .i64 p, .int .i64 0, .int .i64 0, .int .i64 0, .int .i64 0, .int .i64 0, .int .i64 0, .int .i64 0, .bool false, .slice none 0 0, .slice none 0 0]] w fun e w' => e = .returned (.bool r) ∧ Below w.heap.size w w' := by
  have := grants_any w.heap.size sevenL A 2 (askM f t i p) none 0 none 0 term v seven_ok w h (Nat.le_refl _)
  rw [hr] at this
  exact this
theorem asked7_any (f t i p : Int) (w : World) :
    Calls Try.prog 9 #[.int .i64 f, .int .i64 t, .int .i64 i, .int .i64 p] w fun e w' => e = .returned (.agg #[.int .i64 1, .int .i64 f, .int .i64 1, .int .i64 0, .int .i64 t, .int .i64 i, .int .i64 p, .int .i64 0, .int .i64 0, .int .i64 0, .int .i64 0, .int .i64 0, .int .i64 0, .int .i64 0, .bool false, .slice none 0 0, .slice none 0 0]) ∧ Below w.heap.size w w' := asked_any f t i p w
set_option maxHeartbeats 3200000 in
theorem works_any (w : World) :
    Calls Try.prog 15 #[] w fun e w' => e = .returned (.bool true) ∧ Below w.heap.size w w' := by
  have T1 := hid (timeout_any 9 (by unfold InInt; omega) w)
  have T2 := hid (timeout_any (-1) (by unfold InInt; omega) w)
  rw [show tmo 9 = 19 by decide] at T1
  rw [show tmo (-1) = 19 by decide] at T2
  go_enter Try.func15, Try.ntmps15
  go_wp2_with fail
  refine T1.out.mono ?_
  rintro e w1 ⟨rfl, rfl⟩
  go_wp2_with fail
  refine T2.out.mono ?_
  rintro e w2 ⟨rfl, rfl⟩
  go_wp2_with fail
  refine (seven_any _).mono ?_
  rintro e w1 ⟨A1, rfl, hl1, hb1⟩
  have L1 := hid hl1
  have B1 := hid hb1
  clear hl1 hb1
  go_wp2_with fail
  refine (asked7_any 2 5 7 3 w1).mono ?_
  rintro e w3 ⟨rfl, hb3⟩
  have L3 := hid ((L1.out.below hb3).more hb3.size)
  have B3 := hid (B1.out.trans (hb3.mono B1.out.size))
  clear hb3
  go_wp2_with fail
  refine (grants7_any 2 5 7 3 5 0 true (by decide) A1 w3 L3.out).mono ?_
  rintro e w4 ⟨rfl, hb4⟩
  have B4 := hid (B3.out.trans (hb4.mono B3.out.size))
  clear hb4
  go_wp2_with fail
  refine (seven_any _).mono ?_
  rintro e w5 ⟨A5, rfl, hl5, hb5⟩
  have L5 := hid hl5
  have B5 := hid (B4.out.trans (hb5.mono B4.out.size))
  clear hl5 hb5 L1 L3
  go_wp2_with fail
  refine (asked7_any 2 5 6 3 w5).mono ?_
  rintro e w6 ⟨rfl, hb6⟩
  have L6 := hid ((L5.out.below hb6).more hb6.size)
  have B6 := hid (B5.out.trans (hb6.mono B5.out.size))
  clear hb6 L5
  go_wp2_with fail
  refine (grants7_any 2 5 6 3 5 0 false (by decide) A5 w6 L6.out).mono ?_
  rintro e w7 ⟨rfl, hb7⟩
  have B7 := hid (B6.out.trans (hb7.mono B6.out.size))
  clear hb7 L6
  go_wp2_with fail
  refine (seven_any _).mono ?_
  rintro e w8 ⟨A8, rfl, hl8, hb8⟩
  have B8 := hid (B7.out.trans (hb8.mono B7.out.size))
  obtain ⟨w9, hw9⟩ : ∃ w9, w9 = w8.alloc (.cells #[.int .i64 1, .int .i64 2, .int .i64 3] 3) := ⟨_, rfl⟩
  have hb9 : Below w8.heap.size w8 w9 := by rw [hw9]; exact (Below.refl _ w8).alloc (Nat.le_refl _) _
  have q9 : w9.heap[w8.heap.size]? = some (.cells #[.int .i64 1, .int .i64 2, .int .i64 3] 3 (0, 0)) := by rw [hw9]; exact heap_alloc_new w8 _
  have L9 := hid ((hl8.below hb9).more hb9.size)
  have B9 := hid (B8.out.trans (hb9.mono B8.out.size))
  have HA := hid (asks_any 1 0 5 sevenL A8 2 ⟨[1, 2, 3], [], []⟩ (some ⟨w8.heap.size, 0, none⟩) none none 3 0 0 seven_ok (by decide) w9 L9.out ⟨⟨by simp [InInt], fun k hk => ⟨w8.heap.size, 0, rfl, row_lt' q9, fun i hi => by
    have hi3 : i < 3 := hi
    have cc := fun j => cell_of_row _ _ j _ _ _ q9
    rcases i with _ | _ | _ | i
    · exact cc 0
    · exact cc 1
    · exact cc 2
    · omega⟩⟩, IsInts.nil, IsInts.nil, by simp, by simp, by simp, by decide, by decide, by decide⟩)
  clear hl8 hb8 hb9 q9
  rw [show (others 1 (⟨[1, 2, 3], [], []⟩ : Qu.Cf)).length = 2 by decide] at HA
  go_wp2_with fail
  try rw [← hw9]
  clear hw9
  refine HA.out.mono ?_
  rintro e v1 ⟨A', c', n', rfl, rfl, _, hb10⟩
  have B10 := hid (B9.out.trans (hb10.mono B9.out.size))
  clear hb10
  go_wp2_with fail
  go_ret
  exact ⟨rfl, B10.out⟩
end Go.Proofs.Ytkmbkihfdilmbaa.Vo
namespace Go.Proofs.Ytkmbkihfdilmbaa
open Go.RowKit
set_option maxHeartbeats 800000 in
set_option maxRecDepth 100000 in
theorem ent_same (p q : Rl.En) (A A' : Option Addr) (c c' : Nat) (hp : p.d.length ≤ maxLen) (hq : q.d.length ≤ maxLen) (w : World) (h : IsBytes w w.heap.size A p.d) (h' : IsBytes w w.heap.size A' q.d) :
    Calls Try.prog 70 #[.agg #[.int .i64 p.t, .int .i64 p.k, .slice A p.d.length c], .agg #[.int .i64 q.t, .int .i64 q.k, .slice A' q.d.length c']] w fun e w' => e = .returned (.bool (decide (p = q))) ∧ Below w.heap.size w w' := by
  obtain ⟨w1, hw1⟩ : ∃ w1, w1 = (w.alloc (.cells #[.int .i64 p.t, .int .i64 p.k, .slice A p.d.length c] 64)).alloc (.cells #[.int .i64 q.t, .int .i64 q.k, .slice A' q.d.length c'] 64) := ⟨_, rfl⟩
  have hb1 : Below w.heap.size w w1 := by rw [hw1]; exact ((Below.refl _ w).alloc (Nat.le_refl _) _).alloc (by simp) _
  have HS := hid (same_any w1.heap.size w1.heap.size A A' c c' p.d q.d hp hq w1 ((h.below hb1).more hb1.size) ((h'.below hb1).more hb1.size))
  have HB := hid hb1
  rw [hw1] at HS HB
  clear hb1 hw1 h h'
  by_cases ha : p.t = q.t
  · by_cases hb : p.k = q.k
    · by_cases hd : p.d = q.d
      · have HE : Hid (decide (p = q) = true) := hid (decide_eq_true (by cases p; cases q; simp at ha hb hd; simp [ha, hb, hd]))
        rw [decide_eq_true hd] at HS
        clear hd
        rw [ha, hb] at HS HB
        rw [HE.out]
        go_enter Try.func70, Try.ntmps70
        go_wp2_with fail
        refine HS.out.mono ?_
        rintro e w2 ⟨rfl, n, hw2⟩
        have HW : Hid (Below w.heap.size w w2) := by rw [hw2]; exact below_drewN HB.out n
        clear hw2
        go_wp2_with fail
        go_ret
        exact ⟨rfl, HW.out⟩
      · have HE : Hid (decide (p = q) = false) := hid (decide_eq_false (by rintro rfl; exact hd rfl))
        rw [decide_eq_false hd] at HS
        clear hd
        rw [ha, hb] at HS HB
        rw [HE.out]
        go_enter Try.func70, Try.ntmps70
        go_wp2_with fail
        refine HS.out.mono ?_
        rintro e w2 ⟨rfl, n, hw2⟩
        have HW : Hid (Below w.heap.size w w2) := by rw [hw2]; exact below_drewN HB.out n
        clear hw2
        go_wp2_with fail
        go_ret
        exact ⟨rfl, HW.out⟩
    · have HE : Hid (decide (p = q) = false) := hid (decide_eq_false (by rintro rfl; exact hb rfl))
      rw [ha] at HB
      rw [HE.out]
      go_enter Try.func70, Try.ntmps70
      go_wp2_with fail
      go_ret
      exact ⟨rfl, HB.out⟩
  · have HE : Hid (decide (p = q) = false) := hid (decide_eq_false (by rintro rfl; exact ha rfl))
    rw [HE.out]
    go_enter Try.func70, Try.ntmps70
    go_wp2_with fail
    go_ret
    exact ⟨rfl, HB.out⟩
set_option maxHeartbeats 800000 in
set_option maxRecDepth 100000 in
theorem ents_same (A A' : Option Addr) (c c' n m : Nat) (L M : List Rl.En) (hn : L.length = n) (hm : M.length = m) (hL : n ≤ 100000) (w : World) (h : IsEnts w w.heap.size A L) (h' : IsEnts w w.heap.size A' M) :
    Calls Try.prog 52 #[.slice A n c, .slice A' m c'] w fun e w' => e = .returned (.bool (decide (L = M))) ∧ Below w.heap.size w w' := by
  subst hn
  subst hm
  by_cases hl : L.length = M.length
  · have hl0 : (L.length : Int) = (M.length : Int) := by omega
    have HH := hid (And.intro h h')
    clear h h'
    go_enter Try.func52, Try.ntmps52
    go_wp2_with fail
    go_loopw [5] (fun i wr => ∃ k : Nat, k ≤ L.length ∧ i = .int .i64 k ∧ Hid (L.take k = M.take k ∧ Below w.heap.size w wr)) (fun i _ => L.length - (RowKit.intOf i).toNat)
    case atStart => exact ⟨0, by omega, rfl, hid ⟨by simp, Below.refl _ _⟩⟩
    case round =>
      obtain ⟨k, hk, rfl, hS⟩ := hrel
      have HL := hid hl
      by_cases hlt : k < L.length
      · have hr := HH.out.1.below hS.out.2
        have hr' := HH.out.2.below hS.out.2
        obtain ⟨b, off, rfl, hbl, hc⟩ := hr.cells k hlt
        have hkM : k < M.length := by omega
        obtain ⟨b', off', rfl, hbl', hc'⟩ := hr'.cells k hkM
        obtain ⟨A1, c1, d0, d1, d2, hB1', hm1', _⟩ := hc k hlt
        have hB1 := hB1'.more hS.out.2.size
        have hm1 := Nat.le_trans hm1'.1 hm1'.2
        obtain ⟨A2, c2, e0, e1, e2, hB2', hm2', _⟩ := hc' k hkM
        have hB2 := hB2'.more hS.out.2.size
        have hm2 := Nat.le_trans hm2'.1 hm2'.2
        clear hB1' hB2' hm1' hm2'
        have hk0 : (k : Int) < (L.length : Int) := by omega
        have hk1 : (k : Int) < (M.length : Int) := by omega
        have HC := hid (ent_same L[k] M[k] A1 A2 c1 c2 hm1 hm2 wr.drew (hB1.drewN 1) (hB2.drewN 1))
        have d0W : wr.drew.cell? ⟨b, off + k * 3, none⟩ = some (.int .i64 L[k].t) := d0
        have d1W : wr.drew.cell? ⟨b, off + k * 3 + 1, none⟩ = some (.int .i64 L[k].k) := d1
        have d2W : wr.drew.cell? ⟨b, off + k * 3 + 2, none⟩ = some (.slice A1 L[k].d.length c1) := d2
        have e0W : wr.drew.cell? ⟨b', off' + k * 3, none⟩ = some (.int .i64 M[k].t) := e0
        have e1W : wr.drew.cell? ⟨b', off' + k * 3 + 1, none⟩ = some (.int .i64 M[k].k) := e1
        have e2W : wr.drew.cell? ⟨b', off' + k * 3 + 2, none⟩ = some (.slice A2 M[k].d.length c2) := e2
        by_cases he : L[k] = M[k]
        · rw [decide_eq_true he] at HC
          have hS' : L.take (k + 1) = M.take (k + 1) := by
            rw [List.take_succ_eq_append_getElem hlt, List.take_succ_eq_append_getElem hkM, hS.out.1, he]
          have HS := hid hS'
          clear hc hc' hr hr' hB1 hB2 hS' he hl
          go_wp2_with fail
          go_still_tail 8, (by kernel_rfl)
          go_wp2_with fail
          refine HC.out.mono ?_
          rintro e w2 ⟨rfl, hb2⟩
          have HB2 : Hid (L.take (k + 1) = M.take (k + 1) ∧ Below w.heap.size w w2) := hid ⟨HS.out, hS.out.2.trans (((Below.refl _ wr).drew.trans hb2).mono hS.out.2.size)⟩
          clear hb2 d0W d1W d2W e0W e1W e2W d0 d1 d2 e0 e1 e2
          go_wp2_with fail
          go_roundw
          case rel => exact ⟨k + 1, by omega, by go_num, HB2⟩
          case measure => simp [RowKit.intOf]; omega
        · rw [decide_eq_false he] at HC
          have hne : decide (L = M) = false := decide_eq_false (fun e => by subst e; exact he rfl)
          have HE := hid hne
          clear hc hc' hr hr' hB1 hB2 he hne hl
          go_wp2_with fail
          go_still_tail 8, (by kernel_rfl)
          go_wp2_with fail
          refine HC.out.mono ?_
          rintro e w2 ⟨rfl, hb2⟩
          have HB2 : Hid (Below w.heap.size w w2) := hid (hS.out.2.trans (((Below.refl _ wr).drew.trans hb2).mono hS.out.2.size))
          clear hb2 d0W d1W d2W e0W e1W e2W d0 d1 d2 e0 e1 e2
          go_wp2_with fail
          go_ret
          rw [HE.out]
          exact ⟨rfl, HB2.out⟩
      · obtain rfl : k = L.length := by omega
        have hE : decide (L = M) = true := decide_eq_true (by
          have := hS.out.1
          rw [List.take_length, hl, List.take_length] at this
          exact this)
        have HE := hid hE
        have hk0 : ¬ (L.length : Int) < (L.length : Int) := by omega
        clear hE hlt
        go_wp2_with fail
        go_ret
        rw [HE.out]
        exact ⟨rfl, hS.out.2⟩
  · have hE : decide (L = M) = false := decide_eq_false (fun e => hl (by rw [e]))
    rw [hE]
    have hl0 : ¬ (L.length : Int) = (M.length : Int) := by omega
    clear h h' hE hl
    go_enter Try.func52, Try.ntmps52
    go_wp2
    go_ret
    exact ⟨rfl, Below.refl _ _⟩
end Go.Proofs.Ytkmbkihfdilmbaa
namespace Go.Proofs.Ytkmbkihfdilmbaa
open Go.RowKit
set_option maxHeartbeats 400000 in
theorem copy_any (B : Nat) (A : Option Addr) (c : Nat) (l : List Nat) (hl : l.length ≤ 140737488355328) (w : World) (h : IsBytes w B A l) (hB : B ≤ w.heap.size) :
    Calls Try.prog 47 #[.slice A l.length c] w fun e w' => ∃ A' c', e = .returned (.slice A' l.length c') ∧ OwnsB 5 w' w.heap.size A' c' l ∧ Below w.heap.size w w' := by
  obtain ⟨i0, hi, hz0, hz1, hz2⟩ := info_parts info_u8
  go_enter Try.func47, Try.ntmps47
  go_wp2
  go_loopw [3, 4] (fun v i wr => ∃ k : Nat, k ≤ l.length ∧ i = .int .i64 k ∧ wr.ownsRow w.heap.size 5 1 v k (bytes (l.take k)) ∧ Below w.heap.size w wr) (fun _ i _ => l.length - (RowKit.intOf i).toNat)
  case atStart => exact ⟨0, by omega, rfl, World.ownsRow_nil _ _ _ _, Below.refl _ _⟩
  case round =>
    obtain ⟨k, hk, rfl, hown, hbel⟩ := hrel
    by_cases hlt : k < l.length
    · have h1 := (h.below (hbel.mono hB))
      obtain ⟨b, off, rfl, _, hc⟩ := h1.cells k hlt
      have hck := hc k hlt
      clear hc
      go_wp2_with (at_builtin; refine wpList_append_own _ rfl _ _ 29 rfl w.heap.size 5 i0 (.int .u8 0) 1 1 Try.underlying29 hi hz0 hz1 hz2 rfl (by decide) _ _ _ rfl (hown.alloc _) ⟨wr.heap.size, 0, none⟩ 1 1 [.int .u8 (l[k] : Nat)] rfl rfl ?c1 ?c2 ?c3 ?c4 ?c5 ?_)
      case c1 =>
        intro j u hj
        match j, hj with
        | 0, hj => simp at hj; subst hj; simp [Addr.add]
      case c2 => intro u hu; simp at hu; subst hu; rfl
      case c3 => unfold maxLen; omega
      case c4 => omega
      case c5 => have := hbel.size; simp; omega
      intro v' w1 hown' hgrow _
      rw [bytes_snoc l k hlt] at hown'
      have hb1 : Below w.heap.size w w1 := (hbel.alloc hbel.size _).grown hgrow (by have := hbel.size; simp; omega) (fun g hg => (hown.lt g hg).1)
      clear hgrow hown hbel hck
      go_wp2
      go_roundw
      case rel => exact ⟨k + 1, by omega, by go_num, hown', hb1⟩
      case measure => simp [RowKit.intOf]; omega
    · obtain rfl : k = l.length := by omega
      rw [List.take_length] at hown
      obtain ⟨A', c', rfl⟩ := own_slice hown
      go_wp2
      go_ret
      exact ⟨A', c', rfl, ⟨h.small, hown⟩, hbel⟩
theorem copy_N (B : Nat) (A : Option Addr) (c : Nat) (l : List Nat) (n : Nat) (hn : l.length = n) (hl : n ≤ 140737488355328) (w : World) (h : IsBytes w B A l) (hB : B ≤ w.heap.size) :
    Calls Try.prog 47 #[.slice A n c] w fun e w' => ∃ A' c', e = .returned (.slice A' n c') ∧ OwnsB 5 w' w.heap.size A' c' l ∧ Below w.heap.size w w' := by
  subst hn; exact copy_any B A c l hl w h hB
end Go.Proofs.Ytkmbkihfdilmbaa
namespace Go.Proofs.Ytkmbkihfdilmbaa
open Go.RowKit
set_option maxHeartbeats 1600000 in
set_option maxRecDepth 100000 in
theorem copyE_any (B : Nat) (A : Option Addr) (c n : Nat) (L : List Rl.En) (hn : L.length = n) (hl : n ≤ 90000) (hf : Rl.Few L) (w : World) (h : IsEnts w B A L) (hB : B ≤ w.heap.size) :
    Calls Try.prog 46 #[.slice A n c] w fun e w' => ∃ A' c', e = .returned (.slice A' n c') ∧ OwnE w' w.heap.size w'.heap.size A' c' L ∧ Below w.heap.size w w' := by
  subst hn
  have HH := hid (h.more hB)
  have HF := hid hf
  have H1 : Hid (OwnE w w.heap.size w.heap.size none 0 (L.take 0) ∧ Below w.heap.size w w) := hid ⟨OwnE.nil _ _ _, Below.refl _ _⟩
  clear h hf
  go_enter Try.func46, Try.ntmps46
  go_wp2_with fail
  go_loopw [3, 4] (fun v i wr => ∃ (k : Nat) (A1 : Option Addr) (c1 : Nat), k ≤ L.length ∧ v = .slice A1 k c1 ∧ i = .int .i64 k ∧ Hid (OwnE wr w.heap.size wr.heap.size A1 c1 (L.take k) ∧ Below w.heap.size w wr)) (fun _ i _ => L.length - (RowKit.intOf i).toNat)
  case atStart => exact ⟨0, _, _, by omega, rfl, rfl, H1⟩
  case round =>
    clear H1
    obtain ⟨k, A1, c1, hk, rfl, rfl, hS⟩ := hrel
    by_cases hlt : k < L.length
    · obtain ⟨b, off, rfl, hbw, hc⟩ := (HH.out.below hS.out.2).cells k hlt
      obtain ⟨Ad, cd, d0, d1, d2, hd, hd2, hd3⟩ := hc k hlt
      have hk0 : (k : Int) < (L.length : Int) := by omega
      have hfk : L[k].d.length ≤ 65536 := HF.out _ (List.getElem_mem hlt)
      have hnum := HH.out.num _ (List.getElem_mem hlt)
      have htk : L.take (k + 1) = L.take k ++ [L[k]] := List.take_succ_eq_append_getElem hlt
      obtain ⟨x, hx⟩ : ∃ x, x = L[k] := ⟨_, rfl⟩
      rw [← hx] at d0 d1 d2 hd hd2 hfk hnum htk
      have HX := hid (And.intro hnum htk)
      have HC := hid (copy_N wr.heap.size Ad cd x.d x.d.length rfl (by omega) wr.drew ((hd.more hS.out.2.size).drewN 1) (Nat.le_refl _))
      have HK : Hid (∀ w', Below w.heap.size wr w' → w'.cell? ⟨b, off + k * 3, none⟩ = some (.int .i64 x.t) ∧ w'.cell? ⟨b, off + k * 3 + 1, none⟩ = some (.int .i64 x.k) ∧ w'.cell? ⟨b, off + k * 3 + 2, none⟩ = some (.slice Ad x.d.length cd)) := hid (fun w' hb => ⟨(hb.cell (by show b < _; omega)).trans d0, (hb.cell (by show b < _; omega)).trans d1, (hb.cell (by show b < _; omega)).trans d2⟩)
      have hl5 : k + 1 ≤ 100000 := by omega
      have HLK : Hid ((L.take k).length = k) := hid (by rw [List.length_take]; omega)
      clear hc hx hnum htk hd hd2 hd3 hfk
      go_wp2_with fail
      go_region_held3 (fun w' => w'.cell? ⟨b, off + k * 3, none⟩ = some (.int .i64 x.t) ∧ w'.cell? ⟨b, off + k * 3 + 1, none⟩ = some (.int .i64 x.k) ∧ w'.cell? ⟨b, off + k * 3 + 2, none⟩ = some (.slice Ad x.d.length cd))
        (first | exact HK.out _ (Below.refl _ wr).drew | exact HK.out _ hb2.out | exact HK.out _ (hb2.out.alloc hN2.out _) | exact HK.out _ h6.out.2 | fail)
        (first
          | (refine step_append_ent (by rfl) _ _ (by rfl) (hS.out.1.below (hb1.out.alloc hb1.out.size _)) hS.out.2.size (by rw [World.size_alloc]; have := hb1.out.size; omega) k HLK.out (by rfl) x HX.out.1 A2 c2 (ho2.out.below ((Below.refl _ w2).alloc (Nat.le_refl _) _)) ⟨w2.heap.size, 0, none⟩ 1 (by rfl) (fun j _ => cellsE_new w2 _ rfl ⟨x, A2, c2⟩ _ j) hl5 ?_; intro A6 c6 w6 hE6 hB6; have h6 := hid (And.intro hE6 ((hb2.out.alloc hN2.out _).trans hB6)); clear hE6 hB6)
          | (go_at_call 47; refine HC.out.mono ?_; rintro e w2 ⟨A2, c2, rfl, ho2', hb2'⟩; have ho2 := hid ho2'; have hb1 := hid ((Below.refl _ wr).drew.trans hb2'); have hb2 := hid (hb1.out.mono hS.out.2.size); have hN2 := hid (Nat.le_trans hS.out.2.size hb1.out.size); clear ho2' hb2'))
      all_goals
        (have H6 : Hid (OwnE w6 w.heap.size w6.heap.size A6 c6 (L.take (k + 1)) ∧ Below w.heap.size w w6) := hid ⟨by rw [HX.out.2]; exact h6.out.1, hS.out.2.trans h6.out.2⟩
         clear h6 hb1 hb2 hN2 ho2 HK HC d0 d1 d2
         go_wp2_with fail
         go_roundw
         case rel => exact ⟨k + 1, A6, c6, by omega, rfl, by go_num, H6⟩
         case measure => simp [RowKit.intOf]; omega)
    · obtain rfl : k = L.length := by omega
      have hS1 := hS.out
      rw [List.take_length] at hS1
      have HS := hid hS1
      clear hS hS1
      go_wp2_with fail
      go_ret
      exact ⟨A1, c1, rfl, HS.out.1, HS.out.2⟩
end Go.Proofs.Ytkmbkihfdilmbaa
namespace Go.Proofs.Ytkmbkihfdilmbaa
open Go.RowKit
set_option maxHeartbeats 800000 in
set_option maxRecDepth 100000 in
theorem log_same (p q : Rl.Lg) (A A' : Option Addr) (c c' : Nat) (hl : p.es.length ≤ 100000) (w : World) (h : IsEnts w w.heap.size A p.es) (h' : IsEnts w w.heap.size A' q.es) :
    Calls Try.prog 37 #[.agg #[.int .i64 p.base, .int .i64 p.term, .slice A p.es.length c], .agg #[.int .i64 q.base, .int .i64 q.term, .slice A' q.es.length c']] w fun e w' => e = .returned (.bool (decide (p = q))) ∧ Below w.heap.size w w' := by
  obtain ⟨w1, hw1⟩ : ∃ w1, w1 = (w.alloc (.cells #[.int .i64 p.base, .int .i64 p.term, .slice A p.es.length c] 25)).alloc (.cells #[.int .i64 q.base, .int .i64 q.term, .slice A' q.es.length c'] 25) := ⟨_, rfl⟩
  have hb1 : Below w.heap.size w w1 := by rw [hw1]; exact ((Below.refl _ w).alloc (Nat.le_refl _) _).alloc (by simp) _
  have HS := hid (ents_same A A' c c' p.es.length q.es.length p.es q.es rfl rfl hl w1 ((h.below hb1).more hb1.size) ((h'.below hb1).more hb1.size))
  have HB := hid hb1
  have HZ := hid hb1.size
  rw [hw1] at HS HB HZ
  clear hb1 hw1 h h'
  by_cases ha : p.base = q.base
  · by_cases hb : p.term = q.term
    · have HE : Hid (decide (p = q) = decide (p.es = q.es)) := hid (by
        rw [decide_eq_decide]
        cases p; cases q
        simp at ha hb
        simp [ha, hb])
      rw [ha, hb] at HS HB HZ
      rw [HE.out]
      generalize decide (p.es = q.es) = bb at HS ⊢
      clear HE
      cases bb <;>
      (go_enter Try.func37, Try.ntmps37
       go_wp2_with fail
       refine HS.out.mono ?_
       rintro e w2 ⟨rfl, hb2⟩
       have HW : Hid (Below w.heap.size w w2) := hid (HB.out.trans (hb2.mono HZ.out))
       clear hb2
       go_wp2_with fail
       go_ret
       exact ⟨rfl, HW.out⟩)
    · have HE : Hid (decide (p = q) = false) := hid (decide_eq_false (by rintro rfl; exact hb rfl))
      rw [ha] at HB
      rw [HE.out]
      go_enter Try.func37, Try.ntmps37
      go_wp2_with fail
      go_ret
      exact ⟨rfl, HB.out⟩
  · have HE : Hid (decide (p = q) = false) := hid (decide_eq_false (by rintro rfl; exact ha rfl))
    rw [HE.out]
    go_enter Try.func37, Try.ntmps37
    go_wp2_with fail
    go_ret
    exact ⟨rfl, HB.out⟩
set_option maxHeartbeats 800000 in
set_option maxRecDepth 100000 in
theorem copyLog_any (g : Rl.Lg) (A : Option Addr) (c n : Nat) (hn : g.es.length = n) (hl : n ≤ 90000) (hf : Rl.Few g.es) (w : World) (h : IsEnts w w.heap.size A g.es) :
    Calls Try.prog 33 #[.agg #[.int .i64 g.base, .int .i64 g.term, .slice A n c]] w fun e w' =>
      ∃ A' c', e = .returned (.agg #[.int .i64 g.base, .int .i64 g.term, .slice A' n c']) ∧ OwnE w' w.heap.size w'.heap.size A' c' g.es ∧ Below w.heap.size w w' := by
  obtain ⟨w1, hw1⟩ : ∃ w1, w1 = (w.alloc (.cells #[.int .i64 g.base, .int .i64 g.term, .slice A n c] 25)).alloc (.cells #[.int .i64 0, .int .i64 0, .slice none 0 0] 25) := ⟨_, rfl⟩
  have hb1 : Below w.heap.size w w1 := by rw [hw1]; exact ((Below.refl _ w).alloc (Nat.le_refl _) _).alloc (by simp) _
  have hs1 : w1.heap.size = w.heap.size + 2 := by rw [hw1]; simp
  have HC := hid (copyE_any w.heap.size A c n g.es hn hl hf w1 (h.below hb1) hb1.size)
  have H1 := hid (And.intro hb1 hs1)
  rw [hw1] at HC H1
  have HW := hid hw1
  clear hb1 hs1 hw1 h
  go_enter Try.func33, Try.ntmps33
  go_wp2_with fail
  refine HC.out.mono ?_
  rintro e w2 ⟨A2, c2, rfl, ho2, hb2⟩
  have hs2 := hb2.size
  have q0 : w2.cell? ⟨w.heap.size, 0, none⟩ = some (.int .i64 g.base) := by rw [hb2.cell (by simp; omega)]; simp
  have q1 : w2.cell? ⟨w.heap.size, 1, none⟩ = some (.int .i64 g.term) := by rw [hb2.cell (by simp; omega)]; simp
  have q2 : w2.cell? ⟨w.heap.size, 2, none⟩ = some (.slice A n c) := by rw [hb2.cell (by simp; omega)]; simp
  have f2 : w2.frozen? ⟨w.heap.size, 2, none⟩ = false := by rw [hb2.frozen (by simp; omega)]; simp
  have r0 : w2.cell? ⟨w.heap.size + 1, 0, none⟩ = some (.int .i64 0) := by rw [hb2.cell (by simp)]; simp [World.cell?_alloc_at]
  have r1 : w2.cell? ⟨w.heap.size + 1, 1, none⟩ = some (.int .i64 0) := by rw [hb2.cell (by simp)]; simp [World.cell?_alloc_at]
  have r2 : w2.cell? ⟨w.heap.size + 1, 2, none⟩ = some (.slice none 0 0) := by rw [hb2.cell (by simp)]; simp [World.cell?_alloc_at]
  have f3 : ∀ k, w2.frozen? ⟨w.heap.size + 1, k, none⟩ = false := fun k => by rw [hb2.frozen (by simp)]; simp [World.frozen?_alloc_at]
  have HB : Hid (Below w.heap.size w w2) := hid (H1.out.1.trans (hb2.mono (by simp; omega)))
  have HO := hid ho2
  have hs3 : w.heap.size + 2 ≤ w2.heap.size := by simpa using hs2
  clear hb2 ho2 HC H1 hs2
  go_wp2_with fail
  refine bodyPost_ret (by simp [results, Try.results33, go_sem, r0, r1, r2]; try rfl) rfl ?_
  have T : Turned (fun k => k < w.heap.size + 2) w2 ((((w2.setCell ⟨w.heap.size, 2, none⟩ (.slice A2 n c2)).setCell ⟨w.heap.size + 1, 0, none⟩ (.int .i64 g.base)).setCell ⟨w.heap.size + 1, 1, none⟩ (.int .i64 g.term)).setCell ⟨w.heap.size + 1, 2, none⟩ (.slice A2 n c2)) := by
    (repeat' first | exact Turned.refl _ _ | refine Turned.setCell ?_ _ _ _ (fun _ => by omega))
  refine ⟨A2, c2, rfl, (HO.out.keep T (fun k hk hB => ?_)).wide ?_ T.size, HB.out.trans ?_⟩
  · have := hB.1; simp at this; omega
  · simp; omega
  · go_grown
end Go.Proofs.Ytkmbkihfdilmbaa
