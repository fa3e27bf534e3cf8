/- The library's Compact at ints: its contract, laid at this program; a sorted slice that the call made, made rising. -/
import Derived.Test.YtblhfbijffaacaaSortI
import Derived.Test.YtblhfbijffaacaaQuMath
import Derived.Shelf.SlicesG.CompactI
namespace Go.Proofs.Ytblhfbijffaacaa
open Go.RowKit Go.Maps Go.Sort Go.Shelf

def compA_ren : Go.Shelf.Ren := ⟨fun | 43 => 48 | n => n, fun | 0 => 0 | 3 => 3 | 4 => 4 | 22 => 22 | 23 => 3 | n => n, fun n => n⟩
theorem compA : Go.Proofs.SlLaysN.n43 Try.prog compA_ren := {
  mixed := by kernel_rfl
  f43 := ⟨Try.f48.name, by decide, Try.func48.trans (congrArg some (by kernel_rfl))⟩
  t0 := Try.underlying0
  a0 := Try.isAgg0
  z0 := Try.sizeOf0
  v0 := Try.zeroValue0
  t3 := Try.underlying3
  a3 := Try.isAgg3
  z3 := Try.sizeOf3
  v3 := Try.zeroValue3
  t4 := Try.underlying4
  a4 := Try.isAgg4
  z4 := Try.sizeOf4
  v4 := Try.zeroValue4
  t22 := Try.underlying22
  a22 := Try.isAgg22
  z22 := Try.sizeOf22
  v22 := Try.zeroValue22
  t23 := Try.underlying3
  a23 := Try.isAgg3
  z23 := Try.sizeOf3
  v23 := Try.zeroValue3
  i23 := by kernel_rfl }

theorem sub_compact (l : List Int) : ∀ x ∈ Lib.compact l, x ∈ l := by
  intro x hx
  unfold Lib.compact Lib.compactUpTo at hx
  obtain ⟨j, hj, rfl⟩ := List.mem_map.1 hx
  have hj := List.mem_range.1 (List.mem_filter.1 hj).1
  have : l.toArray[j]! = l[j] := by simp [hj]
  rw [this]
  exact List.getElem_mem hj
theorem compact_len (l : List Int) : (Lib.compact l).length ≤ l.length := by
  unfold Lib.compact Lib.compactUpTo
  rw [List.length_map]
  have := List.length_filter_le (Lib.keeps l.toArray) (List.range l.length)
  simpa using this
/-- of a sorted list Compact leaves each number once -/
theorem uni_compact {l : List Int} (hs : l.Pairwise (· ≤ ·)) : Qu.Uni (Lib.compact l) l := by
  have hg : ∀ j (h : j < l.length), l.toArray[j]! = l[j] := fun j h => by simp [h]
  constructor
  · unfold Lib.compact Lib.compactUpTo
    rw [List.pairwise_map]
    refine List.Pairwise.imp_of_mem ?_ ((List.pairwise_lt_range (n := l.length)).filter (Lib.keeps l.toArray))
    intro a b ha hb hab
    have hb1 := List.mem_range.1 (List.mem_filter.1 hb).1
    have hb2 := (List.mem_filter.1 hb).2
    unfold Lib.keeps at hb2
    rw [hg a (by omega), hg b hb1]
    rcases of_decide_eq_true hb2 with h0 | h0
    · omega
    · rw [hg b hb1, hg (b - 1) (by omega)] at h0
      have h1 : l[a] ≤ l[b - 1] := by
        rcases Nat.lt_or_eq_of_le (show a ≤ b - 1 by omega) with h2 | h2
        · exact (List.pairwise_iff_getElem.1 hs) a (b - 1) (by omega) (by omega) h2
        · subst h2; omega
      have h2 : l[b - 1] ≤ l[b] := (List.pairwise_iff_getElem.1 hs) (b - 1) b (by omega) hb1 (by omega)
      omega
  · intro x
    refine ⟨sub_compact l x, fun hx => ?_⟩
    obtain ⟨j, hj, rfl⟩ := List.getElem_of_mem hx
    -- the first place that holds it
    have key : ∀ j, ∀ (hj : j < l.length), l[j] ∈ Lib.compact l := by
      intro j
      induction j with
      | zero =>
        intro hj
        unfold Lib.compact Lib.compactUpTo
        exact List.mem_map.2 ⟨0, List.mem_filter.2 ⟨List.mem_range.2 hj, by simp [Lib.keeps]⟩, hg 0 hj⟩
      | succ j ih =>
        intro hj
        by_cases he : l[j + 1] = l[j]
        · rw [he]; exact ih (by omega)
        · unfold Lib.compact Lib.compactUpTo
          refine List.mem_map.2 ⟨j + 1, List.mem_filter.2 ⟨List.mem_range.2 hj, ?_⟩, hg _ hj⟩
          unfold Lib.keeps
          refine decide_eq_true (.inr ?_)
          rw [hg _ hj, show j + 1 - 1 = j from rfl, hg _ (by omega)]
          exact he
    exact key j hj
theorem heap_putRow_g {w : World} {g n : Nat} {cur : Array Value} {e : TypeId} {fr : Nat × Nat} (d : Array Int) (hb : w.heap[g]? = some (.cells cur e fr)) :
    (putRow encZ (Sort.ahead w n) g 0 d).heap[g]? = some (.cells (putCells encZ 0 d cur) e fr) := by
  have := heap_sorted_i (n := n) (os := #[]) d hb
  rwa [grow_empty] at this

set_option maxRecDepth 100000 in
/-- a sorted slice that the call made is made rising in its place -/
theorem compact_own (base : Nat) (A : Option Addr) (c : Nat) (l : List Int) (hl : l.length ≤ 17592186044000) (w : World) (h : OwnsI 3 w base A c l) :
    Calls Try.prog 48 #[.slice A l.length c] w fun e w' => e = .returned (.slice A (Lib.compact l).length c) ∧ OwnsI 3 w' base A c (Lib.compact l) ∧ w.grownBy w' (blk A) := by
  have hsm : ∀ x ∈ Lib.compact l, InInt x := fun x hx => h.small x (sub_compact l x hx)
  rcases h.row.2 with ⟨hv, h0⟩ | ⟨g, cap, cur, hv, hg, hgb, hc, h2, h3, h4⟩
  · have hl0 : l = [] := List.eq_nil_of_length_eq_zero h0
    subst hl0
    refine (AnyG.slices_Compact_int_empty compA A c w).mono ?_
    rintro e w' ⟨rfl, rfl⟩
    exact ⟨rfl, h, grown_refl _ _⟩
  · obtain ⟨rfl, rfl⟩ : A = some ⟨g, 0, none⟩ ∧ c = cap := by injection hv with h1 h2 h3; exact ⟨h1, h3⟩
    have hH : Holds encZ w g 0 l.toArray := holds_of_block_i hgb (by rw [Nat.mul_one] at h4; exact h4)
    refine (AnyG.slices_Compact_int compA g 0 c l w hH (by omega) hc).mono ?_
    rintro e w' ⟨rfl, n, rfl⟩
    have hle := compact_len l
    refine ⟨rfl, ⟨hsm, ?_⟩, by have := grownBy_sorted_i (w := w) (g := g) (n := n) (os := #[]) (Lib.compact l ++ List.replicate (l.length - (Lib.compact l).length) 0).toArray; rwa [grow_empty] at this⟩
    refine ⟨by simp [ints], .inr ⟨g, c, _, rfl, hg, heap_putRow_g _ hgb, by omega, h2, by simp [putCells, h3], ?_⟩⟩
    rw [Nat.mul_one]
    have hts : (Lib.compact l ++ List.replicate (l.length - (Lib.compact l).length) (0 : Int)).length = l.length := by simp; omega
    have ht := take_putCells_i cur (Lib.compact l ++ List.replicate (l.length - (Lib.compact l).length) (0 : Int)) (by rw [hts]; omega)
    have h5 := congrArg (fun xs => xs.take (Lib.compact l).length) ht
    simp only [List.take_take] at h5
    rw [hts, Nat.min_eq_left hle] at h5
    rw [h5, ← List.map_take, List.take_left']
    · rfl
    · rfl
end Go.Proofs.Ytblhfbijffaacaa
