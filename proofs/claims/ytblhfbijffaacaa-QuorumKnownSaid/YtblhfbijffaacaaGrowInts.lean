/- The walk through the library's slices.Grow at a nil list of ints. -/
import Derived.Test.YtblhfbijffaacaaRows
import Derived.Test.YtblhfbijffaacaaKitInts
import Derived.Test.YtblhfbijffaacaaGrown
import Derived.Lib.AppendZeros
namespace Go.Proofs.Ytblhfbijffaacaa
open Go.RowKit

theorem under_int : Try.prog.underlying 3 = some (.int .i64) := by kernel_rfl
set_option maxHeartbeats 400000 in
theorem grow_none (n : Nat) (hn : n ≤ 17592186044000) (w : World) :
    Calls Try.prog 56 #[.slice none 0 0, .int .i64 (n : Int)] w fun e w' => ∃ A' c', e = .returned (.slice A' 0 c') ∧ OwnsI 3 w' w.heap.size A' c' [] ∧ Below w.heap.size w w' := by
  obtain ⟨i0, hi, hz0, hz1, hz2⟩ := info_parts I.info_int
  by_cases h0 : 0 < n
  · go_enter Try.func56, Try.ntmps56
    go_wp2_with (at_builtin; refine Lib.wpList_append_run _ rfl _ _ 22 3 rfl (.slice none 0 0) (.int .i64 (n : Int)) rfl rfl _ _ (Lib.run_append_nil_zeros _ 22 3 _ 3 i0 (.int .i64 0) .i64 .i64 Try.underlying22 under_int hi hz0 n h0 (by rw [hz1]; decide) (by omega) (by rw [hz2]; omega)) ?_)
    have hcap1 := grownCap_ge w n 0 3
    have hcap2 := grownCap_le_maxLen w n 0 3 (by unfold maxLen; omega)
    obtain ⟨cap, hcap⟩ : ∃ cap, cap = grownCap w n 0 3 := ⟨_, rfl⟩
    rw [← hcap] at hcap1 hcap2 ⊢
    have HO : Hid (OwnsI 3 (w.drew.alloc (.cells (Builtin.zeroCells (Value.int .i64 0).cells n ++ Builtin.zeroCells (Value.int .i64 0).cells (cap - n)) 3)) w.heap.size (some ⟨w.heap.size, 0, none⟩) cap []) := by
      refine ⟨by simp, by simp [ints], .inr ⟨w.heap.size, cap, _, rfl, Nat.le_refl _, heap_alloc_new w.drew _, Nat.zero_le _, hcap2, ?_, by simp [ints]⟩⟩
      rw [Array.size_append, size_zeroCells, size_zeroCells]
      show n * 1 + (cap - n) * 1 = cap * 1
      omega
    have HB : Hid (Below w.heap.size w (w.drew.alloc (.cells (Builtin.zeroCells (Value.int .i64 0).cells n ++ Builtin.zeroCells (Value.int .i64 0).cells (cap - n)) 3))) :=
      (Below.refl _ _).drew.alloc (Nat.le_refl _) _
    unfold maxLen at hcap2
    have HC := hid hcap
    clear hcap
    go_wp2
    go_ret
    exact ⟨_, _, rfl, HO.out, HB.out⟩
  · obtain rfl : n = 0 := by omega
    go_enter Try.func56, Try.ntmps56
    go_wp2
    go_ret
    exact ⟨none, 0, rfl, OwnsI.nil _ _ _, Below.refl _ _⟩
end Go.Proofs.Ytblhfbijffaacaa
