/- The walk through the function that all statements share: a number brought to an index. -/
import Derived.Test.YtmaebemhephcmaaDoorRows
import Derived.Test.YtmaebemhephcmaaDoorMem
import Derived.Deep.QuietTactic
import Derived.BigQuiet
namespace Go.Proofs.YtmaebemhephcmaaDoor
open Go.RowKit

/-- Go's remainder, brought to 0 or more -/
theorem tmod_cases (k n : Int) (hn : 1 ≤ n) : (0 ≤ k.tmod n ∧ k.tmod n = k % n) ∨ (k.tmod n < 0 ∧ -n < k.tmod n ∧ k.tmod n + n = k % n) := by
  have h3 := Int.emod_nonneg k (show n ≠ 0 by omega)
  have h4 := Int.emod_lt_of_pos k (show 0 < n by omega)
  have h2 := Int.tmod_eq_emod (a := k) (b := n)
  have h5 : (n.natAbs : Int) = n := by omega
  by_cases hc : 0 ≤ k ∨ n ∣ k
  · rw [if_pos hc] at h2; left; omega
  · rw [if_neg hc] at h2
    have h6 : k % n ≠ 0 := fun e => hc (Or.inr (Int.dvd_of_emod_eq_zero e))
    right; omega

theorem pick_none (k n : Int) (hn : n < 1) (w : World) :
    Calls Tryd.prog 26 #[.int .i64 k, .int .i64 n] w fun e w' => e = .returned (.int .i64 0) ∧ w = w' := by
  go_enter Tryd.func26, Tryd.ntmps26
  go_wp2
  go_ret
  exact ⟨rfl, rfl⟩
set_option maxHeartbeats 400000 in
theorem pick_some (k n : Int) (hn : 1 ≤ n) (hn2 : (Lit.int .i64 n).wf = true) (w : World) :
    Calls Tryd.prog 26 #[.int .i64 k, .int .i64 n] w fun e w' => e = .returned (.int .i64 (k % n)) ∧ w = w' := by
  have hb : n ≤ 9223372036854775807 := by simp [Lit.wf] at hn2; omega
  rcases tmod_cases k n hn with ⟨h, e⟩ | ⟨h, h2, e⟩
  · have E := hid e
    clear e
    go_enter Tryd.func26, Tryd.ntmps26
    go_wp2
    go_ret
    exact ⟨by rw [← E.out]; rfl, rfl⟩
  · have E := hid e
    clear e
    go_enter Tryd.func26, Tryd.ntmps26
    go_wp2
    go_ret
    exact ⟨by rw [← E.out]; rfl, rfl⟩
theorem pick_lt (k n : Int) (hn : 1 ≤ n) (hn2 : n ≤ 9223372036854775807) (w : World) :
    Calls Tryd.prog 26 #[.int .i64 k, .int .i64 n] w fun e w' => (∃ p : Nat, e = .returned (.int .i64 p) ∧ (p : Int) < n) ∧ w = w' := by
  refine (pick_some k n hn (by simp [Lit.wf, IntKind.min, IntKind.max, IntKind.signed, IntKind.bits]; omega) w).mono fun e w' ⟨he, hw⟩ => ?_
  have h1 := Int.emod_nonneg k (show (n : Int) ≠ 0 by omega)
  have h2 := Int.emod_lt_of_pos k (show (0 : Int) < n by omega)
  exact ⟨⟨(k % n).toNat, by rw [he, Int.toNat_of_nonneg h1], by omega⟩, hw⟩
end Go.Proofs.YtmaebemhephcmaaDoor
