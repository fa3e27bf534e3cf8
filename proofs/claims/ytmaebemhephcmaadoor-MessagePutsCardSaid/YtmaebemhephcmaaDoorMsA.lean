/- The walks through package message: where a field lies, and what it may be. -/
import Derived.Test.YtmaebemhephcmaaDoorMsMath
import Derived.WalkKit
namespace Go.Proofs.YtmaebemhephcmaaDoor.Ms
open Go.RowKit
set_option maxRecDepth 100000

/-- the pointer to a field -/
def ptr (g : Nat) (r : Nat) : Option Addr := if r ∈ nums then some ⟨g, ix r, none⟩ else none

set_option maxHeartbeats 1600000 in
theorem number_any (g : Nat) (r : Nat) (hr : r < 128) (w : World) :
    Calls Tryd.prog 61 #[.pointer (some ⟨g, 0, none⟩), .int .i32 (r : Int)] w fun e w' => e = .returned (.pointer (ptr g r)) ∧ w' = w := by
  by_cases hn : r ∈ nums
  · have hp : ptr g r = some ⟨g, ix r, none⟩ := if_pos hn
    rw [hp]
    simp only [nums, List.mem_cons, List.not_mem_nil, or_false] at hn
    rcases hn with rfl | rfl | rfl | rfl | rfl | rfl | rfl | rfl | rfl | rfl | rfl | rfl | rfl | rfl <;>
    · go_enter Tryd.func61, Tryd.ntmps61
      go_wp2
      go_ret
      exact ⟨rfl, rfl⟩
  · have hp : ptr g r = none := if_neg hn
    rw [hp]
    simp only [nums, List.mem_cons, List.not_mem_nil, or_false, not_or] at hn
    obtain ⟨h1, h2, h3, h4, h5, h6, h7, h8, h9, h10, h11, h12, h13, h14⟩ := hn
    have k1 : (r : Int) ≠ 75 := by omega
    have k2 : (r : Int) ≠ 70 := by omega
    have k3 : (r : Int) ≠ 84 := by omega
    have k4 : (r : Int) ≠ 103 := by omega
    have k5 : (r : Int) ≠ 116 := by omega
    have k6 : (r : Int) ≠ 105 := by omega
    have k7 : (r : Int) ≠ 112 := by omega
    have k8 : (r : Int) ≠ 99 := by omega
    have k9 : (r : Int) ≠ 114 := by omega
    have k10 : (r : Int) ≠ 120 := by omega
    have k11 : (r : Int) ≠ 97 := by omega
    have k12 : (r : Int) ≠ 98 := by omega
    have k13 : (r : Int) ≠ 118 := by omega
    have k14 : (r : Int) ≠ 115 := by omega
    clear h1 h2 h3 h4 h5 h6 h7 h8 h9 h10 h11 h12 h13 h14
    go_enter Tryd.func61, Tryd.ntmps61
    go_wp2
    go_ret
    exact ⟨rfl, rfl⟩

end Go.Proofs.YtmaebemhephcmaaDoor.Ms
