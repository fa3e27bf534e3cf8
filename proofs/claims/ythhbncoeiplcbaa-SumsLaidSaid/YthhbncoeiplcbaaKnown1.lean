/- The walk through 'known', the example that each statement of layer 1 asks: the sum of nine digits. -/
import Derived.Test.YthhbncoeiplcbaaSumWalks
import Derived.Lib.SlBytesConst
namespace Go.Proofs.Ythhbncoeiplcbaa
open Go.RowKit

theorem isBytes_lit (w : World) (l : List Nat) (hs : ∀ x ∈ l, x < 256) (t : TypeId) (fr : Nat × Nat) :
    IsBytes (w.alloc (.cells (bytes l).toArray t fr)) (w.heap.size + 1) (some ⟨w.heap.size, 0, none⟩) l :=
  ⟨hs, fun _ _ => ⟨w.heap.size, 0, rfl, by omega, fun i hi => by
    rw [cell_of_row _ w.heap.size (0 + i) (bytes l).toArray t fr (heap_alloc_new w _), Nat.zero_add, List.getElem?_toArray]
    exact bytes_get l i hi⟩⟩

theorem nine : Crc.more 0 [49, 50, 51, 52, 53, 54, 55, 56, 57] = 3808858755 := by decide +kernel

set_option maxHeartbeats 400000 in
theorem known_any (w : World) :
    Calls Try.prog 14 #[] w fun e w' => e = .returned (.bool true) ∧ Below w.heap.size w w' := by
  have kc := fun (w : World) (C : Array Value) (n c : Nat) => Lib.run_convert_bytes_const (P := Try.prog) w 22 5 C n c Try.underlying22 Try.underlying5
  go_enter Try.func14, Try.ntmps14
  go_wp2_with fail
  refine (of_any _ _ _ [49, 50, 51, 52, 53, 54, 55, 56, 57] (by unfold maxLen; simp) _ (isBytes_lit w [49, 50, 51, 52, 53, 54, 55, 56, 57] (by decide) 5 (9, 10))).mono ?_
  rintro e w2 ⟨rfl, rfl⟩
  have e : (((Crc.more 0 [49, 50, 51, 52, 53, 54, 55, 56, 57] : Nat) : Int) == 3808858755) = true := by rw [nine]; rfl
  go_wp2
  go_ret
  exact ⟨rfl, (Below.refl _ _).alloc (Nat.le_refl _) _⟩
end Go.Proofs.Ythhbncoeiplcbaa
