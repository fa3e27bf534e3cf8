/- The walk through 'known', the example that each statement of layer 3 asks: a frame, there and back; a checksum that is wrong. -/
import Derived.Test.YtnaimmpanaakiaaFrameRead
import Derived.Lib.SlBytesConst
namespace Go.Proofs.Ytnaimmpanaakiaa.Frame
open Go.RowKit

theorem abc_back : Fr.get (Fr.frame [97, 98, 99]) = ([97, 98, 99], 11, 0) := by decide +kernel
theorem five_sum : Fr.get [0, 0, 0, 1, 0, 0, 0, 0, 5] = ([], 0, 5) := by decide +kernel
set_option maxHeartbeats 1600000 in
theorem known_any (w : World) :
    Calls Try.prog 17 #[] w fun e w' => e = .returned (.bool true) ∧ Below w.heap.size w w' := by
  have kc := fun (w : World) (C : Array Value) (n c : Nat) => Lib.run_convert_bytes_const (P := Try.prog) w 22 5 C n c Try.underlying22 Try.underlying5
  go_enter Try.func17, Try.ntmps17
  go_wp2_with fail
  refine (put_N (w.heap.size + 1) _ _ [97, 98, 99] 3 rfl (by omega) _ (isBytes_new w [97, 98, 99] (by decide) 5 (3, 4)) (by simp) (fun h => by cases h) 11 rfl).mono ?_
  rintro e w1 ⟨A1, c1, rfl, ho1, hb1⟩
  have hb1' : Below w.heap.size w w1 := ((Below.refl _ _).alloc (Nat.le_refl _) _).trans (hb1.mono (by simp))
  have hc1 := ho1.cap
  rw [Fr.frame_length] at hc1
  simp only [List.length_cons, List.length_nil] at hc1
  clear hb1
  go_wp2_with fail
  refine (get_N w1.heap.size A1 c1 _ 11 (Fr.frame_length _) (by omega) (by omega) _ ho1.reads (Nat.le_refl _) ho1.none_ [97, 98, 99] 11 0 abc_back 3 rfl 11 0 rfl rfl).mono ?_
  rintro e w2 ⟨A2, c2, rfl, ho2, hb2⟩
  have hb2' : Below w.heap.size w w2 := hb1'.trans (hb2.mono hb1'.size)
  have ho1' := ho1.below hb2
  clear ho1 hb2 hb1'
  go_wp2_with fail
  refine (get_N (w2.heap.size + 1) _ _ [0, 0, 0, 1, 0, 0, 0, 0, 5] 9 rfl (by omega) (by omega) _ (isBytes_new w2 [0, 0, 0, 1, 0, 0, 0, 0, 5] (by decide) 5 (0, 0)) (by simp) (fun h => by cases h) [] 0 5 five_sum 0 rfl 0 5 rfl rfl).mono ?_
  rintro e w3 ⟨A3, c3, rfl, _, hb3⟩
  have hb3' : Below w2.heap.size w2 w3 := ((Below.refl _ _).alloc (Nat.le_refl _) _).trans (hb3.mono (by simp))
  have hbw : Below w.heap.size w w3 := hb2'.trans (hb3'.mono hb2'.size)
  have hp : IsBytes w3 w2.heap.size A2 [97, 98, 99] := ho2.reads.below hb3'
  obtain ⟨g, rfl, _, _, hc3, _⟩ := (ho1'.below hb3').at_ (k := 3) (by rw [Fr.frame_length]; omega)
  have hc : w3.cell? ⟨g, 3, none⟩ = some (.int .u8 3) := hc3
  have hs : IsBytes (w3.alloc (.cells #[.int .u8 97, .int .u8 98, .int .u8 99] 5 (3, 4))) w2.heap.size A2 [97, 98, 99] := hp.below ((Below.refl _ _).alloc hb3'.size _)
  clear hc3 ho1' ho2 hb3 hp hb2'
  go_wp2_with fail
  refine (same_T _ _ _ _ _ _ [97, 98, 99] 3 rfl (by unfold maxLen; omega) _ hs (isBytes_new w3 [97, 98, 99] (by decide) 5 (3, 4))).mono ?_
  rintro e w4 ⟨rfl, n4, rfl⟩
  go_wp2_with fail
  go_ret
  exact ⟨rfl, below_drewN (hbw.alloc hbw.size _) n4⟩
end Go.Proofs.Ytnaimmpanaakiaa.Frame
