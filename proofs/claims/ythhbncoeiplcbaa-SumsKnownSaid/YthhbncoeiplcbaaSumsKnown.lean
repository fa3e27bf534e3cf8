/- The chapter's examples of sums. Conditions: none. -/
import Derived.Test.YthhbncoeiplcbaaRows
import Derived.Test.YthhbncoeiplcbaaSumWalks
import Derived.Test.YthhbncoeiplcbaaKitBytes
import Derived.Test.YthhbncoeiplcbaaKnown1
import Derived.WalkKit
import Derived.WalkLawsBesides
import Derived.ProofKit
import Derived.OpenShut
import Derived.ShutString
import Derived.ChangeOld
import Derived.Below
import Derived.SizedLaws
namespace Go.Proofs.Ythhbncoeiplcbaa.sumsKnown
open Go.ChangeShapes Go.WideShapes Go.ChangeAt Go.RowKit
open Go.ChangeMaps (open_string shut_string)
set_option linter.unusedVariables false

theorem own : ownKnob Try.prog.godebug = none := by kernel_rfl
theorem laidOut : laidOutB Try.prog = true := by kernel_rfl

def zeros32 : List Nat := List.replicate 32 0
theorem zeros32_length : zeros32.length = 32 := by decide
theorem one_a : Crc.more 0 [97] = 3251651376 := by decide +kernel
theorem noughts : Crc.more 0 zeros32 = 2324772522 := by decide +kernel
theorem none_ : Crc.more 0 [] = 0 := by decide +kernel
theorem seven : Crc.more 7 [] = 7 := by decide +kernel
def noughts32 : Array Value := (bytes zeros32).toArray
theorem make32 (W : World) : (Instr.makeSlice 22 (.int .i64 32) (.int .i64 32)).run Try.prog W = .ok (.slice (some ⟨W.heap.size, 0, none⟩) 32 32) (W.alloc (.cells noughts32 5)) := by kernel_rfl
set_option maxHeartbeats 400000 in
theorem walk (w : World) :
    Calls Try.prog 7 #[] w fun e w' => e = .returned (.bool true) ∧ Below w.heap.size w w' := by
  have kc := fun (w : World) (C : Array Value) (n c : Nat) => Lib.run_convert_bytes_const (P := Try.prog) w 22 5 C n c Try.underlying22 Try.underlying5
  have hmk := make32
  go_enter Try.func7, Try.ntmps7
  go_wp2_with fail
  refine (of_any w.heap.size none 0 [] (by simp) _ IsBytes.nil).mono ?_
  rintro e w2 ⟨rfl, rfl⟩
  have e0 : (((Crc.more 0 [] : Nat) : Int) == 0) = true := by rw [none_]; rfl
  go_wp2_with fail
  refine (of_any _ _ _ [97] (by unfold maxLen; simp) _ (isBytes_lit w [97] (by decide) 5 (1, 2))).mono ?_
  rintro e w2 ⟨rfl, rfl⟩
  have e1 : (((Crc.more 0 [97] : Nat) : Int) == 3251651376) = true := by rw [one_a]; rfl
  go_wp2_with fail
  have hb32 : IsBytes ((w.alloc (.cells (bytes [97]).toArray 5 (1, 2))).alloc (.cells noughts32 5)) (w.heap.size + 2) (some ⟨w.heap.size + 1, 0, none⟩) zeros32 := by
    have h := isBytes_lit (w.alloc (.cells (bytes [97]).toArray 5 (1, 2))) zeros32 (by decide) 5 (0, 0)
    rw [World.size_alloc] at h
    exact h
  have C := of_any (w.heap.size + 2) (some ⟨w.heap.size + 1, 0, none⟩) 32 zeros32 (by rw [zeros32_length]; unfold maxLen; simp) _ hb32
  rw [zeros32_length] at C
  refine C.mono ?_
  clear C hb32
  rintro e w2 ⟨rfl, rfl⟩
  have e2 : (((Crc.more 0 zeros32 : Nat) : Int) == 2324772522) = true := by rw [noughts]; rfl
  go_wp2_with fail
  refine (more_any 7 (by omega) w.heap.size none 0 [] (by simp) _ IsBytes.nil).mono ?_
  rintro e w2 ⟨rfl, rfl⟩
  have e3 : (((Crc.more 7 [] : Nat) : Int) == 7) = true := by rw [seven]; rfl
  go_wp2_with fail
  refine (known_any _).mono ?_
  rintro e w3 ⟨rfl, hbel⟩
  have h1 : Below w.heap.size w ((w.alloc (.cells (bytes [97]).toArray 5 (1, 2))).alloc (.cells noughts32 5)) := ((Below.refl _ _).alloc (Nat.le_refl _) _).alloc (by simp) _
  go_wp2_with fail
  go_ret
  exact ⟨rfl, h1.trans (hbel.mono h1.size)⟩

set_option maxRecDepth 100000 in
theorem lifted (os : Os) (started : os.Started) (H : Type) (enc : TypeId × Value → H) :
    ReturnsInHanded {} Try.checked os 7 .any (Rows.sumsKnownSpec.pre6 enc Try.prog Try.f7 Rows.sumsKnownRow.domain false) (Rows.sumsKnownSpec.post enc Try.prog Try.f7 false true false false) := by
  refine returnsInHanded_of_change_sized (C := Try.checked) own started (by kernel_rfl) Try.func7
    (ChangeSpec.witness6 (enc := enc) (C := Try.checked) false ⟨#[], #[], []⟩ 8 (by kernel_rfl) (by kernel_rfl) (by kernel_rfl) (by kernel_rfl)) ?_
  intro W base args ds gs before hval0 hW hcnd hsz0 _
  have hsz : (DataW.weightsEach Try.prog (Try.f7.params.toList ++ Rows.sumsKnownSpec.plain.varTypes Try.prog) (ds ++ gs)).all (· ≤ reachBytes) = true := hsz0
  clear hsz0
  have hval : ∀ (j : Nat) t v, Try.f7.params[j]? = some t → args[j]? = some v → Value.okWide Try.prog W .any base t v := hval0
  have hW' := hW
  obtain ⟨p, q, hA0, hV, rfl, hfz, hnd⟩ := hW
  have hA : DataW.TrodAll enc Try.prog W 0 (fun _ => true) true Try.f7.params.toList args.toList ds p := hA0
  rw [Try.params7] at hA hval hsz
  obtain ⟨rfl, rfl, rfl⟩ := trodAll_none hA
  obtain ⟨rfl, rfl⟩ := trodVars_none hV
  clear hA0 hval0
  refine (walk  W ).mono fun e W' ⟨he, bel⟩ => ?_
  subst he
  exact ⟨_, rfl, _, _, _, [], _, [], hW', trodAll_mk1 (shut_bool Try.underlying4 _), trodAll_mk0, rfl, bel.frame _, fun h => by cases h⟩

theorem over : Rows.sumsKnownRow.holds Try.pinned (OpenSpec.ofChange Rows.sumsKnownSpec) :=
  OpenClaim.holds_of_wide 7 Try.f7 rfl rfl rfl rfl rfl rfl rfl ⟨rfl, rfl, rfl, rfl, rfl⟩ rfl rfl rfl rfl rfl (by kernel_rfl) Try.func7 (by kernel_rfl)
    (of_decide_eq_true (by kernel_rfl)) (by unfold Func.isWrapper; first | (rw [if_pos (by decide +kernel)]; kernel_rfl) | (rw [if_neg (by decide +kernel)]; exact ⟨rfl, rfl⟩))
    (fun os started H enc _ => lifted os started H enc)

theorem proved : Rows.SumsKnownSaid := over
end Go.Proofs.Ythhbncoeiplcbaa.sumsKnown
