/- The examples of the chapter are as the document says. Conditions: none. -/
import Derived.Test.YtnaimmpanaakiaaRows
import Derived.Test.YtnaimmpanaakiaaFrameKnown1
import Derived.WalkKit
import Derived.WalkLawsBesides
import Derived.ProofKit
import Derived.OpenShut
import Derived.ShutString
import Derived.ChangeOld
import Derived.Below
import Derived.SizedLaws
namespace Go.Proofs.Ytnaimmpanaakiaa.frameKnown
open Go.ChangeShapes Go.WideShapes Go.ChangeAt Go.RowKit
open Go.ChangeMaps (open_string shut_string)
set_option linter.unusedVariables false

theorem own : ownKnob Try.prog.godebug = none := by kernel_rfl
theorem laidOut : laidOutB Try.prog = true := by kernel_rfl

theorem info_u8' : (Try.prog.info? 5).map (fun i => (i.zero, i.size, i.bytes)) = some (some (.int .u8 0), 1, 1) := by kernel_rfl
theorem zeros_own {e : TypeId} {w : World} {base n : Nat} {A : Option Addr} (h : w.ownsRow base e 1 (.slice A n n) n (madeCells #[Value.int .u8 0] n).toList) : OwnsB e w base A n (List.replicate n 0) := by
  refine ⟨fun x hx => by have := (List.mem_replicate.1 hx).2; omega, ?_⟩
  have e1 : (madeCells #[Value.int .u8 0] n).toList = bytes (List.replicate n 0) := by
    rw [toList_madeCells_one]
    simp [bytes]
  rw [List.length_replicate, ← e1]
  exact h
theorem seven : Fr.get (List.replicate 7 0) = ([], 0, 1) := by decide +kernel
theorem eight_long : Fr.get [0, 1, 0, 1, 0, 0, 0, 0] = ([], 0, 2) := by decide +kernel
theorem eight_short : Fr.get [0, 0, 0, 1, 0, 0, 0, 0] = ([], 0, 1) := by decide +kernel
theorem zeros_lt (n : Nat) : ∀ x ∈ List.replicate n 0, x < 256 := fun x hx => by have := (List.mem_replicate.1 hx).2; omega
theorem longest (N : Nat) (hN : N = 65536) : Fr.get (Fr.frame (List.replicate N 0) ++ [9]) = (List.replicate N 0, 65544, 0) := by
  rw [Fr.back _ _ (zeros_lt N) (by rw [List.length_replicate]; omega), List.length_replicate, show 8 + N = 65544 by omega]

set_option maxRecDepth 100000 in
set_option maxHeartbeats 3200000 in
theorem walk (w : World) : Calls Try.prog 8 #[] w fun e w' => e = .returned (.bool true) ∧ Below w.heap.size w w' := by
  obtain ⟨i0, hi, hz0, hz1, hz2⟩ := info_parts info_u8'
  obtain ⟨N, hN⟩ : ∃ N, N = 65536 := ⟨_, rfl⟩
  have HL : Hid ((List.replicate N 0).length = 65536) := by show _ = _; rw [List.length_replicate, hN]
  have HF : Hid ((Fr.frame (List.replicate N 0)).length = 65544) := by show _ = _; rw [Fr.frame_length, HL.out]
  have HF9 : Hid ((Fr.frame (List.replicate N 0) ++ [9]).length = 65545) := by show _ = _; rw [List.length_append, HF.out]; rfl
  have HG := hid (longest N hN)
  have HN := hid hN
  clear hN
  go_enter Try.func8, Try.ntmps8
  go_wp2_with fail
  refine (Frame.put_N 0 none 0 [] 0 rfl (by omega) _ IsBytes.nil (Nat.zero_le _) (fun _ => rfl) 8 rfl).mono ?_
  rintro e w1 ⟨A1, c1, rfl, _, hb1⟩
  have hs1 := hb1.size
  go_wp2_with (at_make; refine wpList_make_full _ rfl _ _ 22 rfl w1.heap.size 5 i0 (.int .u8 0) 1 Try.underlying22 hi hz0 hz1 .i64 .i64 65537 65537 65537 rfl rfl (by omega) (by omega) ?c1 ?c2 (Nat.le_refl _) ?_)
  case c1 => rw [hz2]; omega
  case c2 => unfold maxLen; omega
  intro w2 _ hg2
  have hb2 : Below w.heap.size w w2 := hb1.trans (((Below.refl _ _).grown hg2 (Nat.le_refl _) (fun g hg => by cases hg)).mono hs1)
  clear hg2 hb1
  go_wp2_with fail
  refine (Frame.put_long _ _ 65537 (by omega) _).mono ?_
  rintro e w3 ⟨rfl, rfl⟩
  go_wp2_with (at_make; refine wpList_make_full _ rfl _ _ 22 rfl w2.heap.size 5 i0 (.int .u8 0) 1 Try.underlying22 hi hz0 hz1 .i64 .i64 65536 65536 65536 rfl rfl (by omega) (by omega) ?c3 ?c4 (Nat.le_refl _) ?_)
  case c3 => rw [hz2]; omega
  case c4 => unfold maxLen; omega
  intro w3 ho3 hg3
  rw [← HN.out] at ho3
  have hz3 := (zeros_own ho3).reads
  have hb3 : Below w.heap.size w w3 := hb2.trans (((Below.refl _ _).grown hg3 (Nat.le_refl _) (fun g hg => by cases hg)).mono hb2.size)
  clear hg3 hb2 ho3
  go_wp2_with fail
  refine (Frame.put_N w3.heap.size _ _ _ 65536 HL.out (by omega) _ hz3 (Nat.le_refl _) (fun h => by cases h) 65544 rfl).mono ?_
  rintro e w4 ⟨A4, c4, rfl, ho4, hb4'⟩
  have hb4 := hb3.trans (hb4'.mono hb3.size)
  clear hz3 hb3 hb4'
  go_wp2_with (at_make; refine wpList_make_full _ rfl _ _ 22 rfl w4.heap.size 5 i0 (.int .u8 0) 1 Try.underlying22 hi hz0 hz1 .i64 .i64 7 7 7 rfl rfl (by omega) (by omega) ?c5 ?c6 (Nat.le_refl _) ?_)
  case c5 => rw [hz2]; omega
  case c6 => unfold maxLen; omega
  intro w5 ho5 hg5
  have hz5 := (zeros_own ho5).reads
  have hb5' : Below w4.heap.size w4 w5 := (Below.refl _ _).grown hg5 (Nat.le_refl _) (fun g hg => by cases hg)
  clear hg5 ho5
  go_wp2_with fail
  refine (Frame.get_N w5.heap.size _ 7 _ 7 rfl (by omega) (by omega) _ hz5 (Nat.le_refl _) (fun h => by cases h) [] 0 1 seven 0 rfl 0 1 rfl rfl).mono ?_
  rintro e w6 ⟨A6, c6, rfl, _, hb6'⟩
  have hb6 := hb5'.trans (hb6'.mono hb5'.size)
  clear hz5 hb5' hb6'
  go_wp2_with fail
  refine (Frame.get_N (w6.heap.size + 1) _ _ [0, 1, 0, 1, 0, 0, 0, 0] 8 rfl (by omega) (by omega) _ (isBytes_new w6 [0, 1, 0, 1, 0, 0, 0, 0] (by decide) 5 (0, 0)) (by simp) (fun h => by cases h) [] 0 2 eight_long 0 rfl 0 2 rfl rfl).mono ?_
  rintro e w7 ⟨A7, c7, rfl, _, hb7'⟩
  have hb7 := (hb6.alloc hb6.size _).trans (hb7'.mono (by have := hb6.size; simp; omega))
  clear hb6 hb7'
  go_wp2_with fail
  refine (Frame.get_N (w7.heap.size + 1) _ _ [0, 0, 0, 1, 0, 0, 0, 0] 8 rfl (by omega) (by omega) _ (isBytes_new w7 [0, 0, 0, 1, 0, 0, 0, 0] (by decide) 5 (0, 0)) (by simp) (fun h => by cases h) [] 0 1 eight_short 0 rfl 0 1 rfl rfl).mono ?_
  rintro e w8 ⟨A8, c8, rfl, _, hb8'⟩
  have hb8 := (hb7.alloc hb7.size _).trans (hb8'.mono (by have := hb7.size; simp; omega))
  have hr8 := (ho4.below hb8).reads
  have hbw8 := hb4.trans (hb8.mono hb4.size)
  clear hb7 hb8' hb8 ho4 hb4
  go_wp2_with fail
  refine (copy_N w8.heap.size A4 c4 _ 65544 HF.out (by omega) _ hr8 (Nat.le_refl _)).mono ?_
  rintro e w9 ⟨A9, c9, rfl, ho9, hb9⟩
  have hs9 := hb9.size
  have hn9 : IsBytes (w9.alloc (.cells #[.int .u8 9] 5)) (w9.heap.size + 1) (some ⟨w9.heap.size, 0, none⟩) [9] := isBytes_new w9 [9] (by decide) 5 (0, 0)
  go_wp2_with (at_builtin; refine wpList_append_bytesN rfl _ _ 22 rfl w8.heap.size 5 i0 Try.underlying22 hi hz0 hz1 hz2 A9 c9 _ 65544 HF.out rfl (ho9.alloc _) (w9.heap.size + 1) (some ⟨w9.heap.size, 0, none⟩) 1 [9] 1 rfl rfl (fun h => by cases h) hn9 _ rfl (by omega) (by simp; omega) ?_)
  intro A10 c10 w10 ho10 hb10'
  have hb10 : Below w8.heap.size w8 w10 := (hb9.alloc hs9 _).trans hb10'
  have hc10 := ho10.cap
  rw [HF9.out] at hc10
  clear hb10' ho9 hn9 hb9 hr8
  go_wp2_with fail
  refine (Frame.get_N w10.heap.size A10 c10 _ 65545 HF9.out (by omega) hc10 _ ho10.reads (Nat.le_refl _) ho10.none_ _ 65544 0 HG.out 65536 HL.out 65544 0 rfl rfl).mono ?_
  rintro e w11 ⟨A11, c11, rfl, _, hb11⟩
  have hbt := hbw8.trans ((hb10.trans (hb11.mono hb10.size)).mono hbw8.size)
  clear ho10 hb11 hb10 hbw8
  go_wp2_with fail
  refine (Frame.known_any _).mono ?_
  rintro e w12 ⟨rfl, hbel⟩
  go_wp2_with fail
  go_ret
  exact ⟨rfl, hbt.trans (hbel.mono hbt.size)⟩

set_option maxRecDepth 100000 in
theorem lifted (os : Os) (started : os.Started) (H : Type) (enc : TypeId × Value → H) :
    ReturnsInHanded {} Try.checked os 8 .any (Rows.frameKnownSpec.pre6 enc Try.prog Try.f8 Rows.frameKnownRow.domain false) (Rows.frameKnownSpec.post enc Try.prog Try.f8 false true false false) := by
  refine returnsInHanded_of_change_sized (C := Try.checked) own started (by kernel_rfl) Try.func8
    (ChangeSpec.witness6 (enc := enc) (C := Try.checked) false ⟨#[], #[], []⟩ 8 (by kernel_rfl) (by kernel_rfl) (by kernel_rfl) (by kernel_rfl)) ?_
  intro W base args ds gs before hval0 hW hcnd hsz0 _
  have hsz : (DataW.weightsEach Try.prog (Try.f8.params.toList ++ Rows.frameKnownSpec.plain.varTypes Try.prog) (ds ++ gs)).all (· ≤ reachBytes) = true := hsz0
  clear hsz0
  have hval : ∀ (j : Nat) t v, Try.f8.params[j]? = some t → args[j]? = some v → Value.okWide Try.prog W .any base t v := hval0
  have hW' := hW
  obtain ⟨p, q, hA0, hV, rfl, hfz, hnd⟩ := hW
  have hA : DataW.TrodAll enc Try.prog W 0 (fun _ => true) true Try.f8.params.toList args.toList ds p := hA0
  rw [Try.params8] at hA hval hsz
  obtain ⟨rfl, rfl, rfl⟩ := trodAll_none hA
  obtain ⟨rfl, rfl⟩ := trodVars_none hV
  clear hA0 hval0
  refine (walk  W ).mono fun e W' ⟨he, bel⟩ => ?_
  subst he
  exact ⟨_, rfl, _, _, _, [], _, [], hW', trodAll_mk1 (shut_bool Try.underlying4 _), trodAll_mk0, rfl, bel.frame _, fun h => by cases h⟩

theorem over : Rows.frameKnownRow.holds Try.pinned (OpenSpec.ofChange Rows.frameKnownSpec) :=
  OpenClaim.holds_of_wide 8 Try.f8 rfl rfl rfl rfl rfl rfl rfl ⟨rfl, rfl, rfl, rfl, rfl⟩ rfl rfl rfl rfl rfl (by kernel_rfl) Try.func8 (by kernel_rfl)
    (of_decide_eq_true (by kernel_rfl)) (by unfold Func.isWrapper; first | (rw [if_pos (by decide +kernel)]; kernel_rfl) | (rw [if_neg (by decide +kernel)]; exact ⟨rfl, rfl⟩))
    (fun os started H enc _ => lifted os started H enc)

theorem proved : Rows.FrameKnownSaid := over
end Go.Proofs.Ytnaimmpanaakiaa.frameKnown
