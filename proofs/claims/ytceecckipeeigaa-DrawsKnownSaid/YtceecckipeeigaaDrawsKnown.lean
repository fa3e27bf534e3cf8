/- The examples of the chapter and the ends of numbers are as the document says. Conditions: none. -/
import Derived.Test.YtceecckipeeigaaRows
import Derived.Test.YtceecckipeeigaaKnownDraws
import Derived.WalkKit
import Derived.WalkLawsBesides
import Derived.ProofKit
import Derived.OpenShut
import Derived.ShutString
import Derived.ChangeOld
import Derived.Below
import Derived.SizedLaws
namespace Go.Proofs.Ytceecckipeeigaa.drawsKnown
open Go.ChangeShapes Go.WideShapes Go.ChangeAt Go.RowKit
open Go.ChangeMaps (open_string shut_string)
set_option linter.unusedVariables false

theorem own : ownKnob Try.prog.godebug = none := by kernel_rfl
theorem laidOut : laidOutB Try.prog = true := by kernel_rfl

set_option maxRecDepth 100000 in
set_option maxHeartbeats 1600000 in
open Go.Proofs.Ytceecckipeeigaa.Dw in
theorem walk (w : World) : Calls Try.prog 5 #[] w fun e w' => e = .returned (.bool true) ∧ Below w.heap.size w w' := by
  have hI : IsInts (w.alloc (.cells (ints [-9223372036854775808, 9223372036854775807, -9223372036854775808, -7, 9223372036854775807, -9223372036854775808, 9223372036854775806]).toArray 3)) (w.heap.size + 1) (some ⟨w.heap.size, 0, none⟩) [-9223372036854775808, 9223372036854775807, -9223372036854775808, -7, 9223372036854775807, -9223372036854775808, 9223372036854775806] := isInts_new w [-9223372036854775808, 9223372036854775807, -9223372036854775808, -7, 9223372036854775807, -9223372036854775808, 9223372036854775806] (by simp [InInt]) 3 (0, 0)
  have hN := new_any (w.heap.size + 1) (some ⟨w.heap.size, 0, none⟩) 7 [-9223372036854775808, 9223372036854775807, -9223372036854775808, -7, 9223372036854775807, -9223372036854775808, 9223372036854775806] (by decide) _ hI (by simp) (fun h => by cases h)
  have HN := hid hN
  have hb0 := (Below.refl w.heap.size w).alloc (Nat.le_refl _) (.cells (ints [-9223372036854775808, 9223372036854775807, -9223372036854775808, -7, 9223372036854775807, -9223372036854775808, 9223372036854775806]).toArray 3)
  have HB := hid hb0
  clear hI hN hb0
  go_enter Try.func5, Try.ntmps5
  go_wp2_with fail
  refine HN.out.mono ?_
  rintro e w1 ⟨g, rfl, hAg, hb1, hsz, hsz2⟩
  have hb := HB.out.trans (hb1.mono (by simp))
  have hg : w.heap.size ≤ g := by have : w.heap.size + 1 ≤ g := by simpa using hsz
                                  omega
  clear hsz HN HB hb1
  generalize hlo : (w.alloc (.cells (ints [-9223372036854775808, 9223372036854775807, -9223372036854775808, -7, 9223372036854775807, -9223372036854775808, 9223372036854775806]).toArray 3)).heap.size = lo at hAg
  clear hlo
  go_wp2_with fail
  refine (new_any 0 none 0 [] (by decide) w1 IsInts.nil (Nat.zero_le _) (fun _ => rfl)).mono ?_
  rintro e w2 ⟨g2, rfl, hAh, hb2, hs2, hs2'⟩
  have hAg' := hAg.below (by omega) hb2
  replace hAg := hAg'
  replace hb := hb.trans (hb2.mono hb.size)
  have hgg : g < g2 := by omega
  rw [hsz2] at hAh
  clear hAg' hb2 hs2 hs2' hsz2
  generalize hl : [-9223372036854775808, 9223372036854775807, -9223372036854775808, -7, 9223372036854775807, -9223372036854775808, 9223372036854775806] = l at hAg
  go_wp2_with fail
  refine (next_N lo g g l 0 (by omega) (9223372036854775807) (by unfold InInt; omega) (9223372036854775806) (by subst hl; decide +kernel) _ hAg).mono ?_
  rintro e w3 ⟨rfl, hAn, hG⟩
  replace hb := hb.trans (below_grown hG hb.size (fun k e => by injection e; omega))
  replace hAh := hAh.grown hG (by omega) (.inl (by omega))
  replace hAg := hAn
  clear hAn hG
  go_wp2_with fail
  refine (next_N lo g g l 1 (by omega) (9223372036854775807) (by unfold InInt; omega) (0) (by subst hl; decide +kernel) _ hAg).mono ?_
  rintro e w4 ⟨rfl, hAn, hG⟩
  replace hb := hb.trans (below_grown hG hb.size (fun k e => by injection e; omega))
  replace hAh := hAh.grown hG (by omega) (.inl (by omega))
  replace hAg := hAn
  clear hAn hG
  go_wp2_with fail
  refine (next_N lo g g l 2 (by omega) (1) (by unfold InInt; omega) (0) (by subst hl; decide +kernel) _ hAg).mono ?_
  rintro e w5 ⟨rfl, hAn, hG⟩
  replace hb := hb.trans (below_grown hG hb.size (fun k e => by injection e; omega))
  replace hAh := hAh.grown hG (by omega) (.inl (by omega))
  replace hAg := hAn
  clear hAn hG
  go_wp2_with fail
  refine (next_N lo g g l 3 (by omega) (7) (by unfold InInt; omega) (0) (by subst hl; decide +kernel) _ hAg).mono ?_
  rintro e w6 ⟨rfl, hAn, hG⟩
  replace hb := hb.trans (below_grown hG hb.size (fun k e => by injection e; omega))
  replace hAh := hAh.grown hG (by omega) (.inl (by omega))
  replace hAg := hAn
  clear hAn hG
  go_wp2_with fail
  refine (next_N lo g g l 4 (by omega) (-9223372036854775808) (by unfold InInt; omega) (0) (by subst hl; decide +kernel) _ hAg).mono ?_
  rintro e w7 ⟨rfl, hAn, hG⟩
  replace hb := hb.trans (below_grown hG hb.size (fun k e => by injection e; omega))
  replace hAh := hAh.grown hG (by omega) (.inl (by omega))
  replace hAg := hAn
  clear hAn hG
  go_wp2_with fail
  refine (next_N lo g g l 5 (by omega) (4611686018427387904) (by unfold InInt; omega) (0) (by subst hl; decide +kernel) _ hAg).mono ?_
  rintro e w8 ⟨rfl, hAn, hG⟩
  replace hb := hb.trans (below_grown hG hb.size (fun k e => by injection e; omega))
  replace hAh := hAh.grown hG (by omega) (.inl (by omega))
  replace hAg := hAn
  clear hAn hG
  go_wp2_with fail
  refine (next_N lo g g l 6 (by omega) (9223372036854775807) (by unfold InInt; omega) (9223372036854775806) (by subst hl; decide +kernel) _ hAg).mono ?_
  rintro e w9 ⟨rfl, hAn, hG⟩
  replace hb := hb.trans (below_grown hG hb.size (fun k e => by injection e; omega))
  replace hAh := hAh.grown hG (by omega) (.inl (by omega))
  replace hAg := hAn
  clear hAn hG
  go_wp2_with fail
  refine (next_N lo g g l 7 (by omega) (5) (by unfold InInt; omega) (0) (by subst hl; decide +kernel) _ hAg).mono ?_
  rintro e w10 ⟨rfl, hAn, hG⟩
  replace hb := hb.trans (below_grown hG hb.size (fun k e => by injection e; omega))
  replace hAh := hAh.grown hG (by omega) (.inl (by omega))
  replace hAg := hAn
  clear hAn hG
  go_wp2_with fail
  refine (count_any lo g g _ 8 _ hAg).mono ?_
  rintro e w11 ⟨rfl, rfl⟩
  go_wp2_with fail
  refine (next_N (g + 1) g2 g2 [] 0 (by omega) (5) (by unfold InInt; omega) (0) (by decide +kernel) _ hAh).mono ?_
  rintro e w12 ⟨rfl, hAn, hG⟩
  replace hb := hb.trans (below_grown hG hb.size (fun k e => by injection e; omega))
  replace hAg := hAg.grown hG (by omega) (.inr (by omega))
  replace hAh := hAn
  clear hAn hG
  go_wp2_with fail
  refine (count_any (g + 1) g2 g2 _ 1 _ hAh).mono ?_
  rintro e w13 ⟨rfl, rfl⟩
  go_wp2_with fail
  refine (known_any _).mono ?_
  rintro e w14 ⟨rfl, hb14⟩
  replace hb := hb.trans (hb14.mono hb.size)
  clear hb14
  go_wp2_with fail
  go_ret
  exact ⟨rfl, hb⟩

set_option maxRecDepth 100000 in
theorem lifted (os : Os) (started : os.Started) (H : Type) (enc : TypeId × Value → H) :
    ReturnsInHanded {} Try.checked os 5 .any (Rows.drawsKnownSpec.pre6 enc Try.prog Try.f5 Rows.drawsKnownRow.domain false) (Rows.drawsKnownSpec.post enc Try.prog Try.f5 false true false false) := by
  refine returnsInHanded_of_change_sized (C := Try.checked) own started (by kernel_rfl) Try.func5
    (ChangeSpec.witness6 (enc := enc) (C := Try.checked) false ⟨#[], #[], []⟩ 8 (by kernel_rfl) (by kernel_rfl) (by kernel_rfl) (by kernel_rfl)) ?_
  intro W base args ds gs before hval0 hW hcnd hsz0 _
  have hsz : (DataW.weightsEach Try.prog (Try.f5.params.toList ++ Rows.drawsKnownSpec.plain.varTypes Try.prog) (ds ++ gs)).all (· ≤ reachBytes) = true := hsz0
  clear hsz0
  have hval : ∀ (j : Nat) t v, Try.f5.params[j]? = some t → args[j]? = some v → Value.okWide Try.prog W .any base t v := hval0
  have hW' := hW
  obtain ⟨p, q, hA0, hV, rfl, hfz, hnd⟩ := hW
  have hA : DataW.TrodAll enc Try.prog W 0 (fun _ => true) true Try.f5.params.toList args.toList ds p := hA0
  rw [Try.params5] at hA hval hsz
  obtain ⟨rfl, rfl, rfl⟩ := trodAll_none hA
  obtain ⟨rfl, rfl⟩ := trodVars_none hV
  clear hA0 hval0
  refine (walk  W ).mono fun e W' ⟨he, bel⟩ => ?_
  subst he
  exact ⟨_, rfl, _, _, _, [], _, [], hW', trodAll_mk1 (shut_bool Try.underlying4 _), trodAll_mk0, rfl, bel.frame _, fun h => by cases h⟩

theorem over : Rows.drawsKnownRow.holds Try.pinned (OpenSpec.ofChange Rows.drawsKnownSpec) :=
  OpenClaim.holds_of_wide 5 Try.f5 rfl rfl rfl rfl rfl rfl rfl ⟨rfl, rfl, rfl, rfl, rfl⟩ rfl rfl rfl rfl rfl (by kernel_rfl) Try.func5 (by kernel_rfl)
    (of_decide_eq_true (by kernel_rfl)) (by unfold Func.isWrapper; first | (rw [if_pos (by decide +kernel)]; kernel_rfl) | (rw [if_neg (by decide +kernel)]; exact ⟨rfl, rfl⟩))
    (fun os started H enc _ => lifted os started H enc)

theorem proved : Rows.DrawsKnownSaid := over
end Go.Proofs.Ytceecckipeeigaa.drawsKnown
