/- What a step answers is right, and another one; whoever is enough ahead of it, and whoever is enough behind it, have a voter in common. Conditions: none. -/
import Derived.Test.YtfkjahpcpmcefaaRows
import Derived.Test.YtfkjahpcpmcefaaConfSafePartAC
import Derived.WalkKit
import Derived.WalkLawsBesides
import Derived.ProofKit
import Derived.OpenShut
import Derived.ShutString
import Derived.ChangeOld
import Derived.Below
import Derived.SizedLaws
namespace Go.Proofs.Ytfkjahpcpmcefaa.confSafe
open Go.ChangeShapes Go.WideShapes Go.ChangeAt Go.RowKit
open Go.ChangeMaps (open_string shut_string)
set_option linter.unusedVariables false
theorem own : ownKnob Try.prog.godebug = none := by kernel_rfl
theorem laidOut : laidOutB Try.prog = true := by kernel_rfl
theorem bytesOfI : Try.prog.bytesOf 3 = 8 := by kernel_rfl
theorem walk (c0 : Qu.Cf) (a00 a01 a02 : Option Addr) (k00 k01 k02 : Nat) (a1 : Int) (a2 : Int) (a3 : Option Addr) (cap3 : Nat) (l3 : List Int) (a4 : Option Addr) (cap4 : Nat) (l4 : List Int) (a5 : Option Addr) (cap5 : Nat) (l5 : List Int) (w : World) (k0 : CIs w w.heap.size c0 a00 a01 a02 k00 k01 k02) (b1 : -9223372036854775808 ≤ a1 ∧ a1 ≤ 9223372036854775807) (b2 : -9223372036854775808 ≤ a2 ∧ a2 ≤ 9223372036854775807) (k3 : IsInts w w.heap.size a3 l3) (n3 : l3.length ≤ cap3) (r3 : cap3 * 8 ≤ 140737488351232) (z3 : a3 = none → cap3 = 0) (k4 : IsInts w w.heap.size a4 l4) (n4 : l4.length ≤ cap4) (r4 : cap4 * 8 ≤ 140737488351232) (z4 : a4 = none → cap4 = 0) (k5 : IsInts w w.heap.size a5 l5) (n5 : l5.length ≤ cap5) (r5 : cap5 * 8 ≤ 140737488351232) (z5 : a5 = none → cap5 = 0) :
    Calls Try.prog 4 #[.agg #[.slice a00 c0.old.length k00, .slice a01 c0.new.length k01, .slice a02 c0.lrn.length k02], .int .i64 a1, .int .i64 a2, .slice a3 l3.length cap3, .slice a4 l4.length cap4, .slice a5 l5.length cap5] w fun e w' => e = .returned (.bool true) ∧ Below w.heap.size w w' :=
  Co.safe_any w.heap.size c0 ⟨a00, c0.old.length, k00, a01, c0.new.length, k01, a02, c0.lrn.length, k02⟩ a1 a2 ⟨b2.1, b2.2⟩ a3 l3.length cap3 l3 rfl a4 l4.length cap4 l4 rfl a5 l5.length cap5 l5 rfl w ⟨k0, rfl, rfl, rfl⟩ k3 k4 k5 (Nat.le_refl _)
set_option maxRecDepth 100000 in
theorem lifted (os : Os) (started : os.Started) (H : Type) (enc : TypeId × Value → H) :
    ReturnsInHanded {} Try.checked os 4 .any (Rows.confSafeSpec.pre6 enc Try.prog Try.f4 Rows.confSafeRow.domain false) (Rows.confSafeSpec.post enc Try.prog Try.f4 false true false false) := by
  refine returnsInHanded_of_change_sized (C := Try.checked) own started (by kernel_rfl) Try.func4
    (ChangeSpec.witness6 (enc := enc) (C := Try.checked) false ⟨#[], #[.agg #[.slice none 0 0, .slice none 0 0, .slice none 0 0], .int .i64 0, .int .i64 0, .slice none 0 0, .slice none 0 0, .slice none 0 0], []⟩ 8 (by kernel_rfl) (by kernel_rfl) (by kernel_rfl) (by kernel_rfl)) ?_
  intro W base args ds gs before hval0 hW hcnd hsz0 _
  have hsz : (DataW.weightsEach Try.prog (Try.f4.params.toList ++ Rows.confSafeSpec.plain.varTypes Try.prog) (ds ++ gs)).all (· ≤ reachBytes) = true := hsz0
  clear hsz0
  have hval : ∀ (j : Nat) t v, Try.f4.params[j]? = some t → args[j]? = some v → Value.okWide Try.prog W .any base t v := hval0
  have hW' := hW
  obtain ⟨p, q, hA0, hV, rfl, hfz, hnd⟩ := hW
  have hA : DataW.TrodAll enc Try.prog W 0 (fun _ => true) true Try.f4.params.toList args.toList ds p := hA0
  rw [Try.params4] at hA hval hsz
  obtain ⟨v0, vs0, d0, ds0, p0, q0, hargs, rfl, rfl, g0, t0⟩ := trodAll_cons hA
  obtain ⟨v1, vs1, d1, ds1, p1, q1, rfl, rfl, rfl, g1, t1⟩ := trodAll_cons t0
  obtain ⟨v2, vs2, d2, ds2, p2, q2, rfl, rfl, rfl, g2, t2⟩ := trodAll_cons t1
  obtain ⟨v3, vs3, d3, ds3, p3, q3, rfl, rfl, rfl, g3, t3⟩ := trodAll_cons t2
  obtain ⟨v4, vs4, d4, ds4, p4, q4, rfl, rfl, rfl, g4, t4⟩ := trodAll_cons t3
  obtain ⟨v5, vs5, d5, ds5, p5, q5, rfl, rfl, rfl, g5, t5⟩ := trodAll_cons t4
  obtain ⟨rfl, rfl, rfl⟩ := trodAll_nil t5
  obtain rfl : args = #[v0, v1, v2, v3, v4, v5] := by cases args; simp_all
  obtain ⟨rfl, rfl⟩ := trodVars_none hV
  obtain ⟨cs0, rfl, sz0⟩ := okWide_struct Try.underlying24 (hval 0 24 v0 rfl rfl)
  have m0 := g0
  have lt0 : ∀ x ∈ p0, x.block < W.heap.size := by obtain ⟨m, hm⟩ := m0; exact DataW.trod_lt m _ _ _ hm
  obtain ⟨c0, a00, a01, a02, k00, k01, k02, rfl, k0⟩ := conf_open sz0 g0
  obtain ⟨a1, rfl, rfl, rfl, w1⟩ := open_int Try.underlying3 (hval 1 3 v1 rfl rfl) g1
  have b1 := bounds_i64 w1
  obtain ⟨a2, rfl, rfl, rfl, w2⟩ := open_int Try.underlying3 (hval 2 3 v2 rfl rfl) g2
  have b2 := bounds_i64 w2
  obtain ⟨a3, len3, cap3, rfl⟩ := okWide_slice Try.underlying22 (hval 3 22 v3 rfl rfl)
  have m3 := g3
  have lt3 : ∀ x ∈ p3, x.block < W.heap.size := by obtain ⟨m, hm⟩ := m3; exact DataW.trod_lt m _ _ _ hm
  obtain ⟨l3, k3, rfl, n3, r3, z3⟩ : ∃ l, IsInts W W.heap.size a3 l ∧ len3 = l.length ∧ l.length ≤ cap3 ∧ cap3 * 8 ≤ 140737488351232 ∧ (a3 = none → cap3 = 0) := by
    obtain ⟨fuel, hf⟩ := g3
    rcases open_ints Try.underlying22 Try.underlying3 (by kernel_rfl) hf with ⟨hcs, _⟩ | ⟨x, l, c, zs, hcs, _, hl, hm, hz, hx, hcell, hwz⟩
    · simp [Value.cells] at hcs
      obtain ⟨rfl, rfl, rfl⟩ := hcs
      exact ⟨[], IsInts.nil, rfl, by simp, by omega, fun _ => rfl⟩
    · simp [Value.cells] at hcs
      obtain ⟨rfl, rfl, rfl⟩ := hcs
      simp only [Prod.mk.injEq] at hx
      obtain ⟨rfl, rfl⟩ := hx
      simp only [if_true] at hz
      have hr := sized_slice hsz (j := 3) (t := 22) (e := 3) rfl rfl Try.underlying22
      rw [bytesOfI] at hr
      simp only [lits, List.length_map, List.length_take, List.length_drop, reachBytes] at hr
      obtain ⟨l, h1, h2⟩ := isInts_of_ints hl hz hcell hwz
      exact ⟨l, h1, h2, by omega, by omega, fun h => by cases h⟩
  obtain ⟨a4, len4, cap4, rfl⟩ := okWide_slice Try.underlying22 (hval 4 22 v4 rfl rfl)
  have m4 := g4
  have lt4 : ∀ x ∈ p4, x.block < W.heap.size := by obtain ⟨m, hm⟩ := m4; exact DataW.trod_lt m _ _ _ hm
  obtain ⟨l4, k4, rfl, n4, r4, z4⟩ : ∃ l, IsInts W W.heap.size a4 l ∧ len4 = l.length ∧ l.length ≤ cap4 ∧ cap4 * 8 ≤ 140737488351232 ∧ (a4 = none → cap4 = 0) := by
    obtain ⟨fuel, hf⟩ := g4
    rcases open_ints Try.underlying22 Try.underlying3 (by kernel_rfl) hf with ⟨hcs, _⟩ | ⟨x, l, c, zs, hcs, _, hl, hm, hz, hx, hcell, hwz⟩
    · simp [Value.cells] at hcs
      obtain ⟨rfl, rfl, rfl⟩ := hcs
      exact ⟨[], IsInts.nil, rfl, by simp, by omega, fun _ => rfl⟩
    · simp [Value.cells] at hcs
      obtain ⟨rfl, rfl, rfl⟩ := hcs
      simp only [Prod.mk.injEq] at hx
      obtain ⟨rfl, rfl⟩ := hx
      simp only [if_true] at hz
      have hr := sized_slice hsz (j := 4) (t := 22) (e := 3) rfl rfl Try.underlying22
      rw [bytesOfI] at hr
      simp only [lits, List.length_map, List.length_take, List.length_drop, reachBytes] at hr
      obtain ⟨l, h1, h2⟩ := isInts_of_ints hl hz hcell hwz
      exact ⟨l, h1, h2, by omega, by omega, fun h => by cases h⟩
  obtain ⟨a5, len5, cap5, rfl⟩ := okWide_slice Try.underlying22 (hval 5 22 v5 rfl rfl)
  have m5 := g5
  have lt5 : ∀ x ∈ p5, x.block < W.heap.size := by obtain ⟨m, hm⟩ := m5; exact DataW.trod_lt m _ _ _ hm
  obtain ⟨l5, k5, rfl, n5, r5, z5⟩ : ∃ l, IsInts W W.heap.size a5 l ∧ len5 = l.length ∧ l.length ≤ cap5 ∧ cap5 * 8 ≤ 140737488351232 ∧ (a5 = none → cap5 = 0) := by
    obtain ⟨fuel, hf⟩ := g5
    rcases open_ints Try.underlying22 Try.underlying3 (by kernel_rfl) hf with ⟨hcs, _⟩ | ⟨x, l, c, zs, hcs, _, hl, hm, hz, hx, hcell, hwz⟩
    · simp [Value.cells] at hcs
      obtain ⟨rfl, rfl, rfl⟩ := hcs
      exact ⟨[], IsInts.nil, rfl, by simp, by omega, fun _ => rfl⟩
    · simp [Value.cells] at hcs
      obtain ⟨rfl, rfl, rfl⟩ := hcs
      simp only [Prod.mk.injEq] at hx
      obtain ⟨rfl, rfl⟩ := hx
      simp only [if_true] at hz
      have hr := sized_slice hsz (j := 5) (t := 22) (e := 3) rfl rfl Try.underlying22
      rw [bytesOfI] at hr
      simp only [lits, List.length_map, List.length_take, List.length_drop, reachBytes] at hr
      obtain ⟨l, h1, h2⟩ := isInts_of_ints hl hz hcell hwz
      exact ⟨l, h1, h2, by omega, by omega, fun h => by cases h⟩
  clear hA0 hval0
  refine (walk c0 a00 a01 a02 k00 k01 k02 a1 a2 a3 cap3 l3 a4 cap4 l4 a5 cap5 l5 W k0 b1 b2 k3 n3 r3 z3 k4 n4 r4 z4 k5 n5 r5 z5).mono fun e W' ⟨he, bel⟩ => ?_
  subst he
  exact ⟨_, rfl, _, _, _, [], _, [], hW', trodAll_mk1 (shut_bool Try.underlying4 _), (trodAll_cons_mk (Below.trod laidOut (by kernel_rfl) (of_decide_eq_true (by kernel_rfl)) m0 bel lt0) (trodAll_cons_mk (shut_int Try.underlying3 w1) (trodAll_cons_mk (shut_int Try.underlying3 w2) (trodAll_cons_mk (Below.trod laidOut (by kernel_rfl) (of_decide_eq_true (by kernel_rfl)) m3 bel lt3) (trodAll_cons_mk (Below.trod laidOut (by kernel_rfl) (of_decide_eq_true (by kernel_rfl)) m4 bel lt4) (trodAll_cons_mk (Below.trod laidOut (by kernel_rfl) (of_decide_eq_true (by kernel_rfl)) m5 bel lt5) trodAll_mk0)))))), rfl, bel.frame _, fun h => by cases h⟩
theorem over : Rows.confSafeRow.holds Try.pinned (OpenSpec.ofChange Rows.confSafeSpec) :=
  OpenClaim.holds_of_wide 4 Try.f4 rfl rfl rfl rfl rfl rfl rfl ⟨rfl, rfl, rfl, rfl, rfl⟩ rfl rfl rfl rfl rfl (by kernel_rfl) Try.func4 (by kernel_rfl)
    (of_decide_eq_true (by kernel_rfl)) (by unfold Func.isWrapper; first | (rw [if_pos (by decide +kernel)]; kernel_rfl) | (rw [if_neg (by decide +kernel)]; exact ⟨rfl, rfl⟩))
    (fun os started H enc _ => lifted os started H enc)
theorem proved : Rows.ConfSafeSaid := over
end Go.Proofs.Ytfkjahpcpmcefaa.confSafe
