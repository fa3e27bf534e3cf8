/- What was put is read again, in its order, and nothing is left. Conditions: none. -/
import Derived.Test.YtdmghnfnmgkigaaRows
import Derived.Test.YtdmghnfnmgkigaaWorks02
import Derived.Test.YtdmghnfnmgkigaaReadThings
import Derived.WalkKit
import Derived.WalkLawsBesides
import Derived.ProofKit
import Derived.OpenShut
import Derived.ShutString
import Derived.ChangeOld
import Derived.Below
import Derived.SizedLaws
namespace Go.Proofs.Ytdmghnfnmgkigaa.packBack
open Go.ChangeShapes Go.WideShapes Go.ChangeAt Go.RowKit
open Go.ChangeMaps (open_string shut_string)
set_option linter.unusedVariables false

theorem own : ownKnob Try.prog.godebug = none := by kernel_rfl
theorem laidOut : laidOutB Try.prog = true := by kernel_rfl

set_option maxHeartbeats 1600000 in
theorem walk (a0 : Option Addr) (cap0 : Nat) (l0 : List Pk.Th) (w : World)
    (k0 : IsThings w w.heap.size a0 l0) (n0 : l0.length ≤ cap0) (r0 : cap0 ≤ maxLen) (z0 : a0 = none → cap0 = 0) :
    Calls Try.prog 5 #[.slice a0 l0.length cap0] w fun e w' => e = .returned (.bool true) ∧ Below w.heap.size w w' := by
  go_enter Try.func5, Try.ntmps5
  go_wp2_with fail
  refine (laid_any w.heap.size a0 cap0 l0 w k0 (Nat.le_refl _)).mono ?_
  rintro e w1 (⟨hf, A1, c1, rfl, hown, hb1⟩ | ⟨hf, rfl, hb1⟩)
  · have hok := k0.ok
    have hvo := Pk.vals_ok l0 hok hf
    have hL : (Pk.encAll (Pk.vals l0)).length ≤ 492000 := by
      have := Pk.encAll_length _ hvo
      have h2 : (Pk.vals l0).length ≤ 60 := by unfold Pk.vals; rw [List.length_map]; exact hf.1
      omega
    have hra := Pk.readAll_enc (Pk.vals l0) [] hvo
    rw [List.append_nil] at hra
    obtain ⟨L, hLe⟩ : ∃ L, L = Pk.encAll (Pk.vals l0) := ⟨_, rfl⟩
    rw [← hLe] at hown hL hra ⊢
    have HRA := hid hra
    have hn1 := hown.capLe.2
    have hrd := hown.reads
    have hlen : l0.length ≤ maxLen := by omega
    clear hra hLe hvo hok hf hown
    go_wp2_with fail
    refine (read_any w1.heap.size A1 c1 L (by omega) w1 hrd (Nat.le_refl _) hn1).mono ?_
    rintro e w2 ⟨g, rfl, hg, hR, hb2⟩
    have hb2w := hb1.trans (hb2.mono hb1.size)
    have hwg : w.heap.size ≤ g := by have := hb1.size; omega
    have HB2 := hid hb2w
    clear hrd hb1 hb2
    go_wp2_with fail
    refine (readThings_any g ⟨L, false⟩ w.heap.size a0 cap0 l0 w2 hR (k0.below HB2.out) hwg hlen (by show L.length ≤ _; omega)).mono ?_
    rintro e w3 ⟨rfl, hR3, hG3⟩
    rw [HRA.out] at hR3 ⊢
    dsimp only at hR3 ⊢
    have hb3 : Below w.heap.size w w3 := HB2.out.grown hG3 HB2.out.size (fun k hk => by injection hk with hk; omega)
    have HB3 := hid hb3
    clear hb3 hG3 hR
    go_wp2_with fail
    refine (bad_rdr g _ w3 hR3).mono ?_
    rintro e w4 ⟨rfl, rfl⟩
    go_wp2_with fail
    refine (left_rdr g _ w3 hR3).mono ?_
    rintro e w4 ⟨rfl, rfl⟩
    go_wp2_with fail
    refine (end_rdr g _ w3 hR3).mono ?_
    rintro e w4 ⟨rfl, rfl⟩
    have he0 : endOf ⟨[], false⟩ = 0 := rfl
    rw [he0]
    go_wp2_with fail
    refine (works_any _).mono ?_
    rintro e w5 ⟨rfl, hb5⟩
    go_wp2_with fail
    go_ret
    exact ⟨rfl, HB3.out.trans (hb5.mono HB3.out.size)⟩
  · have hsz := hb1.size
    have HB := hid hb1
    clear hb1 hf
    go_wp2_with fail
    refine (works_any _).mono ?_
    rintro e w2 ⟨rfl, hb2⟩
    go_wp2_with fail
    go_ret
    exact ⟨rfl, HB.out.trans (hb2.mono hsz)⟩

set_option maxRecDepth 100000 in
theorem lifted (os : Os) (started : os.Started) (H : Type) (enc : TypeId × Value → H) :
    ReturnsInHanded {} Try.checked os 5 .any (Rows.packBackSpec.pre6 enc Try.prog Try.f5 Rows.packBackRow.domain false) (Rows.packBackSpec.post enc Try.prog Try.f5 false true false false) := by
  refine returnsInHanded_of_change_sized (C := Try.checked) own started (by kernel_rfl) Try.func5
    (ChangeSpec.witness6 (enc := enc) (C := Try.checked) false ⟨#[], #[.slice none 0 0], []⟩ 8 (by kernel_rfl) (by kernel_rfl) (by kernel_rfl) (by kernel_rfl)) ?_
  intro W base args ds gs before hval0 hW hcnd hsz0 _
  have hsz : (DataW.weightsEach Try.prog (Try.f5.params.toList ++ Rows.packBackSpec.plain.varTypes Try.prog) (ds ++ gs)).all (· ≤ reachBytes) = true := hsz0
  clear hsz0
  have hval : ∀ (j : Nat) t v, Try.f5.params[j]? = some t → args[j]? = some v → Value.okWide Try.prog W .any base t v := hval0
  have hW' := hW
  obtain ⟨p, q, hA0, hV, rfl, hfz, hnd⟩ := hW
  have hA : DataW.TrodAll enc Try.prog W 0 (fun _ => true) true Try.f5.params.toList args.toList ds p := hA0
  rw [Try.params5] at hA hval hsz
  obtain ⟨v0, vs0, d0, ds0, p0, q0, hargs, rfl, rfl, g0, t0⟩ := trodAll_cons hA
  obtain ⟨rfl, rfl, rfl⟩ := trodAll_nil t0
  obtain rfl : args = #[v0] := by cases args; simp_all
  obtain ⟨rfl, rfl⟩ := trodVars_none hV
  obtain ⟨a0, len0, cap0, rfl⟩ := okWide_slice Try.underlying45 (hval 0 45 v0 rfl rfl)
  have m0 := g0
  have lt0 : ∀ x ∈ p0, x.block < W.heap.size := by obtain ⟨m, hm⟩ := m0; exact DataW.trod_lt m _ _ _ hm
  obtain ⟨l0, k0, rfl, n0, r0, z0⟩ : ∃ l, IsThings W W.heap.size a0 l ∧ len0 = l.length ∧ l.length ≤ cap0 ∧ cap0 ≤ maxLen ∧ (a0 = none → cap0 = 0) := by
    obtain ⟨fuel, hf⟩ := g0
    obtain ⟨a, c, ts, hcs, h1, h2, h3⟩ := things_of_trod hf
    simp [Value.cells] at hcs
    obtain ⟨rfl, rfl, rfl⟩ := hcs
    exact ⟨ts, h1, rfl, h2.1, h2.2, h3⟩
  clear hA0 hval0
  refine (walk a0 cap0 l0 W k0 n0 r0 z0).mono fun e W' ⟨he, bel⟩ => ?_
  subst he
  exact ⟨_, rfl, _, _, _, [], _, [], hW', trodAll_mk1 (shut_bool Try.underlying4 _), (trodAll_cons_mk (Below.trod laidOut (by kernel_rfl) (of_decide_eq_true (by kernel_rfl)) m0 bel lt0) trodAll_mk0), rfl, bel.frame _, fun h => by cases h⟩

theorem over : Rows.packBackRow.holds Try.pinned (OpenSpec.ofChange Rows.packBackSpec) :=
  OpenClaim.holds_of_wide 5 Try.f5 rfl rfl rfl rfl rfl rfl rfl ⟨rfl, rfl, rfl, rfl, rfl⟩ rfl rfl rfl rfl rfl (by kernel_rfl) Try.func5 (by kernel_rfl)
    (of_decide_eq_true (by kernel_rfl)) (by unfold Func.isWrapper; first | (rw [if_pos (by decide +kernel)]; kernel_rfl) | (rw [if_neg (by decide +kernel)]; exact ⟨rfl, rfl⟩))
    (fun os started H enc _ => lifted os started H enc)

theorem proved : Rows.PackBackSaid := over
end Go.Proofs.Ytdmghnfnmgkigaa.packBack
