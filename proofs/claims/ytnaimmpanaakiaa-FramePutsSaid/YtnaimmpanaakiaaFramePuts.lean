/- Any payload is framed, any bytes are read as a frame, as the document says; what is handed in stays, what is handed out is new memory. Conditions: none. -/
import Derived.Test.YtnaimmpanaakiaaRows
import Derived.Test.YtnaimmpanaakiaaFrameRef2
import Derived.Test.YtnaimmpanaakiaaSpoilB
import Derived.WalkKit
import Derived.WalkLawsBesides
import Derived.ProofKit
import Derived.OpenShut
import Derived.ShutString
import Derived.ChangeOld
import Derived.Below
import Derived.SizedLaws
namespace Go.Proofs.Ytnaimmpanaakiaa.framePuts
open Go.ChangeShapes Go.WideShapes Go.ChangeAt Go.RowKit
open Go.ChangeMaps (open_string shut_string)
set_option linter.unusedVariables false

theorem own : ownKnob Try.prog.godebug = none := by kernel_rfl
theorem laidOut : laidOutB Try.prog = true := by kernel_rfl
theorem bytesOf : Try.prog.bytesOf 5 = 1 := by kernel_rfl

set_option maxHeartbeats 1600000 in
theorem walk (a0 : Option Addr) (cap0 : Nat) (l0 : List Nat) (w : World)
    (k0 : IsBytes w w.heap.size a0 l0) (n0 : l0.length ≤ cap0) (r0 : cap0 ≤ 140737488351232) (z0 : a0 = none → cap0 = 0) :
    Calls Try.prog 3 #[.slice a0 l0.length cap0] w fun e w' => e = .returned (.bool true) ∧ Below w.heap.size w w' := by
  obtain ⟨P, pe, hP⟩ : ∃ P pe, Frame.putOf l0 = (P, pe) := ⟨_, _, rfl⟩
  obtain ⟨X, m, ge, hG⟩ : ∃ X m ge, Fr.get l0 = (X, m, ge) := ⟨_, _, _, rfl⟩
  obtain ⟨kp, hkp⟩ : ∃ kp, P.length = kp := ⟨_, rfl⟩
  obtain ⟨kx, hkx⟩ : ∃ kx, X.length = kx := ⟨_, rfl⟩
  have hpl : kp ≤ 70000 := by
    unfold Frame.putOf at hP
    split at hP
    · injection hP with h1 _; subst h1; simp at hkp; omega
    · injection hP with h1 _; subst h1; rw [Fr.frame_length] at hkp; omega
  have hxl : kx ≤ 70000 := by
    rcases Fr.get_cases l0 with (e | e | e) | ⟨_, h1, _, _, e⟩
    · rw [hG] at e; injection e with e _; subst e; simp at hkx; omega
    · rw [hG] at e; injection e with e _; subst e; simp at hkx; omega
    · rw [hG] at e; injection e with e _; subst e; simp at hkx; omega
    · rw [hG] at e; injection e with e _; subst e; rw [List.length_take] at hkx; omega
  have HP := hid hP
  have HG := hid hG
  have HKP := hid hkp
  have HKX := hid hkx
  clear hP hG hkp hkx
  go_enter Try.func3, Try.ntmps3
  go_wp2_with fail
  refine (lent_any w.heap.size a0 cap0 l0 (by omega) _ k0 (Nat.le_refl _)).mono ?_
  rintro e w1 ⟨gx, cx, rfl, hx, hb1⟩
  have hcx := hx.cap
  rw [lent_length] at hcx
  have hcx' : l0.length ≤ cx := by omega
  have hsz1 := hb1.size
  have hx1 : IsBytes w1 w1.heap.size (some ⟨gx, 0, none⟩) (lent l0) := hx.reads
  have hx1' : IsBytes w1 w1.heap.size (some ⟨gx, 0, none⟩) l0 := by have := hx1.take l0.length; rwa [take_lent] at this
  clear hx
  go_wp2_with fail
  refine (Frame.put_all w1.heap.size (some ⟨gx, 0, none⟩) cx l0 l0.length rfl _ hx1' (Nat.le_refl _) (fun h => by cases h) P pe HP.out kp HKP.out pe rfl).mono ?_
  rintro e w2 ⟨A2, c2, rfl, ho2, hb2⟩
  have hsz2 := hb2.size
  have q2 := ho2.blkLt
  have hk2 := k0.below (hb1.trans (hb2.mono hsz1))
  go_wp2_with fail
  refine (Frame.ref_put_all w.heap.size a0 cap0 l0 l0.length rfl _ hk2 (by omega) P pe HP.out kp HKP.out pe rfl).mono ?_
  rintro e w3 ⟨A3, c3, rfl, ho3, hb3⟩
  have hsz3 := hb3.size
  have hb3' : Below w1.heap.size w1 w3 := hb2.trans (hb3.mono hsz2)
  have ho2' := ho2.below hb3
  clear ho2 hb2 hb3 hk2
  go_wp2_with fail
  refine (Frame.get_N w1.heap.size (some ⟨gx, 0, none⟩) cx l0 l0.length rfl (by omega) hcx' _ (hx1'.below hb3') (by omega) (fun h => by cases h) X m ge HG.out kx HKX.out m ge rfl rfl).mono ?_
  rintro e w4 ⟨A4, c4, rfl, ho4, hb4⟩
  have hsz4 := hb4.size
  have hb4' : Below w1.heap.size w1 w4 := hb3'.trans (hb4.mono hb3'.size)
  have ho2 := ho2'.below hb4
  have ho3' := ho3.below hb4
  have hk4 := k0.below (hb1.trans (hb4'.mono hsz1))
  clear ho2' ho3 hb3' hb4
  go_wp2_with fail
  refine (Frame.ref_get_N w.heap.size a0 cap0 l0 l0.length rfl (by omega) n0 _ hk4 (by omega) X m ge HG.out kx HKX.out m ge rfl rfl).mono ?_
  rintro e w5 ⟨A5, c5, rfl, ho5, hb5⟩
  have hsz5 := hb5.size
  have hb5' : Below w1.heap.size w1 w5 := hb4'.trans (hb5.mono hb4'.size)
  have ho2' := ho2.below hb5
  have ho3 := ho3'.below hb5
  have ho4' := ho4.below hb5
  clear ho2 ho3' ho4 hb4' hb5 hk4
  have HS1 := hid (same_T w5.heap.size w5.heap.size A2 A3 c2 c3 P kp HKP.out (by unfold maxLen; omega) _ ho2'.reads ho3.reads)
  go_wp2_with fail
  refine HS1.out.mono ?_
  rintro e w6 ⟨rfl, n6, rfl⟩
  have HS2 := hid (same_T w5.heap.size w5.heap.size A4 A5 c4 c5 X kx HKX.out (by unfold maxLen; omega) _ (ho4'.drewN n6).reads (ho5.drewN n6).reads)
  clear HS1 ho3 ho5
  go_wp2_with fail
  refine HS2.out.mono ?_
  rintro e w7 ⟨rfl, n7, rfl⟩
  have hb7 : Below w1.heap.size w1 ((w5.drewN n6).drewN n7) := below_drewN (below_drewN hb5' n6) n7
  have hp7 := (ho2'.drewN n6).drewN n7
  have hx7 := (ho4'.drewN n6).drewN n7
  obtain ⟨w7, hw7⟩ : ∃ w7, w7 = (w5.drewN n6).drewN n7 := ⟨_, rfl⟩
  rw [← hw7] at hb7 hp7 hx7
  rw [← hw7]
  clear HS2 hw7 ho2' ho4' hb5'
  go_wp2_with fail
  refine (spoil_N _ A2 c2 P kp HKP.out (by unfold maxLen; omega) _ hp7).mono ?_
  rintro e w8 ⟨rfl, hg8⟩
  have hb8 : Below w1.heap.size w1 w8 := hb7.trans (below_grown hg8 hb7.size (fun k hk => (q2 k hk).1))
  have hx8 := hx7.grown hg8 (fun k hk => by have := (q2 k hk).2; omega)
  have q4 := hx8.blkLt
  clear hb7 hp7 hx7 hg8
  go_wp2_with fail
  refine (spoil_N _ A4 c4 X kx HKX.out (by unfold maxLen; omega) _ hx8).mono ?_
  rintro e w9 ⟨rfl, hg9⟩
  have hb9 : Below w1.heap.size w1 w9 := hb8.trans (below_grown hg9 hb8.size (fun k hk => by have := (q4 k hk).1; omega))
  clear hb8 hx8 hg9
  have hbt := hb1.trans (hb9.mono hsz1)
  go_wp2_with fail
  refine (kept_any w1.heap.size w.heap.size gx a0 cx cap0 l0 (by omega) hcx _ (hx1.below hb9) (k0.below hbt)).mono ?_
  rintro e w10 ⟨rfl, n10, rfl⟩
  go_wp2_with fail
  go_ret
  exact ⟨rfl, below_drewN hbt n10⟩

set_option maxRecDepth 100000 in
theorem lifted (os : Os) (started : os.Started) (H : Type) (enc : TypeId × Value → H) :
    ReturnsInHanded {} Try.checked os 3 .any (Rows.framePutsSpec.pre6 enc Try.prog Try.f3 Rows.framePutsRow.domain false) (Rows.framePutsSpec.post enc Try.prog Try.f3 false true false false) := by
  refine returnsInHanded_of_change_sized (C := Try.checked) own started (by kernel_rfl) Try.func3
    (ChangeSpec.witness6 (enc := enc) (C := Try.checked) false ⟨#[], #[.slice none 0 0], []⟩ 8 (by kernel_rfl) (by kernel_rfl) (by kernel_rfl) (by kernel_rfl)) ?_
  intro W base args ds gs before hval0 hW hcnd hsz0 _
  have hsz : (DataW.weightsEach Try.prog (Try.f3.params.toList ++ Rows.framePutsSpec.plain.varTypes Try.prog) (ds ++ gs)).all (· ≤ reachBytes) = true := hsz0
  clear hsz0
  have hval : ∀ (j : Nat) t v, Try.f3.params[j]? = some t → args[j]? = some v → Value.okWide Try.prog W .any base t v := hval0
  have hW' := hW
  obtain ⟨p, q, hA0, hV, rfl, hfz, hnd⟩ := hW
  have hA : DataW.TrodAll enc Try.prog W 0 (fun _ => true) true Try.f3.params.toList args.toList ds p := hA0
  rw [Try.params3] at hA hval hsz
  obtain ⟨v0, vs0, d0, ds0, p0, q0, hargs, rfl, rfl, g0, t0⟩ := trodAll_cons hA
  obtain ⟨rfl, rfl, rfl⟩ := trodAll_nil t0
  obtain rfl : args = #[v0] := by cases args; simp_all
  obtain ⟨rfl, rfl⟩ := trodVars_none hV
  obtain ⟨a0, len0, cap0, rfl⟩ := okWide_slice Try.underlying22 (hval 0 22 v0 rfl rfl)
  have m0 := g0
  have lt0 : ∀ x ∈ p0, x.block < W.heap.size := by obtain ⟨m, hm⟩ := m0; exact DataW.trod_lt m _ _ _ hm
  obtain ⟨l0, k0, rfl, n0, r0, z0⟩ : ∃ l, IsBytes W W.heap.size a0 l ∧ len0 = l.length ∧ l.length ≤ cap0 ∧ cap0 ≤ 140737488351232 ∧ (a0 = none → cap0 = 0) := by
    obtain ⟨fuel, hf⟩ := g0
    rcases open_ints Try.underlying22 Try.underlying5 (by kernel_rfl) hf with ⟨hcs, _⟩ | ⟨x, l, c, zs, hcs, _, hl, hm, hz, hx, hcell, hwz⟩
    · simp [Value.cells] at hcs
      obtain ⟨rfl, rfl, rfl⟩ := hcs
      exact ⟨[], IsBytes.nil, rfl, by simp, by omega, fun _ => rfl⟩
    · simp [Value.cells] at hcs
      obtain ⟨rfl, rfl, rfl⟩ := hcs
      simp only [Prod.mk.injEq] at hx
      obtain ⟨rfl, rfl⟩ := hx
      simp only [if_true] at hz
      have hr := sized_slice hsz (j := 0) (t := 22) (e := 5) rfl rfl Try.underlying22
      rw [bytesOf] at hr
      simp only [lits, List.length_map, List.length_take, List.length_drop, reachBytes] at hr
      obtain ⟨l, h1, h2⟩ := isBytes_of_ints hl hz hcell hwz
      exact ⟨l, h1, h2, by omega, by omega, fun h => by cases h⟩
  clear hA0 hval0
  refine (walk a0 cap0 l0 W k0 n0 r0 z0).mono fun e W' ⟨he, bel⟩ => ?_
  subst he
  exact ⟨_, rfl, _, _, _, [], _, [], hW', trodAll_mk1 (shut_bool Try.underlying4 _), (trodAll_cons_mk (Below.trod laidOut (by kernel_rfl) (of_decide_eq_true (by kernel_rfl)) m0 bel lt0) trodAll_mk0), rfl, bel.frame _, fun h => by cases h⟩

theorem over : Rows.framePutsRow.holds Try.pinned (OpenSpec.ofChange Rows.framePutsSpec) :=
  OpenClaim.holds_of_wide 3 Try.f3 rfl rfl rfl rfl rfl rfl rfl ⟨rfl, rfl, rfl, rfl, rfl⟩ rfl rfl rfl rfl rfl (by kernel_rfl) Try.func3 (by kernel_rfl)
    (of_decide_eq_true (by kernel_rfl)) (by unfold Func.isWrapper; first | (rw [if_pos (by decide +kernel)]; kernel_rfl) | (rw [if_neg (by decide +kernel)]; exact ⟨rfl, rfl⟩))
    (fun os started H enc _ => lifted os started H enc)

theorem proved : Rows.FramePutsSaid := over
end Go.Proofs.Ytnaimmpanaakiaa.framePuts
