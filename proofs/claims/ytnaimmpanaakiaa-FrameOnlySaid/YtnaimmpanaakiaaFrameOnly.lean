/- What is read of any bytes, framed again, is just the bytes that went by. Conditions: none. -/
import Derived.Test.YtnaimmpanaakiaaRows
import Derived.Test.YtnaimmpanaakiaaFrameKnown1
import Derived.WalkKit
import Derived.WalkLawsBesides
import Derived.ProofKit
import Derived.OpenShut
import Derived.ShutString
import Derived.ChangeOld
import Derived.Below
import Derived.SizedLaws
namespace Go.Proofs.Ytnaimmpanaakiaa.frameOnly
open Go.ChangeShapes Go.WideShapes Go.ChangeAt Go.RowKit
open Go.ChangeMaps (open_string shut_string)
set_option linter.unusedVariables false

theorem own : ownKnob Try.prog.godebug = none := by kernel_rfl
theorem laidOut : laidOutB Try.prog = true := by kernel_rfl
theorem bytesOf : Try.prog.bytesOf 5 = 1 := by kernel_rfl

set_option maxHeartbeats 1600000 in
theorem walk (a0 : Option Addr) (cap0 : Nat) (l0 : List Nat) (w : World)
    (k0 : IsBytes w w.heap.size a0 l0) (n0 : l0.length ≤ cap0) (r0 : cap0 ≤ 140737488351232) (z0 : a0 = none → cap0 = 0) :
    Calls Try.prog 5 #[.slice a0 l0.length cap0] w fun e w' => e = .returned (.bool true) ∧ Below w.heap.size w w' := by
  by_cases h0 : 131072 < l0.length
  · go_enter Try.func5, Try.ntmps5
    go_wp2_with fail
    refine (Frame.known_any _).mono ?_
    rintro e w1 ⟨rfl, hbel⟩
    go_wp2_with fail
    go_ret
    exact ⟨rfl, hbel⟩
  · have hcase : (∃ x : Nat, x ≠ 0 ∧ Fr.get l0 = ([], 0, x)) ∨ ∃ p m, Fr.get l0 = (p, m, 0) := by
      rcases Fr.get_cases l0 with (e | e | e) | ⟨_, _, _, _, e⟩
      · exact .inl ⟨1, by decide, e⟩
      · exact .inl ⟨2, by decide, e⟩
      · exact .inl ⟨5, by decide, e⟩
      · exact .inr ⟨_, _, e⟩
    obtain ⟨n, hn⟩ : ∃ n, l0.length = n := ⟨_, rfl⟩
    rw [hn] at h0 n0 ⊢
    have HN := hid hn
    clear hn
    rcases hcase with ⟨x, hx, hg⟩ | ⟨p, m, hg⟩
    · have HG := hid hg
      have hx' : ((x : Int) != 0) = true := by rw [bne_iff_ne]; omega
      clear hg hx
      go_enter Try.func5, Try.ntmps5
      go_wp2_with fail
      refine (Frame.get_N w.heap.size a0 cap0 l0 n HN.out (by omega) n0 _ k0 (Nat.le_refl _) z0 [] 0 x HG.out 0 rfl 0 x rfl rfl).mono ?_
      rintro e w1 ⟨A1, c1, rfl, _, hb1⟩
      go_wp2_with fail
      refine (Frame.known_any _).mono ?_
      rintro e w6 ⟨rfl, hbel⟩
      go_wp2_with fail
      go_ret
      exact ⟨rfl, hb1.trans (hbel.mono hb1.size)⟩
    · have HO := hid (Fr.only l0 p m k0.small hg)
      have hm : m ≤ n := by have := HO.out.1; have := HN.out; omega
      obtain ⟨q, hq⟩ : ∃ q, p.length = q := ⟨_, rfl⟩
      have hpl : q ≤ 65536 := by have := HO.out.2.1; omega
      have HM : Hid ((l0.take m).length = m) := by show _ = _; rw [List.length_take, HN.out]; omega
      have hmq : 8 + q = m := by have := HM.out; rw [← HO.out.2.2, Fr.frame_length] at this; omega
      have HQ := hid hq
      have HG := hid hg
      clear hg hq
      subst hmq
      go_enter Try.func5, Try.ntmps5
      go_wp2_with fail
      refine (Frame.get_N w.heap.size a0 cap0 l0 n HN.out (by omega) n0 _ k0 (Nat.le_refl _) z0 p (8 + q) 0 HG.out q HQ.out (8 + (q : Int)) 0 (by omega) rfl).mono ?_
      rintro e w1 ⟨A1, c1, rfl, ho1, hb1⟩
      have hs1 := hb1.size
      have hnil : A1 = none → c1 = 0 := ho1.none_
      have hr1 : IsBytes w1 w1.heap.size A1 p := ho1.reads
      clear ho1
      go_wp2_with fail
      refine (Frame.put_any w1.heap.size A1 c1 p q HQ.out hpl _ hr1 (Nat.le_refl _) hnil).mono ?_
      rintro e w2 ⟨A2, c2, rfl, ho2, hb2⟩
      have hb2' := hb1.trans (hb2.mono hs1)
      have hr2 : IsBytes w2 w2.heap.size A2 (l0.take (8 + q)) := by rw [← HO.out.2.2]; exact ho2.reads
      have hk0 := (k0.below hb2').take (8 + q)
      have hcap : 8 + q ≤ cap0 := by omega
      obtain ⟨b, off, rfl, _⟩ := k0.cells 0 (by have := HN.out; omega)
      clear hb2 hb1 ho2 hr1 hnil
      go_wp2_with fail
      refine (same_T _ _ A2 (some ⟨b, off, none⟩) c2 cap0 _ (8 + q) HM.out (by unfold maxLen; omega) _ hr2 hk0).mono ?_
      rintro e w5 ⟨rfl, n5, rfl⟩
      have hb5 := below_drewN hb2' n5
      clear hb2' hr2 hk0
      go_wp2_with fail
      refine (Frame.known_any _).mono ?_
      rintro e w6 ⟨rfl, hbel⟩
      go_wp2_with fail
      go_ret
      exact ⟨rfl, hb5.trans (hbel.mono hb5.size)⟩

set_option maxRecDepth 100000 in
theorem lifted (os : Os) (started : os.Started) (H : Type) (enc : TypeId × Value → H) :
    ReturnsInHanded {} Try.checked os 5 .any (Rows.frameOnlySpec.pre6 enc Try.prog Try.f5 Rows.frameOnlyRow.domain false) (Rows.frameOnlySpec.post enc Try.prog Try.f5 false true false false) := by
  refine returnsInHanded_of_change_sized (C := Try.checked) own started (by kernel_rfl) Try.func5
    (ChangeSpec.witness6 (enc := enc) (C := Try.checked) false ⟨#[], #[.slice none 0 0], []⟩ 8 (by kernel_rfl) (by kernel_rfl) (by kernel_rfl) (by kernel_rfl)) ?_
  intro W base args ds gs before hval0 hW hcnd hsz0 _
  have hsz : (DataW.weightsEach Try.prog (Try.f5.params.toList ++ Rows.frameOnlySpec.plain.varTypes Try.prog) (ds ++ gs)).all (· ≤ reachBytes) = true := hsz0
  clear hsz0
  have hval : ∀ (j : Nat) t v, Try.f5.params[j]? = some t → args[j]? = some v → Value.okWide Try.prog W .any base t v := hval0
  have hW' := hW
  obtain ⟨p, q, hA0, hV, rfl, hfz, hnd⟩ := hW
  have hA : DataW.TrodAll enc Try.prog W 0 (fun _ => true) true Try.f5.params.toList args.toList ds p := hA0
  rw [Try.params5] at hA hval hsz
  obtain ⟨v0, vs0, d0, ds0, p0, q0, hargs, rfl, rfl, g0, t0⟩ := trodAll_cons hA
  obtain ⟨rfl, rfl, rfl⟩ := trodAll_nil t0
  obtain rfl : args = #[v0] := by cases args; simp_all
  obtain ⟨rfl, rfl⟩ := trodVars_none hV
  obtain ⟨a0, len0, cap0, rfl⟩ := okWide_slice Try.underlying22 (hval 0 22 v0 rfl rfl)
  have m0 := g0
  have lt0 : ∀ x ∈ p0, x.block < W.heap.size := by obtain ⟨m, hm⟩ := m0; exact DataW.trod_lt m _ _ _ hm
  obtain ⟨l0, k0, rfl, n0, r0, z0⟩ : ∃ l, IsBytes W W.heap.size a0 l ∧ len0 = l.length ∧ l.length ≤ cap0 ∧ cap0 ≤ 140737488351232 ∧ (a0 = none → cap0 = 0) := by
    obtain ⟨fuel, hf⟩ := g0
    rcases open_ints Try.underlying22 Try.underlying5 (by kernel_rfl) hf with ⟨hcs, _⟩ | ⟨x, l, c, zs, hcs, _, hl, hm, hz, hx, hcell, hwz⟩
    · simp [Value.cells] at hcs
      obtain ⟨rfl, rfl, rfl⟩ := hcs
      exact ⟨[], IsBytes.nil, rfl, by simp, by omega, fun _ => rfl⟩
    · simp [Value.cells] at hcs
      obtain ⟨rfl, rfl, rfl⟩ := hcs
      simp only [Prod.mk.injEq] at hx
      obtain ⟨rfl, rfl⟩ := hx
      simp only [if_true] at hz
      have hr := sized_slice hsz (j := 0) (t := 22) (e := 5) rfl rfl Try.underlying22
      rw [bytesOf] at hr
      simp only [lits, List.length_map, List.length_take, List.length_drop, reachBytes] at hr
      obtain ⟨l, h1, h2⟩ := isBytes_of_ints hl hz hcell hwz
      exact ⟨l, h1, h2, by omega, by omega, fun h => by cases h⟩
  clear hA0 hval0
  refine (walk a0 cap0 l0 W k0 n0 r0 z0).mono fun e W' ⟨he, bel⟩ => ?_
  subst he
  exact ⟨_, rfl, _, _, _, [], _, [], hW', trodAll_mk1 (shut_bool Try.underlying4 _), (trodAll_cons_mk (Below.trod laidOut (by kernel_rfl) (of_decide_eq_true (by kernel_rfl)) m0 bel lt0) trodAll_mk0), rfl, bel.frame _, fun h => by cases h⟩

theorem over : Rows.frameOnlyRow.holds Try.pinned (OpenSpec.ofChange Rows.frameOnlySpec) :=
  OpenClaim.holds_of_wide 5 Try.f5 rfl rfl rfl rfl rfl rfl rfl ⟨rfl, rfl, rfl, rfl, rfl⟩ rfl rfl rfl rfl rfl (by kernel_rfl) Try.func5 (by kernel_rfl)
    (of_decide_eq_true (by kernel_rfl)) (by unfold Func.isWrapper; first | (rw [if_pos (by decide +kernel)]; kernel_rfl) | (rw [if_neg (by decide +kernel)]; exact ⟨rfl, rfl⟩))
    (fun os started H enc _ => lifted os started H enc)

theorem proved : Rows.FrameOnlySaid := over
end Go.Proofs.Ytnaimmpanaakiaa.frameOnly
