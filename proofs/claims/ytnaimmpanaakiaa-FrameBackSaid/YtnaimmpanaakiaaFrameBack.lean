/- What is framed is read as it was, whatever stands behind it; a payload that is too long has no frame. Conditions: none. -/
import Derived.Test.YtnaimmpanaakiaaRows
import Derived.Test.YtnaimmpanaakiaaFrameKnown1
import Derived.WalkKit
import Derived.WalkLawsBesides
import Derived.ProofKit
import Derived.OpenShut
import Derived.ShutString
import Derived.ChangeOld
import Derived.Below
import Derived.SizedLaws
namespace Go.Proofs.Ytnaimmpanaakiaa.frameBack
open Go.ChangeShapes Go.WideShapes Go.ChangeAt Go.RowKit
open Go.ChangeMaps (open_string shut_string)
set_option linter.unusedVariables false

theorem own : ownKnob Try.prog.godebug = none := by kernel_rfl
theorem laidOut : laidOutB Try.prog = true := by kernel_rfl
theorem bytesOf : Try.prog.bytesOf 5 = 1 := by kernel_rfl

theorem info_u8' : (Try.prog.info? 5).map (fun i => (i.zero, i.size, i.bytes)) = some (some (.int .u8 0), 1, 1) := by kernel_rfl
set_option maxHeartbeats 1600000 in
theorem walk (a0 : Option Addr) (cap0 : Nat) (l0 : List Nat) (a1 : Option Addr) (cap1 : Nat) (l1 : List Nat) (w : World)
    (k0 : IsBytes w w.heap.size a0 l0) (n0 : l0.length ≤ cap0) (r0 : cap0 ≤ 140737488351232) (z0 : a0 = none → cap0 = 0)
    (k1 : IsBytes w w.heap.size a1 l1) (n1 : l1.length ≤ cap1) (r1 : cap1 ≤ 140737488351232) (z1 : a1 = none → cap1 = 0) :
    Calls Try.prog 4 #[.slice a0 l0.length cap0, .slice a1 l1.length cap1] w fun e w' => e = .returned (.bool true) ∧ Below w.heap.size w w' := by
  by_cases h0 : 131072 < l0.length
  · go_enter Try.func4, Try.ntmps4
    go_wp2_with fail
    refine (Frame.known_any _).mono ?_
    rintro e w1 ⟨rfl, hbel⟩
    go_wp2_with fail
    go_ret
    exact ⟨rfl, hbel⟩
  · by_cases h1 : 131072 < l1.length
    · go_enter Try.func4, Try.ntmps4
      go_wp2_with fail
      refine (Frame.known_any _).mono ?_
      rintro e w1 ⟨rfl, hbel⟩
      go_wp2_with fail
      go_ret
      exact ⟨rfl, hbel⟩
    · by_cases h2 : 65536 < l0.length
      · go_enter Try.func4, Try.ntmps4
        go_wp2_with fail
        refine (Frame.put_long _ _ _ h2 _).mono ?_
        rintro e w1 ⟨rfl, rfl⟩
        go_wp2_with fail
        refine (Frame.known_any _).mono ?_
        rintro e w1 ⟨rfl, hbel⟩
        go_wp2_with fail
        go_ret
        exact ⟨rfl, hbel⟩
      · obtain ⟨i0, hi, hz0, hz1, hz2⟩ := info_parts info_u8'
        obtain ⟨n, hn⟩ : ∃ n, l0.length = n := ⟨_, rfl⟩
        obtain ⟨m, hm⟩ : ∃ m, l1.length = m := ⟨_, rfl⟩
        rw [hn] at h0 h2 n0 ⊢
        rw [hm] at h1 n1 ⊢
        have hb : Fr.get (Fr.frame l0 ++ l1) = (l0, 8 + n, 0) := by rw [Fr.back l0 l1 k0.small (by omega), hn]
        have HB := hid hb
        have HN := hid hn
        have HM := hid hm
        have HL : Hid ((Fr.frame l0).length = 8 + n) := by show _ = _; rw [Fr.frame_length, HN.out]
        clear hb hn hm
        go_enter Try.func4, Try.ntmps4
        go_wp2_with fail
        refine (Frame.put_any _ _ _ _ n HN.out (by omega) _ k0 (Nat.le_refl _) z0).mono ?_
        rintro e w1 ⟨A1, c1, rfl, ho1, hb1⟩
        have hs1 := hb1.size
        go_wp2_with fail
        refine (copy_N w1.heap.size A1 c1 _ (8 + n) HL.out (by omega) _ ho1.reads (Nat.le_refl _)).mono ?_
        rintro e w2 ⟨A2, c2, rfl, ho2, hb2⟩
        have hb2' := hb1.trans (hb2.mono hs1)
        have hs2 := hb2'.size
        have hs2' := hb2.size
        have hk1 := k1.below hb2'
        clear hb1 hb2 ho1
        go_wp2_with (at_builtin; refine wpList_append_bytesN rfl _ _ 22 rfl w1.heap.size 5 i0 Try.underlying22 hi hz0 hz1 hz2 A2 c2 (Fr.frame l0) (8 + n) HL.out rfl ho2 w.heap.size a1 cap1 l1 m HM.out rfl z1 hk1 _ rfl (by omega) hs2' ?_)
        intro A3 c3 w3 ho3 hb3
        have hb3' := hb2'.trans (hb3.mono hs1)
        have hs3 := hb3'.size
        have hL3 : Hid ((Fr.frame l0 ++ l1).length = 8 + n + m) := by show _ = _; rw [List.length_append, HL.out, HM.out]
        have hc3 := ho3.cap
        rw [hL3.out] at hc3
        clear hb3 hb2' hk1 ho2
        go_wp2_with fail
        refine (Frame.get_N w3.heap.size A3 c3 _ (8 + n + m) hL3.out (by omega) hc3 _ ho3.reads (Nat.le_refl _) ho3.none_ l0 (8 + n) 0 HB.out n HN.out (8 + (n : Int)) 0 (by omega) rfl).mono ?_
        rintro e w4 ⟨A4, c4, rfl, ho4, hb4⟩
        have hb4' := hb3'.trans (hb4.mono hs3)
        have hk0 := k0.below hb4'
        clear hb4 hb3' ho3
        go_wp2_with fail
        refine (same_T _ _ A4 a0 c4 cap0 l0 n HN.out (by unfold maxLen; omega) _ ho4.reads hk0).mono ?_
        rintro e w5 ⟨rfl, n5, rfl⟩
        have hb5 := below_drewN hb4' n5
        clear hb4' ho4 hk0
        go_wp2_with fail
        refine (Frame.known_any _).mono ?_
        rintro e w6 ⟨rfl, hbel⟩
        go_wp2_with fail
        go_ret
        exact ⟨rfl, hb5.trans (hbel.mono hb5.size)⟩

set_option maxRecDepth 100000 in
theorem lifted (os : Os) (started : os.Started) (H : Type) (enc : TypeId × Value → H) :
    ReturnsInHanded {} Try.checked os 4 .any (Rows.frameBackSpec.pre6 enc Try.prog Try.f4 Rows.frameBackRow.domain false) (Rows.frameBackSpec.post enc Try.prog Try.f4 false true false false) := by
  refine returnsInHanded_of_change_sized (C := Try.checked) own started (by kernel_rfl) Try.func4
    (ChangeSpec.witness6 (enc := enc) (C := Try.checked) false ⟨#[], #[.slice none 0 0, .slice none 0 0], []⟩ 8 (by kernel_rfl) (by kernel_rfl) (by kernel_rfl) (by kernel_rfl)) ?_
  intro W base args ds gs before hval0 hW hcnd hsz0 _
  have hsz : (DataW.weightsEach Try.prog (Try.f4.params.toList ++ Rows.frameBackSpec.plain.varTypes Try.prog) (ds ++ gs)).all (· ≤ reachBytes) = true := hsz0
  clear hsz0
  have hval : ∀ (j : Nat) t v, Try.f4.params[j]? = some t → args[j]? = some v → Value.okWide Try.prog W .any base t v := hval0
  have hW' := hW
  obtain ⟨p, q, hA0, hV, rfl, hfz, hnd⟩ := hW
  have hA : DataW.TrodAll enc Try.prog W 0 (fun _ => true) true Try.f4.params.toList args.toList ds p := hA0
  rw [Try.params4] at hA hval hsz
  obtain ⟨v0, vs0, d0, ds0, p0, q0, hargs, rfl, rfl, g0, t0⟩ := trodAll_cons hA
  obtain ⟨v1, vs1, d1, ds1, p1, q1, rfl, rfl, rfl, g1, t1⟩ := trodAll_cons t0
  obtain ⟨rfl, rfl, rfl⟩ := trodAll_nil t1
  obtain rfl : args = #[v0, v1] := by cases args; simp_all
  obtain ⟨rfl, rfl⟩ := trodVars_none hV
  obtain ⟨a0, len0, cap0, rfl⟩ := okWide_slice Try.underlying22 (hval 0 22 v0 rfl rfl)
  have m0 := g0
  have lt0 : ∀ x ∈ p0, x.block < W.heap.size := by obtain ⟨m, hm⟩ := m0; exact DataW.trod_lt m _ _ _ hm
  obtain ⟨l0, k0, rfl, n0, r0, z0⟩ : ∃ l, IsBytes W W.heap.size a0 l ∧ len0 = l.length ∧ l.length ≤ cap0 ∧ cap0 ≤ 140737488351232 ∧ (a0 = none → cap0 = 0) := by
    obtain ⟨fuel, hf⟩ := g0
    rcases open_ints Try.underlying22 Try.underlying5 (by kernel_rfl) hf with ⟨hcs, _⟩ | ⟨x, l, c, zs, hcs, _, hl, hm, hz, hx, hcell, hwz⟩
    · simp [Value.cells] at hcs
      obtain ⟨rfl, rfl, rfl⟩ := hcs
      exact ⟨[], IsBytes.nil, rfl, by simp, by omega, fun _ => rfl⟩
    · simp [Value.cells] at hcs
      obtain ⟨rfl, rfl, rfl⟩ := hcs
      simp only [Prod.mk.injEq] at hx
      obtain ⟨rfl, rfl⟩ := hx
      simp only [if_true] at hz
      have hr := sized_slice hsz (j := 0) (t := 22) (e := 5) rfl rfl Try.underlying22
      rw [bytesOf] at hr
      simp only [lits, List.length_map, List.length_take, List.length_drop, reachBytes] at hr
      obtain ⟨l, h1, h2⟩ := isBytes_of_ints hl hz hcell hwz
      exact ⟨l, h1, h2, by omega, by omega, fun h => by cases h⟩
  obtain ⟨a1, len1, cap1, rfl⟩ := okWide_slice Try.underlying22 (hval 1 22 v1 rfl rfl)
  have m1 := g1
  have lt1 : ∀ x ∈ p1, x.block < W.heap.size := by obtain ⟨m, hm⟩ := m1; exact DataW.trod_lt m _ _ _ hm
  obtain ⟨l1, k1, rfl, n1, r1, z1⟩ : ∃ l, IsBytes W W.heap.size a1 l ∧ len1 = l.length ∧ l.length ≤ cap1 ∧ cap1 ≤ 140737488351232 ∧ (a1 = none → cap1 = 0) := by
    obtain ⟨fuel, hf⟩ := g1
    rcases open_ints Try.underlying22 Try.underlying5 (by kernel_rfl) hf with ⟨hcs, _⟩ | ⟨x, l, c, zs, hcs, _, hl, hm, hz, hx, hcell, hwz⟩
    · simp [Value.cells] at hcs
      obtain ⟨rfl, rfl, rfl⟩ := hcs
      exact ⟨[], IsBytes.nil, rfl, by simp, by omega, fun _ => rfl⟩
    · simp [Value.cells] at hcs
      obtain ⟨rfl, rfl, rfl⟩ := hcs
      simp only [Prod.mk.injEq] at hx
      obtain ⟨rfl, rfl⟩ := hx
      simp only [if_true] at hz
      have hr := sized_slice hsz (j := 1) (t := 22) (e := 5) rfl rfl Try.underlying22
      rw [bytesOf] at hr
      simp only [lits, List.length_map, List.length_take, List.length_drop, reachBytes] at hr
      obtain ⟨l, h1, h2⟩ := isBytes_of_ints hl hz hcell hwz
      exact ⟨l, h1, h2, by omega, by omega, fun h => by cases h⟩
  clear hA0 hval0
  refine (walk a0 cap0 l0 a1 cap1 l1 W k0 n0 r0 z0 k1 n1 r1 z1).mono fun e W' ⟨he, bel⟩ => ?_
  subst he
  exact ⟨_, rfl, _, _, _, [], _, [], hW', trodAll_mk1 (shut_bool Try.underlying4 _), (trodAll_cons_mk (Below.trod laidOut (by kernel_rfl) (of_decide_eq_true (by kernel_rfl)) m0 bel lt0) (trodAll_cons_mk (Below.trod laidOut (by kernel_rfl) (of_decide_eq_true (by kernel_rfl)) m1 bel lt1) trodAll_mk0)), rfl, bel.frame _, fun h => by cases h⟩

theorem over : Rows.frameBackRow.holds Try.pinned (OpenSpec.ofChange Rows.frameBackSpec) :=
  OpenClaim.holds_of_wide 4 Try.f4 rfl rfl rfl rfl rfl rfl rfl ⟨rfl, rfl, rfl, rfl, rfl⟩ rfl rfl rfl rfl rfl (by kernel_rfl) Try.func4 (by kernel_rfl)
    (of_decide_eq_true (by kernel_rfl)) (by unfold Func.isWrapper; first | (rw [if_pos (by decide +kernel)]; kernel_rfl) | (rw [if_neg (by decide +kernel)]; exact ⟨rfl, rfl⟩))
    (fun os started H enc _ => lifted os started H enc)

theorem proved : Rows.FrameBackSaid := over
end Go.Proofs.Ytnaimmpanaakiaa.frameBack
