/- Whatever nodes have reached, what is told of it is what enough of them have, as the document says; what is handed in stays. Conditions: none. -/
import Derived.Test.YtblhfbijffaacaaRows
import Derived.Test.YtblhfbijffaacaaLawKit10
import Derived.Test.YtblhfbijffaacaaRqE
import Derived.Test.YtblhfbijffaacaaConfIn
import Derived.StillTailTactics
import Derived.WalkKit
import Derived.WalkLawsBesides
import Derived.ProofKit
import Derived.OpenShut
import Derived.ShutString
import Derived.ChangeOld
import Derived.Below
import Derived.SizedLaws
namespace Go.Proofs.Ytblhfbijffaacaa.quorumAgrees
open Go.ChangeShapes Go.WideShapes Go.ChangeAt Go.RowKit
open Go.ChangeMaps (open_string shut_string)
set_option linter.unusedVariables false

theorem own : ownKnob Try.prog.godebug = none := by kernel_rfl
theorem laidOut : laidOutB Try.prog = true := by kernel_rfl
theorem bytesOfI : Try.prog.bytesOf 3 = 8 := by kernel_rfl

set_option maxRecDepth 100000 in
set_option maxHeartbeats 2000000 in
/-- the same at any capacity -/
theorem core (B : Nat) (c0 : Qu.Cf) (a00 a01 a02 : Option Addr) (k00 k01 k02 : Nat) (a1 : Option Addr) (cap1 : Nat) (l1 : List Int) (a2 : Option Addr) (cap2 : Nat) (l2 : List Int) (w : World) (h0 : CIs w B c0 a00 a01 a02 k00 k01 k02) (h1 : IsInts w B a1 l1) (n1 : l1.length ≤ maxLen) (h2 : IsInts w B a2 l2) (n2 : l2.length ≤ maxLen) (hB : B ≤ w.heap.size) :
    Calls Try.prog 4 #[.agg #[.slice a00 c0.old.length k00, .slice a01 c0.new.length k01, .slice a02 c0.lrn.length k02], .slice a1 l1.length cap1, .slice a2 l2.length cap2] w fun e w' => e = .returned (.bool true) ∧ Below w.heap.size w w' := by
  unfold maxLen at n1 n2
  obtain ⟨wb, hwb⟩ : ∃ wb, wb = w.alloc (.cells #[.slice a00 c0.old.length k00, .slice a01 c0.new.length k01, .slice a02 c0.lrn.length k02] 24) := ⟨_, rfl⟩
  have hbel : Below w.heap.size w wb := by rw [hwb]; exact (Below.refl _ _).alloc (Nat.le_refl _) _
  have hsz : wb.heap.size = w.heap.size + 1 := by rw [hwb]; simp
  have hcb : CB wb w.heap.size c0 a00 a01 a02 k00 k01 k02 := by rw [hwb]; exact CB.new w c0 a00 a01 a02 k00 k01 k02
  have HC := hid (h0.below (hbel.mono hB))
  have H1 := hid (h1.below (hbel.mono hB))
  have H2 := hid (h2.below (hbel.mono hB))
  have HB := hid hbel
  have HF := hid (And.intro hB hsz)
  have HCB := hid hcb
  have HLG := hid (fun b hb => long_any c0 a00 a01 a02 k00 k01 k02 wb (by have := h0.co; omega) (by have := h0.cn; omega) (by have := h0.cl; omega) b hb)
  have d0 := hcb.c0
  have d1 := hcb.c1
  have d2 := hcb.c2
  clear h0 h1 h2 hB hbel hsz hcb
  by_cases hs : Short c0
  · have HS := hid hs
    have hlg := HLG.out false ⟨fun _ => hs, fun _ => rfl⟩
    have HL := hid hlg
    clear hs hlg HLG
    by_cases e1 : l1.length ≤ 300
    · have e1' : ¬ (300 : Int) < (l1.length : Int) := by omega
      by_cases e2 : l2.length ≤ 300
      · have e2' : ¬ (300 : Int) < (l2.length : Int) := by omega
        go_enter Try.func4, Try.ntmps4
        go_wp2_with fail
        rw [← hwb]; clear hwb
        refine HL.out.mono ?_
        rintro e w1 ⟨rfl, hb1⟩
        have HB1 := hid hb1
        clear hb1 d0 d1 d2 HL
        go_wp2_with fail
        refine (I.lent_any B a1 cap1 l1 (by omega) w1 (H1.out.below (HB1.out.mono (by have := HF.out; omega))) (by have := HF.out; have := HB1.out.size; omega)).mono ?_
        rintro e w2 ⟨gx, cx, rfl, ox, hb2⟩
        have OX := hid ox
        have HB2 := hid (bthen HB1.out hb2 HB1.out.size)
        clear ox hb2
        go_wp2_with fail
        refine (I.lent_any B a2 cap2 l2 (by omega) w2 (H2.out.below (HB2.out.mono (by have := HF.out; omega))) (by have := HF.out; have := HB2.out.size; omega)).mono ?_
        rintro e w3 ⟨gy, cy, rfl, oy, hb3⟩
        have hcx := (ownsI_cap OX.out).2
        have hcy := (ownsI_cap oy).2
        rw [I.lent_length] at hcx hcy
        unfold maxLen at hcx hcy
        have OX3 := hid (OX.out.below hb3)
        have OY := hid oy
        have HB3 := hid (bthen HB2.out hb3 HB2.out.size)
        have HCX := hid (And.intro hcx hcy)
        have hcb3 := HCB.out.below HB3.out HCB.out.lt
        have d0 : w3.cell? ⟨w.heap.size, 0, none⟩ = some (.slice a00 c0.old.length k00) := hcb3.c0
        have d1 : w3.cell? ⟨w.heap.size, 1, none⟩ = some (.slice a01 c0.new.length k01) := hcb3.c1
        have d2 : w3.cell? ⟨w.heap.size, 2, none⟩ = some (.slice a02 c0.lrn.length k02) := hcb3.c2
        have x1 : l1.length ≤ cx := by omega
        have x2 : (0 : Int) ≤ (l1.length : Int) := by omega
        have x3 : (l1.length : Int) ≤ (cx : Int) := by omega
        have x4 : (cx : Int) ≤ 9223372036854775807 := by omega
        have y1 : l2.length ≤ cy := by omega
        have y2 : (0 : Int) ≤ (l2.length : Int) := by omega
        have y3 : (l2.length : Int) ≤ (cy : Int) := by omega
        have y4 : (cy : Int) ≤ 9223372036854775807 := by omega
        have HAG := hid (agreed_any w3.heap.size c0 HS.out a00 a01 a02 (some ⟨gx, 0, none⟩) (some ⟨gy, 0, none⟩) k00 k01 k02 cx cy l1 l2 (by omega) (by omega) w3.drew (((HC.out.below (HB3.out.mono (by have := HF.out; omega))).more (by have := HF.out; have := HB3.out.size; omega)).drewN 1) ((lent_takes OX3.out.reads).drew) ((lent_takes OY.out.reads).drew) (Nat.le_refl _))
        clear oy hb3 hcx hcy hcb3 OX
        go_wp2_with fail
        go_still_tail 9, (by kernel_rfl)
        go_wp2_with fail
        refine HAG.out.mono ?_
        rintro e w4 ⟨r, rfl, hr, hb4⟩
        have HR := hid hr
        have HB4 := hid (bthen (Below.drew HB3.out) hb4 HB3.out.size)
        have HX4 := hid ((OX3.out.drewN 1).below hb4)
        have HY4 := hid ((OY.out.drewN 1).below hb4)
        have hcb4 := HCB.out.below HB4.out HCB.out.lt
        have d0 : w4.cell? ⟨w.heap.size, 0, none⟩ = some (.slice a00 c0.old.length k00) := hcb4.c0
        have d1 : w4.cell? ⟨w.heap.size, 1, none⟩ = some (.slice a01 c0.new.length k01) := hcb4.c1
        have d2 : w4.cell? ⟨w.heap.size, 2, none⟩ = some (.slice a02 c0.lrn.length k02) := hcb4.c2
        clear hr hb4 hcb4 HAG OX3 OY x1 x2 x3 x4 y1 y2 y3 y4
        go_wp2_with fail
        refine (refAgreed_any B c0 HS.out a00 a01 a02 a1 a2 k00 k01 k02 cap1 cap2 l1 l2 (by omega) (by omega) w4 (HC.out.below (HB4.out.mono (by have := HF.out; omega))) (H1.out.below (HB4.out.mono (by have := HF.out; omega))) (H2.out.below (HB4.out.mono (by have := HF.out; omega))) (by have := HF.out; have := HB4.out.size; omega)).mono ?_
        rintro e w5 ⟨r2, rfl, hr2, hb5⟩
        obtain rfl : r = r2 := HR.out.unique hr2
        have HB5 := hid (bthen HB4.out hb5 HB4.out.size)
        have HX5 := hid (HX4.out.below hb5)
        have HY5 := hid (HY4.out.below hb5)
        have hbr : (r == r) = true := by simp
        clear hr2 hb5 HX4 HY4 d0 d1 d2
        go_wp2_with fail
        refine (I.kept_any w5.heap.size B gx a1 cx cap1 l1 (by omega) HCX.out.1.1 w5 HX5.out.reads (H1.out.below (HB5.out.mono (by have := HF.out; omega)))).mono ?_
        rintro e w6 ⟨rfl, n6, rfl⟩
        go_wp2_with fail
        refine (I.kept_any w5.heap.size B gy a2 cy cap2 l2 (by omega) HCX.out.2.1 (w5.drewN n6) (HY5.out.reads.drewN n6) ((H2.out.below (HB5.out.mono (by have := HF.out; omega))).drewN n6)).mono ?_
        rintro e w7 ⟨rfl, n7, rfl⟩
        go_wp2_with fail
        refine (works_any _).mono ?_
        rintro e w8 ⟨rfl, hb8⟩
        have HB8 := hid (bthen HB.out (bthen HB5.out (show Below w5.heap.size w5 w8 from (below_drewN (Below.refl _ _) (n6 + n7)).trans hb8) HB5.out.size) HB.out.size)
        clear hb8
        go_wp2
        go_ret
        exact ⟨rfl, HB8.out⟩
      · have e2' : (300 : Int) < (l2.length : Int) := by omega
        go_enter Try.func4, Try.ntmps4
        go_wp2_with fail
        rw [← hwb]; clear hwb
        refine HL.out.mono ?_
        rintro e w1 ⟨rfl, hb1⟩
        have HB1 := hid (bthen HB.out hb1 HB.out.size)
        clear hb1
        go_wp2_with fail
        refine (works_any _).mono ?_
        rintro e w8 ⟨rfl, hb8⟩
        have HB8 := hid (bthen HB1.out hb8 HB1.out.size)
        clear hb8
        go_wp2
        go_ret
        exact ⟨rfl, HB8.out⟩
    · have e1' : (300 : Int) < (l1.length : Int) := by omega
      go_enter Try.func4, Try.ntmps4
      go_wp2_with fail
      rw [← hwb]; clear hwb
      refine HL.out.mono ?_
      rintro e w1 ⟨rfl, hb1⟩
      have HB1 := hid (bthen HB.out hb1 HB.out.size)
      clear hb1
      go_wp2_with fail
      refine (works_any _).mono ?_
      rintro e w8 ⟨rfl, hb8⟩
      have HB8 := hid (bthen HB1.out hb8 HB1.out.size)
      clear hb8
      go_wp2
      go_ret
      exact ⟨rfl, HB8.out⟩
  · have hlg := HLG.out true ⟨(fun h => by cases h), fun h => absurd h hs⟩
    have HL := hid hlg
    clear hs hlg HLG
    go_enter Try.func4, Try.ntmps4
    go_wp2_with fail
    rw [← hwb]; clear hwb
    refine HL.out.mono ?_
    rintro e w1 ⟨rfl, hb1⟩
    have HB1 := hid (bthen HB.out hb1 HB.out.size)
    clear hb1
    go_wp2_with fail
    refine (works_any _).mono ?_
    rintro e w8 ⟨rfl, hb8⟩
    have HB8 := hid (bthen HB1.out hb8 HB1.out.size)
    clear hb8
    go_wp2
    go_ret
    exact ⟨rfl, HB8.out⟩
theorem walk (c0 : Qu.Cf) (a00 a01 a02 : Option Addr) (k00 k01 k02 : Nat) (a1 : Option Addr) (cap1 : Nat) (l1 : List Int) (a2 : Option Addr) (cap2 : Nat) (l2 : List Int) (w : World) (h0 : CIs w w.heap.size c0 a00 a01 a02 k00 k01 k02) (k1 : IsInts w w.heap.size a1 l1) (n1 : l1.length ≤ cap1) (r1 : cap1 * 8 ≤ 140737488351232) (z1 : a1 = none → cap1 = 0) (k2 : IsInts w w.heap.size a2 l2) (n2 : l2.length ≤ cap2) (r2 : cap2 * 8 ≤ 140737488351232) (z2 : a2 = none → cap2 = 0) :
    Calls Try.prog 4 #[.agg #[.slice a00 c0.old.length k00, .slice a01 c0.new.length k01, .slice a02 c0.lrn.length k02], .slice a1 l1.length cap1, .slice a2 l2.length cap2] w fun e w' => e = .returned (.bool true) ∧ Below w.heap.size w w' :=
  core w.heap.size c0 a00 a01 a02 k00 k01 k02 a1 cap1 l1 a2 cap2 l2 w h0 k1 (by unfold maxLen; omega) k2 (by unfold maxLen; omega) (Nat.le_refl _)

set_option maxRecDepth 100000 in
theorem lifted (os : Os) (started : os.Started) (H : Type) (enc : TypeId × Value → H) :
    ReturnsInHanded {} Try.checked os 4 .any (Rows.quorumAgreesSpec.pre6 enc Try.prog Try.f4 Rows.quorumAgreesRow.domain false) (Rows.quorumAgreesSpec.post enc Try.prog Try.f4 false true false false) := by
  refine returnsInHanded_of_change_sized (C := Try.checked) own started (by kernel_rfl) Try.func4
    (ChangeSpec.witness6 (enc := enc) (C := Try.checked) false ⟨#[], #[.agg #[.slice none 0 0, .slice none 0 0, .slice none 0 0], .slice none 0 0, .slice none 0 0], []⟩ 8 (by kernel_rfl) (by kernel_rfl) (by kernel_rfl) (by kernel_rfl)) ?_
  intro W base args ds gs before hval0 hW hcnd hsz0 _
  have hsz : (DataW.weightsEach Try.prog (Try.f4.params.toList ++ Rows.quorumAgreesSpec.plain.varTypes Try.prog) (ds ++ gs)).all (· ≤ reachBytes) = true := hsz0
  clear hsz0
  have hval : ∀ (j : Nat) t v, Try.f4.params[j]? = some t → args[j]? = some v → Value.okWide Try.prog W .any base t v := hval0
  have hW' := hW
  obtain ⟨p, q, hA0, hV, rfl, hfz, hnd⟩ := hW
  have hA : DataW.TrodAll enc Try.prog W 0 (fun _ => true) true Try.f4.params.toList args.toList ds p := hA0
  rw [Try.params4] at hA hval hsz
  obtain ⟨v0, vs0, d0, ds0, p0, q0, hargs, rfl, rfl, g0, t0⟩ := trodAll_cons hA
  obtain ⟨v1, vs1, d1, ds1, p1, q1, rfl, rfl, rfl, g1, t1⟩ := trodAll_cons t0
  obtain ⟨v2, vs2, d2, ds2, p2, q2, rfl, rfl, rfl, g2, t2⟩ := trodAll_cons t1
  obtain ⟨rfl, rfl, rfl⟩ := trodAll_nil t2
  obtain rfl : args = #[v0, v1, v2] := by cases args; simp_all
  obtain ⟨rfl, rfl⟩ := trodVars_none hV
  obtain ⟨cs0, rfl, sz0⟩ := okWide_struct Try.underlying24 (hval 0 24 v0 rfl rfl)
  have m0 := g0
  have lt0 : ∀ x ∈ p0, x.block < W.heap.size := by obtain ⟨m, hm⟩ := m0; exact DataW.trod_lt m _ _ _ hm
  obtain ⟨c0, a00, a01, a02, k00, k01, k02, rfl, k0⟩ := conf_open sz0 g0
  obtain ⟨a1, len1, cap1, rfl⟩ := okWide_slice Try.underlying22 (hval 1 22 v1 rfl rfl)
  have m1 := g1
  have lt1 : ∀ x ∈ p1, x.block < W.heap.size := by obtain ⟨m, hm⟩ := m1; exact DataW.trod_lt m _ _ _ hm
  obtain ⟨l1, k1, rfl, n1, r1, z1⟩ : ∃ l, IsInts W W.heap.size a1 l ∧ len1 = l.length ∧ l.length ≤ cap1 ∧ cap1 * 8 ≤ 140737488351232 ∧ (a1 = none → cap1 = 0) := by
    obtain ⟨fuel, hf⟩ := g1
    rcases open_ints Try.underlying22 Try.underlying3 (by kernel_rfl) hf with ⟨hcs, _⟩ | ⟨x, l, c, zs, hcs, _, hl, hm, hz, hx, hcell, hwz⟩
    · simp [Value.cells] at hcs
      obtain ⟨rfl, rfl, rfl⟩ := hcs
      exact ⟨[], IsInts.nil, rfl, by simp, by omega, fun _ => rfl⟩
    · simp [Value.cells] at hcs
      obtain ⟨rfl, rfl, rfl⟩ := hcs
      simp only [Prod.mk.injEq] at hx
      obtain ⟨rfl, rfl⟩ := hx
      simp only [if_true] at hz
      have hr := sized_slice hsz (j := 1) (t := 22) (e := 3) rfl rfl Try.underlying22
      rw [bytesOfI] at hr
      simp only [lits, List.length_map, List.length_take, List.length_drop, reachBytes] at hr
      obtain ⟨l, h1, h2⟩ := isInts_of_ints hl hz hcell hwz
      exact ⟨l, h1, h2, by omega, by omega, fun h => by cases h⟩
  obtain ⟨a2, len2, cap2, rfl⟩ := okWide_slice Try.underlying22 (hval 2 22 v2 rfl rfl)
  have m2 := g2
  have lt2 : ∀ x ∈ p2, x.block < W.heap.size := by obtain ⟨m, hm⟩ := m2; exact DataW.trod_lt m _ _ _ hm
  obtain ⟨l2, k2, rfl, n2, r2, z2⟩ : ∃ l, IsInts W W.heap.size a2 l ∧ len2 = l.length ∧ l.length ≤ cap2 ∧ cap2 * 8 ≤ 140737488351232 ∧ (a2 = none → cap2 = 0) := by
    obtain ⟨fuel, hf⟩ := g2
    rcases open_ints Try.underlying22 Try.underlying3 (by kernel_rfl) hf with ⟨hcs, _⟩ | ⟨x, l, c, zs, hcs, _, hl, hm, hz, hx, hcell, hwz⟩
    · simp [Value.cells] at hcs
      obtain ⟨rfl, rfl, rfl⟩ := hcs
      exact ⟨[], IsInts.nil, rfl, by simp, by omega, fun _ => rfl⟩
    · simp [Value.cells] at hcs
      obtain ⟨rfl, rfl, rfl⟩ := hcs
      simp only [Prod.mk.injEq] at hx
      obtain ⟨rfl, rfl⟩ := hx
      simp only [if_true] at hz
      have hr := sized_slice hsz (j := 2) (t := 22) (e := 3) rfl rfl Try.underlying22
      rw [bytesOfI] at hr
      simp only [lits, List.length_map, List.length_take, List.length_drop, reachBytes] at hr
      obtain ⟨l, h1, h2⟩ := isInts_of_ints hl hz hcell hwz
      exact ⟨l, h1, h2, by omega, by omega, fun h => by cases h⟩
  clear hA0 hval0
  refine (walk c0 a00 a01 a02 k00 k01 k02 a1 cap1 l1 a2 cap2 l2 W k0 k1 n1 r1 z1 k2 n2 r2 z2).mono fun e W' ⟨he, bel⟩ => ?_
  subst he
  exact ⟨_, rfl, _, _, _, [], _, [], hW', trodAll_mk1 (shut_bool Try.underlying4 _), (trodAll_cons_mk (Below.trod laidOut (by kernel_rfl) (of_decide_eq_true (by kernel_rfl)) m0 bel lt0) (trodAll_cons_mk (Below.trod laidOut (by kernel_rfl) (of_decide_eq_true (by kernel_rfl)) m1 bel lt1) (trodAll_cons_mk (Below.trod laidOut (by kernel_rfl) (of_decide_eq_true (by kernel_rfl)) m2 bel lt2) trodAll_mk0))), rfl, bel.frame _, fun h => by cases h⟩

theorem over : Rows.quorumAgreesRow.holds Try.pinned (OpenSpec.ofChange Rows.quorumAgreesSpec) :=
  OpenClaim.holds_of_wide 4 Try.f4 rfl rfl rfl rfl rfl rfl rfl ⟨rfl, rfl, rfl, rfl, rfl⟩ rfl rfl rfl rfl rfl (by kernel_rfl) Try.func4 (by kernel_rfl)
    (of_decide_eq_true (by kernel_rfl)) (by unfold Func.isWrapper; first | (rw [if_pos (by decide +kernel)]; kernel_rfl) | (rw [if_neg (by decide +kernel)]; exact ⟨rfl, rfl⟩))
    (fun os started H enc _ => lifted os started H enc)

theorem proved : Rows.QuorumAgreesSaid := over
end Go.Proofs.Ytblhfbijffaacaa.quorumAgrees
