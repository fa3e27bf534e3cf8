/- What any log tells of itself is what the document says; it stays. Conditions: none. -/
import Derived.Test.YthocdknfkmclkaaRows
import Derived.Test.YthocdknfkmclkaaRlLaw
import Derived.Test.YthocdknfkmclkaaKitLog
import Derived.Test.YthocdknfkmclkaaRlC
import Derived.Test.YthocdknfkmclkaaRlRefC
import Derived.Test.YthocdknfkmclkaaSpoilEn
import Derived.Deep.RegionHeld3
import Derived.WalkKit
import Derived.WalkLawsBesides
import Derived.ProofKit
import Derived.OpenShut
import Derived.ShutString
import Derived.ChangeOld
import Derived.Below
import Derived.SizedLaws
namespace Go.Proofs.Ythocdknfkmclkaa.rlogAsks
open Go.ChangeShapes Go.WideShapes Go.ChangeAt Go.RowKit
open Go.ChangeMaps (open_string shut_string)
set_option linter.unusedVariables false

theorem own : ownKnob Try.prog.godebug = none := by kernel_rfl
theorem laidOut : laidOutB Try.prog = true := by kernel_rfl

set_option maxHeartbeats 3200000 in
set_option maxRecDepth 100000 in
theorem walk (l0 : Rl.Lg) (a0 : Option Addr) (cap0 : Nat) (i n : Int) (w : World)
    (k0 : LgIs w w.heap.size l0 a0 cap0) (b1 : -9223372036854775808 ≤ i ∧ i ≤ 9223372036854775807) (b2 : -9223372036854775808 ≤ n ∧ n ≤ 9223372036854775807) :
    Calls Try.prog 3 #[.agg #[.int .i64 l0.base, .int .i64 l0.term, .slice a0 l0.es.length cap0], .int .i64 i, .int .i64 n] w fun e w' => e = .returned (.bool true) ∧ Below w.heap.size w w' := by
  obtain ⟨w1, hw1⟩ : ∃ w1, w1 = w.alloc (.cells #[.int .i64 l0.base, .int .i64 l0.term, .slice a0 l0.es.length cap0] 24) := ⟨_, rfl⟩
  have hb1 : Below w.heap.size w w1 := by rw [hw1]; exact (Below.refl _ w).alloc (Nat.le_refl _) _
  have HB := hid hb1
  have HI := hid (fun w' (hb : Below w1.heap.size w1 w') => k0.below (hb1.trans (hb.mono hb1.size)))
  have HX := hid (fun w' (hb : Below w1.heap.size w1 w') => (box_new w w1 (.int .i64 l0.base) (.int .i64 l0.term) (.slice a0 l0.es.length cap0) 24 (by rw [hw1]; exact Below.refl _ _)).below hb)
  have HK := hid (at_base (w0 := w1) (f := 10) (args := #[]) (fun w' _ => known_any w'))
  have HR := hid (at_base (w0 := w1) (fun w' hb => right_any w.heap.size l0 a0 cap0 w' (k0.below (hb1.trans (hb.mono hb1.size))).es (Nat.le_trans hb1.size hb.size)))
  have H0 := hid (Below.refl w1.heap.size w1)
  have HW := hid hw1
  clear hb1 hw1 k0 b1 b2
  go_enter Try.func3, Try.ntmps3
  go_wp2_with fail
  rw [← HW.out]
  refine (HR.out w1 H0.out).mono ?_
  rintro e w2 ⟨rfl, hb2⟩
  have h2 := hid hb2
  obtain ⟨x0, x1, x2⟩ := HX.out w2 hb2
  clear hb2
  rcases f0 : fits l0 with _ | _
  · have HF := hid f0
    clear f0
    go_wp2_with fail
    refine (HK.out w2 h2.out).mono ?_
    rintro e w3 ⟨rfl, hb3⟩
    have h3 := hid (HB.out.trans (hb3.mono HB.out.size))
    clear hb3
    go_wp2_with fail
    go_ret
    exact ⟨rfl, h3.out⟩
  · have HF := hid (fits_ok f0)
    clear f0
    have HC := hid (copyLog_any l0 a0 cap0 _ rfl (by have := HF.out.2.2; omega) HF.out.2.1 w2 ((HI.out w2 h2.out).es.more (Nat.le_trans HB.out.size h2.out.size)))
    go_wp2_with fail
    refine HC.out.mono ?_
    rintro e w3 ⟨A3, c3, rfl, ho3, hb3⟩
    have h3 := hid (h2.out.trans (hb3.mono h2.out.size))
    have ho := hid ho3
    clear ho3 hb3 HC x0 x1 x2
    obtain ⟨x0, x1, x2⟩ := HX.out w3 h3.out
    obtain ⟨w4, hw4⟩ : ∃ w4, w4 = w3.alloc (.cells #[.int .i64 l0.base, .int .i64 l0.term, .slice A3 l0.es.length c3] 24) := ⟨_, rfl⟩
    have hb4 : Below w3.heap.size w3 w4 := by rw [hw4]; exact (Below.refl _ w3).alloc (Nat.le_refl _) _
    have hbw4 := h3.out.trans (hb4.mono h3.out.size)
    have HB4 := hid (HB.out.trans (hbw4.mono HB.out.size))
    have hL := fun w' (hb : Below w4.heap.size w4 w') => HI.out w' (hbw4.trans (hb.mono hbw4.size))
    have hN := fun w' (hb : Below w4.heap.size w4 w') => (show LgIs w' w3.heap.size l0 A3 c3 from ⟨((ho.out.below hb4).below (hb.mono hb4.size)).reads, ho.out.room, ho.out.none_, (HI.out w4 hbw4).num⟩)
    have HX4 := hid (fun w' (hb : Below w4.heap.size w4 w') => (show Box w' w.heap.size (.int .i64 l0.base) (.int .i64 l0.term) (.slice a0 l0.es.length cap0) ∧ Box w' w3.heap.size (.int .i64 l0.base) (.int .i64 l0.term) (.slice A3 l0.es.length c3) from
      ⟨HX.out w' (hbw4.trans (hb.mono hbw4.size)), (box_new w3 w4 (.int .i64 l0.base) (.int .i64 l0.term) (.slice A3 l0.es.length c3) 24 (by rw [hw4]; exact Below.refl _ _)).below hb⟩))
    have HS := hid (And.intro hb4.size (Nat.le_trans HB.out.size hbw4.size))
    have sN := fun w' (hb : Below w4.heap.size w4 w') => Nat.le_trans HS.out.1 hb.size
    have sL := fun w' (hb : Below w4.heap.size w4 w') => Nat.le_trans HS.out.2 hb.size
    have HL1 := hid (at_base (w0 := w4) (fun w' hb => last_any w3.heap.size l0 A3 c3 HF.out.1 w' (hN w' hb) (sN w' hb)))
    have HL2 := hid (at_base (w0 := w4) (fun w' hb => refLast_any w.heap.size l0 a0 cap0 HF.out.1 w' (hL w' hb) (sL w' hb)))
    have HT1 := hid (at_base (w0 := w4) (fun w' hb => term_any w3.heap.size l0 A3 c3 i HF.out.1 w' (hN w' hb) (sN w' hb)))
    have HT2 := hid (at_base (w0 := w4) (fun w' hb => refTerm_any w.heap.size l0 a0 cap0 i HF.out.1 w' (hL w' hb) (sL w' hb)))
    have HN1 := hid (fun w' (hb : Below w4.heap.size w4 w') => newer_any w3.heap.size l0 A3 c3 i n HF.out.1 w' (hN w' hb) (sN w' hb))
    have HN2 := hid (fun w' (hb : Below w4.heap.size w4 w') => refNewer_any w.heap.size l0 a0 cap0 i n HF.out.1 w' (hL w' hb) (sL w' hb))
    have HS1 := hid (fun w' (hb : Below w4.heap.size w4 w') => slice_any w3.heap.size l0 A3 c3 i n HF.out.1 HF.out.2.1 w' (hN w' hb) (sN w' hb))
    have HS2 := hid (fun w' (hb : Below w4.heap.size w4 w') => refSlice_any w.heap.size l0 a0 cap0 i n HF.out.1 HF.out.2.1 w' (hL w' hb) (sL w' hb))
    have HSL := hid (fun w' (hb : Below w4.heap.size w4 w') => log_same l0 l0 A3 a0 c3 cap0 (by have := HF.out.2.2; omega) w' ((hN w' hb).es.more (sN w' hb)) ((hL w' hb).es.more (sL w' hb)))
    have h4 := hid (Below.refl w4.heap.size w4)
    have HW4 := hid hw4
    clear hL hN sN sL hb4 hbw4 hw4
    go_wp2_with fail
    rw [← HW4.out]
    refine (HL1.out w4 h4.out).mono ?_
    rintro e w5 ⟨rfl, hb5⟩
    have h5 := hid hb5
    clear x0 x1 x2
    obtain ⟨⟨x0, x1, x2⟩, ⟨y0, y1, y2⟩⟩ := HX4.out w5 hb5
    clear hb5
    go_wp2_with fail
    refine (HL2.out w5 h5.out).mono ?_
    rintro e w6 ⟨rfl, hb6⟩
    have h6 := hid hb6
    clear x0 x1 x2 y0 y1 y2
    obtain ⟨⟨x0, x1, x2⟩, ⟨y0, y1, y2⟩⟩ := HX4.out w6 hb6
    clear hb6
    go_wp2_with fail
    refine (HT1.out w6 h6.out).mono ?_
    rintro e w7 ⟨rfl, hb7⟩
    have h7 := hid hb7
    clear x0 x1 x2 y0 y1 y2
    obtain ⟨⟨x0, x1, x2⟩, ⟨y0, y1, y2⟩⟩ := HX4.out w7 hb7
    clear hb7
    go_wp2_with fail
    refine (HT2.out w7 h7.out).mono ?_
    rintro e w8 ⟨rfl, hb8⟩
    have h8 := hid hb8
    clear x0 x1 x2 y0 y1 y2
    obtain ⟨⟨x0, x1, x2⟩, ⟨y0, y1, y2⟩⟩ := HX4.out w8 hb8
    clear hb8
    go_wp2_with fail
    refine (HS1.out w8 h8.out).mono ?_
    rintro e w9 ⟨A9, c9, rfl, ho9', hb9⟩
    have h9 := hid (h8.out.trans (hb9.mono h8.out.size))
    have hs89 := hid hb9.size
    have ho9 := hid ho9'
    clear x0 x1 x2 y0 y1 y2 hb9 ho9'
    obtain ⟨⟨x0, x1, x2⟩, ⟨y0, y1, y2⟩⟩ := HX4.out w9 h9.out
    have HU := hid (fun w' (hb : Below w9.heap.size w9 w') => h9.out.trans (hb.mono h9.out.size))
    have HXB : Hid (∀ w', Below w9.heap.size w9 w' → w'.cell? ⟨w.heap.size, 0, none⟩ = some (.int .i64 l0.base) ∧ w'.cell? ⟨w.heap.size, 1, none⟩ = some (.int .i64 l0.term) ∧ w'.cell? ⟨w.heap.size, 2, none⟩ = some (.slice a0 l0.es.length cap0) ∧ w'.cell? ⟨w3.heap.size, 0, none⟩ = some (.int .i64 l0.base) ∧ w'.cell? ⟨w3.heap.size, 1, none⟩ = some (.int .i64 l0.term) ∧ w'.cell? ⟨w3.heap.size, 2, none⟩ = some (.slice A3 l0.es.length c3)) := hid (fun w' hb => by
      obtain ⟨⟨a, b, c⟩, ⟨d, e, f⟩⟩ := HX4.out w' (HU.out w' hb)
      exact ⟨a, b, c, d, e, f⟩)
    have HSE := hid (fun w' (hb : Below w9.heap.size w9 w') A8 c8 (h' : IsEnts w' w'.heap.size A8 (l0.slice i n)) => ents_same A9 A8 c9 c8 _ _ (l0.slice i n) (l0.slice i n) rfl rfl (slice_len l0 i n HF.out.2.2) w' (((ho9.out.below hb).reads).more hb.size) h')
    have hB : Hid (Below w9.heap.size w9 w9.drew) := hid (Below.drew (Below.refl _ _))
    go_wp2_with fail
    have HLa := hid (show l0.last = l0.last from rfl)
    go_region_held3 (fun w' => w'.cell? ⟨w.heap.size, 0, none⟩ = some (.int .i64 l0.base) ∧ w'.cell? ⟨w.heap.size, 1, none⟩ = some (.int .i64 l0.term) ∧ w'.cell? ⟨w.heap.size, 2, none⟩ = some (.slice a0 l0.es.length cap0) ∧ w'.cell? ⟨w3.heap.size, 0, none⟩ = some (.int .i64 l0.base) ∧ w'.cell? ⟨w3.heap.size, 1, none⟩ = some (.int .i64 l0.term) ∧ w'.cell? ⟨w3.heap.size, 2, none⟩ = some (.slice A3 l0.es.length c3))
      (first | exact HXB.out _ hB.out | fail)
      (first
        | (go_at_call 17; (with_reducible refine (HN1.out _ (HU.out _ hB.out)).mono ?_); rintro e10 w10 ⟨rfl, hBn⟩; have hB := hid (bth hB.out hBn); clear hBn)
        | (go_at_call 18; (with_reducible refine (HN2.out _ (HU.out _ hB.out)).mono ?_); rintro e10 w10 ⟨rfl, hBn⟩; have hB := hid (bth hB.out hBn); clear hBn)
        | (go_at_call 20; (with_reducible refine (HS2.out _ (HU.out _ hB.out)).mono ?_); rintro e10 w10 ⟨A8, c8, rfl, ho8, hBn⟩; have hE8 := hid ho8.reads; have hB := hid (bth hB.out hBn); clear hBn ho8)
        | (go_at_call 19; (with_reducible refine (HSE.out _ hB.out A8 c8 hE8.out).mono ?_); rintro e10 w10 ⟨rfl, hBn⟩; have hB := hid (bth hB.out hBn); clear hBn))
    all_goals
      (have HSp := hid (spoilE_any w8.heap.size w9.heap.size A9 c9 _ (l0.slice i n) rfl (slice_len l0 i n HF.out.2.2) w10 (ho9.out.below hB.out))
       clear x0 x1 x2 y0 y1 y2
       go_wp2_with fail
       refine HSp.out.mono ?_
       rintro e w11 ⟨rfl, hT⟩
       have hb11 := (HU.out w10 hB.out).trans ((hT.below (Nat.le_trans hs89.out hB.out.size) (fun k hk => hk.1)).mono h8.out.size)
       have h11 := hid hb11
       obtain ⟨⟨x0, x1, x2⟩, ⟨y0, y1, y2⟩⟩ := HX4.out w11 hb11
       clear hT hb11
       go_wp2_with fail
       refine (HSL.out w11 h11.out).mono ?_
       rintro e w12 ⟨rfl, hb12⟩
       have h12 := hid (HB4.out.trans ((h11.out.trans (hb12.mono h11.out.size)).mono HB4.out.size))
       clear hb12
       go_wp2_with fail
       go_ret
       exact ⟨ret_b (by simp), h12.out⟩)

set_option maxRecDepth 100000 in
theorem lifted (os : Os) (started : os.Started) (H : Type) (enc : TypeId × Value → H) :
    ReturnsInHanded {} Try.checked os 3 .any (Rows.rlogAsksSpec.pre6 enc Try.prog Try.f3 Rows.rlogAsksRow.domain false) (Rows.rlogAsksSpec.post enc Try.prog Try.f3 false true false false) := by
  refine returnsInHanded_of_change_sized (C := Try.checked) own started (by kernel_rfl) Try.func3
    (ChangeSpec.witness6 (enc := enc) (C := Try.checked) false ⟨#[], #[.agg #[.int .i64 0, .int .i64 0, .slice none 0 0], .int .i64 0, .int .i64 0], []⟩ 8 (by kernel_rfl) (by kernel_rfl) (by kernel_rfl) (by kernel_rfl)) ?_
  intro W base args ds gs before hval0 hW hcnd hsz0 _
  have hsz : (DataW.weightsEach Try.prog (Try.f3.params.toList ++ Rows.rlogAsksSpec.plain.varTypes Try.prog) (ds ++ gs)).all (· ≤ reachBytes) = true := hsz0
  clear hsz0
  have hval : ∀ (j : Nat) t v, Try.f3.params[j]? = some t → args[j]? = some v → Value.okWide Try.prog W .any base t v := hval0
  have hW' := hW
  obtain ⟨p, q, hA0, hV, rfl, hfz, hnd⟩ := hW
  have hA : DataW.TrodAll enc Try.prog W 0 (fun _ => true) true Try.f3.params.toList args.toList ds p := hA0
  rw [Try.params3] at hA hval hsz
  obtain ⟨v0, vs0, d0, ds0, p0, q0, hargs, rfl, rfl, g0, t0⟩ := trodAll_cons hA
  obtain ⟨v1, vs1, d1, ds1, p1, q1, rfl, rfl, rfl, g1, t1⟩ := trodAll_cons t0
  obtain ⟨v2, vs2, d2, ds2, p2, q2, rfl, rfl, rfl, g2, t2⟩ := trodAll_cons t1
  obtain ⟨rfl, rfl, rfl⟩ := trodAll_nil t2
  obtain rfl : args = #[v0, v1, v2] := by cases args; simp_all
  obtain ⟨rfl, rfl⟩ := trodVars_none hV
  obtain ⟨cs0, rfl, sz0⟩ := okWide_struct Try.underlying24 (hval 0 24 v0 rfl rfl)
  have m0 := g0
  have lt0 : ∀ x ∈ p0, x.block < W.heap.size := by obtain ⟨m, hm⟩ := m0; exact DataW.trod_lt m _ _ _ hm
  obtain ⟨l0, a0, cap0, rfl, k0⟩ := log_open sz0 g0
  obtain ⟨a1, rfl, rfl, rfl, w1⟩ := open_int Try.underlying3 (hval 1 3 v1 rfl rfl) g1
  have b1 := bounds_i64 w1
  obtain ⟨a2, rfl, rfl, rfl, w2⟩ := open_int Try.underlying3 (hval 2 3 v2 rfl rfl) g2
  have b2 := bounds_i64 w2
  clear hA0 hval0
  refine (walk l0 a0 cap0 a1 a2 W k0 b1 b2).mono fun e W' ⟨he, bel⟩ => ?_
  subst he
  exact ⟨_, rfl, _, _, _, [], _, [], hW', trodAll_mk1 (shut_bool Try.underlying4 _), (trodAll_cons_mk (Below.trod laidOut (by kernel_rfl) (of_decide_eq_true (by kernel_rfl)) m0 bel lt0) (trodAll_cons_mk (shut_int Try.underlying3 w1) (trodAll_cons_mk (shut_int Try.underlying3 w2) trodAll_mk0))), rfl, bel.frame _, fun h => by cases h⟩

theorem over : Rows.rlogAsksRow.holds Try.pinned (OpenSpec.ofChange Rows.rlogAsksSpec) :=
  OpenClaim.holds_of_wide 3 Try.f3 rfl rfl rfl rfl rfl rfl rfl ⟨rfl, rfl, rfl, rfl, rfl⟩ rfl rfl rfl rfl rfl (by kernel_rfl) Try.func3 (by kernel_rfl)
    (of_decide_eq_true (by kernel_rfl)) (by unfold Func.isWrapper; first | (rw [if_pos (by decide +kernel)]; kernel_rfl) | (rw [if_neg (by decide +kernel)]; exact ⟨rfl, rfl⟩))
    (fun os started H enc _ => lifted os started H enc)

theorem proved : Rows.RlogAsksSaid := over
end Go.Proofs.Ythocdknfkmclkaa.rlogAsks
