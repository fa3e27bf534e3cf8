/- Of two logs' last entries the one is newer than the other log, or the other way round, or both, and then they are of one term and index; what is newer than a log is newer than each that this one is newer than. Conditions: none. -/
import Derived.Test.YthocdknfkmclkaaRows
import Derived.Test.YthocdknfkmclkaaRlLaw
import Derived.WalkKit
import Derived.WalkLawsBesides
import Derived.ProofKit
import Derived.OpenShut
import Derived.ShutString
import Derived.ChangeOld
import Derived.Below
import Derived.SizedLaws
namespace Go.Proofs.Ythocdknfkmclkaa.rlogOrder
open Go.ChangeShapes Go.WideShapes Go.ChangeAt Go.RowKit
open Go.ChangeMaps (open_string shut_string)
set_option linter.unusedVariables false

theorem own : ownKnob Try.prog.godebug = none := by kernel_rfl
theorem laidOut : laidOutB Try.prog = true := by kernel_rfl

set_option maxHeartbeats 3200000 in
set_option maxRecDepth 100000 in
theorem walk (l0 : Rl.Lg) (a0 : Option Addr) (cap0 : Nat) (l1 : Rl.Lg) (a1 : Option Addr) (cap1 : Nat) (l2 : Rl.Lg) (a2 : Option Addr) (cap2 : Nat) (w : World)
    (k0 : LgIs w w.heap.size l0 a0 cap0) (k1 : LgIs w w.heap.size l1 a1 cap1) (k2 : LgIs w w.heap.size l2 a2 cap2) :
    Calls Try.prog 7 #[.agg #[.int .i64 l0.base, .int .i64 l0.term, .slice a0 l0.es.length cap0], .agg #[.int .i64 l1.base, .int .i64 l1.term, .slice a1 l1.es.length cap1], .agg #[.int .i64 l2.base, .int .i64 l2.term, .slice a2 l2.es.length cap2]] w fun e w' => e = .returned (.bool true) ∧ Below w.heap.size w w' := by
  obtain ⟨w1, hw1⟩ : ∃ w1, w1 = ((w.alloc (.cells #[.int .i64 l0.base, .int .i64 l0.term, .slice a0 l0.es.length cap0] 24)).alloc (.cells #[.int .i64 l1.base, .int .i64 l1.term, .slice a1 l1.es.length cap1] 24)).alloc (.cells #[.int .i64 l2.base, .int .i64 l2.term, .slice a2 l2.es.length cap2] 24) := ⟨_, rfl⟩
  have hb1 : Below w.heap.size w w1 := by rw [hw1]; exact (((Below.refl _ w).alloc (Nat.le_refl _) _).alloc (by simp) _).alloc (by simp; omega) _
  have HB := hid hb1
  have i0 := fun w' (hb : Below w1.heap.size w1 w') => k0.below (hb1.trans (hb.mono hb1.size))
  have i1 := fun w' (hb : Below w1.heap.size w1 w') => k1.below (hb1.trans (hb.mono hb1.size))
  have i2 := fun w' (hb : Below w1.heap.size w1 w') => k2.below (hb1.trans (hb.mono hb1.size))
  have sz := fun w' (hb : Below w1.heap.size w1 w') => Nat.le_trans hb1.size hb.size
  have HX := hid (fun w' (hb : Below w1.heap.size w1 w') => (show Box w' w.heap.size (.int .i64 l0.base) (.int .i64 l0.term) (.slice a0 l0.es.length cap0) ∧ Box w' (w.heap.size + 1) (.int .i64 l1.base) (.int .i64 l1.term) (.slice a1 l1.es.length cap1) ∧ Box w' (w.heap.size + 1 + 1) (.int .i64 l2.base) (.int .i64 l2.term) (.slice a2 l2.es.length cap2) from by
    have h1 : Box w1 w.heap.size (.int .i64 l0.base) (.int .i64 l0.term) (.slice a0 l0.es.length cap0) := box_new w w1 _ _ _ 24 (by rw [hw1]; exact ((Below.refl _ _).alloc (by simp) _).alloc (by simp) _)
    have h2 := box_new (w.alloc (.cells #[.int .i64 l0.base, .int .i64 l0.term, .slice a0 l0.es.length cap0] 24)) w1 (.int .i64 l1.base) (.int .i64 l1.term) (.slice a1 l1.es.length cap1) 24 (by rw [hw1]; exact (Below.refl _ _).alloc (by simp) _)
    have h3 := box_new ((w.alloc (.cells #[.int .i64 l0.base, .int .i64 l0.term, .slice a0 l0.es.length cap0] 24)).alloc (.cells #[.int .i64 l1.base, .int .i64 l1.term, .slice a1 l1.es.length cap1] 24)) w1 (.int .i64 l2.base) (.int .i64 l2.term) (.slice a2 l2.es.length cap2) 24 (by rw [hw1]; exact Below.refl _ _)
    simp only [World.size_alloc] at h2 h3
    exact ⟨h1.below hb, h2.below hb, h3.below hb⟩))
  have HK := hid (at_base (w0 := w1) (f := 10) (args := #[]) (fun w' _ => known_any w'))
  have HR0 := hid (at_base (w0 := w1) (fun w' hb => right_any w.heap.size l0 a0 cap0 w' (i0 w' hb).es (sz w' hb)))
  have HR1 := hid (at_base (w0 := w1) (fun w' hb => right_any w.heap.size l1 a1 cap1 w' (i1 w' hb).es (sz w' hb)))
  have HR2 := hid (at_base (w0 := w1) (fun w' hb => right_any w.heap.size l2 a2 cap2 w' (i2 w' hb).es (sz w' hb)))
  have HL0 := hid (fun (h : fits l0 = true) => at_base (w0 := w1) (fun w' hb => last_any w.heap.size l0 a0 cap0 (fits_ok h).1 w' (i0 w' hb) (sz w' hb)))
  have HL1 := hid (fun (h : fits l1 = true) => at_base (w0 := w1) (fun w' hb => last_any w.heap.size l1 a1 cap1 (fits_ok h).1 w' (i1 w' hb) (sz w' hb)))
  have HL2 := hid (fun (h : fits l2 = true) => at_base (w0 := w1) (fun w' hb => last_any w.heap.size l2 a2 cap2 (fits_ok h).1 w' (i2 w' hb) (sz w' hb)))
  have HN0 := hid (fun (h : fits l0 = true) i t => at_base (w0 := w1) (fun w' hb => newer_any w.heap.size l0 a0 cap0 i t (fits_ok h).1 w' (i0 w' hb) (sz w' hb)))
  have HN1 := hid (fun (h : fits l1 = true) i t => at_base (w0 := w1) (fun w' hb => newer_any w.heap.size l1 a1 cap1 i t (fits_ok h).1 w' (i1 w' hb) (sz w' hb)))
  have H0 := hid (Below.refl w1.heap.size w1)
  have HW := hid hw1
  clear i0 i1 i2 sz hb1 hw1 k0 k1 k2
  go_enter Try.func7, Try.ntmps7
  go_wp2_with fail
  rw [← HW.out]
  refine (HR0.out w1 H0.out).mono ?_
  rintro e w2 ⟨rfl, hb2⟩
  have h2 := hid hb2
  obtain ⟨⟨x0, x1, x2⟩, ⟨y0, y1, y2⟩, ⟨z0, z1, z2⟩⟩ := HX.out w2 hb2
  clear hb2
  rcases f0 : fits l0 with _ | _
  · have HF := hid f0
    clear f0
    go_wp2_with fail
    refine (HK.out w2 h2.out).mono ?_
    rintro e w3 ⟨rfl, hb3⟩
    have h3 := hid (HB.out.trans (hb3.mono HB.out.size))
    clear hb3
    go_wp2_with fail
    go_ret
    exact ⟨rfl, h3.out⟩
  · have HF0 := hid f0
    clear f0
    go_wp2_with fail
    refine (HR1.out w2 h2.out).mono ?_
    rintro e w3 ⟨rfl, hb3⟩
    have h3 := hid hb3
    clear x0 x1 x2 y0 y1 y2 z0 z1 z2
    obtain ⟨⟨x0, x1, x2⟩, ⟨y0, y1, y2⟩, ⟨z0, z1, z2⟩⟩ := HX.out w3 hb3
    clear hb3
    rcases f1 : fits l1 with _ | _
    · have HF := hid f1
      clear f1
      go_wp2_with fail
      refine (HK.out w3 h3.out).mono ?_
      rintro e w4 ⟨rfl, hb4⟩
      have h4 := hid (HB.out.trans (hb4.mono HB.out.size))
      clear hb4
      go_wp2_with fail
      go_ret
      exact ⟨rfl, h4.out⟩
    · have HF1 := hid f1
      clear f1
      go_wp2_with fail
      refine (HR2.out w3 h3.out).mono ?_
      rintro e w4 ⟨rfl, hb4⟩
      have h4 := hid hb4
      clear x0 x1 x2 y0 y1 y2 z0 z1 z2
      obtain ⟨⟨x0, x1, x2⟩, ⟨y0, y1, y2⟩, ⟨z0, z1, z2⟩⟩ := HX.out w4 hb4
      clear hb4
      rcases f2 : fits l2 with _ | _
      · have HF := hid f2
        clear f2
        go_wp2_with fail
        refine (HK.out w4 h4.out).mono ?_
        rintro e w5 ⟨rfl, hb5⟩
        have h5 := hid (HB.out.trans (hb5.mono HB.out.size))
        clear hb5
        go_wp2_with fail
        go_ret
        exact ⟨rfl, h5.out⟩
      · have HF2 := hid f2
        clear f2
        go_wp2_with fail
        refine (HL0.out HF0.out w4 h4.out).mono ?_
        rintro e w5 ⟨rfl, hb5⟩
        have h5 := hid hb5
        clear x0 x1 x2 y0 y1 y2 z0 z1 z2
        obtain ⟨⟨x0, x1, x2⟩, ⟨y0, y1, y2⟩, ⟨z0, z1, z2⟩⟩ := HX.out w5 hb5
        clear hb5
        go_wp2_with fail
        refine (HL1.out HF1.out w5 h5.out).mono ?_
        rintro e w6 ⟨rfl, hb6⟩
        have h6 := hid hb6
        clear x0 x1 x2 y0 y1 y2 z0 z1 z2
        obtain ⟨⟨x0, x1, x2⟩, ⟨y0, y1, y2⟩, ⟨z0, z1, z2⟩⟩ := HX.out w6 hb6
        clear hb6
        go_wp2_with fail
        refine (HN0.out HF0.out _ _ w6 h6.out).mono ?_
        rintro e w7 ⟨rfl, hb7⟩
        have h7 := hid hb7
        clear x0 x1 x2 y0 y1 y2 z0 z1 z2
        obtain ⟨⟨x0, x1, x2⟩, ⟨y0, y1, y2⟩, ⟨z0, z1, z2⟩⟩ := HX.out w7 hb7
        clear hb7
        go_wp2_with fail
        refine (HN1.out HF1.out _ _ w7 h7.out).mono ?_
        rintro e w8 ⟨rfl, hb8⟩
        have h8 := hid hb8
        clear x0 x1 x2 y0 y1 y2 z0 z1 z2
        obtain ⟨⟨x0, x1, x2⟩, ⟨y0, y1, y2⟩, ⟨z0, z1, z2⟩⟩ := HX.out w8 hb8
        clear hb8
        have hT := Rl.newer_total l0 l1
        have hAA := Rl.newer_refl l0
        rcases hab : l0.newer l1.last l1.lastT with _ | _
        · rcases hba : l1.newer l0.last l0.lastT with _ | _
          · rw [hab, hba] at hT
            simp at hT
          · clear hT
            go_wp2_with fail
            refine (HL2.out HF2.out w8 h8.out).mono ?_
            rintro e w9 ⟨rfl, hb9⟩
            have h9 := hid hb9
            clear x0 x1 x2 y0 y1 y2 z0 z1 z2
            obtain ⟨⟨x0, x1, x2⟩, ⟨y0, y1, y2⟩, ⟨z0, z1, z2⟩⟩ := HX.out w9 hb9
            clear hb9
            go_wp2_with fail
            refine (HN0.out HF0.out _ _ w9 h9.out).mono ?_
            rintro e w10 ⟨rfl, hb10⟩
            have h10 := hid hb10
            clear hb10
            go_wp2_with fail
            refine (HK.out w10 h10.out).mono ?_
            rintro e w11 ⟨rfl, hb11⟩
            have h11 := hid (HB.out.trans (hb11.mono HB.out.size))
            clear hb11
            go_wp2_with fail
            go_ret
            exact ⟨rfl, h11.out⟩
        · have HTR := hid (fun (h : l1.newer l2.last l2.lastT = true) => Rl.newer_trans hab h)
          rcases hba : l1.newer l0.last l0.lastT with _ | _
          · clear hT
            go_wp2_with fail
            refine (HL2.out HF2.out w8 h8.out).mono ?_
            rintro e w9 ⟨rfl, hb9⟩
            have h9 := hid hb9
            clear x0 x1 x2 y0 y1 y2 z0 z1 z2
            obtain ⟨⟨x0, x1, x2⟩, ⟨y0, y1, y2⟩, ⟨z0, z1, z2⟩⟩ := HX.out w9 hb9
            clear hb9
            go_wp2_with fail
            refine (HN1.out HF1.out _ _ w9 h9.out).mono ?_
            rintro e w10 ⟨rfl, hb10⟩
            have h10 := hid hb10
            clear x0 x1 x2 y0 y1 y2 z0 z1 z2
            obtain ⟨⟨x0, x1, x2⟩, ⟨y0, y1, y2⟩, ⟨z0, z1, z2⟩⟩ := HX.out w10 hb10
            clear hb10
            rcases hbc : l1.newer l2.last l2.lastT with _ | _
            · go_wp2_with fail
              refine (HN0.out HF0.out _ _ w10 h10.out).mono ?_
              rintro e w11 ⟨rfl, hb11⟩
              have h11 := hid hb11
              clear hb11
              go_wp2_with fail
              refine (HK.out w11 h11.out).mono ?_
              rintro e w12 ⟨rfl, hb12⟩
              have h12 := hid (HB.out.trans (hb12.mono HB.out.size))
              clear hb12
              go_wp2_with fail
              go_ret
              exact ⟨rfl, h12.out⟩
            · have hac := HTR.out hbc
              go_wp2_with fail
              refine (HN0.out HF0.out _ _ w10 h10.out).mono ?_
              rintro e w11 ⟨rfl, hb11⟩
              have h11 := hid hb11
              clear x0 x1 x2 y0 y1 y2 z0 z1 z2
              obtain ⟨⟨x0, x1, x2⟩, ⟨y0, y1, y2⟩, ⟨z0, z1, z2⟩⟩ := HX.out w11 hb11
              clear hb11
              go_wp2_with fail
              refine (HN0.out HF0.out _ _ w11 h11.out).mono ?_
              rintro e w12 ⟨rfl, hb12⟩
              have h12 := hid hb12
              clear hb12
              go_wp2_with fail
              refine (HK.out w12 h12.out).mono ?_
              rintro e w13 ⟨rfl, hb13⟩
              have h13 := hid (HB.out.trans (hb13.mono HB.out.size))
              clear hb13
              go_wp2_with fail
              go_ret
              exact ⟨rfl, h13.out⟩
          · obtain ⟨e1, e2⟩ := Rl.newer_both hab hba
            clear hT
            go_wp2_with fail
            refine (HL2.out HF2.out w8 h8.out).mono ?_
            rintro e w9 ⟨rfl, hb9⟩
            have h9 := hid hb9
            clear x0 x1 x2 y0 y1 y2 z0 z1 z2
            obtain ⟨⟨x0, x1, x2⟩, ⟨y0, y1, y2⟩, ⟨z0, z1, z2⟩⟩ := HX.out w9 hb9
            clear hb9
            go_wp2_with fail
            refine (HN1.out HF1.out _ _ w9 h9.out).mono ?_
            rintro e w10 ⟨rfl, hb10⟩
            have h10 := hid hb10
            clear x0 x1 x2 y0 y1 y2 z0 z1 z2
            obtain ⟨⟨x0, x1, x2⟩, ⟨y0, y1, y2⟩, ⟨z0, z1, z2⟩⟩ := HX.out w10 hb10
            clear hb10
            rcases hbc : l1.newer l2.last l2.lastT with _ | _
            · go_wp2_with fail
              refine (HN0.out HF0.out _ _ w10 h10.out).mono ?_
              rintro e w11 ⟨rfl, hb11⟩
              have h11 := hid hb11
              clear hb11
              go_wp2_with fail
              refine (HK.out w11 h11.out).mono ?_
              rintro e w12 ⟨rfl, hb12⟩
              have h12 := hid (HB.out.trans (hb12.mono HB.out.size))
              clear hb12
              go_wp2_with fail
              go_ret
              exact ⟨rfl, h12.out⟩
            · have hac := HTR.out hbc
              go_wp2_with fail
              refine (HN0.out HF0.out _ _ w10 h10.out).mono ?_
              rintro e w11 ⟨rfl, hb11⟩
              have h11 := hid hb11
              clear x0 x1 x2 y0 y1 y2 z0 z1 z2
              obtain ⟨⟨x0, x1, x2⟩, ⟨y0, y1, y2⟩, ⟨z0, z1, z2⟩⟩ := HX.out w11 hb11
              clear hb11
              go_wp2_with fail
              refine (HN0.out HF0.out _ _ w11 h11.out).mono ?_
              rintro e w12 ⟨rfl, hb12⟩
              have h12 := hid hb12
              clear hb12
              go_wp2_with fail
              refine (HK.out w12 h12.out).mono ?_
              rintro e w13 ⟨rfl, hb13⟩
              have h13 := hid (HB.out.trans (hb13.mono HB.out.size))
              clear hb13
              go_wp2_with fail
              go_ret
              exact ⟨rfl, h13.out⟩

set_option maxRecDepth 100000 in
theorem lifted (os : Os) (started : os.Started) (H : Type) (enc : TypeId × Value → H) :
    ReturnsInHanded {} Try.checked os 7 .any (Rows.rlogOrderSpec.pre6 enc Try.prog Try.f7 Rows.rlogOrderRow.domain false) (Rows.rlogOrderSpec.post enc Try.prog Try.f7 false true false false) := by
  refine returnsInHanded_of_change_sized (C := Try.checked) own started (by kernel_rfl) Try.func7
    (ChangeSpec.witness6 (enc := enc) (C := Try.checked) false ⟨#[], #[.agg #[.int .i64 0, .int .i64 0, .slice none 0 0], .agg #[.int .i64 0, .int .i64 0, .slice none 0 0], .agg #[.int .i64 0, .int .i64 0, .slice none 0 0]], []⟩ 8 (by kernel_rfl) (by kernel_rfl) (by kernel_rfl) (by kernel_rfl)) ?_
  intro W base args ds gs before hval0 hW hcnd hsz0 _
  have hsz : (DataW.weightsEach Try.prog (Try.f7.params.toList ++ Rows.rlogOrderSpec.plain.varTypes Try.prog) (ds ++ gs)).all (· ≤ reachBytes) = true := hsz0
  clear hsz0
  have hval : ∀ (j : Nat) t v, Try.f7.params[j]? = some t → args[j]? = some v → Value.okWide Try.prog W .any base t v := hval0
  have hW' := hW
  obtain ⟨p, q, hA0, hV, rfl, hfz, hnd⟩ := hW
  have hA : DataW.TrodAll enc Try.prog W 0 (fun _ => true) true Try.f7.params.toList args.toList ds p := hA0
  rw [Try.params7] at hA hval hsz
  obtain ⟨v0, vs0, d0, ds0, p0, q0, hargs, rfl, rfl, g0, t0⟩ := trodAll_cons hA
  obtain ⟨v1, vs1, d1, ds1, p1, q1, rfl, rfl, rfl, g1, t1⟩ := trodAll_cons t0
  obtain ⟨v2, vs2, d2, ds2, p2, q2, rfl, rfl, rfl, g2, t2⟩ := trodAll_cons t1
  obtain ⟨rfl, rfl, rfl⟩ := trodAll_nil t2
  obtain rfl : args = #[v0, v1, v2] := by cases args; simp_all
  obtain ⟨rfl, rfl⟩ := trodVars_none hV
  obtain ⟨cs0, rfl, sz0⟩ := okWide_struct Try.underlying24 (hval 0 24 v0 rfl rfl)
  have m0 := g0
  have lt0 : ∀ x ∈ p0, x.block < W.heap.size := by obtain ⟨m, hm⟩ := m0; exact DataW.trod_lt m _ _ _ hm
  obtain ⟨l0, a0, cap0, rfl, k0⟩ := log_open sz0 g0
  obtain ⟨cs1, rfl, sz1⟩ := okWide_struct Try.underlying24 (hval 1 24 v1 rfl rfl)
  have m1 := g1
  have lt1 : ∀ x ∈ p1, x.block < W.heap.size := by obtain ⟨m, hm⟩ := m1; exact DataW.trod_lt m _ _ _ hm
  obtain ⟨l1, a1, cap1, rfl, k1⟩ := log_open sz1 g1
  obtain ⟨cs2, rfl, sz2⟩ := okWide_struct Try.underlying24 (hval 2 24 v2 rfl rfl)
  have m2 := g2
  have lt2 : ∀ x ∈ p2, x.block < W.heap.size := by obtain ⟨m, hm⟩ := m2; exact DataW.trod_lt m _ _ _ hm
  obtain ⟨l2, a2, cap2, rfl, k2⟩ := log_open sz2 g2
  clear hA0 hval0
  refine (walk l0 a0 cap0 l1 a1 cap1 l2 a2 cap2 W k0 k1 k2).mono fun e W' ⟨he, bel⟩ => ?_
  subst he
  exact ⟨_, rfl, _, _, _, [], _, [], hW', trodAll_mk1 (shut_bool Try.underlying4 _), (trodAll_cons_mk (Below.trod laidOut (by kernel_rfl) (of_decide_eq_true (by kernel_rfl)) m0 bel lt0) (trodAll_cons_mk (Below.trod laidOut (by kernel_rfl) (of_decide_eq_true (by kernel_rfl)) m1 bel lt1) (trodAll_cons_mk (Below.trod laidOut (by kernel_rfl) (of_decide_eq_true (by kernel_rfl)) m2 bel lt2) trodAll_mk0))), rfl, bel.frame _, fun h => by cases h⟩

theorem over : Rows.rlogOrderRow.holds Try.pinned (OpenSpec.ofChange Rows.rlogOrderSpec) :=
  OpenClaim.holds_of_wide 7 Try.f7 rfl rfl rfl rfl rfl rfl rfl ⟨rfl, rfl, rfl, rfl, rfl⟩ rfl rfl rfl rfl rfl (by kernel_rfl) Try.func7 (by kernel_rfl)
    (of_decide_eq_true (by kernel_rfl)) (by unfold Func.isWrapper; first | (rw [if_pos (by decide +kernel)]; kernel_rfl) | (rw [if_neg (by decide +kernel)]; exact ⟨rfl, rfl⟩))
    (fun os started H enc _ => lifted os started H enc)

theorem proved : Rows.RlogOrderSaid := over
end Go.Proofs.Ythocdknfkmclkaa.rlogOrder
