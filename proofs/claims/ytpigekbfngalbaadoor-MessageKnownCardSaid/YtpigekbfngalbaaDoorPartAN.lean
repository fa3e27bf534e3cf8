/- Texts of the proof, one behind the other: MessagePuts, MessageBack. -/
import Derived.Test.YtpigekbfngalbaaDoorRows
import Derived.Test.YtpigekbfngalbaaDoorCards
import Derived.Test.YtpigekbfngalbaaDoorTie
import Derived.Test.YtpigekbfngalbaaDoorPartAH
import Derived.SevenTiedAt
import Derived.LaidMore
import Derived.LaidLaws
import Derived.Handed
import Derived.Stop.Joined
import Derived.Test.YtpigekbfngalbaaDoorPartAI
import Derived.Test.YtpigekbfngalbaaDoorPartAM
import Derived.WalkKit
import Derived.WalkLawsBesides
import Derived.ProofKit
import Derived.OpenShut
import Derived.ShutString
import Derived.ChangeOld
import Derived.Below
import Derived.SizedLaws
namespace Go.Proofs.YtpigekbfngalbaaDoor.messagePuts
open Go.ChangeShapes Go.WideShapes Go.ChangeAt Go.RowKit
open Go.ChangeMaps (open_string shut_string)
set_option linter.unusedVariables false

theorem own : ownKnob Tryd.prog.godebug = none := by kernel_rfl
theorem laidOut : laidOutB Tryd.prog = true := by kernel_rfl

attribute [local go_sem ↓] Ms.loadAt_msg Ms.storeAt_msg
open Ms in
set_option maxRecDepth 100000 in
set_option maxHeartbeats 3200000 in
theorem walk (m : Ms.M) (A : Option Addr) (c : Nat) (A' : Option Addr) (c' : Nat) (w : World) (T : Ms.Tab w) (k0 : Ms.Is w w.heap.size m A c A' c') :
    Calls Tryd.prog 4 #[.agg #[.int .i64 m.K, .int .i64 m.F, .int .i64 m.T, .int .i64 m.g, .int .i64 m.t, .int .i64 m.i, .int .i64 m.p, .int .i64 m.c, .int .i64 m.r, .int .i64 m.x, .int .i64 m.a, .int .i64 m.b, .int .i64 m.v, .int .i64 m.s, .bool m.ok, .slice A m.es.length c, .slice A' m.d.length c']] w fun e w' => e = .returned (.bool true) ∧ Below w.heap.size w w' := by
  obtain ⟨w1, hw1⟩ : ∃ w1, w1 = w.alloc (.cells #[.int .i64 m.K, .int .i64 m.F, .int .i64 m.T, .int .i64 m.g, .int .i64 m.t, .int .i64 m.i, .int .i64 m.p, .int .i64 m.c, .int .i64 m.r, .int .i64 m.x, .int .i64 m.a, .int .i64 m.b, .int .i64 m.v, .int .i64 m.s, .bool m.ok, .slice A m.es.length c, .slice A' m.d.length c'] 25) := ⟨_, rfl⟩
  have hbx : Bx w1 w.heap.size m A c A' c' := ⟨by rw [hw1]; exact heap_alloc_new w _⟩
  have hb1 : Below w.heap.size w w1 := by rw [hw1]; exact (Below.refl _ w).alloc (Nat.le_refl _) _
  have hld1 := hbx.load
  have HX1 := hid (And.intro hbx hb1)
  have HT := hid T
  have HI := hid k0
  have hpos := T.pos
  have HBG := hid (bigL_any m A c A' c' w1 (k0.ents hb1) (Nat.le_trans k0.dc.1 k0.dc.2))
  obtain ⟨bg, hbg⟩ : ∃ b, b = bigM m := ⟨_, rfl⟩
  have HBB := hid hbg
  rw [← hbg] at HBG
  clear T k0 hbx hb1 hbg
  go_enter Tryd.func4, Tryd.ntmps4
  rw [hw1] at hld1
  go_wp2_with fail
  rw [← hw1]
  refine HBG.out.mono ?_
  rintro e w2 ⟨rfl, hb2⟩
  have HB2 := hid (HX1.out.2.trans (hb2.mono HX1.out.2.size))
  have HX2 := hid (HX1.out.1.below hb2 (row_lt HX1.out.1.row))
  have hld2 := HX2.out.load
  clear hb2 hld1
  cases bg
  rotate_left
  · go_wp2_with fail
    refine (works_N w w2 HT.out HB2.out).mono ?_
    rintro e w3 ⟨rfl, hb3⟩
    have HB3 := hid hb3
    clear hb3 hld2
    go_wp2_with fail
    go_ret
    exact ⟨rfl, HB3.out⟩
  obtain ⟨hs, hes, _, _⟩ := big_small HBB.out.symm
  have HS := hid hs
  have HCP := hid (copyM_any m A c A' c' w2 ((HI.out.below HB2.out).more HB2.out.size) hs (by omega))
  clear hs hes HBG HBB
  go_wp2_with fail
  refine HCP.out.mono ?_
  rintro e w3 ⟨A2, c2, A3, c3, rfl, hx3, hb3⟩
  have HB3 := hid (HB2.out.trans (hb3.mono HB2.out.size))
  have HI3 := hid hx3
  have HX3 := hid (HX2.out.below hb3 (row_lt HX2.out.row))
  have hst := st_new w3 #[.int .i64 0, .int .i64 0, .int .i64 0, .int .i64 0, .int .i64 0, .int .i64 0, .int .i64 0, .int .i64 0, .int .i64 0, .int .i64 0, .int .i64 0, .int .i64 0, .int .i64 0, .int .i64 0, .bool false, .slice none 0 0, .slice none 0 0] (#[.int .i64 m.K, .int .i64 m.F, .int .i64 m.T, .int .i64 m.g, .int .i64 m.t, .int .i64 m.i, .int .i64 m.p, .int .i64 m.c, .int .i64 m.r, .int .i64 m.x, .int .i64 m.a, .int .i64 m.b, .int .i64 m.v, .int .i64 m.s, .bool m.ok, .slice A2 m.es.length c2, .slice A3 m.d.length c3]) rfl rfl (msg_one m A2 c2 A3 c3)
  obtain ⟨w4, hw4⟩ : ∃ w4, w4 = w3.alloc (.cells #[.int .i64 m.K, .int .i64 m.F, .int .i64 m.T, .int .i64 m.g, .int .i64 m.t, .int .i64 m.i, .int .i64 m.p, .int .i64 m.c, .int .i64 m.r, .int .i64 m.x, .int .i64 m.a, .int .i64 m.b, .int .i64 m.v, .int .i64 m.s, .bool m.ok, .slice A2 m.es.length c2, .slice A3 m.d.length c3] 25) := ⟨_, rfl⟩
  have hb34 : Below w3.heap.size w3 w4 := by rw [hw4]; exact (Below.refl _ w3).alloc (Nat.le_refl _) _
  have hy4 : Bx w4 w3.heap.size m A2 c2 A3 c3 := ⟨by rw [hw4]; exact heap_alloc_new w3 _⟩
  have hx4 : Bx w4 w.heap.size m A c A' c' := HX3.out.below hb34 (row_lt HX3.out.row)
  have hz4 : Is w4 w3.heap.size m A2 c2 A3 c3 := HI3.out.below hb34
  have HZ : Hid (∀ wz, Below w4.heap.size w4 wz → Bx wz w.heap.size m A c A' c' ∧ Bx wz w3.heap.size m A2 c2 A3 c3 ∧ Is wz wz.heap.size m A2 c2 A3 c3 ∧ Is wz wz.heap.size m A c A' c' ∧ Below w.heap.size w wz ∧ Ms.Tab wz) := hid fun wz hb => by
    have h4 := HB3.out.trans (hb34.mono HB3.out.size)
    have hb' := h4.trans (hb.mono h4.size)
    exact ⟨hx4.below hb (row_lt hx4.row), hy4.below hb (row_lt hy4.row), ((hz4.below (hb.mono hb34.size)).more (Nat.le_trans hb34.size hb.size)), (HI.out.below hb').more hb'.size, hb', HT.out.below hb' hpos⟩
  obtain ⟨z1, z2, z3, z4, z5, z6⟩ := HZ.out w4 (Below.refl _ w4)
  have hldy := hy4.load
  obtain ⟨P, hP⟩ : ∃ P, P = (put m).1 := ⟨_, rfl⟩
  obtain ⟨pe, hpe⟩ : ∃ pe : Int, pe = (((put m).2 : Nat) : Int) := ⟨_, rfl⟩
  obtain ⟨kp, hkp⟩ : ∃ kp, P.length = kp := ⟨_, rfl⟩
  have hpl : kp ≤ 65544 := by
    rw [← hkp, hP]
    by_cases hc : check m = 0
    · rw [put_zero hc]; exact frame_le hc
    · rw [put_not hc]; simp
  have HPP : Hid (∀ wz, Below w4.heap.size w4 wz → Calls Tryd.prog 16 #[.agg #[.int .i64 m.K, .int .i64 m.F, .int .i64 m.T, .int .i64 m.g, .int .i64 m.t, .int .i64 m.i, .int .i64 m.p, .int .i64 m.c, .int .i64 m.r, .int .i64 m.x, .int .i64 m.a, .int .i64 m.b, .int .i64 m.v, .int .i64 m.s, .bool m.ok, .slice A2 m.es.length c2, .slice A3 m.d.length c3]] wz fun e w' => ∃ A7 c7, e = .returned (.tuple #[.slice A7 kp c7, .int .i64 pe]) ∧ OwnsB 5 w' wz.heap.size A7 c7 P ∧ Below wz.heap.size wz w') := hid fun wz hb => by
    obtain ⟨_, _, y3, _, _, y6⟩ := HZ.out wz hb
    have := Ms.put_any m A2 c2 A3 c3 wz y3 y6 HS.out
    rw [← hP, ← hpe, hkp] at this
    exact this
  have HRP : Hid (∀ wz, Below w4.heap.size w4 wz → Calls Tryd.prog 17 #[.agg #[.int .i64 m.K, .int .i64 m.F, .int .i64 m.T, .int .i64 m.g, .int .i64 m.t, .int .i64 m.i, .int .i64 m.p, .int .i64 m.c, .int .i64 m.r, .int .i64 m.x, .int .i64 m.a, .int .i64 m.b, .int .i64 m.v, .int .i64 m.s, .bool m.ok, .slice A m.es.length c, .slice A' m.d.length c']] wz fun e w' => ∃ A7 c7, e = .returned (.tuple #[.slice A7 kp c7, .int .i64 pe]) ∧ OwnsB 5 w' wz.heap.size A7 c7 P ∧ Below wz.heap.size wz w') := hid fun wz hb => by
    obtain ⟨_, _, _, y4, _, _⟩ := HZ.out wz hb
    have := rput_any m A c A' c' wz y4 HS.out
    rw [← hP, ← hpe, hkp] at this
    exact this
  have HKP := hid hkp
  clear hx3 hb3 hld2 HCP hb34 hy4 hx4 hz4 z1 z2 z3 z4 z5 z6 hP hpe hkp
  rw [hw4] at hldy
  go_wp2_with fail
  rw [← hw4]
  clear hst hldy hw4
  refine (HPP.out w4 (Below.refl _ w4)).mono ?_
  rintro e w5 ⟨A4, c4, rfl, ho4, hb5⟩
  have HC5 := hid hb5
  have HO4 := hid ho4
  have hldy := (HZ.out w5 hb5).2.1.load
  clear ho4 hb5
  go_wp2_with fail
  refine (HPP.out w5 HC5.out).mono ?_
  rintro e w6 ⟨A5, c5, rfl, ho5, hb6⟩
  have HC6 := hid (HC5.out.trans (hb6.mono HC5.out.size))
  have HO5 := hid (And.intro (HO4.out.below hb6) (And.intro ho5 hb6.size))
  have hldx := (HZ.out w6 HC6.out).1.load
  clear ho5 hb6 hldy
  go_wp2_with fail
  refine (HRP.out w6 HC6.out).mono ?_
  rintro e w7 ⟨A6, c6, rfl, ho6, hb7⟩
  have HC7 := hid (HC6.out.trans (hb7.mono HC6.out.size))
  have HO7 := hid (And.intro (HO5.out.1.below hb7) (And.intro (HO5.out.2.1.below hb7) ho6))
  have hldx7 := (HZ.out w7 HC7.out).1.load
  have hldy7 := (HZ.out w7 HC7.out).2.1.load
  clear ho6 hb7 hldx HPP HRP
  go_wp2_with fail
  have HS7 := hid (same_T w7.heap.size w7.heap.size A4 A6 c4 c6 P kp HKP.out (by unfold maxLen; omega) w7 HO7.out.1.reads HO7.out.2.2.reads)
  clear hldx7 hldy7
  refine HS7.out.mono ?_
  rintro e w8' ⟨rfl, n8, rfl⟩
  obtain ⟨w8, hw8⟩ : ∃ w8, w8 = w7.drewN n8 := ⟨_, rfl⟩
  have HC8 : Hid (Below w4.heap.size w4 w8) := hid (by rw [hw8]; exact below_drewN HC7.out n8)
  have HO8 : Hid (OwnsB 5 w8 w4.heap.size A4 c4 P ∧ OwnsB 5 w8 w5.heap.size A5 c5 P ∧ OwnsB 5 w8 w6.heap.size A6 c6 P) := hid (by rw [hw8]; exact ⟨HO7.out.1.drewN n8, HO7.out.2.1.drewN n8, HO7.out.2.2.drewN n8⟩)
  rw [← hw8]
  clear hw8 HS7
  have HSP := hid (spoil_N w4.heap.size A4 c4 P kp HKP.out (by unfold maxLen; omega) w8 HO8.out.1)
  go_wp2_with fail
  refine HSP.out.mono ?_
  rintro e w9 ⟨rfl, hg9⟩
  have q4 := HO4.out.blkLt
  have q56 := HO5.out.2.2
  have HC9 := hid (HC8.out.trans (below_grown hg9 HC8.out.size (fun k hk => (q4 k hk).1)))
  have HO9 := hid (And.intro (HO8.out.2.1.grown hg9 (fun k hk => by have := (q4 k hk).2; omega)) (HO8.out.2.2.grown hg9 (fun k hk => by have := (q4 k hk).2; omega)))
  clear hg9 q4 q56 HSP
  have HSB : Hid (Calls Tryd.prog 18 #[.slice A5 kp c5, .slice A6 kp c6] w9 fun e w' => e = .returned (.bool true) ∧ Below w9.heap.size w9 w') := hid (by
    refine (same_T w9.heap.size w9.heap.size A5 A6 c5 c6 P kp HKP.out (by unfold maxLen; omega) w9 HO9.out.1.reads HO9.out.2.reads).mono ?_
    rintro e w' ⟨he, j, hj⟩
    exact ⟨he, by rw [hj]; exact below_drewN (Below.refl _ w9) j⟩)
  have HSM : Hid (∀ wz, Below w9.heap.size w9 wz → Calls Tryd.prog 20 #[.agg #[.int .i64 m.K, .int .i64 m.F, .int .i64 m.T, .int .i64 m.g, .int .i64 m.t, .int .i64 m.i, .int .i64 m.p, .int .i64 m.c, .int .i64 m.r, .int .i64 m.x, .int .i64 m.a, .int .i64 m.b, .int .i64 m.v, .int .i64 m.s, .bool m.ok, .slice A2 m.es.length c2, .slice A3 m.d.length c3], .agg #[.int .i64 m.K, .int .i64 m.F, .int .i64 m.T, .int .i64 m.g, .int .i64 m.t, .int .i64 m.i, .int .i64 m.p, .int .i64 m.c, .int .i64 m.r, .int .i64 m.x, .int .i64 m.a, .int .i64 m.b, .int .i64 m.v, .int .i64 m.s, .bool m.ok, .slice A m.es.length c, .slice A' m.d.length c']] wz fun e w' => e = .returned (.bool true) ∧ Below w.heap.size w w') := hid fun wz hb => by
    obtain ⟨_, _, y3, y4, y5, _⟩ := HZ.out wz (HC9.out.trans (hb.mono HC9.out.size))
    refine (same_yes m A2 c2 A3 c3 A c A' c' wz y3.es y4.es y3.d y4.d HS.out).mono ?_
    rintro e w' ⟨he, hb'⟩
    exact ⟨he, y5.trans (hb'.mono y5.size)⟩
  have HLD : Hid (∀ wz, Below w9.heap.size w9 wz → (ldMsg (.pointer (some ⟨w3.heap.size, 0, none⟩))).run Tryd.prog wz = .ok (.agg #[.int .i64 m.K, .int .i64 m.F, .int .i64 m.T, .int .i64 m.g, .int .i64 m.t, .int .i64 m.i, .int .i64 m.p, .int .i64 m.c, .int .i64 m.r, .int .i64 m.x, .int .i64 m.a, .int .i64 m.b, .int .i64 m.v, .int .i64 m.s, .bool m.ok, .slice A2 m.es.length c2, .slice A3 m.d.length c3]) wz ∧ (ldMsg (.pointer (some ⟨w.heap.size, 0, none⟩))).run Tryd.prog wz = .ok (.agg #[.int .i64 m.K, .int .i64 m.F, .int .i64 m.T, .int .i64 m.g, .int .i64 m.t, .int .i64 m.i, .int .i64 m.p, .int .i64 m.c, .int .i64 m.r, .int .i64 m.x, .int .i64 m.a, .int .i64 m.b, .int .i64 m.v, .int .i64 m.s, .bool m.ok, .slice A m.es.length c, .slice A' m.d.length c']) wz) := hid fun wz hb => by
    obtain ⟨y1, y2, _⟩ := HZ.out wz (HC9.out.trans (hb.mono HC9.out.size))
    exact ⟨y2.load, y1.load⟩
  go_wp2_with fail
  refine HSB.out.mono ?_
  rintro e w10 ⟨rfl, hb10⟩
  have HB10 := hid hb10
  have ha10 := (HLD.out w10 hb10).1
  have hc10 := (HLD.out w10 hb10).2
  clear hb10
  go_wp2_with fail
  refine (HSM.out w10 HB10.out).mono ?_
  rintro e w11 ⟨rfl, hb11⟩
  have HB11 := hid hb11
  clear hb11 ha10 hc10
  go_wp2_with fail
  refine (works_N w w11 HT.out HB11.out).mono ?_
  rintro e w12 ⟨rfl, hb12⟩
  have HB12 := hid hb12
  clear hb12
  go_wp2_with fail
  go_ret
  exact ⟨rfl, HB12.out⟩

set_option maxRecDepth 100000 in
theorem lifted (os : Os) (started : os.Started) (H : Type) (enc : TypeId × Value → H) :
    ReturnsInHanded {} Tryd.checked os 4 .any (fun w args => (Rows.messagePutsSpec.pre enc Tryd.prog Tryd.f4 [] false w args ∧ laidMetH Tryd.prog Ms.laid w) ∧ sizedMet enc Tryd.prog Tryd.f4 (OpenSpec.ofChange Rows.messagePutsSpec) false w args) (Rows.messagePutsSpec.post enc Tryd.prog Tryd.f4 false true false false) := by
  refine returnsInHanded_of_change_and (C := Tryd.checked) (X := fun w _ => laidMetH Tryd.prog Ms.laid w) (fun _ _ _ hh h => h.of_heap hh) own started (by kernel_rfl) Tryd.func4
    (ChangeSpec.witness_shaped (enc := enc) (C := Tryd.checked) (os := os) (X := fun w _ => laidMetH Tryd.prog Ms.laid w) false (World.doorLaid Tryd.prog 400 os) #[.agg #[.int .i64 0, .int .i64 0, .int .i64 0, .int .i64 0, .int .i64 0, .int .i64 0, .int .i64 0, .int .i64 0, .int .i64 0, .int .i64 0, .int .i64 0, .int .i64 0, .int .i64 0, .int .i64 0, .bool false, .slice none 0 0, .slice none 0 0]] 8 rfl (World.shaped_of_RefB (by kernel_rfl) (by kernel_rfl)) (by kernel_rfl) (by kernel_rfl) (by kernel_rfl) (Ms.door_met os _)) ?_
  intro W base args ds gs before hval0 hW hcnd hsz0 hL _
  have hT := Ms.tab_of_laid hL
  have hsz : (DataW.weightsEach Tryd.prog (Tryd.f4.params.toList ++ Rows.messagePutsSpec.plain.varTypes Tryd.prog) (ds ++ gs)).all (· ≤ reachBytes) = true := hsz0
  clear hsz0
  have hval : ∀ (j : Nat) t v, Tryd.f4.params[j]? = some t → args[j]? = some v → Value.okWide Tryd.prog W .any base t v := hval0
  have hW' := hW
  obtain ⟨p, q, hA0, hV, rfl, hfz, hnd⟩ := hW
  have hA : DataW.TrodAll enc Tryd.prog W 0 (fun _ => true) true Tryd.f4.params.toList args.toList ds p := hA0
  rw [Tryd.params4] at hA hval hsz
  obtain ⟨v0, vs0, d0, ds0, p0, q0, hargs, rfl, rfl, g0, t0⟩ := trodAll_cons hA
  obtain ⟨rfl, rfl, rfl⟩ := trodAll_nil t0
  obtain rfl : args = #[v0] := by cases args; simp_all
  obtain ⟨rfl, rfl⟩ := trodVars_none hV
  obtain ⟨cs0, rfl, sz0⟩ := okWide_struct Tryd.underlying25 (hval 0 25 v0 rfl rfl)
  have m0 := g0
  have lt0 : ∀ x ∈ p0, x.block < W.heap.size := by obtain ⟨m, hm⟩ := m0; exact DataW.trod_lt m _ _ _ hm
  obtain ⟨ms0, a0, cap0, b0, cbp0, rfl, k0⟩ := Ms.msg_open sz0 g0
  clear hA0 hval0
  refine (walk ms0 a0 cap0 b0 cbp0 W hT k0).mono fun e W' ⟨he, bel⟩ => ?_
  subst he
  exact ⟨_, rfl, _, _, _, [], _, [], hW', trodAll_mk1 (shut_bool Tryd.underlying4 _), (trodAll_cons_mk (Below.trod laidOut (by kernel_rfl) (of_decide_eq_true (by kernel_rfl)) m0 bel lt0) trodAll_mk0), rfl, bel.frame _, fun h => by cases h⟩

theorem over : Rows.messagePutsRow.holds Tryd.pinned (OpenSpec.ofChange Rows.messagePutsSpec) :=
  OpenClaim.holds_of_wide 4 Tryd.f4 rfl rfl rfl rfl rfl rfl rfl ⟨rfl, rfl, rfl, rfl, rfl⟩ rfl rfl rfl rfl rfl (by kernel_rfl) Tryd.func4 (by kernel_rfl)
    (of_decide_eq_true (by kernel_rfl)) (by unfold Func.isWrapper; first | (rw [if_pos (by decide +kernel)]; kernel_rfl) | (rw [if_neg (by decide +kernel)]; exact ⟨rfl, rfl⟩))
    (fun os started H enc _ => lifted os started H enc)

theorem proved : Rows.MessagePutsCardSaid :=
  Claim7.holds_tied_plain_at .later [] [.data] true Rows.messagePutsCard.stood.harness false
    over (fun _ h => by cases h) (by kernel_rfl) (fun _ h => by cases h) messagePuts_row_tie rfl ⟨rfl, rfl⟩ (by kernel_rfl) rfl
    (fun f fn hf hfn => by
      obtain rfl : f = 4 := Option.some.inj ((show Tryd.prog.funcNamed "glebe/glebelaw12.MessagePuts" = some 4 by kernel_rfl).symm.trans hf) |>.symm
      obtain rfl : fn = Tryd.f4 := (Option.some.inj (Tryd.func4.symm.trans hfn)).symm
      exact ⟨by kernel_rfl, fun j t ht => by
        rw [Tryd.params4] at ht
        have hm : t ∈ ([25] : List TypeId) := by simpa using Array.mem_of_getElem? ht
        have hall : (([25] : List TypeId).all fun u => !Tryd.prog.wantsStandIn u) = true := by kernel_rfl
        exact (show Tryd.prog.wantsStandIn t = false by simpa using List.all_eq_true.1 hall t hm)⟩)
    (by kernel_rfl)
end Go.Proofs.YtpigekbfngalbaaDoor.messagePuts
namespace Go.Proofs.YtpigekbfngalbaaDoor.messageBack
open Go.ChangeShapes Go.WideShapes Go.ChangeAt Go.RowKit
open Go.ChangeMaps (open_string shut_string)
set_option linter.unusedVariables false

theorem own : ownKnob Tryd.prog.godebug = none := by kernel_rfl
theorem laidOut : laidOutB Tryd.prog = true := by kernel_rfl

attribute [local go_sem ↓] Ms.loadAt_msg Ms.storeAt_msg
open Ms in
set_option maxRecDepth 100000 in
set_option maxHeartbeats 3200000 in
theorem walk (m : Ms.M) (A : Option Addr) (c : Nat) (A' : Option Addr) (c' : Nat) (w : World) (T : Ms.Tab w) (k0 : Ms.Is w w.heap.size m A c A' c') :
    Calls Tryd.prog 6 #[.agg #[.int .i64 m.K, .int .i64 m.F, .int .i64 m.T, .int .i64 m.g, .int .i64 m.t, .int .i64 m.i, .int .i64 m.p, .int .i64 m.c, .int .i64 m.r, .int .i64 m.x, .int .i64 m.a, .int .i64 m.b, .int .i64 m.v, .int .i64 m.s, .bool m.ok, .slice A m.es.length c, .slice A' m.d.length c']] w fun e w' => e = .returned (.bool true) ∧ Below w.heap.size w w' := by
  obtain ⟨w1, hw1⟩ : ∃ w1, w1 = w.alloc (.cells #[.int .i64 m.K, .int .i64 m.F, .int .i64 m.T, .int .i64 m.g, .int .i64 m.t, .int .i64 m.i, .int .i64 m.p, .int .i64 m.c, .int .i64 m.r, .int .i64 m.x, .int .i64 m.a, .int .i64 m.b, .int .i64 m.v, .int .i64 m.s, .bool m.ok, .slice A m.es.length c, .slice A' m.d.length c'] 25) := ⟨_, rfl⟩
  have hbx : Bx w1 w.heap.size m A c A' c' := ⟨by rw [hw1]; exact heap_alloc_new w _⟩
  have hb1 : Below w.heap.size w w1 := by rw [hw1]; exact (Below.refl _ w).alloc (Nat.le_refl _) _
  have hld1 := hbx.load
  have HX1 := hid (And.intro hbx hb1)
  have HT := hid T
  have HI := hid k0
  have hpos := T.pos
  have HBG := hid (bigL_any m A c A' c' w1 (k0.ents hb1) (Nat.le_trans k0.dc.1 k0.dc.2))
  obtain ⟨bg, hbg⟩ : ∃ b, b = bigM m := ⟨_, rfl⟩
  have HBB := hid hbg
  rw [← hbg] at HBG
  clear T k0 hbx hb1 hbg
  go_enter Tryd.func6, Tryd.ntmps6
  rw [hw1] at hld1
  go_wp2_with fail
  rw [← hw1]
  refine HBG.out.mono ?_
  rintro e w2 ⟨rfl, hb2⟩
  have HB2 := hid (HX1.out.2.trans (hb2.mono HX1.out.2.size))
  have HX2 := hid (HX1.out.1.below hb2 (row_lt HX1.out.1.row))
  have hld2 := HX2.out.load
  clear hb2 hld1
  cases bg
  rotate_left
  · go_wp2_with fail
    refine (works_N w w2 HT.out HB2.out).mono ?_
    rintro e w3 ⟨rfl, hb3⟩
    have HB3 := hid hb3
    clear hb3 hld2
    go_wp2_with fail
    go_ret
    exact ⟨rfl, HB3.out⟩
  · obtain ⟨hs, _, _, _⟩ := big_small HBB.out.symm
    have HS := hid hs
    have hw2 : w.heap.size ≤ w2.heap.size := HB2.out.size
    have HI2 := hid ((HI.out.below HB2.out).more hw2)
    have HT2 := hid (HT.out.below HB2.out hpos)
    clear hs
    by_cases hc : check m = 0
    · obtain ⟨n, hn⟩ : ∃ n, n = (Fr.frame m.enc).length := ⟨_, rfl⟩
      have hn2 : n ≤ 65544 := by rw [hn]; exact frame_le hc
      have HP := hid (put_ok m A c A' c' w2 HI2.out HT2.out HS.out hc n hn.symm)
      have HN := hid hn
      have HC := hid hc
      clear hc hn
      go_wp2_with fail
      refine HP.out.mono ?_
      rintro e w3 ⟨A2, c2, rfl, ho, hb3⟩
      have HB3 := hid (HB2.out.trans (hb3.mono hw2))
      have HX3 := hid (HX2.out.below hb3 (row_lt HX2.out.row))
      have hcap := ho.cap
      rw [← HN.out] at hcap
      have HG := hid (get_is (Fr.frame m.enc) A2 c2 n HN.out.symm w3 ho.reads ho.none_ hcap (by omega) (HT.out.below HB3.out hpos) m 0 (back0 HI.out.wf HS.out HC.out) 0 rfl)
      clear hb3 ho hld2 HP
      go_wp2_with fail
      refine HG.out.mono ?_
      rintro e w4 ⟨A5, c5, A6, c6, rfl, hom, hb4⟩
      obtain ⟨w5, hw5⟩ : ∃ w5, w5 = w4.alloc (.cells #[.int .i64 m.K, .int .i64 m.F, .int .i64 m.T, .int .i64 m.g, .int .i64 m.t, .int .i64 m.i, .int .i64 m.p, .int .i64 m.c, .int .i64 m.r, .int .i64 m.x, .int .i64 m.a, .int .i64 m.b, .int .i64 m.v, .int .i64 m.s, .bool m.ok, .slice A5 m.es.length c5, .slice A6 m.d.length c6] 25) := ⟨_, rfl⟩
      have hst := st_new w4 #[.int .i64 0, .int .i64 0, .int .i64 0, .int .i64 0, .int .i64 0, .int .i64 0, .int .i64 0, .int .i64 0, .int .i64 0, .int .i64 0, .int .i64 0, .int .i64 0, .int .i64 0, .int .i64 0, .bool false, .slice none 0 0, .slice none 0 0] #[.int .i64 m.K, .int .i64 m.F, .int .i64 m.T, .int .i64 m.g, .int .i64 m.t, .int .i64 m.i, .int .i64 m.p, .int .i64 m.c, .int .i64 m.r, .int .i64 m.x, .int .i64 m.a, .int .i64 m.b, .int .i64 m.v, .int .i64 m.s, .bool m.ok, .slice A5 m.es.length c5, .slice A6 m.d.length c6] rfl rfl (msg_one m A5 c5 A6 c6)
      rw [← hw5] at hst
      have hb5 : Below w4.heap.size w4 w5 := by rw [hw5]; exact (Below.refl _ w4).alloc (Nat.le_refl _) _
      have hbx5 : Bx w5 w4.heap.size m A5 c5 A6 c6 := ⟨by rw [hw5]; exact heap_alloc_new w4 _⟩
      have HB4 := hid (HB3.out.trans (hb4.mono HB3.out.size))
      have HB5 := hid (HB4.out.trans (hb5.mono HB4.out.size))
      have HX5 := hid ((HX3.out.below hb4 (row_lt HX3.out.row)).below hb5 (by have := row_lt HX3.out.row; have := hb4.size; omega))
      have hom5 := hom.below hb5
      have hld5 := hbx5.load
      have hld5' := HX5.out.load
      have HSA := hid (same_yes m A5 c5 A6 c6 A c A' c' w5 hom5.es.reads (HI.out.ents HB5.out) hom5.d.reads (HI.out.data HB5.out) HS.out)
      clear hb4 hb5 hom hom5 hbx5 hw5
      go_wp2_with fail
      refine HSA.out.mono ?_
      rintro e w6 ⟨rfl, hb6⟩
      have HB6 := hid (HB5.out.trans (hb6.mono HB5.out.size))
      have HX6 := hid (HX5.out.below hb6 (row_lt HX5.out.row))
      have hld6 := HX6.out.load
      have HCK := check_any m A c A' c' w6 (HI.out.inp HS.out (HT.out.below HB6.out hpos) HB6.out)
      rw [HC.out] at HCK
      have HCC := hid HCK
      clear hb6 hld5 hld5' hst HCK HSA
      go_wp2_with fail
      refine HCC.out.mono ?_
      rintro e w7 ⟨rfl, hb7⟩
      have HB7 := hid (HB6.out.trans (hb7.mono HB6.out.size))
      clear hb7 hld6
      go_wp2_with fail
      refine (works_N w w7 HT.out HB7.out).mono ?_
      rintro e w8 ⟨rfl, hb8⟩
      have HB8 := hid hb8
      clear hb8
      go_wp2_with fail
      go_ret
      exact ⟨rfl, HB8.out⟩
    · obtain ⟨v, hv⟩ : ∃ v : Int, v = ((check m : Nat) : Int) := ⟨_, rfl⟩
      have hv0 : v ≠ 0 := by rw [hv]; omega
      have HP := hid (put_err m A c A' c' w2 HI2.out HT2.out HS.out hc v hv.symm)
      have HV := hid hv
      clear hc hv
      go_wp2_with fail
      refine HP.out.mono ?_
      rintro e w3 ⟨A2, c2, rfl, hb3⟩
      have HB3 := hid (HB2.out.trans (hb3.mono hw2))
      have HX3 := hid (HX2.out.below hb3 (row_lt HX2.out.row))
      have hld3 := HX3.out.load
      have HCK := check_any m A c A' c' w3 (HI.out.inp HS.out (HT.out.below HB3.out hpos) HB3.out)
      rw [← HV.out] at HCK
      have HCC := hid HCK
      clear hb3 hld2 HP HCK
      go_wp2_with fail
      refine HCC.out.mono ?_
      rintro e w7 ⟨rfl, hb7⟩
      have HB7 := hid (HB3.out.trans (hb7.mono HB3.out.size))
      clear hb7 hld3
      go_wp2_with fail
      refine (works_N w w7 HT.out HB7.out).mono ?_
      rintro e w8 ⟨rfl, hb8⟩
      have HB8 := hid hb8
      clear hb8
      go_wp2_with fail
      go_ret
      exact ⟨rfl, HB8.out⟩

set_option maxRecDepth 100000 in
theorem lifted (os : Os) (started : os.Started) (H : Type) (enc : TypeId × Value → H) :
    ReturnsInHanded {} Tryd.checked os 6 .any (fun w args => (Rows.messageBackSpec.pre enc Tryd.prog Tryd.f6 [] false w args ∧ laidMetH Tryd.prog Ms.laid w) ∧ sizedMet enc Tryd.prog Tryd.f6 (OpenSpec.ofChange Rows.messageBackSpec) false w args) (Rows.messageBackSpec.post enc Tryd.prog Tryd.f6 false true false false) := by
  refine returnsInHanded_of_change_and (C := Tryd.checked) (X := fun w _ => laidMetH Tryd.prog Ms.laid w) (fun _ _ _ hh h => h.of_heap hh) own started (by kernel_rfl) Tryd.func6
    (ChangeSpec.witness_shaped (enc := enc) (C := Tryd.checked) (os := os) (X := fun w _ => laidMetH Tryd.prog Ms.laid w) false (World.doorLaid Tryd.prog 400 os) #[.agg #[.int .i64 0, .int .i64 0, .int .i64 0, .int .i64 0, .int .i64 0, .int .i64 0, .int .i64 0, .int .i64 0, .int .i64 0, .int .i64 0, .int .i64 0, .int .i64 0, .int .i64 0, .int .i64 0, .bool false, .slice none 0 0, .slice none 0 0]] 8 rfl (World.shaped_of_RefB (by kernel_rfl) (by kernel_rfl)) (by kernel_rfl) (by kernel_rfl) (by kernel_rfl) (Ms.door_met os _)) ?_
  intro W base args ds gs before hval0 hW hcnd hsz0 hL _
  have hT := Ms.tab_of_laid hL
  have hsz : (DataW.weightsEach Tryd.prog (Tryd.f6.params.toList ++ Rows.messageBackSpec.plain.varTypes Tryd.prog) (ds ++ gs)).all (· ≤ reachBytes) = true := hsz0
  clear hsz0
  have hval : ∀ (j : Nat) t v, Tryd.f6.params[j]? = some t → args[j]? = some v → Value.okWide Tryd.prog W .any base t v := hval0
  have hW' := hW
  obtain ⟨p, q, hA0, hV, rfl, hfz, hnd⟩ := hW
  have hA : DataW.TrodAll enc Tryd.prog W 0 (fun _ => true) true Tryd.f6.params.toList args.toList ds p := hA0
  rw [Tryd.params6] at hA hval hsz
  obtain ⟨v0, vs0, d0, ds0, p0, q0, hargs, rfl, rfl, g0, t0⟩ := trodAll_cons hA
  obtain ⟨rfl, rfl, rfl⟩ := trodAll_nil t0
  obtain rfl : args = #[v0] := by cases args; simp_all
  obtain ⟨rfl, rfl⟩ := trodVars_none hV
  obtain ⟨cs0, rfl, sz0⟩ := okWide_struct Tryd.underlying25 (hval 0 25 v0 rfl rfl)
  have m0 := g0
  have lt0 : ∀ x ∈ p0, x.block < W.heap.size := by obtain ⟨m, hm⟩ := m0; exact DataW.trod_lt m _ _ _ hm
  obtain ⟨ms0, a0, cap0, b0, cbp0, rfl, k0⟩ := Ms.msg_open sz0 g0
  clear hA0 hval0
  refine (walk ms0 a0 cap0 b0 cbp0 W hT k0).mono fun e W' ⟨he, bel⟩ => ?_
  subst he
  exact ⟨_, rfl, _, _, _, [], _, [], hW', trodAll_mk1 (shut_bool Tryd.underlying4 _), (trodAll_cons_mk (Below.trod laidOut (by kernel_rfl) (of_decide_eq_true (by kernel_rfl)) m0 bel lt0) trodAll_mk0), rfl, bel.frame _, fun h => by cases h⟩

theorem over : Rows.messageBackRow.holds Tryd.pinned (OpenSpec.ofChange Rows.messageBackSpec) :=
  OpenClaim.holds_of_wide 6 Tryd.f6 rfl rfl rfl rfl rfl rfl rfl ⟨rfl, rfl, rfl, rfl, rfl⟩ rfl rfl rfl rfl rfl (by kernel_rfl) Tryd.func6 (by kernel_rfl)
    (of_decide_eq_true (by kernel_rfl)) (by unfold Func.isWrapper; first | (rw [if_pos (by decide +kernel)]; kernel_rfl) | (rw [if_neg (by decide +kernel)]; exact ⟨rfl, rfl⟩))
    (fun os started H enc _ => lifted os started H enc)

theorem proved : Rows.MessageBackCardSaid :=
  Claim7.holds_tied_plain_at .later [] [.data] true Rows.messageBackCard.stood.harness false
    over (fun _ h => by cases h) (by kernel_rfl) (fun _ h => by cases h) messageBack_row_tie rfl ⟨rfl, rfl⟩ (by kernel_rfl) rfl
    (fun f fn hf hfn => by
      obtain rfl : f = 6 := Option.some.inj ((show Tryd.prog.funcNamed "glebe/glebelaw12.MessageBack" = some 6 by kernel_rfl).symm.trans hf) |>.symm
      obtain rfl : fn = Tryd.f6 := (Option.some.inj (Tryd.func6.symm.trans hfn)).symm
      exact ⟨by kernel_rfl, fun j t ht => by
        rw [Tryd.params6] at ht
        have hm : t ∈ ([25] : List TypeId) := by simpa using Array.mem_of_getElem? ht
        have hall : (([25] : List TypeId).all fun u => !Tryd.prog.wantsStandIn u) = true := by kernel_rfl
        exact (show Tryd.prog.wantsStandIn t = false by simpa using List.all_eq_true.1 hall t hm)⟩)
    (by kernel_rfl)
end Go.Proofs.YtpigekbfngalbaaDoor.messageBack
