/- Of any message it is told what is wrong with it. Conditions: none but those of the card: the table of the fields is as the text lays it. -/
import Derived.Test.YtmaebemhephcmaaDoorRows
import Derived.Test.YtmaebemhephcmaaDoorCards
import Derived.Test.YtmaebemhephcmaaDoorTie
import Derived.Test.YtmaebemhephcmaaDoorMsDoor
import Derived.SevenTiedAt
import Derived.LaidMore
import Derived.LaidLaws
import Derived.Handed
import Derived.Stop.Joined
import Derived.Test.YtmaebemhephcmaaDoorMsLaw
import Derived.Test.YtmaebemhephcmaaDoorMsRefC
import Derived.Deep.RegionHeld3
import Derived.WalkKit
import Derived.WalkLawsBesides
import Derived.ProofKit
import Derived.OpenShut
import Derived.ShutString
import Derived.ChangeOld
import Derived.Below
import Derived.SizedLaws
namespace Go.Proofs.YtmaebemhephcmaaDoor.messageChecks
open Go.ChangeShapes Go.WideShapes Go.ChangeAt Go.RowKit
open Go.ChangeMaps (open_string shut_string)
set_option linter.unusedVariables false

theorem own : ownKnob Tryd.prog.godebug = none := by kernel_rfl
theorem laidOut : laidOutB Tryd.prog = true := by kernel_rfl

attribute [local go_sem ↓] Ms.loadAt_msg Ms.storeAt_msg
/-- a load that a region must not take first -/
def loadC : Op := Op.load 25 (Operand.tmp 1)
/-- a step behind a closed guard -/
def stepC : Op := Op.move (Operand.tmp 13)
def stepD : Op := Op.binOp BinOp.eql 28 (Operand.tmp 10) (Operand.tmp 12) 28
def stepE : Op := Op.pick (Operand.tmp 14) (Operand.tmp 15) (Operand.const (Value.bool false))
open Ms in
set_option maxRecDepth 100000 in
set_option maxHeartbeats 3200000 in
theorem walk (m : Ms.M) (A : Option Addr) (c : Nat) (A' : Option Addr) (c' : Nat) (w : World) (T : Ms.Tab w) (k0 : Ms.Is w w.heap.size m A c A' c') :
    Calls Tryd.prog 3 #[.agg #[.int .i64 m.K, .int .i64 m.F, .int .i64 m.T, .int .i64 m.g, .int .i64 m.t, .int .i64 m.i, .int .i64 m.p, .int .i64 m.c, .int .i64 m.r, .int .i64 m.x, .int .i64 m.a, .int .i64 m.b, .int .i64 m.v, .int .i64 m.s, .bool m.ok, .slice A m.es.length c, .slice A' m.d.length c']] w fun e w' => e = .returned (.bool true) ∧ Below w.heap.size w w' := by
  obtain ⟨w1, hw1⟩ : ∃ w1, w1 = w.alloc (.cells #[.int .i64 m.K, .int .i64 m.F, .int .i64 m.T, .int .i64 m.g, .int .i64 m.t, .int .i64 m.i, .int .i64 m.p, .int .i64 m.c, .int .i64 m.r, .int .i64 m.x, .int .i64 m.a, .int .i64 m.b, .int .i64 m.v, .int .i64 m.s, .bool m.ok, .slice A m.es.length c, .slice A' m.d.length c'] 25) := ⟨_, rfl⟩
  have hbx : Bx w1 w.heap.size m A c A' c' := ⟨by rw [hw1]; exact heap_alloc_new w _⟩
  have hb1 : Below w.heap.size w w1 := by rw [hw1]; exact (Below.refl _ w).alloc (Nat.le_refl _) _
  have HX1 := hid (And.intro hbx hb1)
  have HT := hid T
  have HI := hid k0
  have hpos := T.pos
  have HBG := hid (bigL_any m A c A' c' w1.drew (k0.ents hb1.drew) (Nat.le_trans k0.dc.1 k0.dc.2))
  obtain ⟨bg, hbg⟩ : ∃ b, b = bigM m := ⟨_, rfl⟩
  have HBB := hid hbg
  rw [← hbg] at HBG
  clear T k0 hbx hb1 hbg
  have HX : Hid (∀ wz, Below w1.heap.size w1 wz → (ldMsg (.pointer (some ⟨w.heap.size, 0, none⟩))).run Tryd.prog wz = .ok (.agg #[.int .i64 m.K, .int .i64 m.F, .int .i64 m.T, .int .i64 m.g, .int .i64 m.t, .int .i64 m.i, .int .i64 m.p, .int .i64 m.c, .int .i64 m.r, .int .i64 m.x, .int .i64 m.a, .int .i64 m.b, .int .i64 m.v, .int .i64 m.s, .bool m.ok, .slice A m.es.length c, .slice A' m.d.length c']) wz) := hid fun wz hb => (HX1.out.1.below hb (row_lt HX1.out.1.row)).load
  have hopC : loadC = Op.load 25 (Operand.tmp 1) := rfl
  have hopS : stepC = Op.move (Operand.tmp 13) := rfl
  have hopD : stepD = Op.binOp BinOp.eql 28 (Operand.tmp 10) (Operand.tmp 12) 28 := rfl
  have hopE : stepE = Op.pick (Operand.tmp 14) (Operand.tmp 15) (Operand.const (Value.bool false)) := rfl
  cases bg
  rotate_left
  · go_enter Tryd.func3, Tryd.ntmps3
    go_wp2_with fail
    rw [← hw1]
    clear hw1
    rw [← hopC, ← hopS, ← hopD, ← hopE]
    have hld1 := HX.out _ (Below.refl _ w1).drew
    go_region_held3 (fun w' => True)
      (first | exact trivial | fail)
      (first
        | (go_at_call 11; refine HBG.out.mono ?_; rintro e w2 ⟨rfl, hb2⟩; have HB2 := hid (HX1.out.2.drew.trans (hb2.mono HX1.out.2.size)); have hld2 := HX.out w2 ((Below.refl _ w1).drew.trans hb2); clear hb2)
        | (go_at_call 12; refine (works_N w w2 HT.out HB2.out).mono ?_; rintro e w3 ⟨rfl, hb3⟩; have HB3 := hid hb3; clear hb3 HT)
        | (refine Eq.mpr (if_neg Bool.false_ne_true) ?_)
        | fail)
    all_goals
      clear hld1 hld2 hopC hopS hopD hopE
      go_wp2_with fail
      go_ret
      exact ⟨rfl, HB3.out⟩
  obtain ⟨hs, _, _, _⟩ := big_small HBB.out.symm
  have HS := hid hs
  clear hs
  obtain ⟨v, hv⟩ : ∃ v : Int, v = ((check m : Nat) : Int) := ⟨_, rfl⟩
  have HC : Hid (∀ wz, Below w.heap.size w wz → Calls Tryd.prog 13 #[.agg #[.int .i64 m.K, .int .i64 m.F, .int .i64 m.T, .int .i64 m.g, .int .i64 m.t, .int .i64 m.i, .int .i64 m.p, .int .i64 m.c, .int .i64 m.r, .int .i64 m.x, .int .i64 m.a, .int .i64 m.b, .int .i64 m.v, .int .i64 m.s, .bool m.ok, .slice A m.es.length c, .slice A' m.d.length c']] wz fun e w' => e = .returned (.int .i64 v) ∧ Below wz.heap.size wz w') := hid fun wz hb => by
    rw [hv]
    exact check_any m A c A' c' wz (HI.out.inp HS.out (HT.out.below hb hpos) hb)
  have HR : Hid (∀ wz, Below w.heap.size w wz → Calls Tryd.prog 14 #[.agg #[.int .i64 m.K, .int .i64 m.F, .int .i64 m.T, .int .i64 m.g, .int .i64 m.t, .int .i64 m.i, .int .i64 m.p, .int .i64 m.c, .int .i64 m.r, .int .i64 m.x, .int .i64 m.a, .int .i64 m.b, .int .i64 m.v, .int .i64 m.s, .bool m.ok, .slice A m.es.length c, .slice A' m.d.length c']] wz fun e w' => e = .returned (.int .i64 v) ∧ Below wz.heap.size wz w') := hid fun wz hb => by
    rw [hv]
    exact rcheck_any m A c A' c' wz ((HI.out.below hb).more hb.size) HS.out
  clear hv
  go_enter Tryd.func3, Tryd.ntmps3
  go_wp2_with fail
  rw [← hw1]
  clear hw1
  rw [← hopC]
  have hld1 := HX.out _ (Below.refl _ w1).drew
  go_region_held3 (fun w' => True)
    (first | exact trivial | fail)
    (first
      | (go_at_call 11; refine HBG.out.mono ?_; rintro e w2 ⟨rfl, hb2⟩; have HB2 := hid (HX1.out.2.drew.trans (hb2.mono HX1.out.2.size)); have HC2 := hid ((Below.refl _ w1).drew.trans hb2); have hld2 := HX.out w2 ((Below.refl _ w1).drew.trans hb2); clear hb2)
      | (go_at_call 13; refine (HC.out w2 HB2.out).mono ?_; rintro e w3 ⟨rfl, hb3⟩; have HB3 := hid (HB2.out.trans (hb3.mono HB2.out.size)); have hld3 := HX.out w3 (HC2.out.trans (hb3.mono HC2.out.size)); clear hb3)
      | (go_at_call 14; refine (HR.out w3 HB3.out).mono ?_; rintro e w4 ⟨rfl, hb4⟩; have HB4 := hid (HB3.out.trans (hb4.mono HB3.out.size)); clear hb4)
      | (go_at_call 12; refine (works_N w w4 HT.out HB4.out).mono ?_; rintro e w5 ⟨rfl, hb5⟩; have HB5 := hid hb5; clear hb5))
  all_goals
    clear hld1 hld2 hld3 hopC
    go_wp2_with fail
    go_ret
    exact ⟨rfl, HB5.out⟩

set_option maxRecDepth 100000 in
theorem lifted (os : Os) (started : os.Started) (H : Type) (enc : TypeId × Value → H) :
    ReturnsInHanded {} Tryd.checked os 3 .any (fun w args => (Rows.messageChecksSpec.pre enc Tryd.prog Tryd.f3 [] false w args ∧ laidMetH Tryd.prog Ms.laid w) ∧ sizedMet enc Tryd.prog Tryd.f3 (OpenSpec.ofChange Rows.messageChecksSpec) false w args) (Rows.messageChecksSpec.post enc Tryd.prog Tryd.f3 false true false false) := by
  refine returnsInHanded_of_change_and (C := Tryd.checked) (X := fun w _ => laidMetH Tryd.prog Ms.laid w) (fun _ _ _ hh h => h.of_heap hh) own started (by kernel_rfl) Tryd.func3
    (ChangeSpec.witness_shaped (enc := enc) (C := Tryd.checked) (os := os) (X := fun w _ => laidMetH Tryd.prog Ms.laid w) false (World.doorLaid Tryd.prog 400 os) #[.agg #[.int .i64 0, .int .i64 0, .int .i64 0, .int .i64 0, .int .i64 0, .int .i64 0, .int .i64 0, .int .i64 0, .int .i64 0, .int .i64 0, .int .i64 0, .int .i64 0, .int .i64 0, .int .i64 0, .bool false, .slice none 0 0, .slice none 0 0]] 8 rfl (World.shaped_of_RefB (by kernel_rfl) (by kernel_rfl)) (by kernel_rfl) (by kernel_rfl) (by kernel_rfl) (Ms.door_met os _)) ?_
  intro W base args ds gs before hval0 hW hcnd hsz0 hL _
  have hT := Ms.tab_of_laid hL
  have hsz : (DataW.weightsEach Tryd.prog (Tryd.f3.params.toList ++ Rows.messageChecksSpec.plain.varTypes Tryd.prog) (ds ++ gs)).all (· ≤ reachBytes) = true := hsz0
  clear hsz0
  have hval : ∀ (j : Nat) t v, Tryd.f3.params[j]? = some t → args[j]? = some v → Value.okWide Tryd.prog W .any base t v := hval0
  have hW' := hW
  obtain ⟨p, q, hA0, hV, rfl, hfz, hnd⟩ := hW
  have hA : DataW.TrodAll enc Tryd.prog W 0 (fun _ => true) true Tryd.f3.params.toList args.toList ds p := hA0
  rw [Tryd.params3] at hA hval hsz
  obtain ⟨v0, vs0, d0, ds0, p0, q0, hargs, rfl, rfl, g0, t0⟩ := trodAll_cons hA
  obtain ⟨rfl, rfl, rfl⟩ := trodAll_nil t0
  obtain rfl : args = #[v0] := by cases args; simp_all
  obtain ⟨rfl, rfl⟩ := trodVars_none hV
  obtain ⟨cs0, rfl, sz0⟩ := okWide_struct Tryd.underlying25 (hval 0 25 v0 rfl rfl)
  have m0 := g0
  have lt0 : ∀ x ∈ p0, x.block < W.heap.size := by obtain ⟨m, hm⟩ := m0; exact DataW.trod_lt m _ _ _ hm
  obtain ⟨ms0, a0, cap0, b0, cbp0, rfl, k0⟩ := Ms.msg_open sz0 g0
  clear hA0 hval0
  refine (walk ms0 a0 cap0 b0 cbp0 W hT k0).mono fun e W' ⟨he, bel⟩ => ?_
  subst he
  exact ⟨_, rfl, _, _, _, [], _, [], hW', trodAll_mk1 (shut_bool Tryd.underlying4 _), (trodAll_cons_mk (Below.trod laidOut (by kernel_rfl) (of_decide_eq_true (by kernel_rfl)) m0 bel lt0) trodAll_mk0), rfl, bel.frame _, fun h => by cases h⟩

theorem over : Rows.messageChecksRow.holds Tryd.pinned (OpenSpec.ofChange Rows.messageChecksSpec) :=
  OpenClaim.holds_of_wide 3 Tryd.f3 rfl rfl rfl rfl rfl rfl rfl ⟨rfl, rfl, rfl, rfl, rfl⟩ rfl rfl rfl rfl rfl (by kernel_rfl) Tryd.func3 (by kernel_rfl)
    (of_decide_eq_true (by kernel_rfl)) (by unfold Func.isWrapper; first | (rw [if_pos (by decide +kernel)]; kernel_rfl) | (rw [if_neg (by decide +kernel)]; exact ⟨rfl, rfl⟩))
    (fun os started H enc _ => lifted os started H enc)

theorem proved : Rows.MessageChecksCardSaid :=
  Claim7.holds_tied_plain_at .later [] [.data] true Rows.messageChecksCard.stood.harness false
    over (fun _ h => by cases h) (by kernel_rfl) (fun _ h => by cases h) messageChecks_row_tie rfl ⟨rfl, rfl⟩ (by kernel_rfl) rfl
    (fun f fn hf hfn => by
      obtain rfl : f = 3 := Option.some.inj ((show Tryd.prog.funcNamed "glebe/glebelaw12.MessageChecks" = some 3 by kernel_rfl).symm.trans hf) |>.symm
      obtain rfl : fn = Tryd.f3 := (Option.some.inj (Tryd.func3.symm.trans hfn)).symm
      exact ⟨by kernel_rfl, fun j t ht => by
        rw [Tryd.params3] at ht
        have hm : t ∈ ([25] : List TypeId) := by simpa using Array.mem_of_getElem? ht
        have hall : (([25] : List TypeId).all fun u => !Tryd.prog.wantsStandIn u) = true := by kernel_rfl
        exact (show Tryd.prog.wantsStandIn t = false by simpa using List.all_eq_true.1 hall t hm)⟩)
    (by kernel_rfl)
end Go.Proofs.YtmaebemhephcmaaDoor.messageChecks
