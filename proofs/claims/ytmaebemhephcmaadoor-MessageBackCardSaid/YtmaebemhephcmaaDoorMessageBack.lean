/- What was made of a message is read as that message. Conditions: none but those of the card: the table of the fields is as the text lays it. -/
import Derived.Test.YtmaebemhephcmaaDoorRows
import Derived.Test.YtmaebemhephcmaaDoorCards
import Derived.Test.YtmaebemhephcmaaDoorTie
import Derived.Test.YtmaebemhephcmaaDoorMsDoor
import Derived.SevenTiedAt
import Derived.LaidMore
import Derived.LaidLaws
import Derived.Handed
import Derived.Stop.Joined
import Derived.Test.YtmaebemhephcmaaDoorMsLaw
import Derived.WalkKit
import Derived.WalkLawsBesides
import Derived.ProofKit
import Derived.OpenShut
import Derived.ShutString
import Derived.ChangeOld
import Derived.Below
import Derived.SizedLaws
namespace Go.Proofs.YtmaebemhephcmaaDoor.messageBack
open Go.ChangeShapes Go.WideShapes Go.ChangeAt Go.RowKit
open Go.ChangeMaps (open_string shut_string)
set_option linter.unusedVariables false

theorem own : ownKnob Tryd.prog.godebug = none := by kernel_rfl
theorem laidOut : laidOutB Tryd.prog = true := by kernel_rfl

attribute [local go_sem ↓] Ms.loadAt_msg Ms.storeAt_msg
open Ms in
set_option maxRecDepth 100000 in
set_option maxHeartbeats 3200000 in
theorem walk (m : Ms.M) (A : Option Addr) (c : Nat) (A' : Option Addr) (c' : Nat) (w : World) (T : Ms.Tab w) (k0 : Ms.Is w w.heap.size m A c A' c') :
    Calls Tryd.prog 6 #[.agg #[.int .i64 m.K, .int .i64 m.F, .int .i64 m.T, .int .i64 m.g, .int .i64 m.t, .int .i64 m.i, .int .i64 m.p, .int .i64 m.c, .int .i64 m.r, .int .i64 m.x, .int .i64 m.a, .int .i64 m.b, .int .i64 m.v, .int .i64 m.s, .bool m.ok, .slice A m.es.length c, .slice A' m.d.length c']] w fun e w' => e = .returned (.bool true) ∧ Below w.heap.size w w' := by
  obtain ⟨w1, hw1⟩ : ∃ w1, w1 = w.alloc (.cells #[.int .i64 m.K, .int .i64 m.F, .int .i64 m.T, .int .i64 m.g, .int .i64 m.t, .int .i64 m.i, .int .i64 m.p, .int .i64 m.c, .int .i64 m.r, .int .i64 m.x, .int .i64 m.a, .int .i64 m.b, .int .i64 m.v, .int .i64 m.s, .bool m.ok, .slice A m.es.length c, .slice A' m.d.length c'] 25) := ⟨_, rfl⟩
  have hbx : Bx w1 w.heap.size m A c A' c' := ⟨by rw [hw1]; exact heap_alloc_new w _⟩
  have hb1 : Below w.heap.size w w1 := by rw [hw1]; exact (Below.refl _ w).alloc (Nat.le_refl _) _
  have hld1 := hbx.load
  have HX1 := hid (And.intro hbx hb1)
  have HT := hid T
  have HI := hid k0
  have hpos := T.pos
  have HBG := hid (bigL_any m A c A' c' w1 (k0.ents hb1) (Nat.le_trans k0.dc.1 k0.dc.2))
  obtain ⟨bg, hbg⟩ : ∃ b, b = bigM m := ⟨_, rfl⟩
  have HBB := hid hbg
  rw [← hbg] at HBG
  clear T k0 hbx hb1 hbg
  go_enter Tryd.func6, Tryd.ntmps6
  rw [hw1] at hld1
  go_wp2_with fail
  rw [← hw1]
  refine HBG.out.mono ?_
  rintro e w2 ⟨rfl, hb2⟩
  have HB2 := hid (HX1.out.2.trans (hb2.mono HX1.out.2.size))
  have HX2 := hid (HX1.out.1.below hb2 (row_lt HX1.out.1.row))
  have hld2 := HX2.out.load
  clear hb2 hld1
  cases bg
  rotate_left
  · go_wp2_with fail
    refine (works_N w w2 HT.out HB2.out).mono ?_
    rintro e w3 ⟨rfl, hb3⟩
    have HB3 := hid hb3
    clear hb3 hld2
    go_wp2_with fail
    go_ret
    exact ⟨rfl, HB3.out⟩
  · obtain ⟨hs, _, _, _⟩ := big_small HBB.out.symm
    have HS := hid hs
    have hw2 : w.heap.size ≤ w2.heap.size := HB2.out.size
    have HI2 := hid ((HI.out.below HB2.out).more hw2)
    have HT2 := hid (HT.out.below HB2.out hpos)
    clear hs
    by_cases hc : check m = 0
    · obtain ⟨n, hn⟩ : ∃ n, n = (Fr.frame m.enc).length := ⟨_, rfl⟩
      have hn2 : n ≤ 65544 := by rw [hn]; exact frame_le hc
      have HP := hid (put_ok m A c A' c' w2 HI2.out HT2.out HS.out hc n hn.symm)
      have HN := hid hn
      have HC := hid hc
      clear hc hn
      go_wp2_with fail
      refine HP.out.mono ?_
      rintro e w3 ⟨A2, c2, rfl, ho, hb3⟩
      have HB3 := hid (HB2.out.trans (hb3.mono hw2))
      have HX3 := hid (HX2.out.below hb3 (row_lt HX2.out.row))
      have hcap := ho.cap
      rw [← HN.out] at hcap
      have HG := hid (get_is (Fr.frame m.enc) A2 c2 n HN.out.symm w3 ho.reads ho.none_ hcap (by omega) (HT.out.below HB3.out hpos) m 0 (back0 HI.out.wf HS.out HC.out) 0 rfl)
      clear hb3 ho hld2 HP
      go_wp2_with fail
      refine HG.out.mono ?_
      rintro e w4 ⟨A5, c5, A6, c6, rfl, hom, hb4⟩
      obtain ⟨w5, hw5⟩ : ∃ w5, w5 = w4.alloc (.cells #[.int .i64 m.K, .int .i64 m.F, .int .i64 m.T, .int .i64 m.g, .int .i64 m.t, .int .i64 m.i, .int .i64 m.p, .int .i64 m.c, .int .i64 m.r, .int .i64 m.x, .int .i64 m.a, .int .i64 m.b, .int .i64 m.v, .int .i64 m.s, .bool m.ok, .slice A5 m.es.length c5, .slice A6 m.d.length c6] 25) := ⟨_, rfl⟩
      have hst := st_new w4 #[.int .i64 0, .int .i64 0, .int .i64 0, .int .i64 0, .int .i64 0, .int .i64 0, .int .i64 0, .int .i64 0, .int .i64 0, .int .i64 0, .int .i64 0, .int .i64 0, .int .i64 0, .int .i64 0, .bool false, .slice none 0 0, .slice none 0 0] #[.int .i64 m.K, .int .i64 m.F, .int .i64 m.T, .int .i64 m.g, .int .i64 m.t, .int .i64 m.i, .int .i64 m.p, .int .i64 m.c, .int .i64 m.r, .int .i64 m.x, .int .i64 m.a, .int .i64 m.b, .int .i64 m.v, .int .i64 m.s, .bool m.ok, .slice A5 m.es.length c5, .slice A6 m.d.length c6] rfl rfl (msg_one m A5 c5 A6 c6)
      rw [← hw5] at hst
      have hb5 : Below w4.heap.size w4 w5 := by rw [hw5]; exact (Below.refl _ w4).alloc (Nat.le_refl _) _
      have hbx5 : Bx w5 w4.heap.size m A5 c5 A6 c6 := ⟨by rw [hw5]; exact heap_alloc_new w4 _⟩
      have HB4 := hid (HB3.out.trans (hb4.mono HB3.out.size))
      have HB5 := hid (HB4.out.trans (hb5.mono HB4.out.size))
      have HX5 := hid ((HX3.out.below hb4 (row_lt HX3.out.row)).below hb5 (by have := row_lt HX3.out.row; have := hb4.size; omega))
      have hom5 := hom.below hb5
      have hld5 := hbx5.load
      have hld5' := HX5.out.load
      have HSA := hid (same_yes m A5 c5 A6 c6 A c A' c' w5 hom5.es.reads (HI.out.ents HB5.out) hom5.d.reads (HI.out.data HB5.out) HS.out)
      clear hb4 hb5 hom hom5 hbx5 hw5
      go_wp2_with fail
      refine HSA.out.mono ?_
      rintro e w6 ⟨rfl, hb6⟩
      have HB6 := hid (HB5.out.trans (hb6.mono HB5.out.size))
      have HX6 := hid (HX5.out.below hb6 (row_lt HX5.out.row))
      have hld6 := HX6.out.load
      have HCK := check_any m A c A' c' w6 (HI.out.inp HS.out (HT.out.below HB6.out hpos) HB6.out)
      rw [HC.out] at HCK
      have HCC := hid HCK
      clear hb6 hld5 hld5' hst HCK HSA
      go_wp2_with fail
      refine HCC.out.mono ?_
      rintro e w7 ⟨rfl, hb7⟩
      have HB7 := hid (HB6.out.trans (hb7.mono HB6.out.size))
      clear hb7 hld6
      go_wp2_with fail
      refine (works_N w w7 HT.out HB7.out).mono ?_
      rintro e w8 ⟨rfl, hb8⟩
      have HB8 := hid hb8
      clear hb8
      go_wp2_with fail
      go_ret
      exact ⟨rfl, HB8.out⟩
    · obtain ⟨v, hv⟩ : ∃ v : Int, v = ((check m : Nat) : Int) := ⟨_, rfl⟩
      have hv0 : v ≠ 0 := by rw [hv]; omega
      have HP := hid (put_err m A c A' c' w2 HI2.out HT2.out HS.out hc v hv.symm)
      have HV := hid hv
      clear hc hv
      go_wp2_with fail
      refine HP.out.mono ?_
      rintro e w3 ⟨A2, c2, rfl, hb3⟩
      have HB3 := hid (HB2.out.trans (hb3.mono hw2))
      have HX3 := hid (HX2.out.below hb3 (row_lt HX2.out.row))
      have hld3 := HX3.out.load
      have HCK := check_any m A c A' c' w3 (HI.out.inp HS.out (HT.out.below HB3.out hpos) HB3.out)
      rw [← HV.out] at HCK
      have HCC := hid HCK
      clear hb3 hld2 HP HCK
      go_wp2_with fail
      refine HCC.out.mono ?_
      rintro e w7 ⟨rfl, hb7⟩
      have HB7 := hid (HB3.out.trans (hb7.mono HB3.out.size))
      clear hb7 hld3
      go_wp2_with fail
      refine (works_N w w7 HT.out HB7.out).mono ?_
      rintro e w8 ⟨rfl, hb8⟩
      have HB8 := hid hb8
      clear hb8
      go_wp2_with fail
      go_ret
      exact ⟨rfl, HB8.out⟩

set_option maxRecDepth 100000 in
theorem lifted (os : Os) (started : os.Started) (H : Type) (enc : TypeId × Value → H) :
    ReturnsInHanded {} Tryd.checked os 6 .any (fun w args => (Rows.messageBackSpec.pre enc Tryd.prog Tryd.f6 [] false w args ∧ laidMetH Tryd.prog Ms.laid w) ∧ sizedMet enc Tryd.prog Tryd.f6 (OpenSpec.ofChange Rows.messageBackSpec) false w args) (Rows.messageBackSpec.post enc Tryd.prog Tryd.f6 false true false false) := by
  refine returnsInHanded_of_change_and (C := Tryd.checked) (X := fun w _ => laidMetH Tryd.prog Ms.laid w) (fun _ _ _ hh h => h.of_heap hh) own started (by kernel_rfl) Tryd.func6
    (ChangeSpec.witness_shaped (enc := enc) (C := Tryd.checked) (os := os) (X := fun w _ => laidMetH Tryd.prog Ms.laid w) false (World.doorLaid Tryd.prog 400 os) #[.agg #[.int .i64 0, .int .i64 0, .int .i64 0, .int .i64 0, .int .i64 0, .int .i64 0, .int .i64 0, .int .i64 0, .int .i64 0, .int .i64 0, .int .i64 0, .int .i64 0, .int .i64 0, .int .i64 0, .bool false, .slice none 0 0, .slice none 0 0]] 8 rfl (World.shaped_of_RefB (by kernel_rfl) (by kernel_rfl)) (by kernel_rfl) (by kernel_rfl) (by kernel_rfl) (Ms.door_met os _)) ?_
  intro W base args ds gs before hval0 hW hcnd hsz0 hL _
  have hT := Ms.tab_of_laid hL
  have hsz : (DataW.weightsEach Tryd.prog (Tryd.f6.params.toList ++ Rows.messageBackSpec.plain.varTypes Tryd.prog) (ds ++ gs)).all (· ≤ reachBytes) = true := hsz0
  clear hsz0
  have hval : ∀ (j : Nat) t v, Tryd.f6.params[j]? = some t → args[j]? = some v → Value.okWide Tryd.prog W .any base t v := hval0
  have hW' := hW
  obtain ⟨p, q, hA0, hV, rfl, hfz, hnd⟩ := hW
  have hA : DataW.TrodAll enc Tryd.prog W 0 (fun _ => true) true Tryd.f6.params.toList args.toList ds p := hA0
  rw [Tryd.params6] at hA hval hsz
  obtain ⟨v0, vs0, d0, ds0, p0, q0, hargs, rfl, rfl, g0, t0⟩ := trodAll_cons hA
  obtain ⟨rfl, rfl, rfl⟩ := trodAll_nil t0
  obtain rfl : args = #[v0] := by cases args; simp_all
  obtain ⟨rfl, rfl⟩ := trodVars_none hV
  obtain ⟨cs0, rfl, sz0⟩ := okWide_struct Tryd.underlying25 (hval 0 25 v0 rfl rfl)
  have m0 := g0
  have lt0 : ∀ x ∈ p0, x.block < W.heap.size := by obtain ⟨m, hm⟩ := m0; exact DataW.trod_lt m _ _ _ hm
  obtain ⟨ms0, a0, cap0, b0, cbp0, rfl, k0⟩ := Ms.msg_open sz0 g0
  clear hA0 hval0
  refine (walk ms0 a0 cap0 b0 cbp0 W hT k0).mono fun e W' ⟨he, bel⟩ => ?_
  subst he
  exact ⟨_, rfl, _, _, _, [], _, [], hW', trodAll_mk1 (shut_bool Tryd.underlying4 _), (trodAll_cons_mk (Below.trod laidOut (by kernel_rfl) (of_decide_eq_true (by kernel_rfl)) m0 bel lt0) trodAll_mk0), rfl, bel.frame _, fun h => by cases h⟩

theorem over : Rows.messageBackRow.holds Tryd.pinned (OpenSpec.ofChange Rows.messageBackSpec) :=
  OpenClaim.holds_of_wide 6 Tryd.f6 rfl rfl rfl rfl rfl rfl rfl ⟨rfl, rfl, rfl, rfl, rfl⟩ rfl rfl rfl rfl rfl (by kernel_rfl) Tryd.func6 (by kernel_rfl)
    (of_decide_eq_true (by kernel_rfl)) (by unfold Func.isWrapper; first | (rw [if_pos (by decide +kernel)]; kernel_rfl) | (rw [if_neg (by decide +kernel)]; exact ⟨rfl, rfl⟩))
    (fun os started H enc _ => lifted os started H enc)

theorem proved : Rows.MessageBackCardSaid :=
  Claim7.holds_tied_plain_at .later [] [.data] true Rows.messageBackCard.stood.harness false
    over (fun _ h => by cases h) (by kernel_rfl) (fun _ h => by cases h) messageBack_row_tie rfl ⟨rfl, rfl⟩ (by kernel_rfl) rfl
    (fun f fn hf hfn => by
      obtain rfl : f = 6 := Option.some.inj ((show Tryd.prog.funcNamed "glebe/glebelaw12.MessageBack" = some 6 by kernel_rfl).symm.trans hf) |>.symm
      obtain rfl : fn = Tryd.f6 := (Option.some.inj (Tryd.func6.symm.trans hfn)).symm
      exact ⟨by kernel_rfl, fun j t ht => by
        rw [Tryd.params6] at ht
        have hm : t ∈ ([25] : List TypeId) := by simpa using Array.mem_of_getElem? ht
        have hall : (([25] : List TypeId).all fun u => !Tryd.prog.wantsStandIn u) = true := by kernel_rfl
        exact (show Tryd.prog.wantsStandIn t = false by simpa using List.all_eq_true.1 hall t hm)⟩)
    (by kernel_rfl)
end Go.Proofs.YtmaebemhephcmaaDoor.messageBack
