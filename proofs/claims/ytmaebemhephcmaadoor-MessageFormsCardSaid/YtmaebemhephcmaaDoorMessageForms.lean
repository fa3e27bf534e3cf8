/- What is read of any bytes may be a message, and is made into the same bytes. Conditions: none but those of the card: the table of the fields is as the text lays it. -/
import Derived.Test.YtmaebemhephcmaaDoorRows
import Derived.Test.YtmaebemhephcmaaDoorCards
import Derived.Test.YtmaebemhephcmaaDoorTie
import Derived.Test.YtmaebemhephcmaaDoorMsDoor
import Derived.SevenTiedAt
import Derived.LaidMore
import Derived.LaidLaws
import Derived.Handed
import Derived.Stop.Joined
import Derived.Test.YtmaebemhephcmaaDoorMsLaw
import Derived.Test.YtmaebemhephcmaaDoorMsMath4
import Derived.WalkKit
import Derived.WalkLawsBesides
import Derived.ProofKit
import Derived.OpenShut
import Derived.ShutString
import Derived.ChangeOld
import Derived.Below
import Derived.SizedLaws
namespace Go.Proofs.YtmaebemhephcmaaDoor.messageForms
open Go.ChangeShapes Go.WideShapes Go.ChangeAt Go.RowKit
open Go.ChangeMaps (open_string shut_string)
set_option linter.unusedVariables false

theorem own : ownKnob Tryd.prog.godebug = none := by kernel_rfl
theorem laidOut : laidOutB Tryd.prog = true := by kernel_rfl
theorem bytesOf : Tryd.prog.bytesOf 5 = 1 := by kernel_rfl

attribute [local go_sem ↓] Ms.loadAt_msg Ms.storeAt_msg
open Ms in
set_option maxRecDepth 100000 in
set_option maxHeartbeats 3200000 in
theorem walk (A0 : Option Addr) (c0 : Nat) (l : List Nat) (w : World) (T : Ms.Tab w) (k0 : IsBytes w w.heap.size A0 l) (n0 : l.length ≤ c0) (r0 : c0 ≤ 140737488351232) (z0 : A0 = none → c0 = 0) :
    Calls Tryd.prog 7 #[.slice A0 l.length c0] w fun e w' => e = .returned (.bool true) ∧ Below w.heap.size w w' := by
  have HT := hid T
  have HI := hid k0
  have hpos := T.pos
  have hsm := k0.small
  have HSM := hid hsm
  clear T hsm
  by_cases hbig : 131072 < l.length
  · go_enter Tryd.func7, Tryd.ntmps7
    go_wp2_with fail
    refine (works_N w w HT.out (Below.refl _ _)).mono ?_
    rintro e w3 ⟨rfl, hb3⟩
    have HB3 := hid hb3
    clear hb3
    go_wp2_with fail
    go_ret
    exact ⟨rfl, HB3.out⟩
  obtain ⟨n, hn⟩ : ∃ n, n = l.length := ⟨_, rfl⟩
  rw [← hn] at n0 hbig ⊢
  obtain ⟨m, e0, hg⟩ : ∃ m e0, get l = (m, e0) := ⟨_, _, rfl⟩
  obtain ⟨v, hv⟩ : ∃ v : Int, v = (e0 : Int) := ⟨_, rfl⟩
  have HG := hid (get_is l A0 c0 n hn.symm w k0 z0 n0 (by omega) HT.out m e0 hg v hv.symm)
  have HGG := hid hg
  have HN := hid hn
  have HV := hid hv
  clear k0 hg hn hv
  go_enter Tryd.func7, Tryd.ntmps7
  go_wp2_with fail
  refine HG.out.mono ?_
  rintro e w1 ⟨A, c, A', c', rfl, hom, hb1⟩
  obtain ⟨w2, hw2⟩ : ∃ w2, w2 = w1.alloc (.cells #[.int .i64 m.K, .int .i64 m.F, .int .i64 m.T, .int .i64 m.g, .int .i64 m.t, .int .i64 m.i, .int .i64 m.p, .int .i64 m.c, .int .i64 m.r, .int .i64 m.x, .int .i64 m.a, .int .i64 m.b, .int .i64 m.v, .int .i64 m.s, .bool m.ok, .slice A m.es.length c, .slice A' m.d.length c'] 25) := ⟨_, rfl⟩
  have hst := st_new w1 #[.int .i64 0, .int .i64 0, .int .i64 0, .int .i64 0, .int .i64 0, .int .i64 0, .int .i64 0, .int .i64 0, .int .i64 0, .int .i64 0, .int .i64 0, .int .i64 0, .int .i64 0, .int .i64 0, .bool false, .slice none 0 0, .slice none 0 0] #[.int .i64 m.K, .int .i64 m.F, .int .i64 m.T, .int .i64 m.g, .int .i64 m.t, .int .i64 m.i, .int .i64 m.p, .int .i64 m.c, .int .i64 m.r, .int .i64 m.x, .int .i64 m.a, .int .i64 m.b, .int .i64 m.v, .int .i64 m.s, .bool m.ok, .slice A m.es.length c, .slice A' m.d.length c'] rfl rfl (msg_one m A c A' c')
  rw [← hw2] at hst
  have hb2 : Below w1.heap.size w1 w2 := by rw [hw2]; exact (Below.refl _ w1).alloc (Nat.le_refl _) _
  have hbx2 : Bx w2 w1.heap.size m A c A' c' := ⟨by rw [hw2]; exact heap_alloc_new w1 _⟩
  have hld2 := hbx2.load
  have HB2 := hid (hb1.trans (hb2.mono hb1.size))
  have hom2 := hom.below hb2
  have HX2 := hid (And.intro hbx2 hom2)
  clear hb1 hb2 hom hom2 hbx2 hw2
  by_cases he : e0 = 0
  · have hv0 : v = 0 := by rw [HV.out, he]; rfl
    have hfr := get_only (m := m) (b := l) (by rw [HGG.out, he]) HSM.out
    have hcl := frame_le hfr.2
    have hsmall : Small m := by
      obtain ⟨_, _, _, h4, h5⟩ := check_zero hfr.2
      unfold M.size at h5
      exact ⟨by omega, by omega, by omega⟩
    have HFR := hid hfr
    have hIs : Is w2 w2.heap.size m A c A' c' := ⟨HX2.out.2.num, HX2.out.2.es.reads, HX2.out.2.es.room, HX2.out.2.es.none_, HX2.out.2.d.reads, HX2.out.2.d.room, HX2.out.2.d.none_⟩
    have HP := hid (put_ok m A c A' c' w2 hIs (HT.out.below HB2.out hpos) hsmall hfr.2 n (by rw [hfr.1]; exact HN.out.symm))
    clear he hfr hsmall hIs hcl
    subst hv0
    go_wp2_with fail
    refine HP.out.mono ?_
    rintro e w3 ⟨A5, c5, rfl, ho, hb3⟩
    have HB3 := hid (HB2.out.trans (hb3.mono HB2.out.size))
    rw [HFR.out.1] at ho
    have HSA := hid (same_T w3.heap.size w3.heap.size A5 A0 c5 c0 l n HN.out.symm (by unfold maxLen; omega) w3 ho.reads ((HI.out.below HB3.out).more HB3.out.size))
    clear ho hb3 hld2 hst HP
    go_wp2_with fail
    refine HSA.out.mono ?_
    rintro e w4 ⟨rfl, j, hj⟩
    have HB4 : Hid (Below w.heap.size w w4) := hid (by rw [hj]; exact below_drewN HB3.out j)
    clear hj HSA
    go_wp2_with fail
    refine (works_N w w4 HT.out HB4.out).mono ?_
    rintro e w5 ⟨rfl, hb5⟩
    have HB5 := hid hb5
    clear hb5
    go_wp2_with fail
    go_ret
    exact ⟨rfl, HB5.out⟩
  · have hv0 : v ≠ 0 := by rw [HV.out]; omega
    have hm0 : m = M0 := by
      have h1 := HGG.out
      unfold Ms.get checked at h1
      split at h1
      · injection h1 with h1 _; exact h1.symm
      · split at h1
        · injection h1 with h1 _; exact h1.symm
        · split at h1
          · injection h1 with h1 _; exact h1.symm
          · split at h1
            · injection h1 with h1 _; exact h1.symm
            · injection h1 with _ h1; exact absurd h1.symm he
    have HSA := hid (same_yes M0 A c A' c' none 0 none 0 w2 (by rw [← hm0]; exact HX2.out.2.es.reads) IsEnts.nil (by rw [← hm0]; exact HX2.out.2.d.reads) IsBytes.nil M0_small)
    subst hm0
    clear he
    go_wp2_with fail
    refine HSA.out.mono ?_
    rintro e w3 ⟨rfl, hb3⟩
    have HB3 := hid (HB2.out.trans (hb3.mono HB2.out.size))
    clear hb3 hld2 hst
    go_wp2_with fail
    refine (works_N w w3 HT.out HB3.out).mono ?_
    rintro e w5 ⟨rfl, hb5⟩
    have HB5 := hid hb5
    clear hb5
    go_wp2_with fail
    go_ret
    exact ⟨rfl, HB5.out⟩

set_option maxRecDepth 100000 in
theorem lifted (os : Os) (started : os.Started) (H : Type) (enc : TypeId × Value → H) :
    ReturnsInHanded {} Tryd.checked os 7 .any (fun w args => (Rows.messageFormsSpec.pre enc Tryd.prog Tryd.f7 [] false w args ∧ laidMetH Tryd.prog Ms.laid w) ∧ sizedMet enc Tryd.prog Tryd.f7 (OpenSpec.ofChange Rows.messageFormsSpec) false w args) (Rows.messageFormsSpec.post enc Tryd.prog Tryd.f7 false true false false) := by
  refine returnsInHanded_of_change_and (C := Tryd.checked) (X := fun w _ => laidMetH Tryd.prog Ms.laid w) (fun _ _ _ hh h => h.of_heap hh) own started (by kernel_rfl) Tryd.func7
    (ChangeSpec.witness_shaped (enc := enc) (C := Tryd.checked) (os := os) (X := fun w _ => laidMetH Tryd.prog Ms.laid w) false (World.doorLaid Tryd.prog 400 os) #[.slice none 0 0] 8 rfl (World.shaped_of_RefB (by kernel_rfl) (by kernel_rfl)) (by kernel_rfl) (by kernel_rfl) (by kernel_rfl) (Ms.door_met os _)) ?_
  intro W base args ds gs before hval0 hW hcnd hsz0 hL _
  have hT := Ms.tab_of_laid hL
  have hsz : (DataW.weightsEach Tryd.prog (Tryd.f7.params.toList ++ Rows.messageFormsSpec.plain.varTypes Tryd.prog) (ds ++ gs)).all (· ≤ reachBytes) = true := hsz0
  clear hsz0
  have hval : ∀ (j : Nat) t v, Tryd.f7.params[j]? = some t → args[j]? = some v → Value.okWide Tryd.prog W .any base t v := hval0
  have hW' := hW
  obtain ⟨p, q, hA0, hV, rfl, hfz, hnd⟩ := hW
  have hA : DataW.TrodAll enc Tryd.prog W 0 (fun _ => true) true Tryd.f7.params.toList args.toList ds p := hA0
  rw [Tryd.params7] at hA hval hsz
  obtain ⟨v0, vs0, d0, ds0, p0, q0, hargs, rfl, rfl, g0, t0⟩ := trodAll_cons hA
  obtain ⟨rfl, rfl, rfl⟩ := trodAll_nil t0
  obtain rfl : args = #[v0] := by cases args; simp_all
  obtain ⟨rfl, rfl⟩ := trodVars_none hV
  obtain ⟨a0, len0, cap0, rfl⟩ := okWide_slice Tryd.underlying23 (hval 0 23 v0 rfl rfl)
  have m0 := g0
  have lt0 : ∀ x ∈ p0, x.block < W.heap.size := by obtain ⟨m, hm⟩ := m0; exact DataW.trod_lt m _ _ _ hm
  obtain ⟨l0, k0, rfl, n0, r0, z0⟩ : ∃ l, IsBytes W W.heap.size a0 l ∧ len0 = l.length ∧ l.length ≤ cap0 ∧ cap0 ≤ 140737488351232 ∧ (a0 = none → cap0 = 0) := by
    obtain ⟨fuel, hf⟩ := g0
    rcases open_ints Tryd.underlying23 Tryd.underlying5 (by kernel_rfl) hf with ⟨hcs, _⟩ | ⟨x, l, c, zs, hcs, _, hl, hm, hz, hx, hcell, hwz⟩
    · simp [Value.cells] at hcs
      obtain ⟨rfl, rfl, rfl⟩ := hcs
      exact ⟨[], IsBytes.nil, rfl, by simp, by omega, fun _ => rfl⟩
    · simp [Value.cells] at hcs
      obtain ⟨rfl, rfl, rfl⟩ := hcs
      simp only [Prod.mk.injEq] at hx
      obtain ⟨rfl, rfl⟩ := hx
      simp only [if_true] at hz
      have hr := sized_slice hsz (j := 0) (t := 23) (e := 5) rfl rfl Tryd.underlying23
      rw [bytesOf] at hr
      simp only [lits, List.length_map, List.length_take, List.length_drop, reachBytes] at hr
      obtain ⟨l, h1, h2⟩ := isBytes_of_ints hl hz hcell hwz
      exact ⟨l, h1, h2, by omega, by omega, fun h => by cases h⟩
  clear hA0 hval0
  refine (walk a0 cap0 l0 W hT k0 n0 r0 z0).mono fun e W' ⟨he, bel⟩ => ?_
  subst he
  exact ⟨_, rfl, _, _, _, [], _, [], hW', trodAll_mk1 (shut_bool Tryd.underlying4 _), (trodAll_cons_mk (Below.trod laidOut (by kernel_rfl) (of_decide_eq_true (by kernel_rfl)) m0 bel lt0) trodAll_mk0), rfl, bel.frame _, fun h => by cases h⟩

theorem over : Rows.messageFormsRow.holds Tryd.pinned (OpenSpec.ofChange Rows.messageFormsSpec) :=
  OpenClaim.holds_of_wide 7 Tryd.f7 rfl rfl rfl rfl rfl rfl rfl ⟨rfl, rfl, rfl, rfl, rfl⟩ rfl rfl rfl rfl rfl (by kernel_rfl) Tryd.func7 (by kernel_rfl)
    (of_decide_eq_true (by kernel_rfl)) (by unfold Func.isWrapper; first | (rw [if_pos (by decide +kernel)]; kernel_rfl) | (rw [if_neg (by decide +kernel)]; exact ⟨rfl, rfl⟩))
    (fun os started H enc _ => lifted os started H enc)

theorem proved : Rows.MessageFormsCardSaid :=
  Claim7.holds_tied_plain_at .later [] [.data] true Rows.messageFormsCard.stood.harness false
    over (fun _ h => by cases h) (by kernel_rfl) (fun _ h => by cases h) messageForms_row_tie rfl ⟨rfl, rfl⟩ (by kernel_rfl) rfl
    (fun f fn hf hfn => by
      obtain rfl : f = 7 := Option.some.inj ((show Tryd.prog.funcNamed "glebe/glebelaw12.MessageForms" = some 7 by kernel_rfl).symm.trans hf) |>.symm
      obtain rfl : fn = Tryd.f7 := (Option.some.inj (Tryd.func7.symm.trans hfn)).symm
      exact ⟨by kernel_rfl, fun j t ht => by
        rw [Tryd.params7] at ht
        have hm : t ∈ ([23] : List TypeId) := by simpa using Array.mem_of_getElem? ht
        have hall : (([23] : List TypeId).all fun u => !Tryd.prog.wantsStandIn u) = true := by kernel_rfl
        exact (show Tryd.prog.wantsStandIn t = false by simpa using List.all_eq_true.1 hall t hm)⟩)
    (by kernel_rfl)
end Go.Proofs.YtmaebemhephcmaaDoor.messageForms
