/- Texts of the proof, one behind the other: MessageChecks, MsMath5, KitPick, MessageTurned, MsRefH. -/
import Derived.Test.YtpigekbfngalbaaDoorRows
import Derived.Test.YtpigekbfngalbaaDoorCards
import Derived.Test.YtpigekbfngalbaaDoorTie
import Derived.Test.YtpigekbfngalbaaDoorPartAH
import Derived.SevenTiedAt
import Derived.LaidMore
import Derived.LaidLaws
import Derived.Handed
import Derived.Stop.Joined
import Derived.Test.YtpigekbfngalbaaDoorPartAI
import Derived.Test.YtpigekbfngalbaaDoorPartAJ
import Derived.Deep.RegionHeld3
import Derived.WalkKit
import Derived.WalkLawsBesides
import Derived.ProofKit
import Derived.OpenShut
import Derived.ShutString
import Derived.ChangeOld
import Derived.Below
import Derived.SizedLaws
import Derived.Test.YtpigekbfngalbaaDoorPartAA
import Derived.Deep.QuietTactic
import Derived.BigQuiet
import Derived.Test.YtpigekbfngalbaaDoorPartAK
namespace Go.Proofs.YtpigekbfngalbaaDoor.messageChecks
open Go.ChangeShapes Go.WideShapes Go.ChangeAt Go.RowKit
open Go.ChangeMaps (open_string shut_string)
set_option linter.unusedVariables false

theorem own : ownKnob Tryd.prog.godebug = none := by kernel_rfl
theorem laidOut : laidOutB Tryd.prog = true := by kernel_rfl

attribute [local go_sem ↓] Ms.loadAt_msg Ms.storeAt_msg
/-- a load that a region must not take first -/
def loadC : Op := Op.load 25 (Operand.tmp 1)
/-- a step behind a closed guard -/
def stepC : Op := Op.move (Operand.tmp 13)
def stepD : Op := Op.binOp BinOp.eql 28 (Operand.tmp 10) (Operand.tmp 12) 28
def stepE : Op := Op.pick (Operand.tmp 14) (Operand.tmp 15) (Operand.const (Value.bool false))
open Ms in
set_option maxRecDepth 100000 in
set_option maxHeartbeats 3200000 in
theorem walk (m : Ms.M) (A : Option Addr) (c : Nat) (A' : Option Addr) (c' : Nat) (w : World) (T : Ms.Tab w) (k0 : Ms.Is w w.heap.size m A c A' c') :
    Calls Tryd.prog 3 #[.agg #[.int .i64 m.K, .int .i64 m.F, .int .i64 m.T, .int .i64 m.g, .int .i64 m.t, .int .i64 m.i, .int .i64 m.p, .int .i64 m.c, .int .i64 m.r, .int .i64 m.x, .int .i64 m.a, .int .i64 m.b, .int .i64 m.v, .int .i64 m.s, .bool m.ok, .slice A m.es.length c, .slice A' m.d.length c']] w fun e w' => e = .returned (.bool true) ∧ Below w.heap.size w w' := by
  obtain ⟨w1, hw1⟩ : ∃ w1, w1 = w.alloc (.cells #[.int .i64 m.K, .int .i64 m.F, .int .i64 m.T, .int .i64 m.g, .int .i64 m.t, .int .i64 m.i, .int .i64 m.p, .int .i64 m.c, .int .i64 m.r, .int .i64 m.x, .int .i64 m.a, .int .i64 m.b, .int .i64 m.v, .int .i64 m.s, .bool m.ok, .slice A m.es.length c, .slice A' m.d.length c'] 25) := ⟨_, rfl⟩
  have hbx : Bx w1 w.heap.size m A c A' c' := ⟨by rw [hw1]; exact heap_alloc_new w _⟩
  have hb1 : Below w.heap.size w w1 := by rw [hw1]; exact (Below.refl _ w).alloc (Nat.le_refl _) _
  have HX1 := hid (And.intro hbx hb1)
  have HT := hid T
  have HI := hid k0
  have hpos := T.pos
  have HBG := hid (bigL_any m A c A' c' w1.drew (k0.ents hb1.drew) (Nat.le_trans k0.dc.1 k0.dc.2))
  obtain ⟨bg, hbg⟩ : ∃ b, b = bigM m := ⟨_, rfl⟩
  have HBB := hid hbg
  rw [← hbg] at HBG
  clear T k0 hbx hb1 hbg
  have HX : Hid (∀ wz, Below w1.heap.size w1 wz → (ldMsg (.pointer (some ⟨w.heap.size, 0, none⟩))).run Tryd.prog wz = .ok (.agg #[.int .i64 m.K, .int .i64 m.F, .int .i64 m.T, .int .i64 m.g, .int .i64 m.t, .int .i64 m.i, .int .i64 m.p, .int .i64 m.c, .int .i64 m.r, .int .i64 m.x, .int .i64 m.a, .int .i64 m.b, .int .i64 m.v, .int .i64 m.s, .bool m.ok, .slice A m.es.length c, .slice A' m.d.length c']) wz) := hid fun wz hb => (HX1.out.1.below hb (row_lt HX1.out.1.row)).load
  have hopC : loadC = Op.load 25 (Operand.tmp 1) := rfl
  have hopS : stepC = Op.move (Operand.tmp 13) := rfl
  have hopD : stepD = Op.binOp BinOp.eql 28 (Operand.tmp 10) (Operand.tmp 12) 28 := rfl
  have hopE : stepE = Op.pick (Operand.tmp 14) (Operand.tmp 15) (Operand.const (Value.bool false)) := rfl
  cases bg
  rotate_left
  · go_enter Tryd.func3, Tryd.ntmps3
    go_wp2_with fail
    rw [← hw1]
    clear hw1
    rw [← hopC, ← hopS, ← hopD, ← hopE]
    have hld1 := HX.out _ (Below.refl _ w1).drew
    go_region_held3 (fun w' => True)
      (first | exact trivial | fail)
      (first
        | (go_at_call 11; refine HBG.out.mono ?_; rintro e w2 ⟨rfl, hb2⟩; have HB2 := hid (HX1.out.2.drew.trans (hb2.mono HX1.out.2.size)); have hld2 := HX.out w2 ((Below.refl _ w1).drew.trans hb2); clear hb2)
        | (go_at_call 12; refine (works_N w w2 HT.out HB2.out).mono ?_; rintro e w3 ⟨rfl, hb3⟩; have HB3 := hid hb3; clear hb3 HT)
        | (refine Eq.mpr (if_neg Bool.false_ne_true) ?_)
        | fail)
    all_goals
      clear hld1 hld2 hopC hopS hopD hopE
      go_wp2_with fail
      go_ret
      exact ⟨rfl, HB3.out⟩
  obtain ⟨hs, _, _, _⟩ := big_small HBB.out.symm
  have HS := hid hs
  clear hs
  obtain ⟨v, hv⟩ : ∃ v : Int, v = ((check m : Nat) : Int) := ⟨_, rfl⟩
  have HC : Hid (∀ wz, Below w.heap.size w wz → Calls Tryd.prog 13 #[.agg #[.int .i64 m.K, .int .i64 m.F, .int .i64 m.T, .int .i64 m.g, .int .i64 m.t, .int .i64 m.i, .int .i64 m.p, .int .i64 m.c, .int .i64 m.r, .int .i64 m.x, .int .i64 m.a, .int .i64 m.b, .int .i64 m.v, .int .i64 m.s, .bool m.ok, .slice A m.es.length c, .slice A' m.d.length c']] wz fun e w' => e = .returned (.int .i64 v) ∧ Below wz.heap.size wz w') := hid fun wz hb => by
    rw [hv]
    exact check_any m A c A' c' wz (HI.out.inp HS.out (HT.out.below hb hpos) hb)
  have HR : Hid (∀ wz, Below w.heap.size w wz → Calls Tryd.prog 14 #[.agg #[.int .i64 m.K, .int .i64 m.F, .int .i64 m.T, .int .i64 m.g, .int .i64 m.t, .int .i64 m.i, .int .i64 m.p, .int .i64 m.c, .int .i64 m.r, .int .i64 m.x, .int .i64 m.a, .int .i64 m.b, .int .i64 m.v, .int .i64 m.s, .bool m.ok, .slice A m.es.length c, .slice A' m.d.length c']] wz fun e w' => e = .returned (.int .i64 v) ∧ Below wz.heap.size wz w') := hid fun wz hb => by
    rw [hv]
    exact rcheck_any m A c A' c' wz ((HI.out.below hb).more hb.size) HS.out
  clear hv
  go_enter Tryd.func3, Tryd.ntmps3
  go_wp2_with fail
  rw [← hw1]
  clear hw1
  rw [← hopC]
  have hld1 := HX.out _ (Below.refl _ w1).drew
  go_region_held3 (fun w' => True)
    (first | exact trivial | fail)
    (first
      | (go_at_call 11; refine HBG.out.mono ?_; rintro e w2 ⟨rfl, hb2⟩; have HB2 := hid (HX1.out.2.drew.trans (hb2.mono HX1.out.2.size)); have HC2 := hid ((Below.refl _ w1).drew.trans hb2); have hld2 := HX.out w2 ((Below.refl _ w1).drew.trans hb2); clear hb2)
      | (go_at_call 13; refine (HC.out w2 HB2.out).mono ?_; rintro e w3 ⟨rfl, hb3⟩; have HB3 := hid (HB2.out.trans (hb3.mono HB2.out.size)); have hld3 := HX.out w3 (HC2.out.trans (hb3.mono HC2.out.size)); clear hb3)
      | (go_at_call 14; refine (HR.out w3 HB3.out).mono ?_; rintro e w4 ⟨rfl, hb4⟩; have HB4 := hid (HB3.out.trans (hb4.mono HB3.out.size)); clear hb4)
      | (go_at_call 12; refine (works_N w w4 HT.out HB4.out).mono ?_; rintro e w5 ⟨rfl, hb5⟩; have HB5 := hid hb5; clear hb5))
  all_goals
    clear hld1 hld2 hld3 hopC
    go_wp2_with fail
    go_ret
    exact ⟨rfl, HB5.out⟩

set_option maxRecDepth 100000 in
theorem lifted (os : Os) (started : os.Started) (H : Type) (enc : TypeId × Value → H) :
    ReturnsInHanded {} Tryd.checked os 3 .any (fun w args => (Rows.messageChecksSpec.pre enc Tryd.prog Tryd.f3 [] false w args ∧ laidMetH Tryd.prog Ms.laid w) ∧ sizedMet enc Tryd.prog Tryd.f3 (OpenSpec.ofChange Rows.messageChecksSpec) false w args) (Rows.messageChecksSpec.post enc Tryd.prog Tryd.f3 false true false false) := by
  refine returnsInHanded_of_change_and (C := Tryd.checked) (X := fun w _ => laidMetH Tryd.prog Ms.laid w) (fun _ _ _ hh h => h.of_heap hh) own started (by kernel_rfl) Tryd.func3
    (ChangeSpec.witness_shaped (enc := enc) (C := Tryd.checked) (os := os) (X := fun w _ => laidMetH Tryd.prog Ms.laid w) false (World.doorLaid Tryd.prog 400 os) #[.agg #[.int .i64 0, .int .i64 0, .int .i64 0, .int .i64 0, .int .i64 0, .int .i64 0, .int .i64 0, .int .i64 0, .int .i64 0, .int .i64 0, .int .i64 0, .int .i64 0, .int .i64 0, .int .i64 0, .bool false, .slice none 0 0, .slice none 0 0]] 8 rfl (World.shaped_of_RefB (by kernel_rfl) (by kernel_rfl)) (by kernel_rfl) (by kernel_rfl) (by kernel_rfl) (Ms.door_met os _)) ?_
  intro W base args ds gs before hval0 hW hcnd hsz0 hL _
  have hT := Ms.tab_of_laid hL
  have hsz : (DataW.weightsEach Tryd.prog (Tryd.f3.params.toList ++ Rows.messageChecksSpec.plain.varTypes Tryd.prog) (ds ++ gs)).all (· ≤ reachBytes) = true := hsz0
  clear hsz0
  have hval : ∀ (j : Nat) t v, Tryd.f3.params[j]? = some t → args[j]? = some v → Value.okWide Tryd.prog W .any base t v := hval0
  have hW' := hW
  obtain ⟨p, q, hA0, hV, rfl, hfz, hnd⟩ := hW
  have hA : DataW.TrodAll enc Tryd.prog W 0 (fun _ => true) true Tryd.f3.params.toList args.toList ds p := hA0
  rw [Tryd.params3] at hA hval hsz
  obtain ⟨v0, vs0, d0, ds0, p0, q0, hargs, rfl, rfl, g0, t0⟩ := trodAll_cons hA
  obtain ⟨rfl, rfl, rfl⟩ := trodAll_nil t0
  obtain rfl : args = #[v0] := by cases args; simp_all
  obtain ⟨rfl, rfl⟩ := trodVars_none hV
  obtain ⟨cs0, rfl, sz0⟩ := okWide_struct Tryd.underlying25 (hval 0 25 v0 rfl rfl)
  have m0 := g0
  have lt0 : ∀ x ∈ p0, x.block < W.heap.size := by obtain ⟨m, hm⟩ := m0; exact DataW.trod_lt m _ _ _ hm
  obtain ⟨ms0, a0, cap0, b0, cbp0, rfl, k0⟩ := Ms.msg_open sz0 g0
  clear hA0 hval0
  refine (walk ms0 a0 cap0 b0 cbp0 W hT k0).mono fun e W' ⟨he, bel⟩ => ?_
  subst he
  exact ⟨_, rfl, _, _, _, [], _, [], hW', trodAll_mk1 (shut_bool Tryd.underlying4 _), (trodAll_cons_mk (Below.trod laidOut (by kernel_rfl) (of_decide_eq_true (by kernel_rfl)) m0 bel lt0) trodAll_mk0), rfl, bel.frame _, fun h => by cases h⟩

theorem over : Rows.messageChecksRow.holds Tryd.pinned (OpenSpec.ofChange Rows.messageChecksSpec) :=
  OpenClaim.holds_of_wide 3 Tryd.f3 rfl rfl rfl rfl rfl rfl rfl ⟨rfl, rfl, rfl, rfl, rfl⟩ rfl rfl rfl rfl rfl (by kernel_rfl) Tryd.func3 (by kernel_rfl)
    (of_decide_eq_true (by kernel_rfl)) (by unfold Func.isWrapper; first | (rw [if_pos (by decide +kernel)]; kernel_rfl) | (rw [if_neg (by decide +kernel)]; exact ⟨rfl, rfl⟩))
    (fun os started H enc _ => lifted os started H enc)

theorem proved : Rows.MessageChecksCardSaid :=
  Claim7.holds_tied_plain_at .later [] [.data] true Rows.messageChecksCard.stood.harness false
    over (fun _ h => by cases h) (by kernel_rfl) (fun _ h => by cases h) messageChecks_row_tie rfl ⟨rfl, rfl⟩ (by kernel_rfl) rfl
    (fun f fn hf hfn => by
      obtain rfl : f = 3 := Option.some.inj ((show Tryd.prog.funcNamed "glebe/glebelaw12.MessageChecks" = some 3 by kernel_rfl).symm.trans hf) |>.symm
      obtain rfl : fn = Tryd.f3 := (Option.some.inj (Tryd.func3.symm.trans hfn)).symm
      exact ⟨by kernel_rfl, fun j t ht => by
        rw [Tryd.params3] at ht
        have hm : t ∈ ([25] : List TypeId) := by simpa using Array.mem_of_getElem? ht
        have hall : (([25] : List TypeId).all fun u => !Tryd.prog.wantsStandIn u) = true := by kernel_rfl
        exact (show Tryd.prog.wantsStandIn t = false by simpa using List.all_eq_true.1 hall t hm)⟩)
    (by kernel_rfl)
end Go.Proofs.YtpigekbfngalbaaDoor.messageChecks
namespace Go.Proofs.YtpigekbfngalbaaDoor.Ms
set_option maxRecDepth 100000
set_option linter.unusedVariables false

theorem get_bad {b : List Nat} (h : (∃ Q m e, Fr.get b = (Q, m, e) ∧ (e ≠ 0 ∨ (e = 0 ∧ m < b.length)))) : ∃ e, get b = (M0, e) ∧ e ≠ 0 := by
  obtain ⟨Q, m, e, hg, h⟩ := h
  rcases h with he | ⟨rfl, hm⟩
  · exact ⟨e, get_frame hg he, he⟩
  · exact ⟨2, get_long hg hm, by decide⟩
theorem turned_mid (p X m0 Y : List Nat) (q j b : Nat) (hX : X ++ (m0 ++ Y) = Fr.frame p) (he : Fr.Ends p X m0 Y q) (hj : j < m0.length) (hb : b < 8) (hq : q = 8 * j + b) (hp : ∀ x ∈ m0, x < 256) (h : X.length + j < (Fr.frame p).length) :
    Fr.get ((Fr.frame p).set (X.length + j) ((Fr.frame p)[X.length + j] ^^^ 2 ^ b)) = ([], 0, 5) := by
  have e1 : (Fr.frame p)[X.length + j] = m0[j] := by
    have := Fr.get_mid X m0 Y j (X.length + j) hj rfl (by rw [hX]; exact h)
    rw [← this]
    congr 1
    exact hX.symm
  rw [e1]
  have e2 : (Fr.frame p).set (X.length + j) (m0[j] ^^^ 2 ^ b) = X ++ (m0.set j (m0[j] ^^^ 2 ^ b) ++ Y) := by
    rw [← hX]; exact Fr.set_mid X m0 Y j _ hj
  rw [e2]
  have hs : ∀ x ∈ m0.set j (m0[j] ^^^ 2 ^ b), x < 256 := by
    intro x hx
    rcases List.mem_or_eq_of_mem_set hx with hx | rfl
    · exact hp x hx
    · exact Crc.byte_flip_lt _ _ (hp _ (List.getElem_mem hj)) hb
  refine (he _ 1 (by rw [List.length_set]) hs (by decide) ?_).2 (by decide)
  rw [Crc.num_set m0 j b hj, hq, Nat.mul_one]
/-- one bit turned -/
theorem turned (p : List Nat) (hl : p.length ≤ 65536) (hp : ∀ x ∈ p, x < 256) (k : Nat) (hk : k / 8 < (Fr.frame p).length) :
    ∃ e, get ((Fr.frame p).set (k / 8) ((Fr.frame p)[k / 8] ^^^ 2 ^ (k % 8))) = (M0, e) ∧ e ≠ 0 := by
  apply get_bad
  have hfl := Fr.frame_length p
  have hb : k % 8 < 8 := Nat.mod_lt _ (by decide)
  generalize k / 8 = j at hk ⊢
  generalize k % 8 = b at hb ⊢
  by_cases h4 : j < 4
  · obtain ⟨Q, m, e, hg, h⟩ := Fr.turned_one p j b h4 hb hk
    refine ⟨Q, m, e, hg, ?_⟩
    rcases h with ⟨h1, _, _⟩ | ⟨h1, h2⟩
    · exact .inl h1
    · exact .inr ⟨h1, by rw [List.length_set]; omega⟩
  · by_cases h8 : j < 8
    · obtain ⟨X, m0, Y, hX, hm, hf, he⟩ := Fr.ends_sum p (8 * (j - 4) + b) hl
      have hp0 : ∀ x ∈ m0, x < 256 := fun x hx => Fr.frame_lt p hp x (by rw [← hf]; exact List.mem_append_right _ (List.mem_append_left _ hx))
      obtain ⟨i, rfl⟩ : ∃ i, j = X.length + i := ⟨j - 4, by omega⟩
      rw [hX, Nat.add_sub_cancel_left] at he
      exact ⟨_, _, _, turned_mid p X m0 Y _ i b hf he (by omega) hb rfl hp0 hk, .inl (by decide)⟩
    · obtain ⟨X, m0, Y, hX, hm, hf, he⟩ := Fr.ends_payload p (8 * (j - 8) + b) hl hp (by omega)
      have hp0 : ∀ x ∈ m0, x < 256 := fun x hx => Fr.frame_lt p hp x (by rw [← hf]; exact List.mem_append_right _ (List.mem_append_left _ hx))
      obtain ⟨i, rfl⟩ : ∃ i, j = X.length + i := ⟨j - 8, by omega⟩
      rw [hX, Nat.add_sub_cancel_left] at he
      exact ⟨_, _, _, turned_mid p X m0 Y _ i b hf he (by omega) hb rfl hp0 hk, .inl (by decide)⟩
/-- cut off -/
theorem cut (p : List Nat) (hl : p.length ≤ 65536) (k : Nat) (hk : k < (Fr.frame p).length) : get ((Fr.frame p).take k) = (M0, 1) := by
  rw [Fr.frame_length] at hk
  exact get_frame (Fr.cut p k hl hk) (by decide)
/-- followed by another byte -/
theorem more {m : M} (hw : Wf m) (hs : Small m) (hc : check m = 0) (x : Nat) : get (Fr.frame m.enc ++ [x]) = (M0, 2) := by
  have := back m hw hs hc [x] (enc_lt m hw)
  rw [this]; rfl
end Go.Proofs.YtpigekbfngalbaaDoor.Ms
namespace Go.Proofs.YtpigekbfngalbaaDoor
open Go.RowKit

/-- Go's remainder, brought to 0 or more -/
theorem tmod_cases (k n : Int) (hn : 1 ≤ n) : (0 ≤ k.tmod n ∧ k.tmod n = k % n) ∨ (k.tmod n < 0 ∧ -n < k.tmod n ∧ k.tmod n + n = k % n) := by
  have h3 := Int.emod_nonneg k (show n ≠ 0 by omega)
  have h4 := Int.emod_lt_of_pos k (show 0 < n by omega)
  have h2 := Int.tmod_eq_emod (a := k) (b := n)
  have h5 : (n.natAbs : Int) = n := by omega
  by_cases hc : 0 ≤ k ∨ n ∣ k
  · rw [if_pos hc] at h2; left; omega
  · rw [if_neg hc] at h2
    have h6 : k % n ≠ 0 := fun e => hc (Or.inr (Int.dvd_of_emod_eq_zero e))
    right; omega

theorem pick_none (k n : Int) (hn : n < 1) (w : World) :
    Calls Tryd.prog 26 #[.int .i64 k, .int .i64 n] w fun e w' => e = .returned (.int .i64 0) ∧ w = w' := by
  go_enter Tryd.func26, Tryd.ntmps26
  go_wp2
  go_ret
  exact ⟨rfl, rfl⟩
set_option maxHeartbeats 400000 in
theorem pick_some (k n : Int) (hn : 1 ≤ n) (hn2 : (Lit.int .i64 n).wf = true) (w : World) :
    Calls Tryd.prog 26 #[.int .i64 k, .int .i64 n] w fun e w' => e = .returned (.int .i64 (k % n)) ∧ w = w' := by
  have hb : n ≤ 9223372036854775807 := by simp [Lit.wf] at hn2; omega
  rcases tmod_cases k n hn with ⟨h, e⟩ | ⟨h, h2, e⟩
  · have E := hid e
    clear e
    go_enter Tryd.func26, Tryd.ntmps26
    go_wp2
    go_ret
    exact ⟨by rw [← E.out]; rfl, rfl⟩
  · have E := hid e
    clear e
    go_enter Tryd.func26, Tryd.ntmps26
    go_wp2
    go_ret
    exact ⟨by rw [← E.out]; rfl, rfl⟩
theorem pick_lt (k n : Int) (hn : 1 ≤ n) (hn2 : n ≤ 9223372036854775807) (w : World) :
    Calls Tryd.prog 26 #[.int .i64 k, .int .i64 n] w fun e w' => (∃ p : Nat, e = .returned (.int .i64 p) ∧ (p : Int) < n) ∧ w = w' := by
  refine (pick_some k n hn (by simp [Lit.wf, IntKind.min, IntKind.max, IntKind.signed, IntKind.bits]; omega) w).mono fun e w' ⟨he, hw⟩ => ?_
  have h1 := Int.emod_nonneg k (show (n : Int) ≠ 0 by omega)
  have h2 := Int.emod_lt_of_pos k (show (0 : Int) < n by omega)
  exact ⟨⟨(k % n).toNat, by rw [he, Int.toNat_of_nonneg h1], by omega⟩, hw⟩
end Go.Proofs.YtpigekbfngalbaaDoor
namespace Go.Proofs.YtpigekbfngalbaaDoor.messageTurned
open Go.ChangeShapes Go.WideShapes Go.ChangeAt Go.RowKit
open Go.ChangeMaps (open_string shut_string)
set_option linter.unusedVariables false

theorem own : ownKnob Tryd.prog.godebug = none := by kernel_rfl
theorem laidOut : laidOutB Tryd.prog = true := by kernel_rfl

attribute [local go_sem ↓] Ms.loadAt_msg Ms.storeAt_msg
theorem flip_val (c j : Nat) (hc : c < 256) (hj : j < 8) : bits .xor .u8 (c : Int) ((2 : Int) ^ j % 256) = ((c ^^^ 2 ^ j : Nat) : Int) := by
  have h2 : 2 ^ j < 2 ^ 8 := Nat.pow_lt_pow_right (by decide) hj
  have e : ((2 : Int) ^ j % 256) = ((2 ^ j : Nat) : Int) := by
    rw [Int.emod_eq_of_lt (Int.le_of_lt (Int.pow_pos (by decide)))]
    · simp
    · have : ((2 ^ j : Nat) : Int) < 256 := by omega
      simpa using this
  rw [e]
  exact u8_xor_nat c (2 ^ j) hc (by omega)
/-- a message that Get tells, laid into a box of its own -/
theorem box_st (w : World) (m : Ms.M) (A : Option Addr) (c : Nat) (A' : Option Addr) (c' : Nat) (w' : World) (h : w' = w.alloc (.cells #[.int .i64 m.K, .int .i64 m.F, .int .i64 m.T, .int .i64 m.g, .int .i64 m.t, .int .i64 m.i, .int .i64 m.p, .int .i64 m.c, .int .i64 m.r, .int .i64 m.x, .int .i64 m.a, .int .i64 m.b, .int .i64 m.v, .int .i64 m.s, .bool m.ok, .slice A m.es.length c, .slice A' m.d.length c'] 25)) : (Ms.stMsg (.pointer (some ⟨w.heap.size, 0, none⟩)) (.agg #[.int .i64 m.K, .int .i64 m.F, .int .i64 m.T, .int .i64 m.g, .int .i64 m.t, .int .i64 m.i, .int .i64 m.p, .int .i64 m.c, .int .i64 m.r, .int .i64 m.x, .int .i64 m.a, .int .i64 m.b, .int .i64 m.v, .int .i64 m.s, .bool m.ok, .slice A m.es.length c, .slice A' m.d.length c'])).run Tryd.prog (w.alloc (.cells #[.int .i64 0, .int .i64 0, .int .i64 0, .int .i64 0, .int .i64 0, .int .i64 0, .int .i64 0, .int .i64 0, .int .i64 0, .int .i64 0, .int .i64 0, .int .i64 0, .int .i64 0, .int .i64 0, .bool false, .slice none 0 0, .slice none 0 0] 25)) = .ok () w' ∧ Below w.heap.size w w' := by
  rw [h]
  exact ⟨Ms.st_new w _ _ rfl rfl (Ms.msg_one m A c A' c'), (Below.refl _ w).alloc (Nat.le_refl _) _⟩
open Ms in
set_option maxRecDepth 100000 in
set_option maxHeartbeats 3200000 in
theorem walk (m : Ms.M) (A : Option Addr) (c : Nat) (A' : Option Addr) (c' : Nat) (a1 a2 : Int) (a3 : Nat) (w : World) (T : Ms.Tab w) (k0 : Ms.Is w w.heap.size m A c A' c') (b1 : -9223372036854775808 ≤ a1 ∧ a1 ≤ 9223372036854775807) (b2 : -9223372036854775808 ≤ a2 ∧ a2 ≤ 9223372036854775807) (b3 : a3 < 256) :
    Calls Tryd.prog 8 #[.agg #[.int .i64 m.K, .int .i64 m.F, .int .i64 m.T, .int .i64 m.g, .int .i64 m.t, .int .i64 m.i, .int .i64 m.p, .int .i64 m.c, .int .i64 m.r, .int .i64 m.x, .int .i64 m.a, .int .i64 m.b, .int .i64 m.v, .int .i64 m.s, .bool m.ok, .slice A m.es.length c, .slice A' m.d.length c'], .int .i64 a1, .int .i64 a2, .int .u8 a3] w fun e w' => e = .returned (.bool true) ∧ Below w.heap.size w w' := by
  obtain ⟨i0, hi, hz0, hz1, hz2⟩ := info_parts info_u8
  obtain ⟨w1, hw1⟩ : ∃ w1, w1 = w.alloc (.cells #[.int .i64 m.K, .int .i64 m.F, .int .i64 m.T, .int .i64 m.g, .int .i64 m.t, .int .i64 m.i, .int .i64 m.p, .int .i64 m.c, .int .i64 m.r, .int .i64 m.x, .int .i64 m.a, .int .i64 m.b, .int .i64 m.v, .int .i64 m.s, .bool m.ok, .slice A m.es.length c, .slice A' m.d.length c'] 25) := ⟨_, rfl⟩
  have hbx : Bx w1 w.heap.size m A c A' c' := ⟨by rw [hw1]; exact heap_alloc_new w _⟩
  have hb1 : Below w.heap.size w w1 := by rw [hw1]; exact (Below.refl _ w).alloc (Nat.le_refl _) _
  have hld1 := hbx.load
  have HX1 := hid (And.intro hbx hb1)
  have HT := hid T
  have HI := hid k0
  have hpos := T.pos
  have HBG := hid (bigL_any m A c A' c' w1 (k0.ents hb1) (Nat.le_trans k0.dc.1 k0.dc.2))
  obtain ⟨bg, hbg⟩ : ∃ b, b = bigM m := ⟨_, rfl⟩
  have HBB := hid hbg
  rw [← hbg] at HBG
  clear T k0 hbx hb1 hbg
  go_enter Tryd.func8, Tryd.ntmps8
  rw [hw1] at hld1
  go_wp2_with fail
  rw [← hw1]
  refine HBG.out.mono ?_
  rintro e w2 ⟨rfl, hb2⟩
  have HB2 := hid (HX1.out.2.trans (hb2.mono HX1.out.2.size))
  have HX2 := hid (HX1.out.1.below hb2 (row_lt HX1.out.1.row))
  have hld2 := HX2.out.load
  clear hb2 hld1
  cases bg
  rotate_left
  · go_wp2_with fail
    refine (works_N w w2 HT.out HB2.out).mono ?_
    rintro e w3 ⟨rfl, hb3⟩
    have HB3 := hid hb3
    clear hb3 hld2
    go_wp2_with fail
    go_ret
    exact ⟨rfl, HB3.out⟩
  · obtain ⟨hs, _, _, _⟩ := big_small HBB.out.symm
    have HS := hid hs
    have hw2 : w.heap.size ≤ w2.heap.size := HB2.out.size
    have HI2 := hid ((HI.out.below HB2.out).more hw2)
    have HT2 := hid (HT.out.below HB2.out hpos)
    clear hs
    clear b1 b2
    by_cases hc : check m = 0
    rotate_left
    · obtain ⟨v, hv⟩ : ∃ v : Int, v = ((check m : Nat) : Int) := ⟨_, rfl⟩
      have hv0 : v ≠ 0 := by rw [hv]; omega
      have HP := hid (put_err m A c A' c' w2 HI2.out HT2.out HS.out hc v hv.symm)
      clear hc hv
      go_wp2_with fail
      refine HP.out.mono ?_
      rintro e w3 ⟨A2, c2, rfl, hb3⟩
      have HB3 := hid (HB2.out.trans (hb3.mono hw2))
      clear hb3 hld2 HP
      go_wp2_with fail
      refine (works_N w w3 HT.out HB3.out).mono ?_
      rintro e w8 ⟨rfl, hb8⟩
      have HB8 := hid hb8
      clear hb8
      go_wp2_with fail
      go_ret
      exact ⟨rfl, HB8.out⟩
    obtain ⟨n, hn⟩ : ∃ n, n = (Fr.frame m.enc).length := ⟨_, rfl⟩
    have hn2 : n ≤ 65544 := by rw [hn]; exact frame_le hc
    have hn8 : 8 ≤ n := by rw [hn, Fr.frame_length]; omega
    have HP := hid (put_ok m A c A' c' w2 HI2.out HT2.out HS.out hc n hn.symm)
    have HN := hid hn
    have HC := hid hc
    have hel : m.enc.length ≤ 65536 := by rw [Fr.frame_length] at hn; omega
    have HEL := hid (And.intro hel (enc_lt m HI.out.wf))
    clear hc hn hel
    go_wp2_with fail
    refine HP.out.mono ?_
    rintro e w3 ⟨A2, c2, rfl, ho, hb3⟩
    have HB3 := hid (HB2.out.trans (hb3.mono hw2))
    have HO3 := hid ho
    have hw3 : w.heap.size ≤ w3.heap.size := HB3.out.size
    clear hb3 ho hld2 HP
    go_wp2_with fail
    refine (pick_lt a1 (8 * (n : Int)) (by omega) (by omega) w3).mono ?_
    rintro e w3' ⟨⟨p, rfl, hp⟩, hw3'⟩
    rw [← hw3']
    clear hw3'
    have HCP := hid (copy_N w3.heap.size A2 c2 (Fr.frame m.enc) n HN.out.symm (by omega) w3 HO3.out.reads (Nat.le_refl _))
    go_wp2_with fail
    refine HCP.out.mono ?_
    rintro e w4 ⟨A4, c4, rfl, ho4, hb4⟩
    have HB4 := hid (HB3.out.trans (hb4.mono hw3))
    have HO4 := hid (HO3.out.below hb4)
    have hcap4 := ho4.cap
    rw [← HN.out] at hcap4
    have hq : p / 8 < (Fr.frame m.enc).length := by rw [← HN.out]; omega
    obtain ⟨g, rfl, hg1, _, hcg, hfg⟩ := ho4.at_ hq
    have hj : p % 8 < 8 := Nat.mod_lt _ (by decide)
    have hx8 := ho4.small _ (List.getElem_mem hq)
    have hs := ho4.set_ (p / 8) ((Fr.frame m.enc)[p / 8] ^^^ 2 ^ (p % 8)) (Crc.byte_flip_lt _ _ hx8 hj)
    have hbs : Below w3.heap.size w3 (w4.setCell ⟨g, p / 8, none⟩ (.int .u8 ((Fr.frame m.enc)[p / 8] ^^^ 2 ^ (p % 8) : Nat))) := hb4.setCell hg1 _
    obtain ⟨e1, hT1, he1⟩ := turned m.enc HEL.out.1 HEL.out.2 p hq
    have HLL : Hid (((Fr.frame m.enc).set (p / 8) ((Fr.frame m.enc)[p / 8] ^^^ 2 ^ (p % 8))).length = n) := by show _ = _; rw [List.length_set, ← HN.out]
    have HX := hid (flip_val _ (p % 8) hx8 hj)
    have HT1 := hid hT1
    have HS4 := hid (And.intro hs hbs)
    obtain ⟨x, hx⟩ : ∃ x, x = (Fr.frame m.enc)[p / 8] := ⟨_, rfl⟩
    rw [← hx] at hcg HX HT1 HS4 HLL
    clear hq hj hx8 hs hT1 ho4 hb4 hbs hx
    go_wp2_with fail
    rw [HX.out]
    obtain ⟨w5, hw5⟩ : ∃ w5, w5 = w4.setCell ⟨g, p / 8, none⟩ (.int .u8 (x ^^^ 2 ^ (p % 8) : Nat)) := ⟨_, rfl⟩
    rw [← hw5]
    rw [← hw5] at HS4
    have HB5 := hid (HB3.out.trans (HS4.out.2.mono hw3))
    have HO5 := hid (HO3.out.below HS4.out.2)
    have he1' : (e1 : Int) ≠ 0 := by omega
    have HG1 := hid (get_is _ (some ⟨g, 0, none⟩) c4 n HLL.out w5 HS4.out.1.reads (fun h => by cases h) hcap4 (by omega) (HT.out.below HB5.out hpos) M0 e1 HT1.out (e1 : Int) rfl)
    clear hw5 hcg hfg HCP HS4 HLL HT1 HX
    refine HG1.out.mono ?_
    rintro e w6 ⟨B1, d1, B2, d2, rfl, _, hb6⟩
    obtain ⟨w7, hw7⟩ : ∃ w7, w7 = w6.alloc (.cells #[.int .i64 M0.K, .int .i64 M0.F, .int .i64 M0.T, .int .i64 M0.g, .int .i64 M0.t, .int .i64 M0.i, .int .i64 M0.p, .int .i64 M0.c, .int .i64 M0.r, .int .i64 M0.x, .int .i64 M0.a, .int .i64 M0.b, .int .i64 M0.v, .int .i64 M0.s, .bool M0.ok, .slice B1 M0.es.length d1, .slice B2 M0.d.length d2] 25) := ⟨_, rfl⟩
    obtain ⟨hst7, hb7⟩ := box_st w6 M0 B1 d1 B2 d2 w7 hw7
    have HB67 := hid (hb6.trans (hb7.mono hb6.size))
    have HB7 := hid (HB5.out.trans (HB67.out.mono HB5.out.size))
    have HO7 := hid (HO5.out.below HB67.out)
    clear hb6 hb7 hw7 HG1
    go_wp2_with fail
    refine (pick_lt a2 (n : Int) (by omega) (by omega) w7).mono ?_
    rintro e w7' ⟨⟨k, rfl, hk⟩, hw7'⟩
    rw [← hw7']
    clear hw7' hst7
    have hkn : k < n := by omega
    have hcap2 := HO7.out.cap
    rw [← HN.out] at hcap2
    have HCUT := hid (cut m.enc HEL.out.1 k (by rw [← HN.out]; exact hkn))
    have HG2 := hid (get_is ((Fr.frame m.enc).take k) A2 c2 k (by rw [List.length_take, ← HN.out]; omega) w7 (HO7.out.reads.take k) HO7.out.none_ (by omega) (by omega) (HT.out.below HB7.out hpos) M0 1 HCUT.out 1 rfl)
    go_wp2_with fail
    refine HG2.out.mono ?_
    rintro e w8 ⟨B3, d3, B4, d4, rfl, _, hb8⟩
    obtain ⟨w9, hw9⟩ : ∃ w9, w9 = w8.alloc (.cells #[.int .i64 M0.K, .int .i64 M0.F, .int .i64 M0.T, .int .i64 M0.g, .int .i64 M0.t, .int .i64 M0.i, .int .i64 M0.p, .int .i64 M0.c, .int .i64 M0.r, .int .i64 M0.x, .int .i64 M0.a, .int .i64 M0.b, .int .i64 M0.v, .int .i64 M0.s, .bool M0.ok, .slice B3 M0.es.length d3, .slice B4 M0.d.length d4] 25) := ⟨_, rfl⟩
    obtain ⟨hst9, hb9⟩ := box_st w8 M0 B3 d3 B4 d4 w9 hw9
    have HB89 := hid (hb8.trans (hb9.mono hb8.size))
    have HB9 := hid (HB7.out.trans (HB89.out.mono HB7.out.size))
    have HO9 := hid (HO7.out.below HB89.out)
    have HCP2 := hid (copy_N w9.heap.size A2 c2 (Fr.frame m.enc) n HN.out.symm (by omega) w9 HO9.out.reads (Nat.le_refl _))
    clear hb8 hb9 hw9 HG2
    go_wp2_with fail
    refine HCP2.out.mono ?_
    rintro e w10 ⟨A10, c10, rfl, ho10, hb10⟩
    have HB10 := hid (HB9.out.trans (hb10.mono HB9.out.size))
    have HO10 := hid (ho10.alloc (.cells #[.int .u8 (a3 : Int)] 5))
    have h10 := hb10.size
    clear ho10 hst9 HCP2
    go_wp2_with (at_builtin; refine wpList_append_byteN rfl _ _ 23 rfl w9.heap.size 5 i0 Tryd.underlying23 hi hz0 hz1 hz2 A10 c10 (Fr.frame m.enc) n HN.out.symm rfl HO10.out ⟨w10.heap.size, 0, none⟩ 1 a3 _ rfl b3 rfl ?c1 _ rfl (by omega) ?c2 ?_)
    case c1 => simp
    case c2 => simp; omega
    intro A11 c11 w11 ho11 hb11
    have HB11 : Hid (Below w.heap.size w w11) := hid (HB9.out.trans (((hb10.alloc h10 _).trans hb11).mono HB9.out.size))
    have HM := hid (more HI.out.wf HS.out HC.out a3)
    have hcap11 := ho11.cap
    have hl11 : (Fr.frame m.enc ++ [a3]).length = n + 1 := by rw [List.length_append, ← HN.out]; rfl
    rw [hl11] at hcap11
    have HG3 := hid (get_is (Fr.frame m.enc ++ [a3]) A11 c11 (n + 1) hl11 w11 ho11.reads ho11.none_ hcap11 (by omega) (HT.out.below HB11.out hpos) M0 2 HM.out 2 rfl)
    clear hb10 hb11 ho11 hl11
    go_wp2_with fail
    refine HG3.out.mono ?_
    rintro e w12 ⟨B5, d5, B6, d6, rfl, _, hb12⟩
    obtain ⟨w13, hw13⟩ : ∃ w13, w13 = w12.alloc (.cells #[.int .i64 M0.K, .int .i64 M0.F, .int .i64 M0.T, .int .i64 M0.g, .int .i64 M0.t, .int .i64 M0.i, .int .i64 M0.p, .int .i64 M0.c, .int .i64 M0.r, .int .i64 M0.x, .int .i64 M0.a, .int .i64 M0.b, .int .i64 M0.v, .int .i64 M0.s, .bool M0.ok, .slice B5 M0.es.length d5, .slice B6 M0.d.length d6] 25) := ⟨_, rfl⟩
    obtain ⟨hst13, hb13⟩ := box_st w12 M0 B5 d5 B6 d6 w13 hw13
    have HB13 := hid (HB11.out.trans ((hb12.trans (hb13.mono hb12.size)).mono HB11.out.size))
    clear hb12 hb13 hw13 HG3
    go_wp2_with fail
    refine (works_N w w13 HT.out HB13.out).mono ?_
    rintro e w14 ⟨rfl, hb14⟩
    have HB14 := hid hb14
    clear hb14 hst13
    go_wp2_with fail
    go_ret
    refine ⟨?_, HB14.out⟩
    show Ending.returned (.bool ((e1 : Int) != 0)) = _
    rw [bne_iff_ne.2 he1']

set_option maxRecDepth 100000 in
theorem lifted (os : Os) (started : os.Started) (H : Type) (enc : TypeId × Value → H) :
    ReturnsInHanded {} Tryd.checked os 8 .any (fun w args => (Rows.messageTurnedSpec.pre enc Tryd.prog Tryd.f8 [] false w args ∧ laidMetH Tryd.prog Ms.laid w) ∧ sizedMet enc Tryd.prog Tryd.f8 (OpenSpec.ofChange Rows.messageTurnedSpec) false w args) (Rows.messageTurnedSpec.post enc Tryd.prog Tryd.f8 false true false false) := by
  refine returnsInHanded_of_change_and (C := Tryd.checked) (X := fun w _ => laidMetH Tryd.prog Ms.laid w) (fun _ _ _ hh h => h.of_heap hh) own started (by kernel_rfl) Tryd.func8
    (ChangeSpec.witness_shaped (enc := enc) (C := Tryd.checked) (os := os) (X := fun w _ => laidMetH Tryd.prog Ms.laid w) false (World.doorLaid Tryd.prog 400 os) #[.agg #[.int .i64 0, .int .i64 0, .int .i64 0, .int .i64 0, .int .i64 0, .int .i64 0, .int .i64 0, .int .i64 0, .int .i64 0, .int .i64 0, .int .i64 0, .int .i64 0, .int .i64 0, .int .i64 0, .bool false, .slice none 0 0, .slice none 0 0], .int .i64 0, .int .i64 0, .int .u8 0] 8 rfl (World.shaped_of_RefB (by kernel_rfl) (by kernel_rfl)) (by kernel_rfl) (by kernel_rfl) (by kernel_rfl) (Ms.door_met os _)) ?_
  intro W base args ds gs before hval0 hW hcnd hsz0 hL _
  have hT := Ms.tab_of_laid hL
  have hsz : (DataW.weightsEach Tryd.prog (Tryd.f8.params.toList ++ Rows.messageTurnedSpec.plain.varTypes Tryd.prog) (ds ++ gs)).all (· ≤ reachBytes) = true := hsz0
  clear hsz0
  have hval : ∀ (j : Nat) t v, Tryd.f8.params[j]? = some t → args[j]? = some v → Value.okWide Tryd.prog W .any base t v := hval0
  have hW' := hW
  obtain ⟨p, q, hA0, hV, rfl, hfz, hnd⟩ := hW
  have hA : DataW.TrodAll enc Tryd.prog W 0 (fun _ => true) true Tryd.f8.params.toList args.toList ds p := hA0
  rw [Tryd.params8] at hA hval hsz
  obtain ⟨v0, vs0, d0, ds0, p0, q0, hargs, rfl, rfl, g0, t0⟩ := trodAll_cons hA
  obtain ⟨v1, vs1, d1, ds1, p1, q1, rfl, rfl, rfl, g1, t1⟩ := trodAll_cons t0
  obtain ⟨v2, vs2, d2, ds2, p2, q2, rfl, rfl, rfl, g2, t2⟩ := trodAll_cons t1
  obtain ⟨v3, vs3, d3, ds3, p3, q3, rfl, rfl, rfl, g3, t3⟩ := trodAll_cons t2
  obtain ⟨rfl, rfl, rfl⟩ := trodAll_nil t3
  obtain rfl : args = #[v0, v1, v2, v3] := by cases args; simp_all
  obtain ⟨rfl, rfl⟩ := trodVars_none hV
  obtain ⟨cs0, rfl, sz0⟩ := okWide_struct Tryd.underlying25 (hval 0 25 v0 rfl rfl)
  have m0 := g0
  have lt0 : ∀ x ∈ p0, x.block < W.heap.size := by obtain ⟨m, hm⟩ := m0; exact DataW.trod_lt m _ _ _ hm
  obtain ⟨ms0, a0, cap0, b0, cbp0, rfl, k0⟩ := Ms.msg_open sz0 g0
  obtain ⟨a1, rfl, rfl, rfl, w1⟩ := open_int Tryd.underlying3 (hval 1 3 v1 rfl rfl) g1
  have b1 := bounds_i64 w1
  obtain ⟨a2, rfl, rfl, rfl, w2⟩ := open_int Tryd.underlying3 (hval 2 3 v2 rfl rfl) g2
  have b2 := bounds_i64 w2
  obtain ⟨a3, rfl, rfl, rfl, w3⟩ := open_int Tryd.underlying5 (hval 3 5 v3 rfl rfl) g3
  have b3 := bounds_u8 w3
  obtain ⟨a3, rfl⟩ := Int.eq_ofNat_of_zero_le b3.1
  clear hA0 hval0
  refine (walk ms0 a0 cap0 b0 cbp0 a1 a2 a3 W hT k0 b1 b2 (by omega)).mono fun e W' ⟨he, bel⟩ => ?_
  subst he
  exact ⟨_, rfl, _, _, _, [], _, [], hW', trodAll_mk1 (shut_bool Tryd.underlying4 _), (trodAll_cons_mk (Below.trod laidOut (by kernel_rfl) (of_decide_eq_true (by kernel_rfl)) m0 bel lt0) (trodAll_cons_mk (shut_int Tryd.underlying3 w1) (trodAll_cons_mk (shut_int Tryd.underlying3 w2) (trodAll_cons_mk (shut_int Tryd.underlying5 w3) trodAll_mk0)))), rfl, bel.frame _, fun h => by cases h⟩

theorem over : Rows.messageTurnedRow.holds Tryd.pinned (OpenSpec.ofChange Rows.messageTurnedSpec) :=
  OpenClaim.holds_of_wide 8 Tryd.f8 rfl rfl rfl rfl rfl rfl rfl ⟨rfl, rfl, rfl, rfl, rfl⟩ rfl rfl rfl rfl rfl (by kernel_rfl) Tryd.func8 (by kernel_rfl)
    (of_decide_eq_true (by kernel_rfl)) (by unfold Func.isWrapper; first | (rw [if_pos (by decide +kernel)]; kernel_rfl) | (rw [if_neg (by decide +kernel)]; exact ⟨rfl, rfl⟩))
    (fun os started H enc _ => lifted os started H enc)

theorem proved : Rows.MessageTurnedCardSaid :=
  Claim7.holds_tied_plain_at .later [] [.data] true Rows.messageTurnedCard.stood.harness false
    over (fun _ h => by cases h) (by kernel_rfl) (fun _ h => by cases h) messageTurned_row_tie rfl ⟨rfl, rfl⟩ (by kernel_rfl) rfl
    (fun f fn hf hfn => by
      obtain rfl : f = 8 := Option.some.inj ((show Tryd.prog.funcNamed "glebe/glebelaw12.MessageTurned" = some 8 by kernel_rfl).symm.trans hf) |>.symm
      obtain rfl : fn = Tryd.f8 := (Option.some.inj (Tryd.func8.symm.trans hfn)).symm
      exact ⟨by kernel_rfl, fun j t ht => by
        rw [Tryd.params8] at ht
        have hm : t ∈ ([25, 3, 3, 5] : List TypeId) := by simpa using Array.mem_of_getElem? ht
        have hall : (([25, 3, 3, 5] : List TypeId).all fun u => !Tryd.prog.wantsStandIn u) = true := by kernel_rfl
        exact (show Tryd.prog.wantsStandIn t = false by simpa using List.all_eq_true.1 hall t hm)⟩)
    (by kernel_rfl)
end Go.Proofs.YtpigekbfngalbaaDoor.messageTurned
namespace Go.Proofs.YtpigekbfngalbaaDoor.Ms
open Go.RowKit
open Pk (St rdInt rdBlob)
set_option maxRecDepth 100000
set_option linter.unusedVariables false

/-! In plain words: a reader that is bad stays so. -/
theorem rdF_gone (m : M) (r : Nat) : ∃ m', rdF m Pk.gone r = some (m', Pk.gone) := by
  unfold rdF
  split
  · exact ⟨_, by rw [if_pos (Or.inl (show (rdInt Pk.gone).1 = 0 from rfl))]; rfl⟩
  · split
    · exact ⟨_, by rw [if_neg (show ¬ ((rdInt Pk.gone).1 < 0 ∨ ((((rdInt Pk.gone).2.rest.length / 24 : Nat) : Int) < (rdInt Pk.gone).1)) from by decide)]; rfl⟩
    · split
      · exact ⟨_, rfl⟩
      · exact ⟨_, rfl⟩
theorem rdEs_gone (n : Nat) : (rdEs n Pk.gone).2 = Pk.gone := by
  induction n with
  | zero => rfl
  | succ n ih => exact ih
/-- what is read up to a place has failed -/
def Bd (L : List Nat) (m0 : M) (s0 : St) : Prop := rdFs L m0 s0 = none ∨ ∃ m', rdFs L m0 s0 = some (m', Pk.gone)
theorem bd_next {L : List Nat} {j : Nat} (hj : j < L.length) {m0 : M} {s0 : St} (h : Bd (L.take j) m0 s0) : Bd (L.take (j + 1)) m0 s0 := by
  rw [List.take_succ_eq_append_getElem hj]
  rcases h with h | ⟨m', h⟩
  · exact .inl (rdFs_none _ _ _ _ h)
  · obtain ⟨m2, h2⟩ := rdF_gone m' L[j]
    exact .inr ⟨m2, by rw [rdFs_snoc, h]; exact h2⟩
theorem bd_of {L : List Nat} {j : Nat} (hj : j < L.length) {m0 m : M} {s0 s : St} (h : rdFs (L.take j) m0 s0 = some (m, s)) (hb : rdF m s L[j] = none ∨ ∃ m', rdF m s L[j] = some (m', Pk.gone)) : Bd (L.take (j + 1)) m0 s0 := by
  unfold Bd
  rw [rdFs_at hj h]
  exact hb
/-- what has come of reading: it goes well, or has failed -/
def Pr (L : List Nat) (m0 : M) (s0 : St) (m : M) (s : St) : Prop := rdFs L m0 s0 = some (m, s) ∨ (s = Pk.gone ∧ Bd L m0 s0)
theorem pr_next {L : List Nat} {j : Nat} (hj : j < L.length) {m0 m m' : M} {s0 s s' : St} (h : Pr (L.take j) m0 s0 m s) (hf : rdF m s L[j] = some (m', s')) (hg : s = Pk.gone → s' = Pk.gone) : Pr (L.take (j + 1)) m0 s0 m' s' := by
  rcases h with h | ⟨h1, h2⟩
  · exact .inl (by rw [rdFs_at hj h]; exact hf)
  · exact .inr ⟨hg h1, bd_next hj h2⟩
/-- it ends with a failure -/
def Ends (L : List Nat) (m0 : M) (s0 : St) : Prop := rdFs L m0 s0 = none ∨ ∃ m s, rdFs L m0 s0 = some (m, s) ∧ over s = false
theorem pr_stop {L : List Nat} {j : Nat} (hj : j < L.length) {m0 m : M} {s0 s : St} (h : Pr (L.take j) m0 s0 m s) (hn : s ≠ Pk.gone → rdF m s L[j] = none) (hg : s = Pk.gone → False) : Ends L m0 s0 := by
  rcases h with h | ⟨h1, h2⟩
  · exact .inl (rdFs_stop hj h (hn (fun e => hg e)))
  · exact absurd h1 hg
theorem bd_all (L : List Nat) (m0 : M) (s0 : St) (h : Bd L m0 s0) : Ends L m0 s0 := by
  rcases h with h | ⟨m', h⟩
  · exact .inl h
  · exact .inr ⟨m', Pk.gone, h, rfl⟩
theorem pr_end {L : List Nat} {m0 m : M} {s0 s : St} (h : Pr L m0 s0 m s) : (over s = true → rdFs L m0 s0 = some (m, s)) ∧ (over s = false → Ends L m0 s0) := by
  rcases h with h | ⟨h1, h2⟩
  · exact ⟨fun _ => h, fun ho => .inr ⟨m, s, h, ho⟩⟩
  · exact ⟨fun ho => (by rw [h1] at ho; cases ho), fun _ => bd_all L m0 s0 h2⟩
theorem rdInt_eats8 (s : St) (h : (rdInt s).2.bad = false) : 8 + (rdInt s).2.rest.length ≤ s.rest.length := by
  unfold rdInt at h ⊢
  split at h
  · cases h
  · rename_i hl
    rw [if_neg hl]
    show 8 + (s.rest.drop 8).length ≤ _
    rw [List.length_drop]; omega
theorem rdInt_well (s : St) (h : (rdInt s).2.bad = false) : s.bad = false := by
  unfold rdInt at h
  split at h
  · cases h
  · exact h
theorem rdBlob_well (s : St) (h : (rdBlob s).2.bad = false) : (rdInt s).2.bad = false ∧ (rdBlob s).2.rest.length ≤ (rdInt s).2.rest.length := by
  unfold rdBlob at h ⊢
  split at h
  · cases h
  · rename_i hl
    rw [if_neg hl]
    refine ⟨?_, by show ((rdInt s).2.rest.drop _).length ≤ _; rw [List.length_drop]; omega⟩
    rcases hh : (rdInt s).2.bad with _ | _
    · rfl
    · exact absurd (Or.inl hh) hl
theorem rdE_eats24 (s : St) (h : (rdE s).2.bad = false) : 24 + (rdE s).2.rest.length ≤ s.rest.length := by
  obtain ⟨h1, h2⟩ := rdBlob_well _ h
  have h3 := rdInt_eats8 _ h1
  have h4 := rdInt_well _ h1
  have h5 := rdInt_eats8 _ h4
  have h6 := rdInt_well _ h4
  have h7 := rdInt_eats8 _ h6
  show 24 + (rdBlob (rdInt (rdInt s).2).2).2.rest.length ≤ _
  omega
theorem stOf_gone {B : List Nat} {a : Nat} {b : Bool} : stOf B a b = Pk.gone ↔ b = true := by
  constructor
  · intro h; have := congrArg St.bad h; exact this
  · rintro rfl; exact stOf_bad B a

/-! In memory. -/
/-- the document's reader at gr, ahead of w0; from there on: the message's box, the box of what is answered, the fields that it has; behind these, below E, what the message leads to -/
structure RdR (w0 W : World) (gr top E : Nat) (L : List Nat) (H : List Int) (m : M) (a : Nat) (b : Bool) (A : Option Addr) (c : Nat) (A' : Option Addr) (c' : Nat) : Prop where
  grn : w0.grownBy W (some gr)
  box : Bx W w0.heap.size m A c A' c'
  zero : Zero W (w0.heap.size + 1)
  has : W.heap[w0.heap.size + 2]? = some (.cells (ints H).toArray 3 (0, 0))
  rdr : RefR W gr top L a b
  lt : gr < w0.heap.size ∧ top ≤ w0.heap.size ∧ w0.heap.size + 3 ≤ E ∧ E ≤ W.heap.size
  es : OwnE W (w0.heap.size + 3) E A c m.es
  d : OwnsB 5 W (w0.heap.size + 3) A' c' m.d
  dE : ∀ k, blk A' = some k → k < E
  num : ∀ r ∈ nums, InInt (m.num r)
  few : m.es.length ≤ 50000
  thin : m.d.length ≤ 1000000
namespace RdR
variable {w0 W W' : World} {gr top E : Nat} {L : List Nat} {H : List Int} {m : M} {a : Nat} {b : Bool} {A A' : Option Addr} {c c' : Nat}
/-- only the reader, and what lies from E on, has turned -/
theorem turned (h : RdR w0 W gr top E L H m a b A c A' c') {S : Nat → Prop} (ht : Turned S W W') (hS : ∀ k, S k → k = gr ∨ E ≤ k) {a2 : Nat} {b2 : Bool} (hr : RefR W' gr top L a2 b2) : RdR w0 W' gr top E L H m a2 b2 A c A' c' := by
  have hl := h.lt
  have hn : ∀ k, w0.heap.size ≤ k → k < E → ¬ S k := fun k h1 h2 e => by rcases hS k e with e | e <;> omega
  refine ⟨⟨ht.os.trans h.grn.os, ht.tape.trans h.grn.tape, ht.output.trans h.grn.output, Nat.le_trans h.grn.size ht.size, fun k hk hne => (ht.block k (by omega) (fun e => ?_)).trans (h.grn.block k hk hne)⟩, ⟨(ht.block _ (row_lt h.box.row) (hn _ (by omega) (by omega))).trans h.box.row⟩, (ht.block _ (row_lt h.zero) (hn _ (by omega) (by omega))).trans h.zero, (ht.block _ (row_lt h.has) (hn _ (by omega) (by omega))).trans h.has, hr, ⟨hl.1, hl.2.1, hl.2.2.1, Nat.le_trans hl.2.2.2 ht.size⟩, ?_, ?_, h.dE, h.num, h.few, h.thin⟩
  · rcases hS k e with e | e
    · exact hne (by rw [e])
    · omega
  · exact h.es.keep ht (fun k hk hB => hn k (by have := hB.1; omega) hB.2 hk)
  · exact h.d.turned ht (fun k hk e => hn k (by have := (h.d.blkLt k hk).1; omega) (h.dE k hk) e)
theorem read (h : RdR w0 W gr top E L H m a b A c A' c') {a2 : Nat} {b2 : Bool} (hr : RefR W' gr top L a2 b2) (hg : W.grownBy W' (some gr)) : RdR w0 W' gr top E L H m a2 b2 A c A' c' :=
  h.turned (Turned.ofGrown (S := fun k => k = gr) hg (fun k hk => (Option.some.inj hk).symm)) (fun k e => .inl e) hr
/-- what lies from E on has turned -/
theorem far (h : RdR w0 W gr top E L H m a b A c A' c') {S : Nat → Prop} (ht : Turned S W W') (hS : ∀ k, S k → E ≤ k) : RdR w0 W' gr top E L H m a b A c A' c' := by
  have hl := h.lt
  refine h.turned ht (fun k e => .inr (hS k e)) ?_
  obtain ⟨A1, c1, h1, h2, h3⟩ := h.rdr.at_
  have hgr := row_lt h1
  refine ⟨⟨A1, c1, (ht.block gr hgr (fun e => by have := hS _ e; omega)).trans h1, h2.turned ht (fun k hk e => by have := hS _ e; have := h3 k hk; omega), h3⟩, h.rdr.le, h.rdr.short, h.rdr.top_.1, Nat.le_trans h.rdr.top_.2 ht.size⟩
theorem drewN (h : RdR w0 W gr top E L H m a b A c A' c') (n : Nat) : RdR w0 (W.drewN n) gr top E L H m a b A c A' c' := h.far (S := fun _ => False) (Turned.ofBelow _ (below_drewN (Below.refl _ W) n)) (fun _ e => e.elim)
theorem drew (h : RdR w0 W gr top E L H m a b A c A' c') : RdR w0 W.drew gr top E L H m a b A c A' c' := h.drewN 1
theorem alloc (h : RdR w0 W gr top E L H m a b A c A' c') (o : Obj) : RdR w0 (W.alloc o) gr top E L H m a b A c A' c' := h.far (S := fun _ => False) (Turned.ofBelow _ ((Below.refl _ W).alloc (Nat.le_refl _) o)) (fun _ e => e.elim)
theorem below (h : RdR w0 W gr top E L H m a b A c A' c') (hb : Below W.heap.size W W') : RdR w0 W' gr top E L H m a b A c A' c' := h.far (S := fun _ => False) (Turned.ofBelow _ hb) (fun _ e => e.elim)
/-- the message's box is written; what it leads to lies below E' -/
theorem put (h : RdR w0 W gr top E L H m a b A c A' c') (ht : Turned (fun k => k = w0.heap.size) W W') {E' : Nat} (hE : E ≤ E' ∧ E' ≤ W.heap.size) {m' : M} {A2 A3 : Option Addr} {c2 c3 : Nat} (hx : Bx W' w0.heap.size m' A2 c2 A3 c3) (he : OwnE W (w0.heap.size + 3) E' A2 c2 m'.es) (hd : OwnsB 5 W (w0.heap.size + 3) A3 c3 m'.d) (hdE : ∀ k, blk A3 = some k → k < E')
    (hn : ∀ r ∈ nums, InInt (m'.num r)) (hf : m'.es.length ≤ 50000) (hth : m'.d.length ≤ 1000000) : RdR w0 W' gr top E' L H m' a b A2 c2 A3 c3 := by
  have hl := h.lt
  have hg : W.grownBy W' (some w0.heap.size) := ⟨ht.os, ht.tape, ht.output, ht.size, fun k hk hne => ht.block k hk (fun e => hne (by rw [e]))⟩
  refine ⟨⟨ht.os.trans h.grn.os, ht.tape.trans h.grn.tape, ht.output.trans h.grn.output, Nat.le_trans h.grn.size ht.size, fun k hk hne => (ht.block k (by omega) (by omega)).trans (h.grn.block k hk hne)⟩, hx, (ht.block _ (row_lt h.zero) (by omega)).trans h.zero, (ht.block _ (row_lt h.has) (by omega)).trans h.has, h.rdr.other hg (fun k hk => by injection hk with hk; omega), ⟨hl.1, hl.2.1, by omega, Nat.le_trans hE.2 ht.size⟩, ?_, ?_, hdE, hn, hf, hth⟩
  · exact he.keep ht (fun k hk hB => by have := hB.1; omega)
  · exact hd.turned ht (fun k hk e => by have := (hd.blkLt k hk).1; omega)
theorem cellH (h : RdR w0 W gr top E L H m a b A c A' c') (i : Nat) (hi : i < H.length) : W.cell? ⟨w0.heap.size + 2, i, none⟩ = some (.int .i64 H[i]) := by
  have := cell_of_row W (w0.heap.size + 2) i _ _ (0, 0) h.has
  rw [this]
  simp [ints, hi]
theorem int (h : RdR w0 W gr top E L H m a b A c A' c') :
    Calls Tryd.prog 53 #[.pointer (some ⟨gr, 0, none⟩)] W fun e w' => ∃ a2 b2, e = .returned (.int .i64 (rdInt (stOf L a b)).1) ∧ RdR w0 w' gr top E L H m a2 b2 A c A' c' ∧ stOf L a2 b2 = (rdInt (stOf L a b)).2 ∧ W.grownBy w' (some gr) :=
  (refRInt_any gr top L a b W h.rdr).mono fun e w' ⟨a2, b2, he, hr, hs, hg⟩ => ⟨a2, b2, he, h.read hr hg, hs, hg⟩
theorem blob (h : RdR w0 W gr top E L H m a b A c A' c') :
    Calls Tryd.prog 79 #[.pointer (some ⟨gr, 0, none⟩)] W fun e w' => ∃ a2 b2 A2 c2, e = .returned (.slice A2 (rdBlob (stOf L a b)).1.length c2) ∧ OwnsB 5 w' W.heap.size A2 c2 (rdBlob (stOf L a b)).1 ∧ RdR w0 w' gr top E L H m a2 b2 A c A' c' ∧ stOf L a2 b2 = (rdBlob (stOf L a b)).2 ∧ W.grownBy w' (some gr) :=
  (refRBlob_any gr top L a b W h.rdr).mono fun e w' ⟨a2, b2, A2, c2, he, ho, hr, hs, hg⟩ => ⟨a2, b2, A2, c2, he, ho, h.read hr hg, hs, hg⟩
theorem small (h : RdR w0 W gr top E L H m a b A c A' c') : (stOf L a b).small ∧ (stOf L a b).rest.length ≤ 1000000 := by
  obtain ⟨A1, c1, h1, h2, h3⟩ := h.rdr.at_
  unfold stOf leftOf
  cases b
  · refine ⟨fun x hx => h2.small x (List.mem_of_mem_drop hx), ?_⟩
    show (L.drop a).length ≤ _
    have := h.rdr.short
    rw [List.length_drop]; omega
  · exact ⟨fun x hx => (by cases hx), Nat.zero_le _⟩
/-- the box is set to a message that leads to what it led to -/
theorem setM (h : RdR w0 W gr top E L H m a b A c A' c') (m' : M) (he : m'.es = m.es) (hd : m'.d = m.d) (hn : ∀ r ∈ nums, InInt (m'.num r)) :
    ∃ W', (stMsg (.pointer (some ⟨w0.heap.size, 0, none⟩)) (.agg #[.int .i64 m'.K, .int .i64 m'.F, .int .i64 m'.T, .int .i64 m'.g, .int .i64 m'.t, .int .i64 m'.i, .int .i64 m'.p, .int .i64 m'.c, .int .i64 m'.r, .int .i64 m'.x, .int .i64 m'.a, .int .i64 m'.b, .int .i64 m'.v, .int .i64 m'.s, .bool m'.ok, .slice A m'.es.length c, .slice A' m'.d.length c'])).run Tryd.prog W = .ok () W' ∧ RdR w0 W' gr top E L H m' a b A c A' c' :=
  ⟨_, st_row W w0.heap.size _ (#[.int .i64 m'.K, .int .i64 m'.F, .int .i64 m'.T, .int .i64 m'.g, .int .i64 m'.t, .int .i64 m'.i, .int .i64 m'.p, .int .i64 m'.c, .int .i64 m'.r, .int .i64 m'.x, .int .i64 m'.a, .int .i64 m'.b, .int .i64 m'.v, .int .i64 m'.s, .bool m'.ok, .slice A m'.es.length c, .slice A' m'.d.length c']) h.box.row rfl rfl (msg_one m' A c A' c'), h.put (set_turned W w0.heap.size #[.int .i64 m'.K, .int .i64 m'.F, .int .i64 m'.T, .int .i64 m'.g, .int .i64 m'.t, .int .i64 m'.i, .int .i64 m'.p, .int .i64 m'.c, .int .i64 m'.r, .int .i64 m'.x, .int .i64 m'.a, .int .i64 m'.b, .int .i64 m'.v, .int .i64 m'.s, .bool m'.ok, .slice A m'.es.length c, .slice A' m'.d.length c']) ⟨Nat.le_refl _, h.lt.2.2.2⟩ ⟨setRow_heap _ _ _ _ _ _ h.box.row⟩ (by rw [he]; exact h.es) (by rw [hd]; exact h.d) h.dE hn (by rw [he]; exact h.few) (by rw [hd]; exact h.thin)⟩
/-- entries have been put behind, and the box tells so -/
theorem app (h : RdR w0 W gr top E L H m a b A c none 0) (hb : Below (w0.heap.size + 3) W W') {A2 : Option Addr} {c2 q : Nat} {K : List Rl.En} (he : OwnE W' (w0.heap.size + 3) W'.heap.size A2 c2 K) (hq : K.length = q) (hf : q ≤ 50000) :
    RdR w0 (W'.setCell ⟨w0.heap.size, 15, none⟩ (.slice A2 q c2)) gr top W'.heap.size L H { m with es := K } a b A2 c2 none 0 := by
  subst hq
  have hl := h.lt
  have hd : m.d = [] := h.d.reads.of_none
  have hx : Bx W' w0.heap.size m A c none 0 := h.box.below hb (by omega)
  have ht : Turned (fun k => k = w0.heap.size) W' (W'.setCell ⟨w0.heap.size, 15, none⟩ (.slice A2 K.length c2)) := Turned.ofGrown (grown_setCell _ _ _ _) (fun k hk => (Option.some.inj hk).symm)
  have hg := grown_setCell W' w0.heap.size 15 (.slice A2 K.length c2)
  have hz : Zero W' (w0.heap.size + 1) := (hb.block _ (by omega)).trans h.zero
  have hh : W'.heap[w0.heap.size + 2]? = some (.cells (ints H).toArray 3 (0, 0)) := (hb.block _ (by omega)).trans h.has
  refine ⟨⟨ht.os.trans (hb.os.trans h.grn.os), ht.tape.trans (hb.tape.trans h.grn.tape), ht.output.trans (hb.output.trans h.grn.output), Nat.le_trans h.grn.size (Nat.le_trans hb.size ht.size), fun k hk hne => (ht.block k (Nat.lt_of_lt_of_le hk (Nat.le_trans h.grn.size hb.size)) (by omega)).trans ((hb.block k (by omega)).trans (h.grn.block k hk hne))⟩, ⟨by rw [row_set hx.row]; rfl⟩, (ht.block _ (row_lt hz) (by omega)).trans hz, (ht.block _ (row_lt hh) (by omega)).trans hh, (h.rdr.belowB hb (by omega)).other hg (fun k hk => by injection hk with hk; omega), ⟨hl.1, hl.2.1, Nat.le_trans hl.2.2.1 (Nat.le_trans hl.2.2.2 hb.size), ht.size⟩, ?_, ?_, (fun k hk => by cases hk), h.num, hf, h.thin⟩
  · exact he.keep ht (fun k hk hB => by have := hB.1; omega)
  · show OwnsB _ _ _ _ _ m.d
    rw [hd]; exact OwnsB.nil _ _ _
theorem badCell (h : RdR w0 W gr top E L H m a b A c A' c') : W.cell? ⟨gr, 2, none⟩ = some (.bool b) := by
  obtain ⟨_, _, _, _, h2, _⟩ := h.rdr.cells
  exact h2
end RdR
theorem stOf_ok (B : List Nat) (a : Nat) (b : Bool) : (stOf B a b).ok := by
  intro h
  have h' : b = true := h
  subst h'; rfl
/-- an entry's box behind all that -/
def Eb (W : World) (g : Nat) (t k : Int) (x : Value) : Prop := W.heap[g]? = some (.cells #[.int .i64 t, .int .i64 k, x] 61 (0, 0))
set_option maxHeartbeats 1600000 in
theorem has_new (K : Int) (h : 1 ≤ K ∧ K ≤ 11) (n : Nat) (hn : (hasL K).length = n) (w : World) :
    Calls Tryd.prog 37 #[.int .i64 K] w fun e w' => e = .returned (.slice (some ⟨w.heap.size, 0, none⟩) n n) ∧ w' = w.alloc (.cells (ints (hasL K)).toArray 3) := by
  have hc : K = 1 ∨ K = 2 ∨ K = 3 ∨ K = 4 ∨ K = 5 ∨ K = 6 ∨ K = 7 ∨ K = 8 ∨ K = 9 ∨ K = 10 ∨ K = 11 := by omega
  subst hn
  clear h
  rcases hc with rfl | rfl | rfl | rfl | rfl | rfl | rfl | rfl | rfl | rfl | rfl <;>
  · go_enter Tryd.func37, Tryd.ntmps37
    go_wp2
    go_ret
    exact ⟨rfl, rfl⟩
end Go.Proofs.YtpigekbfngalbaaDoor.Ms
