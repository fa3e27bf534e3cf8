/- Two lists that are enough of right members have a voter in common; so have one that is enough ahead of a change and one that is enough amid it, and that one and one that is enough behind it. Conditions: none. -/
import Derived.Test.YtblhfbijffaacaaRows
import Derived.Test.YtblhfbijffaacaaLawKit10
import Derived.Test.YtblhfbijffaacaaMeet10
import Derived.Test.YtblhfbijffaacaaConfIn
import Derived.Deep.CutRange
import Derived.WalkKit
import Derived.WalkLawsBesides
import Derived.ProofKit
import Derived.OpenShut
import Derived.ShutString
import Derived.ChangeOld
import Derived.Below
import Derived.SizedLaws
namespace Go.Proofs.Ytblhfbijffaacaa.quorumMeets
open Go.ChangeShapes Go.WideShapes Go.ChangeAt Go.RowKit
open Go.ChangeMaps (open_string shut_string)
set_option linter.unusedVariables false

theorem own : ownKnob Try.prog.godebug = none := by kernel_rfl
theorem laidOut : laidOutB Try.prog = true := by kernel_rfl
theorem bytesOfI : Try.prog.bytesOf 3 = 8 := by kernel_rfl

set_option maxRecDepth 100000 in
set_option maxHeartbeats 4000000 in
/-- the same at any capacity -/
theorem core (B : Nat) (c0 : Qu.Cf) (a00 a01 a02 : Option Addr) (k00 k01 k02 : Nat) (a1 : Option Addr) (cap1 : Nat) (l1 : List Int) (a2 : Option Addr) (cap2 : Nat) (l2 : List Int) (w : World) (h0 : CIs w B c0 a00 a01 a02 k00 k01 k02) (h1 : IsInts w B a1 l1) (n1 : l1.length ≤ maxLen) (h2 : IsInts w B a2 l2) (n2 : l2.length ≤ maxLen) (hB : B ≤ w.heap.size) :
    Calls Try.prog 5 #[.agg #[.slice a00 c0.old.length k00, .slice a01 c0.new.length k01, .slice a02 c0.lrn.length k02], .slice a1 l1.length cap1, .slice a2 l2.length cap2] w fun e w' => e = .returned (.bool true) ∧ Below w.heap.size w w' := by
  unfold maxLen at n1 n2
  obtain ⟨wb, hwb⟩ : ∃ wb, wb = w.alloc (.cells #[.slice a00 c0.old.length k00, .slice a01 c0.new.length k01, .slice a02 c0.lrn.length k02] 24) := ⟨_, rfl⟩
  have hbel : Below w.heap.size w wb := by rw [hwb]; exact (Below.refl _ _).alloc (Nat.le_refl _) _
  have hsz : wb.heap.size = w.heap.size + 1 := by rw [hwb]; simp
  have hcb : CB wb w.heap.size c0 a00 a01 a02 k00 k01 k02 := by rw [hwb]; exact CB.new w c0 a00 a01 a02 k00 k01 k02
  have HC := hid (h0.below (hbel.mono hB))
  have H1 := hid (h1.below (hbel.mono hB))
  have H2 := hid (h2.below (hbel.mono hB))
  have HB := hid hbel
  have HF := hid (And.intro hB hsz)
  have HCB := hid hcb
  have HLG := hid (fun b hb => long_any c0 a00 a01 a02 k00 k01 k02 wb (by have := h0.co; omega) (by have := h0.cn; omega) (by have := h0.cl; omega) b hb)
  have d0 := hcb.c0
  have d1 := hcb.c1
  have d2 := hcb.c2
  clear h0 h1 h2 hB hbel hsz hcb
  by_cases hs : Short c0
  · have HS := hid hs
    have hlg := HLG.out false ⟨fun _ => hs, fun _ => rfl⟩
    have HL := hid hlg
    clear hs hlg HLG
    by_cases e1 : l1.length ≤ 300
    · have e1' : ¬ (300 : Int) < (l1.length : Int) := by omega
      by_cases e2 : l2.length ≤ 300
      · have e2' : ¬ (300 : Int) < (l2.length : Int) := by omega
        have HY : Hid (∀ w', Below wb.heap.size wb w' → CB w' w.heap.size c0 a00 a01 a02 k00 k01 k02 ∧ CIs w' B c0 a00 a01 a02 k00 k01 k02 ∧ IsInts w' B a1 l1 ∧ IsInts w' B a2 l2 ∧ B ≤ w'.heap.size) := hid fun w' hb =>
          ⟨HCB.out.below hb HCB.out.lt, HC.out.below (hb.mono (by have := HF.out; omega)), H1.out.below (hb.mono (by have := HF.out; omega)), H2.out.below (hb.mono (by have := HF.out; omega)), by have := HF.out; have := hb.size; omega⟩
        by_cases hk : Qu.ok c0 = true
        · have HER := hid (Qu.err_ok.2 hk)
          have HK := hid hk
          clear hk
          go_enter Try.func5, Try.ntmps5
          go_wp2_with fail
          rw [← hwb]; clear hwb
          refine HL.out.mono ?_
          rintro e w1 ⟨rfl, hb1⟩
          have HB1 := hid hb1
          obtain ⟨q, qC, q1, q2, q3⟩ := HY.out w1 hb1
          have QQ := hid (And.intro qC q3)
          have d0 := q.c0
          have d1 := q.c1
          have d2 := q.c2
          clear hb1 HL q qC q1 q2 q3
          go_wp2_with fail
          refine (check_N _ _ _ B c0 rfl rfl rfl HS.out a00 a01 a02 k00 k01 k02 w1 QQ.out.1 QQ.out.2 0 HER.out).mono ?_
          rintro e w2 ⟨rfl, hb2⟩
          have HB2 := hid (bthen HB1.out hb2 HB1.out.size)
          obtain ⟨q, qC, q1, q2, q3⟩ := HY.out w2 HB2.out
          have QQ2 := hid (And.intro qC q3)
          have d0 := q.c0
          have d1 := q.c1
          have d2 := q.c2
          clear hb2 HB1 QQ q qC q1 q2 q3
          go_wp2_with fail
          refine (voters_any B c0 HS.out a00 a01 a02 k00 k01 k02 w2 QQ2.out.1 QQ2.out.2).mono ?_
          rintro e w3 ⟨AV, cV, rfl, hV, hb3⟩
          have HV := hid hV.reads
          have hvl : (Qu.uni (c0.old ++ c0.new)).length ≤ 600 := by
            have := (Qu.uni_is (c0.old ++ c0.new)).length_le
            rw [List.length_append] at this
            have := HS.out.1; have := HS.out.2.1; omega
          have HVL := hid hvl
          have HVM := hid (fun x => (Qu.uni_mem (l := c0.old ++ c0.new) (x := x)).trans List.mem_append)
          generalize Qu.uni (c0.old ++ c0.new) = vt at *
          have HB3 := hid (bthen HB2.out hb3 HB2.out.size)
          have HZ : Hid (∀ w', Below w3.heap.size w3 w' → Below wb.heap.size wb w' ∧ CB w' w.heap.size c0 a00 a01 a02 k00 k01 k02 ∧ CIs w' w3.heap.size c0 a00 a01 a02 k00 k01 k02 ∧ IsInts w' w3.heap.size a1 l1 ∧ IsInts w' w3.heap.size a2 l2 ∧ IsInts w' w3.heap.size AV vt ∧ w3.heap.size ≤ w'.heap.size) := hid fun w' hb => by
            have h1 := bthen HB3.out hb HB3.out.size
            obtain ⟨q, qC, q1, q2, q3⟩ := HY.out w' h1
            have hle : B ≤ w3.heap.size := by have := HF.out; have := HB3.out.size; omega
            exact ⟨h1, q, qC.more hle, q1.more hle, q2.more hle, HV.out.below hb, hb.size⟩
          clear hb3 hV hvl HB2 QQ2 HV
          obtain ⟨q0, q, qC, q1, q2, q3, q4⟩ := HZ.out w3 (Below.refl _ _)
          have QQ := hid (And.intro qC (And.intro q1 q2))
          have d0 := q.c0
          have d1 := q.c1
          have d2 := q.c2
          clear q0 q qC q1 q2 q3 q4
          obtain ⟨p, hp⟩ : ∃ p, p = Qu.won c0 l1 := ⟨_, rfl⟩
          obtain ⟨q, hq⟩ : ∃ q, q = Qu.won c0 l2 := ⟨_, rfl⟩
          obtain ⟨p2, hp2⟩ : ∃ p, p = Qu.won ⟨c0.old, [], []⟩ l1 := ⟨_, rfl⟩
          obtain ⟨p3, hp3⟩ : ∃ p, p = Qu.won ⟨c0.new, [], []⟩ l2 := ⟨_, rfl⟩
          have HW1 := hid (fun w' (hb : Below w3.heap.size w3 w') => (won_N _ _ _ _ w3.heap.size c0 rfl rfl rfl HS.out a00 a01 a02 a1 k00 k01 k02 cap1 l1 rfl (by omega) w' (HZ.out w' hb).2.2.1 (HZ.out w' hb).2.2.2.1 (HZ.out w' hb).2.2.2.2.2.2 p hp.symm).mono (fun e w'' (hh : _ ∧ _) => (⟨hh.1, hid (bthen hb hh.2 hb.size)⟩ : e = .returned (.bool p) ∧ Hid (Below w3.heap.size w3 w''))))
          have HW2 := hid (fun w' (hb : Below w3.heap.size w3 w') => (won_N _ _ _ _ w3.heap.size c0 rfl rfl rfl HS.out a00 a01 a02 a2 k00 k01 k02 cap2 l2 rfl (by omega) w' (HZ.out w' hb).2.2.1 (HZ.out w' hb).2.2.2.2.1 (HZ.out w' hb).2.2.2.2.2.2 q hq.symm).mono (fun e w'' (hh : _ ∧ _) => (⟨hh.1, hid (bthen hb hh.2 hb.size)⟩ : e = .returned (.bool q) ∧ Hid (Below w3.heap.size w3 w''))))
          have HW3 := hid (fun w' (hb : Below w3.heap.size w3 w') => (won_N c0.old.length 0 0 _ w3.heap.size ⟨c0.old, [], []⟩ rfl rfl rfl ⟨HS.out.1, by simp, by simp⟩ a00 none none a1 k00 0 0 cap1 l1 rfl (by omega) w' ⟨(HZ.out w' hb).2.2.1.o, IsInts.nil, IsInts.nil, (HZ.out w' hb).2.2.1.zo, fun _ => rfl, fun _ => rfl, (HZ.out w' hb).2.2.1.co, ⟨by simp, by unfold maxLen; omega⟩, ⟨by simp, by unfold maxLen; omega⟩⟩ (HZ.out w' hb).2.2.2.1 (HZ.out w' hb).2.2.2.2.2.2 p2 hp2.symm).mono (fun e w'' (hh : _ ∧ _) => (⟨hh.1, hid (bthen hb hh.2 hb.size)⟩ : e = .returned (.bool p2) ∧ Hid (Below w3.heap.size w3 w''))))
          have HW4 := hid (fun w' (hb : Below w3.heap.size w3 w') => (won_N c0.new.length 0 0 _ w3.heap.size ⟨c0.new, [], []⟩ rfl rfl rfl ⟨HS.out.2.1, by simp, by simp⟩ a01 none none a2 k01 0 0 cap2 l2 rfl (by omega) w' ⟨(HZ.out w' hb).2.2.1.n, IsInts.nil, IsInts.nil, (HZ.out w' hb).2.2.1.zn, fun _ => rfl, fun _ => rfl, (HZ.out w' hb).2.2.1.cn, ⟨by simp, by unfold maxLen; omega⟩, ⟨by simp, by unfold maxLen; omega⟩⟩ (HZ.out w' hb).2.2.2.2.1 (HZ.out w' hb).2.2.2.2.2.2 p3 hp3.symm).mono (fun e w'' (hh : _ ∧ _) => (⟨hh.1, hid (bthen hb hh.2 hb.size)⟩ : e = .returned (.bool p3) ∧ Hid (Below w3.heap.size w3 w''))))
          have HM1 := hid (fun (h1 : p = true) (h2 : q = true) w' (hb : Below w3.heap.size w3 w') => (meet_any w3.heap.size a1 a2 AV cap1 cap2 cV l1 l2 vt (by omega) (by omega) (by have := HVL.out; omega) w' (HZ.out w' hb).2.2.2.1 (HZ.out w' hb).2.2.2.2.1 (HZ.out w' hb).2.2.2.2.2.1 (by
            obtain ⟨x, hx, m1, m2⟩ := Qu.maj_meet (Qu.won_old (hp.symm.trans h1)) (Qu.won_old (hq.symm.trans h2))
            exact ⟨x, of_decide_eq_true m1, of_decide_eq_true m2, (HVM.out x).2 (.inl hx)⟩)).mono (fun e w'' (hh : _ ∧ _) => (⟨hh.1, hid (by rw [hh.2]; exact hb)⟩ : e = .returned (.bool true) ∧ Hid (Below w3.heap.size w3 w''))))
          have HM2 := hid (fun (h1 : p2 = true) (h2 : q = true) w' (hb : Below w3.heap.size w3 w') => (meet_any w3.heap.size a1 a2 a00 cap1 cap2 k00 l1 l2 c0.old (by omega) (by omega) (by have := HS.out.1; omega) w' (HZ.out w' hb).2.2.2.1 (HZ.out w' hb).2.2.2.2.1 (HZ.out w' hb).2.2.1.o (by
            obtain ⟨x, hx, m1, m2⟩ := Qu.maj_meet (l := c0.old) (Qu.won_old (c := ⟨c0.old, [], []⟩) (hp2.symm.trans h1)) (Qu.won_old (c := c0) (hq.symm.trans h2))
            exact ⟨x, of_decide_eq_true m1, of_decide_eq_true m2, hx⟩)).mono (fun e w'' (hh : _ ∧ _) => (⟨hh.1, hid (by rw [hh.2]; exact hb)⟩ : e = .returned (.bool true) ∧ Hid (Below w3.heap.size w3 w''))))
          have HM3 := hid (fun (hn : c0.new ≠ []) (h1 : p = true) (h2 : p3 = true) w' (hb : Below w3.heap.size w3 w') => (meet_any w3.heap.size a1 a2 a01 cap1 cap2 k01 l1 l2 c0.new (by omega) (by omega) (by have := HS.out.2.1; omega) w' (HZ.out w' hb).2.2.2.1 (HZ.out w' hb).2.2.2.2.1 (HZ.out w' hb).2.2.1.n (by
            obtain ⟨x, hx, m1, m2⟩ := Qu.maj_meet (Qu.won_new (hp.symm.trans h1) hn) (Qu.won_old (c := ⟨c0.new, [], []⟩) (hp3.symm.trans h2))
            exact ⟨x, of_decide_eq_true m1, of_decide_eq_true m2, hx⟩)).mono (fun e w'' (hh : _ ∧ _) => (⟨hh.1, hid (by rw [hh.2]; exact hb)⟩ : e = .returned (.bool true) ∧ Hid (Below w3.heap.size w3 w''))))
          clear hp hq hp2 hp3
          go_upto_region 4 with fail
          go_cut [42] from 28 to 42 (fun c wx => c = .bool false ∧ Hid (Below w3.heap.size w3 wx))
          case first =>
            cases p
            · go_wp2_with fail
              refine (HW1.out _ (Below.refl _ _)).mono ?_
              rintro e w4 ⟨rfl, hb4⟩
              go_wp2_with fail
              go_meet
              exact ⟨rfl, hb4⟩
            · cases q
              · go_wp2_with fail
                refine (HW1.out _ (Below.refl _ _)).mono ?_
                rintro e w4 ⟨rfl, hb4⟩
                obtain ⟨_, qc, _⟩ := HZ.out w4 hb4.out
                have d0_4 := qc.c0
                have d1_4 := qc.c1
                have d2_4 := qc.c2
                clear qc
                go_wp2_with fail
                refine (HW2.out _ hb4.out).mono ?_
                rintro e w5 ⟨rfl, hb5⟩
                go_wp2_with fail
                go_meet
                exact ⟨rfl, hb5⟩
              · go_wp2_with fail
                refine (HW1.out _ (Below.refl _ _)).mono ?_
                rintro e w4 ⟨rfl, hb4⟩
                obtain ⟨_, qc, _⟩ := HZ.out w4 hb4.out
                have d0_4 := qc.c0
                have d1_4 := qc.c1
                have d2_4 := qc.c2
                clear qc
                go_wp2_with fail
                refine (HW2.out _ hb4.out).mono ?_
                rintro e w5 ⟨rfl, hb5⟩
                go_wp2_with fail
                refine (HM1.out trivial trivial _ hb5.out).mono ?_
                rintro e w6 ⟨rfl, hb6⟩
                go_wp2_with fail
                go_meet
                exact ⟨rfl, hb6⟩
          case rest =>
            obtain ⟨rfl, hbc⟩ := hcut
            clear d0 d1 d2
            obtain ⟨_, qc, _⟩ := HZ.out wc hbc.out
            have d0_c := qc.c0
            have d1_c := qc.c1
            have d2_c := qc.c2
            clear qc
            go_upto_region 6 with fail
            go_cut [60] from 43 to 60 (fun c wx => c = .bool false ∧ Hid (Below w3.heap.size w3 wx))
            case first =>
              cases p2
              · go_wp2_with fail
                refine (HW3.out _ hbc.out).mono ?_
                rintro e w4 ⟨rfl, hb4⟩
                go_wp2_with fail
                go_meet
                exact ⟨rfl, hb4⟩
              · cases q
                · go_wp2_with fail
                  refine (HW3.out _ hbc.out).mono ?_
                  rintro e w4 ⟨rfl, hb4⟩
                  obtain ⟨_, qc, _⟩ := HZ.out w4 hb4.out
                  have d0_4 := qc.c0
                  have d1_4 := qc.c1
                  have d2_4 := qc.c2
                  clear qc
                  go_wp2_with fail
                  refine (HW2.out _ hb4.out).mono ?_
                  rintro e w5 ⟨rfl, hb5⟩
                  go_wp2_with fail
                  go_meet
                  exact ⟨rfl, hb5⟩
                · go_wp2_with fail
                  refine (HW3.out _ hbc.out).mono ?_
                  rintro e w4 ⟨rfl, hb4⟩
                  obtain ⟨_, qc, _⟩ := HZ.out w4 hb4.out
                  have d0_4 := qc.c0
                  have d1_4 := qc.c1
                  have d2_4 := qc.c2
                  clear qc
                  go_wp2_with fail
                  refine (HW2.out _ hb4.out).mono ?_
                  rintro e w5 ⟨rfl, hb5⟩
                  obtain ⟨_, qc, _⟩ := HZ.out w5 hb5.out
                  have d0_5 := qc.c0
                  have d1_5 := qc.c1
                  have d2_5 := qc.c2
                  clear qc
                  go_wp2_with fail
                  refine (HM2.out trivial trivial _ hb5.out).mono ?_
                  rintro e w6 ⟨rfl, hb6⟩
                  go_wp2_with fail
                  go_meet
                  exact ⟨rfl, hb6⟩
            case rest =>
              obtain ⟨rfl, hbd⟩ := hcut
              clear d0_c d1_c d2_c
              obtain ⟨_, qc, _⟩ := HZ.out wc hbd.out
              have d0_c := qc.c0
              have d1_c := qc.c1
              have d2_c := qc.c2
              clear qc
              go_upto_region 8 with fail
              go_cut [84] from 61 to 84 (fun c wx => c = .bool false ∧ Hid (Below w3.heap.size w3 wx))
              case first =>
                by_cases hn : c0.new = []
                · have hn0 : c0.new.length = 0 := by rw [hn]; rfl
                  rw [hn0] at d1_c
                  clear hn
                  go_wp2_with fail
                  go_meet
                  exact ⟨rfl, hbd⟩
                · have hn0 : (0 : Int) < (c0.new.length : Int) := by have := List.length_pos_iff.2 hn; omega
                  have HN := hid hn
                  clear hn
                  cases p
                  · go_wp2_with fail
                    refine (HW1.out _ hbd.out).mono ?_
                    rintro e w4 ⟨rfl, hb4⟩
                    go_wp2_with fail
                    go_meet
                    exact ⟨rfl, hb4⟩
                  · cases p3
                    · go_wp2_with fail
                      refine (HW1.out _ hbd.out).mono ?_
                      rintro e w4 ⟨rfl, hb4⟩
                      obtain ⟨_, qc, _⟩ := HZ.out w4 hb4.out
                      have d0_4 := qc.c0
                      have d1_4 := qc.c1
                      have d2_4 := qc.c2
                      clear qc
                      go_wp2_with fail
                      refine (HW4.out _ hb4.out).mono ?_
                      rintro e w5 ⟨rfl, hb5⟩
                      go_wp2_with fail
                      go_meet
                      exact ⟨rfl, hb5⟩
                    · go_wp2_with fail
                      refine (HW1.out _ hbd.out).mono ?_
                      rintro e w4 ⟨rfl, hb4⟩
                      obtain ⟨_, qc, _⟩ := HZ.out w4 hb4.out
                      have d0_4 := qc.c0
                      have d1_4 := qc.c1
                      have d2_4 := qc.c2
                      clear qc
                      go_wp2_with fail
                      refine (HW4.out _ hb4.out).mono ?_
                      rintro e w5 ⟨rfl, hb5⟩
                      obtain ⟨_, qc, _⟩ := HZ.out w5 hb5.out
                      have d0_5 := qc.c0
                      have d1_5 := qc.c1
                      have d2_5 := qc.c2
                      clear qc
                      go_wp2_with fail
                      refine (HM3.out HN.out trivial trivial _ hb5.out).mono ?_
                      rintro e w6 ⟨rfl, hb6⟩
                      go_wp2_with fail
                      go_meet
                      exact ⟨rfl, hb6⟩
              case rest =>
                obtain ⟨rfl, hbe⟩ := hcut
                go_wp2_with fail
                refine (works_any _).mono ?_
                rintro e w8 ⟨rfl, hb8⟩
                have HB8 := hid (bthen HB.out (bthen (HZ.out _ hbe.out).1 hb8 (HZ.out _ hbe.out).1.size) HB.out.size)
                clear hb8
                go_wp2
                go_ret
                exact ⟨rfl, HB8.out⟩
        · have her : Qu.err c0 = 29 := by unfold Qu.err; rw [if_neg hk]
          have HER := hid her
          clear hk her
          go_enter Try.func5, Try.ntmps5
          go_wp2_with fail
          rw [← hwb]; clear hwb
          refine HL.out.mono ?_
          rintro e w1 ⟨rfl, hb1⟩
          have HB1 := hid hb1
          obtain ⟨q, qC, q1, q2, q3⟩ := HY.out w1 hb1
          have QQ := hid (And.intro qC q3)
          have d0 := q.c0
          have d1 := q.c1
          have d2 := q.c2
          clear hb1 HL q qC q1 q2 q3
          go_wp2_with fail
          refine (check_N _ _ _ B c0 rfl rfl rfl HS.out a00 a01 a02 k00 k01 k02 w1 QQ.out.1 QQ.out.2 29 HER.out).mono ?_
          rintro e w2 ⟨rfl, hb2⟩
          have HB2 := hid (bthen HB.out (bthen HB1.out hb2 HB1.out.size) HB.out.size)
          clear hb2
          go_wp2_with fail
          refine (works_any _).mono ?_
          rintro e w8 ⟨rfl, hb8⟩
          have HB8 := hid (bthen HB2.out hb8 HB2.out.size)
          clear hb8
          go_wp2
          go_ret
          exact ⟨rfl, HB8.out⟩
      · have e2' : (300 : Int) < (l2.length : Int) := by omega
        go_enter Try.func5, Try.ntmps5
        go_wp2_with fail
        rw [← hwb]; clear hwb
        refine HL.out.mono ?_
        rintro e w1 ⟨rfl, hb1⟩
        have HB1 := hid (bthen HB.out hb1 HB.out.size)
        clear hb1
        go_wp2_with fail
        refine (works_any _).mono ?_
        rintro e w8 ⟨rfl, hb8⟩
        have HB8 := hid (bthen HB1.out hb8 HB1.out.size)
        clear hb8
        go_wp2
        go_ret
        exact ⟨rfl, HB8.out⟩
    · have e1' : (300 : Int) < (l1.length : Int) := by omega
      go_enter Try.func5, Try.ntmps5
      go_wp2_with fail
      rw [← hwb]; clear hwb
      refine HL.out.mono ?_
      rintro e w1 ⟨rfl, hb1⟩
      have HB1 := hid (bthen HB.out hb1 HB.out.size)
      clear hb1
      go_wp2_with fail
      refine (works_any _).mono ?_
      rintro e w8 ⟨rfl, hb8⟩
      have HB8 := hid (bthen HB1.out hb8 HB1.out.size)
      clear hb8
      go_wp2
      go_ret
      exact ⟨rfl, HB8.out⟩
  · have hlg := HLG.out true ⟨(fun h => by cases h), fun h => absurd h hs⟩
    have HL := hid hlg
    clear hs hlg HLG
    go_enter Try.func5, Try.ntmps5
    go_wp2_with fail
    rw [← hwb]; clear hwb
    refine HL.out.mono ?_
    rintro e w1 ⟨rfl, hb1⟩
    have HB1 := hid (bthen HB.out hb1 HB.out.size)
    clear hb1
    go_wp2_with fail
    refine (works_any _).mono ?_
    rintro e w8 ⟨rfl, hb8⟩
    have HB8 := hid (bthen HB1.out hb8 HB1.out.size)
    clear hb8
    go_wp2
    go_ret
    exact ⟨rfl, HB8.out⟩
theorem walk (c0 : Qu.Cf) (a00 a01 a02 : Option Addr) (k00 k01 k02 : Nat) (a1 : Option Addr) (cap1 : Nat) (l1 : List Int) (a2 : Option Addr) (cap2 : Nat) (l2 : List Int) (w : World) (h0 : CIs w w.heap.size c0 a00 a01 a02 k00 k01 k02) (k1 : IsInts w w.heap.size a1 l1) (n1 : l1.length ≤ cap1) (r1 : cap1 * 8 ≤ 140737488351232) (z1 : a1 = none → cap1 = 0) (k2 : IsInts w w.heap.size a2 l2) (n2 : l2.length ≤ cap2) (r2 : cap2 * 8 ≤ 140737488351232) (z2 : a2 = none → cap2 = 0) :
    Calls Try.prog 5 #[.agg #[.slice a00 c0.old.length k00, .slice a01 c0.new.length k01, .slice a02 c0.lrn.length k02], .slice a1 l1.length cap1, .slice a2 l2.length cap2] w fun e w' => e = .returned (.bool true) ∧ Below w.heap.size w w' :=
  core w.heap.size c0 a00 a01 a02 k00 k01 k02 a1 cap1 l1 a2 cap2 l2 w h0 k1 (by unfold maxLen; omega) k2 (by unfold maxLen; omega) (Nat.le_refl _)

set_option maxRecDepth 100000 in
theorem lifted (os : Os) (started : os.Started) (H : Type) (enc : TypeId × Value → H) :
    ReturnsInHanded {} Try.checked os 5 .any (Rows.quorumMeetsSpec.pre6 enc Try.prog Try.f5 Rows.quorumMeetsRow.domain false) (Rows.quorumMeetsSpec.post enc Try.prog Try.f5 false true false false) := by
  refine returnsInHanded_of_change_sized (C := Try.checked) own started (by kernel_rfl) Try.func5
    (ChangeSpec.witness6 (enc := enc) (C := Try.checked) false ⟨#[], #[.agg #[.slice none 0 0, .slice none 0 0, .slice none 0 0], .slice none 0 0, .slice none 0 0], []⟩ 8 (by kernel_rfl) (by kernel_rfl) (by kernel_rfl) (by kernel_rfl)) ?_
  intro W base args ds gs before hval0 hW hcnd hsz0 _
  have hsz : (DataW.weightsEach Try.prog (Try.f5.params.toList ++ Rows.quorumMeetsSpec.plain.varTypes Try.prog) (ds ++ gs)).all (· ≤ reachBytes) = true := hsz0
  clear hsz0
  have hval : ∀ (j : Nat) t v, Try.f5.params[j]? = some t → args[j]? = some v → Value.okWide Try.prog W .any base t v := hval0
  have hW' := hW
  obtain ⟨p, q, hA0, hV, rfl, hfz, hnd⟩ := hW
  have hA : DataW.TrodAll enc Try.prog W 0 (fun _ => true) true Try.f5.params.toList args.toList ds p := hA0
  rw [Try.params5] at hA hval hsz
  obtain ⟨v0, vs0, d0, ds0, p0, q0, hargs, rfl, rfl, g0, t0⟩ := trodAll_cons hA
  obtain ⟨v1, vs1, d1, ds1, p1, q1, rfl, rfl, rfl, g1, t1⟩ := trodAll_cons t0
  obtain ⟨v2, vs2, d2, ds2, p2, q2, rfl, rfl, rfl, g2, t2⟩ := trodAll_cons t1
  obtain ⟨rfl, rfl, rfl⟩ := trodAll_nil t2
  obtain rfl : args = #[v0, v1, v2] := by cases args; simp_all
  obtain ⟨rfl, rfl⟩ := trodVars_none hV
  obtain ⟨cs0, rfl, sz0⟩ := okWide_struct Try.underlying24 (hval 0 24 v0 rfl rfl)
  have m0 := g0
  have lt0 : ∀ x ∈ p0, x.block < W.heap.size := by obtain ⟨m, hm⟩ := m0; exact DataW.trod_lt m _ _ _ hm
  obtain ⟨c0, a00, a01, a02, k00, k01, k02, rfl, k0⟩ := conf_open sz0 g0
  obtain ⟨a1, len1, cap1, rfl⟩ := okWide_slice Try.underlying22 (hval 1 22 v1 rfl rfl)
  have m1 := g1
  have lt1 : ∀ x ∈ p1, x.block < W.heap.size := by obtain ⟨m, hm⟩ := m1; exact DataW.trod_lt m _ _ _ hm
  obtain ⟨l1, k1, rfl, n1, r1, z1⟩ : ∃ l, IsInts W W.heap.size a1 l ∧ len1 = l.length ∧ l.length ≤ cap1 ∧ cap1 * 8 ≤ 140737488351232 ∧ (a1 = none → cap1 = 0) := by
    obtain ⟨fuel, hf⟩ := g1
    rcases open_ints Try.underlying22 Try.underlying3 (by kernel_rfl) hf with ⟨hcs, _⟩ | ⟨x, l, c, zs, hcs, _, hl, hm, hz, hx, hcell, hwz⟩
    · simp [Value.cells] at hcs
      obtain ⟨rfl, rfl, rfl⟩ := hcs
      exact ⟨[], IsInts.nil, rfl, by simp, by omega, fun _ => rfl⟩
    · simp [Value.cells] at hcs
      obtain ⟨rfl, rfl, rfl⟩ := hcs
      simp only [Prod.mk.injEq] at hx
      obtain ⟨rfl, rfl⟩ := hx
      simp only [if_true] at hz
      have hr := sized_slice hsz (j := 1) (t := 22) (e := 3) rfl rfl Try.underlying22
      rw [bytesOfI] at hr
      simp only [lits, List.length_map, List.length_take, List.length_drop, reachBytes] at hr
      obtain ⟨l, h1, h2⟩ := isInts_of_ints hl hz hcell hwz
      exact ⟨l, h1, h2, by omega, by omega, fun h => by cases h⟩
  obtain ⟨a2, len2, cap2, rfl⟩ := okWide_slice Try.underlying22 (hval 2 22 v2 rfl rfl)
  have m2 := g2
  have lt2 : ∀ x ∈ p2, x.block < W.heap.size := by obtain ⟨m, hm⟩ := m2; exact DataW.trod_lt m _ _ _ hm
  obtain ⟨l2, k2, rfl, n2, r2, z2⟩ : ∃ l, IsInts W W.heap.size a2 l ∧ len2 = l.length ∧ l.length ≤ cap2 ∧ cap2 * 8 ≤ 140737488351232 ∧ (a2 = none → cap2 = 0) := by
    obtain ⟨fuel, hf⟩ := g2
    rcases open_ints Try.underlying22 Try.underlying3 (by kernel_rfl) hf with ⟨hcs, _⟩ | ⟨x, l, c, zs, hcs, _, hl, hm, hz, hx, hcell, hwz⟩
    · simp [Value.cells] at hcs
      obtain ⟨rfl, rfl, rfl⟩ := hcs
      exact ⟨[], IsInts.nil, rfl, by simp, by omega, fun _ => rfl⟩
    · simp [Value.cells] at hcs
      obtain ⟨rfl, rfl, rfl⟩ := hcs
      simp only [Prod.mk.injEq] at hx
      obtain ⟨rfl, rfl⟩ := hx
      simp only [if_true] at hz
      have hr := sized_slice hsz (j := 2) (t := 22) (e := 3) rfl rfl Try.underlying22
      rw [bytesOfI] at hr
      simp only [lits, List.length_map, List.length_take, List.length_drop, reachBytes] at hr
      obtain ⟨l, h1, h2⟩ := isInts_of_ints hl hz hcell hwz
      exact ⟨l, h1, h2, by omega, by omega, fun h => by cases h⟩
  clear hA0 hval0
  refine (walk c0 a00 a01 a02 k00 k01 k02 a1 cap1 l1 a2 cap2 l2 W k0 k1 n1 r1 z1 k2 n2 r2 z2).mono fun e W' ⟨he, bel⟩ => ?_
  subst he
  exact ⟨_, rfl, _, _, _, [], _, [], hW', trodAll_mk1 (shut_bool Try.underlying4 _), (trodAll_cons_mk (Below.trod laidOut (by kernel_rfl) (of_decide_eq_true (by kernel_rfl)) m0 bel lt0) (trodAll_cons_mk (Below.trod laidOut (by kernel_rfl) (of_decide_eq_true (by kernel_rfl)) m1 bel lt1) (trodAll_cons_mk (Below.trod laidOut (by kernel_rfl) (of_decide_eq_true (by kernel_rfl)) m2 bel lt2) trodAll_mk0))), rfl, bel.frame _, fun h => by cases h⟩

theorem over : Rows.quorumMeetsRow.holds Try.pinned (OpenSpec.ofChange Rows.quorumMeetsSpec) :=
  OpenClaim.holds_of_wide 5 Try.f5 rfl rfl rfl rfl rfl rfl rfl ⟨rfl, rfl, rfl, rfl, rfl⟩ rfl rfl rfl rfl rfl (by kernel_rfl) Try.func5 (by kernel_rfl)
    (of_decide_eq_true (by kernel_rfl)) (by unfold Func.isWrapper; first | (rw [if_pos (by decide +kernel)]; kernel_rfl) | (rw [if_neg (by decide +kernel)]; exact ⟨rfl, rfl⟩))
    (fun os started H enc _ => lifted os started H enc)

theorem proved : Rows.QuorumMeetsSaid := over
end Go.Proofs.Ytblhfbijffaacaa.quorumMeets
