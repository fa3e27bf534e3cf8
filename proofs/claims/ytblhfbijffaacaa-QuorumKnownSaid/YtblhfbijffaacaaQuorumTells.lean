/- Of any members it is told, as the document says, whether they are right, who votes and who belongs to them, in new memory, and whether those that agree are enough; what is handed in stays. Conditions: none. -/
import Derived.Test.YtblhfbijffaacaaRows
import Derived.Test.YtblhfbijffaacaaLawKit10
import Derived.Test.YtblhfbijffaacaaRqC
import Derived.Test.YtblhfbijffaacaaRqD
import Derived.Test.YtblhfbijffaacaaConfIn
import Derived.Test.YtblhfbijffaacaaSpoil
import Derived.Deep.CutRange
import Derived.WalkKit
import Derived.WalkLawsBesides
import Derived.ProofKit
import Derived.OpenShut
import Derived.ShutString
import Derived.ChangeOld
import Derived.Below
import Derived.SizedLaws
namespace Go.Proofs.Ytblhfbijffaacaa.quorumTells
open Go.ChangeShapes Go.WideShapes Go.ChangeAt Go.RowKit
open Go.ChangeMaps (open_string shut_string)
set_option linter.unusedVariables false

theorem own : ownKnob Try.prog.godebug = none := by kernel_rfl
theorem laidOut : laidOutB Try.prog = true := by kernel_rfl
theorem bytesOfI : Try.prog.bytesOf 3 = 8 := by kernel_rfl

set_option maxRecDepth 100000 in
set_option maxHeartbeats 4000000 in
/-- the same at any capacity -/
theorem core (B : Nat) (c0 : Qu.Cf) (a00 a01 a02 : Option Addr) (k00 k01 k02 : Nat) (a1 : Option Addr) (cap1 : Nat) (l1 : List Int) (w : World) (h0 : CIs w B c0 a00 a01 a02 k00 k01 k02) (h1 : IsInts w B a1 l1) (n1 : l1.length ≤ maxLen) (hB : B ≤ w.heap.size) :
    Calls Try.prog 3 #[.agg #[.slice a00 c0.old.length k00, .slice a01 c0.new.length k01, .slice a02 c0.lrn.length k02], .slice a1 l1.length cap1] w fun e w' => e = .returned (.bool true) ∧ Below w.heap.size w w' := by
  unfold maxLen at n1
  obtain ⟨wb, hwb⟩ : ∃ wb, wb = w.alloc (.cells #[.slice a00 c0.old.length k00, .slice a01 c0.new.length k01, .slice a02 c0.lrn.length k02] 24) := ⟨_, rfl⟩
  have hbel : Below w.heap.size w wb := by rw [hwb]; exact (Below.refl _ _).alloc (Nat.le_refl _) _
  have hsz : wb.heap.size = w.heap.size + 1 := by rw [hwb]; simp
  have hcb : CB wb w.heap.size c0 a00 a01 a02 k00 k01 k02 := by rw [hwb]; exact CB.new w c0 a00 a01 a02 k00 k01 k02
  have HC := hid (h0.below (hbel.mono hB))
  have H1 := hid (h1.below (hbel.mono hB))
  have HB := hid hbel
  have HF := hid (And.intro hB hsz)
  have HCB := hid hcb
  have HLG := hid (fun b hb => long_any c0 a00 a01 a02 k00 k01 k02 wb (by have := h0.co; omega) (by have := h0.cn; omega) (by have := h0.cl; omega) b hb)
  have d0 := hcb.c0
  have d1 := hcb.c1
  have d2 := hcb.c2
  clear h0 h1 hB hbel hsz hcb
  by_cases hs : Short c0
  · have HS := hid hs
    have hlg := HLG.out false ⟨fun _ => hs, fun _ => rfl⟩
    have HL := hid hlg
    clear hs hlg HLG
    by_cases e1 : l1.length ≤ 300
    · have e1' : ¬ (300 : Int) < (l1.length : Int) := by omega
      have HY : Hid (∀ w', Below wb.heap.size wb w' → CB w' w.heap.size c0 a00 a01 a02 k00 k01 k02 ∧ CIs w' B c0 a00 a01 a02 k00 k01 k02 ∧ IsInts w' B a1 l1 ∧ B ≤ w'.heap.size) := hid fun w' hb =>
        ⟨HCB.out.below hb HCB.out.lt, HC.out.below (hb.mono (by have := HF.out; omega)), H1.out.below (hb.mono (by have := HF.out; omega)), by have := HF.out; have := hb.size; omega⟩
      go_enter Try.func3, Try.ntmps3
      go_wp2_with fail
      rw [← hwb]; clear hwb
      refine HL.out.mono ?_
      rintro e w1 ⟨rfl, hb1⟩
      have HB1 := hid hb1
      obtain ⟨q, qC, q1, q3⟩ := HY.out w1 hb1
      have QQ := hid (And.intro qC q3)
      have d0 := q.c0
      have d1 := q.c1
      have d2 := q.c2
      clear hb1 HL q qC q1 q3
      go_wp2_with fail
      refine (copyConf_any B c0 HS.out a00 a01 a02 k00 k01 k02 w1 QQ.out.1 QQ.out.2).mono ?_
      rintro e w2 ⟨A0, A1, A2, p0, p1, p2, rfl, hCx, hb2⟩
      have HCX := hid hCx
      have HB2 := hid (bthen HB1.out hb2 HB1.out.size)
      clear hCx hb2 HB1 QQ d0 d1 d2
      go_wp2_with fail
      obtain ⟨w4, hw4⟩ : ∃ w4, w4 = w2.alloc (.cells #[.slice A0 c0.old.length p0, .slice A1 c0.new.length p1, .slice A2 c0.lrn.length p2] 24) := ⟨_, rfl⟩
      have hb4 : Below w2.heap.size w2 w4 := by rw [hw4]; exact (Below.refl _ _).alloc (Nat.le_refl _) _
      have hsz4 : w4.heap.size = w2.heap.size + 1 := by rw [hw4]; simp
      have hcx4 : CB w4 w2.heap.size c0 A0 A1 A2 p0 p1 p2 := by rw [hw4]; exact CB.new w2 c0 A0 A1 A2 p0 p1 p2
      rw [← hw4]; clear hw4
      have HB4 := hid (And.intro hb4 hsz4)
      have HBB4 := hid (bthen HB2.out hb4 HB2.out.size)
      have HCX4 := hid hcx4
      clear hb4 hsz4 hcx4
      refine (I.lent_any B a1 cap1 l1 (by omega) w4 (HY.out w4 HBB4.out).2.2.1 (HY.out w4 HBB4.out).2.2.2).mono ?_
      rintro e w5 ⟨gy, cy, rfl, oy, hb5⟩
      have hcy := (ownsI_cap oy).2
      rw [I.lent_length] at hcy
      unfold maxLen at hcy
      have HCY := hid hcy
      have OY := hid oy.reads
      have HB5 := hid hb5
      have HBB5 := hid (bthen HBB4.out hb5 HBB4.out.size)
      clear oy hb5
      have HZ : Hid (∀ w', Below w5.heap.size w5 w' → Below wb.heap.size wb w' ∧ CB w' w.heap.size c0 a00 a01 a02 k00 k01 k02 ∧ CB w' w2.heap.size c0 A0 A1 A2 p0 p1 p2 ∧ CIs w' w5.heap.size c0 a00 a01 a02 k00 k01 k02 ∧ CIs w' w5.heap.size c0 A0 A1 A2 p0 p1 p2 ∧ IsInts w' w5.heap.size a1 l1 ∧ IsInts w' w5.heap.size (some ⟨gy, 0, none⟩) (I.lent l1) ∧ w5.heap.size ≤ w'.heap.size) := hid fun w' hb => by
        have h1 := bthen HBB5.out hb HBB5.out.size
        obtain ⟨q, qC, q1, q3⟩ := HY.out w' h1
        have hs4 := HB4.out.2
        have hs5 := HB5.out.size
        have hle : B ≤ w5.heap.size := by have := HF.out; have := HBB5.out.size; omega
        have hb45 : Below w4.heap.size w4 w' := bthen HB5.out hb hs5
        have hb25 : Below w2.heap.size w2 w' := bthen HB4.out.1 hb45 (by omega)
        exact ⟨h1, q, HCX4.out.below hb45 (by omega), qC.more hle, (HCX.out.below hb25).more (by omega), q1.more hle, OY.out.below hb, hb.size⟩
      have HCC : Hid (∀ w', Below w5.heap.size w5 w' → w'.cell? ⟨w.heap.size, 0, none⟩ = some (.slice a00 c0.old.length k00) ∧ w'.cell? ⟨w.heap.size, 1, none⟩ = some (.slice a01 c0.new.length k01) ∧ w'.cell? ⟨w.heap.size, 2, none⟩ = some (.slice a02 c0.lrn.length k02) ∧ w'.cell? ⟨w2.heap.size, 0, none⟩ = some (.slice A0 c0.old.length p0) ∧ w'.cell? ⟨w2.heap.size, 1, none⟩ = some (.slice A1 c0.new.length p1) ∧ w'.cell? ⟨w2.heap.size, 2, none⟩ = some (.slice A2 c0.lrn.length p2)) := hid fun w' hb => by
        have q := (HZ.out w' hb).2.1
        have q' := (HZ.out w' hb).2.2.1
        exact ⟨q.c0, q.c1, q.c2, q'.c0, q'.c1, q'.c2⟩
      obtain ⟨vt, hvt⟩ : ∃ vt, vt = Qu.uni (c0.old ++ c0.new) := ⟨_, rfl⟩
      obtain ⟨mt, hmt⟩ : ∃ mt, mt = Qu.uni (c0.old ++ c0.new ++ c0.lrn) := ⟨_, rfl⟩
      have hvl : vt.length ≤ 1000 := by
        have := (Qu.uni_is (c0.old ++ c0.new)).length_le
        rw [List.length_append] at this
        rw [hvt]
        have := HS.out.1; have := HS.out.2.1; omega
      have hml : mt.length ≤ 1000 := by
        have := (Qu.uni_is (c0.old ++ c0.new ++ c0.lrn)).length_le
        rw [List.length_append, List.length_append] at this
        rw [hmt]
        have := HS.out.1; have := HS.out.2.1; have := HS.out.2.2; omega
      have HVT : Hid (∀ w', Below w5.heap.size w5 w' → Calls Try.prog 13 #[.agg #[.slice A0 c0.old.length p0, .slice A1 c0.new.length p1, .slice A2 c0.lrn.length p2]] w' fun e w'' => ∃ A' c', e = .returned (.slice A' vt.length c') ∧ Hid (OwnsI 3 w'' w'.heap.size A' c' vt ∧ Below w'.heap.size w' w'') ∧ Hid (Below w5.heap.size w5 w'')) := hid fun w' hb => by
        have := voters_any w5.heap.size c0 HS.out A0 A1 A2 p0 p1 p2 w' (HZ.out w' hb).2.2.2.2.1 (HZ.out w' hb).2.2.2.2.2.2.2
        rw [← hvt] at this
        refine this.mono ?_
        rintro e w'' ⟨A', c', he, ho, hb2⟩
        exact ⟨A', c', he, hid ⟨ho, hb2⟩, hid (bthen hb hb2 hb.size)⟩
      have HMT : Hid (∀ w', Below w5.heap.size w5 w' → Calls Try.prog 14 #[.agg #[.slice A0 c0.old.length p0, .slice A1 c0.new.length p1, .slice A2 c0.lrn.length p2]] w' fun e w'' => ∃ A' c', e = .returned (.slice A' mt.length c') ∧ Hid (OwnsI 3 w'' w'.heap.size A' c' mt ∧ Below w'.heap.size w' w'') ∧ Hid (Below w5.heap.size w5 w'')) := hid fun w' hb => by
        have := members_any w5.heap.size c0 HS.out A0 A1 A2 p0 p1 p2 w' (HZ.out w' hb).2.2.2.2.1 (HZ.out w' hb).2.2.2.2.2.2.2
        rw [← hmt] at this
        refine this.mono ?_
        rintro e w'' ⟨A', c', he, ho, hb2⟩
        exact ⟨A', c', he, hid ⟨ho, hb2⟩, hid (bthen hb hb2 hb.size)⟩
      have HRV : Hid (∀ w', Below w5.heap.size w5 w' → Calls Try.prog 20 #[.agg #[.slice a00 c0.old.length k00, .slice a01 c0.new.length k01, .slice a02 c0.lrn.length k02]] w' fun e w'' => ∃ A' c' m', e = .returned (.slice A' m' c') ∧ Hid (vt.length = m' ∧ IsInts w'' w''.heap.size A' vt) ∧ Hid (Below w'.heap.size w' w'')) := hid fun w' hb => by
        have := refVoters_any w5.heap.size c0 HS.out a00 a01 a02 k00 k01 k02 w' (HZ.out w' hb).2.2.2.1 (HZ.out w' hb).2.2.2.2.2.2.2
        rw [← hvt] at this
        refine this.mono ?_
        rintro e w'' ⟨A', c', m', he, ho⟩
        exact ⟨A', c', m', he, hid ⟨ho.out.1, ho.out.2.1⟩, hid ho.out.2.2⟩
      have HRM : Hid (∀ w', Below w5.heap.size w5 w' → Calls Try.prog 21 #[.agg #[.slice a00 c0.old.length k00, .slice a01 c0.new.length k01, .slice a02 c0.lrn.length k02]] w' fun e w'' => ∃ A' c' m', e = .returned (.slice A' m' c') ∧ Hid (mt.length = m' ∧ IsInts w'' w''.heap.size A' mt) ∧ Hid (Below w'.heap.size w' w'')) := hid fun w' hb => by
        have := refMembers_any w5.heap.size c0 HS.out a00 a01 a02 k00 k01 k02 w' (HZ.out w' hb).2.2.2.1 (HZ.out w' hb).2.2.2.2.2.2.2
        rw [← hmt] at this
        refine this.mono ?_
        rintro e w'' ⟨A', c', m', he, ho⟩
        exact ⟨A', c', m', he, hid ⟨ho.out.1, ho.out.2.1⟩, hid ho.out.2.2⟩
      have HLN := hid (And.intro hvl hml)
      clear hvt hmt hvl hml HCX4 HCX HB2
      have d0 := (HZ.out w5 (Below.refl _ _)).2.2.1.c0
      have d1 := (HZ.out w5 (Below.refl _ _)).2.2.1.c1
      have d2 := (HZ.out w5 (Below.refl _ _)).2.2.1.c2
      go_wp2_with fail
      refine (HVT.out w5 (Below.refl _ _)).mono ?_
      rintro e w6 ⟨Av, cv, rfl, HOv, HB6⟩
      clear d0 d1 d2
      have d0 := (HZ.out w6 HB6.out).2.2.1.c0
      have d1 := (HZ.out w6 HB6.out).2.2.1.c1
      have d2 := (HZ.out w6 HB6.out).2.2.1.c2
      go_wp2_with fail
      refine (HMT.out w6 HB6.out).mono ?_
      rintro e w7 ⟨Am, cm, rfl, HOm, HB7⟩
      clear d0 d1 d2
      have HU : Hid (∀ w', Below w7.heap.size w7 w' → OwnsI 3 w' w5.heap.size Av cv vt ∧ OwnsI 3 w' w6.heap.size Am cm mt ∧ Below w5.heap.size w5 w') := hid fun w' hb =>
        ⟨(HOv.out.1.below HOm.out.2).below hb, HOm.out.1.below hb, bthen HB7.out hb HB7.out.size⟩
      obtain ⟨er, her⟩ : ∃ er, er = Qu.err c0 := ⟨_, rfl⟩
      obtain ⟨q, hq⟩ : ∃ q, q = Qu.won c0 l1 := ⟨_, rfl⟩
      have HCK := hid (fun w' (hb : Below w7.heap.size w7 w') => (check_N _ _ _ w5.heap.size c0 rfl rfl rfl HS.out A0 A1 A2 p0 p1 p2 w' (HZ.out w' (HU.out w' hb).2.2).2.2.2.2.1 (HZ.out w' (HU.out w' hb).2.2).2.2.2.2.2.2.2 er her.symm).mono (fun e w'' (hh : _ ∧ _) => (⟨hh.1, hid (bthen hb hh.2 hb.size)⟩ : e = .returned (.int .i64 er) ∧ Hid (Below w7.heap.size w7 w''))))
      have HRC : Hid (∀ w', Below w7.heap.size w7 w' → Calls Try.prog 16 #[.agg #[.slice a00 c0.old.length k00, .slice a01 c0.new.length k01, .slice a02 c0.lrn.length k02]] w' fun e w'' => e = .returned (.int .i64 er) ∧ Hid (Below w7.heap.size w7 w'')) := hid fun w' hb => by
        have := refCheck_any w5.heap.size c0 HS.out a00 a01 a02 k00 k01 k02 w' (HZ.out w' (HU.out w' hb).2.2).2.2.2.1 (HZ.out w' (HU.out w' hb).2.2).2.2.2.2.2.2.2
        rw [← her] at this
        exact this.mono (fun e w'' hh => ⟨hh.1, hid (bthen hb hh.2 hb.size)⟩)
      have HWN := hid (fun w' (hb : Below w7.heap.size w7 w') => (won_N _ _ _ l1.length w5.heap.size c0 rfl rfl rfl HS.out A0 A1 A2 (some ⟨gy, 0, none⟩) p0 p1 p2 cy l1 rfl (by omega) w' (HZ.out w' (HU.out w' hb).2.2).2.2.2.2.1 (lent_takes (HZ.out w' (HU.out w' hb).2.2).2.2.2.2.2.2.1) (HZ.out w' (HU.out w' hb).2.2).2.2.2.2.2.2.2 q hq.symm).mono (fun e w'' (hh : _ ∧ _) => (⟨hh.1, hid (bthen hb hh.2 hb.size)⟩ : e = .returned (.bool q) ∧ Hid (Below w7.heap.size w7 w''))))
      have HRW : Hid (∀ w', Below w7.heap.size w7 w' → Calls Try.prog 18 #[.agg #[.slice a00 c0.old.length k00, .slice a01 c0.new.length k01, .slice a02 c0.lrn.length k02], .slice a1 l1.length cap1] w' fun e w'' => e = .returned (.bool q) ∧ Hid (Below w7.heap.size w7 w'')) := hid fun w' hb => by
        have := refWon_any w5.heap.size c0 HS.out a00 a01 a02 a1 k00 k01 k02 cap1 l1 (by omega) w' (HZ.out w' (HU.out w' hb).2.2).2.2.2.1 (HZ.out w' (HU.out w' hb).2.2).2.2.2.2.2.1 (HZ.out w' (HU.out w' hb).2.2).2.2.2.2.2.2.2
        rw [← hq] at this
        exact this.mono (fun e w'' hh => ⟨hh.1, hid (bthen hb hh.2 hb.size)⟩)
      have HS1 : Hid (∀ w' A' c' m', Below w7.heap.size w7 w' → (vt.length = m' ∧ IsInts w' w'.heap.size A' vt) → Calls Try.prog 19 #[.slice Av vt.length cv, .slice A' m' c'] w' fun e w'' => e = .returned (.bool true) ∧ Hid (Below w7.heap.size w7 w'')) := hid fun w' A' c' m' hb hi =>
        (sameI_T rfl hi.1 (by have := HLN.out; omega) rfl (HU.out w' hb).1.reads hi.2).mono (fun e w'' hh => ⟨hh.1, hid (by obtain ⟨j, hj⟩ := hh.2; rw [hj]; exact below_drewN hb j)⟩)
      have HS2 : Hid (∀ w' A' c' m', Below w7.heap.size w7 w' → (mt.length = m' ∧ IsInts w' w'.heap.size A' mt) → Calls Try.prog 19 #[.slice Am mt.length cm, .slice A' m' c'] w' fun e w'' => e = .returned (.bool true) ∧ Hid (Below w7.heap.size w7 w'')) := hid fun w' A' c' m' hb hi =>
        (sameI_T rfl hi.1 (by have := HLN.out; omega) rfl (HU.out w' hb).2.1.reads hi.2).mono (fun e w'' hh => ⟨hh.1, hid (by obtain ⟨j, hj⟩ := hh.2; rw [hj]; exact below_drewN hb j)⟩)
      clear her hq
      obtain ⟨d0, d1, d2, x0, x1, x2⟩ := HCC.out w7 HB7.out
      have hS0 : w7.drew.cell? ⟨w.heap.size, 0, none⟩ = some (.slice a00 c0.old.length k00) ∧ w7.drew.cell? ⟨w.heap.size, 1, none⟩ = some (.slice a01 c0.new.length k01) ∧ w7.drew.cell? ⟨w.heap.size, 2, none⟩ = some (.slice a02 c0.lrn.length k02) ∧ w7.drew.cell? ⟨w2.heap.size, 0, none⟩ = some (.slice A0 c0.old.length p0) ∧ w7.drew.cell? ⟨w2.heap.size, 1, none⟩ = some (.slice A1 c0.new.length p1) ∧ w7.drew.cell? ⟨w2.heap.size, 2, none⟩ = some (.slice A2 c0.lrn.length p2) := ⟨d0, d1, d2, x0, x1, x2⟩
      have hB : Hid (Below w7.heap.size w7 w7.drew) := hid (Below.drew (Below.refl _ _))
      have hbe : (er != er) = false := by simp
      have hbq : (q != q) = false := by cases q <;> rfl
      have y1 : l1.length ≤ cy := by have := HCY.out; omega
      have y2 : (0 : Int) ≤ (l1.length : Int) := by omega
      have y3 : (l1.length : Int) ≤ (cy : Int) := by omega
      have y4 : (cy : Int) ≤ 9223372036854775807 := by have := HCY.out; omega
      go_upto_region 7 with fail
      go_cut [55] from 25 to 55 (fun c wx => c = .bool false ∧ Hid (Below w7.heap.size w7 wx))
      case first =>
        go_region_held3 (fun w' => w'.cell? ⟨w.heap.size, 0, none⟩ = some (.slice a00 c0.old.length k00) ∧ w'.cell? ⟨w.heap.size, 1, none⟩ = some (.slice a01 c0.new.length k01) ∧ w'.cell? ⟨w.heap.size, 2, none⟩ = some (.slice a02 c0.lrn.length k02) ∧ w'.cell? ⟨w2.heap.size, 0, none⟩ = some (.slice A0 c0.old.length p0) ∧ w'.cell? ⟨w2.heap.size, 1, none⟩ = some (.slice A1 c0.new.length p1) ∧ w'.cell? ⟨w2.heap.size, 2, none⟩ = some (.slice A2 c0.lrn.length p2))
          (first | exact hS0 | exact HCC.out _ (HU.out _ hB.out).2.2 | fail)
          (first
            | (go_at_call 15; refine (HCK.out _ hB.out).mono ?_; rintro e8 w8 ⟨rfl, hB⟩)
            | (go_at_call 16; refine (HRC.out _ hB.out).mono ?_; rintro e8 w8 ⟨rfl, hB⟩)
            | (go_at_call 17; refine (HWN.out _ hB.out).mono ?_; rintro e8 w8 ⟨rfl, hB⟩)
            | (go_at_call 18; refine (HRW.out _ hB.out).mono ?_; rintro e8 w8 ⟨rfl, hB⟩)
            | (go_at_call 20; refine (HRV.out _ (HU.out _ hB.out).2.2).mono ?_; rintro e8 w8 ⟨A8, c8, m8, rfl, HV8, HBn⟩; have hB := hid (bthen hB.out HBn.out hB.out.size))
            | (go_at_call 21; refine (HRM.out _ (HU.out _ hB.out).2.2).mono ?_; rintro e8 w8 ⟨A9, c9, m9, rfl, HV9, HBn⟩; have hB := hid (bthen hB.out HBn.out hB.out.size))
            | (go_at_call 19; with_reducible refine (HS1.out _ _ _ _ hB.out HV8.out).mono ?_; rintro e8 w8 ⟨rfl, hB⟩)
            | (go_at_call 19; with_reducible refine (HS2.out _ _ _ _ hB.out HV9.out).mono ?_; rintro e8 w8 ⟨rfl, hB⟩))
        go_wp2_with fail
        go_meet
        exact ⟨rfl, hB⟩
      case rest =>
        obtain ⟨rfl, hbc⟩ := hcut
        have HUV := hid (HU.out wc hbc.out)
        have hg5 := fun k e => HOv.out.1.blkLt k e
        have HG5 := hid hg5
        have hg6 := fun k e => HOm.out.1.blkLt k e
        have HG6 := hid hg6
        clear hS0 d0 d1 d2 x0 x1 x2 hB hbe hbq y1 y2 y3 y4 hg5 hg6 HCK HRC HWN HRW HS1 HS2
        go_wp2_with fail
        refine (spoilI_N w5.heap.size Av cv vt vt.length rfl (by unfold maxLen; have := HLN.out; omega) wc HUV.out.1).mono ?_
        rintro e w8 ⟨rfl, hg8⟩
        have HB8 := hid (HUV.out.2.2.grown hg8 HUV.out.2.2.size (fun k e => (HG5.out k e).1))
        have HM8 := hid (HUV.out.2.1.grown hg8 (fun k e => (HG5.out k e).2))
        have d0 := (HZ.out w8 HB8.out).2.1.c0
        have d1 := (HZ.out w8 HB8.out).2.1.c1
        have d2 := (HZ.out w8 HB8.out).2.1.c2
        clear hg8
        go_wp2_with fail
        refine (HRM.out w8 HB8.out).mono ?_
        rintro e w9 ⟨A9, c9, m9, rfl, HV9, HBn⟩
        have HM9 := hid (HM8.out.below HBn.out)
        have HB9 := hid (bthen HB8.out HBn.out HB8.out.size)
        clear d0 d1 d2
        go_wp2_with fail
        refine (sameI_T rfl HV9.out.1 (by have := HLN.out; omega) rfl HM9.out.reads HV9.out.2).mono ?_
        rintro e w10 ⟨rfl, n10, rfl⟩
        go_wp2_with fail
        refine (spoilI_N w6.heap.size Am cm mt mt.length rfl (by unfold maxLen; have := HLN.out; omega) (w9.drewN n10) (HM9.out.drewN n10)).mono ?_
        rintro e w11 ⟨rfl, hg11⟩
        have HB11 := hid ((below_drewN HB9.out n10).grown hg11 (below_drewN HB9.out n10).size (fun k e => by have := (HG6.out k e).1; have := HB6.out.size; omega))
        clear hg11
        have HSC := hid (fun w' (hb : Below w5.heap.size w5 w') => (sameConf_any w5.heap.size w5.heap.size c0 c0 HS.out HS.out A0 A1 A2 a00 a01 a02 p0 p1 p2 k00 k01 k02 w' (HZ.out w' hb).2.2.2.2.1 (HZ.out w' hb).2.2.2.1 (HZ.out w' hb).2.2.2.2.2.2.2 (HZ.out w' hb).2.2.2.2.2.2.2 rfl).mono (fun e w'' (hh : _ ∧ _) => (⟨hh.1, hid (bthen hb hh.2 hb.size)⟩ : e = .returned (.bool true) ∧ Hid (Below w5.heap.size w5 w''))))
        have HKP : Hid (∀ w', Below w5.heap.size w5 w' → Calls Try.prog 24 #[.slice (some ⟨gy, 0, none⟩) (l1.length + 5) cy, .slice a1 l1.length cap1] w' fun e w'' => e = .returned (.bool true) ∧ Hid (Below w5.heap.size w5 w'')) := hid fun w' hb =>
          (I.kept_any w5.heap.size w5.heap.size gy a1 cy cap1 l1 (by omega) HCY.out.1 w' (HZ.out w' hb).2.2.2.2.2.2.1 (HZ.out w' hb).2.2.2.2.2.1).mono (fun e w'' hh => ⟨hh.1, hid (by obtain ⟨j, hj⟩ := hh.2; rw [hj]; exact below_drewN hb j)⟩)
        have HRV8 : Hid (∀ A8 w', IsInts w' w'.heap.size A8 vt → Below w5.heap.size w5 w' → Calls Try.prog 20 #[.agg #[.slice a00 c0.old.length k00, .slice a01 c0.new.length k01, .slice a02 c0.lrn.length k02]] w' fun e w'' => ∃ A' c' m', e = .returned (.slice A' m' c') ∧ Hid (vt.length = m' ∧ IsInts w'' w''.heap.size A' vt ∧ IsInts w'' w''.heap.size A8 vt) ∧ Hid (Below w5.heap.size w5 w'')) := hid fun A8 w' h8 hb => by
          refine (HRV.out w' hb).mono ?_
          rintro e w'' ⟨A', c', m', he, ho, hb2⟩
          exact ⟨A', c', m', he, hid ⟨ho.out.1, ho.out.2, (h8.below hb2.out).more hb2.out.size⟩, hid (bthen hb hb2.out hb.size)⟩
        have HS8 : Hid (∀ w' A8 c8 A' c' m', Below w5.heap.size w5 w' → (vt.length = m' ∧ IsInts w' w'.heap.size A' vt ∧ IsInts w' w'.heap.size A8 vt) → Calls Try.prog 19 #[.slice A8 vt.length c8, .slice A' m' c'] w' fun e w'' => e = .returned (.bool true) ∧ Hid (Below w5.heap.size w5 w'')) := hid fun w' A8 c8 A' c' m' hb hi =>
          (sameI_T rfl hi.1 (by have := HLN.out; omega) rfl hi.2.2 hi.2.1).mono (fun e w'' hh => ⟨hh.1, hid (by obtain ⟨j, hj⟩ := hh.2; rw [hj]; exact below_drewN hb j)⟩)
        have HWK := hid (fun w' (hb : Below w5.heap.size w5 w') => (works_any w').mono (fun e w'' (hh : _ ∧ _) => (⟨hh.1, hid (bthen hb hh.2 hb.size)⟩ : e = .returned (.bool true) ∧ Hid (Below w5.heap.size w5 w''))))
        obtain ⟨d0, d1, d2, x0, x1, x2⟩ := HCC.out w11 HB11.out
        have hS0 : w11.drew.cell? ⟨w.heap.size, 0, none⟩ = some (.slice a00 c0.old.length k00) ∧ w11.drew.cell? ⟨w.heap.size, 1, none⟩ = some (.slice a01 c0.new.length k01) ∧ w11.drew.cell? ⟨w.heap.size, 2, none⟩ = some (.slice a02 c0.lrn.length k02) ∧ w11.drew.cell? ⟨w2.heap.size, 0, none⟩ = some (.slice A0 c0.old.length p0) ∧ w11.drew.cell? ⟨w2.heap.size, 1, none⟩ = some (.slice A1 c0.new.length p1) ∧ w11.drew.cell? ⟨w2.heap.size, 2, none⟩ = some (.slice A2 c0.lrn.length p2) := ⟨d0, d1, d2, x0, x1, x2⟩
        have hB : Hid (Below w5.heap.size w5 w11.drew) := hid (Below.drew HB11.out)
        go_wp2_with fail
        go_region_held3 (fun w' => w'.cell? ⟨w.heap.size, 0, none⟩ = some (.slice a00 c0.old.length k00) ∧ w'.cell? ⟨w.heap.size, 1, none⟩ = some (.slice a01 c0.new.length k01) ∧ w'.cell? ⟨w.heap.size, 2, none⟩ = some (.slice a02 c0.lrn.length k02) ∧ w'.cell? ⟨w2.heap.size, 0, none⟩ = some (.slice A0 c0.old.length p0) ∧ w'.cell? ⟨w2.heap.size, 1, none⟩ = some (.slice A1 c0.new.length p1) ∧ w'.cell? ⟨w2.heap.size, 2, none⟩ = some (.slice A2 c0.lrn.length p2))
          (first | exact hS0 | exact HCC.out _ hB.out | fail)
          (first
            | (go_at_call 23; refine (HSC.out _ hB.out).mono ?_; rintro e12 w12 ⟨rfl, hB⟩)
            | (go_at_call 24; refine (HKP.out _ hB.out).mono ?_; rintro e12 w12 ⟨rfl, hB⟩)
            | (go_at_call 13; refine (HVT.out _ hB.out).mono ?_; rintro e12 w12 ⟨A8, c8, rfl, HO8, hB⟩)
            | (go_at_call 20; refine (HRV8.out A8 _ HO8.out.1.reads hB.out).mono ?_; rintro e12 w12 ⟨A9, c9, m9, rfl, HV8, hB⟩)
            | (go_at_call 19; refine (HS8.out _ _ _ _ _ _ hB.out HV8.out).mono ?_; rintro e12 w12 ⟨rfl, hB⟩)
            | (go_at_call 10; refine (HWK.out _ hB.out).mono ?_; rintro e12 w12 ⟨rfl, hB⟩))
        go_wp2
        go_ret
        exact ⟨rfl, bthen HB.out (bthen HBB5.out hB.out HBB5.out.size) HB.out.size⟩
    · have e1' : (300 : Int) < (l1.length : Int) := by omega
      go_enter Try.func3, Try.ntmps3
      go_wp2_with fail
      rw [← hwb]; clear hwb
      refine HL.out.mono ?_
      rintro e w1 ⟨rfl, hb1⟩
      have HB1 := hid (bthen HB.out hb1 HB.out.size)
      clear hb1
      go_wp2_with fail
      refine (works_any _).mono ?_
      rintro e w8 ⟨rfl, hb8⟩
      have HB8 := hid (bthen HB1.out hb8 HB1.out.size)
      clear hb8
      go_wp2
      go_ret
      exact ⟨rfl, HB8.out⟩
  · have hlg := HLG.out true ⟨(fun h => by cases h), fun h => absurd h hs⟩
    have HL := hid hlg
    clear hs hlg HLG
    go_enter Try.func3, Try.ntmps3
    go_wp2_with fail
    rw [← hwb]; clear hwb
    refine HL.out.mono ?_
    rintro e w1 ⟨rfl, hb1⟩
    have HB1 := hid (bthen HB.out hb1 HB.out.size)
    clear hb1
    go_wp2_with fail
    refine (works_any _).mono ?_
    rintro e w8 ⟨rfl, hb8⟩
    have HB8 := hid (bthen HB1.out hb8 HB1.out.size)
    clear hb8
    go_wp2
    go_ret
    exact ⟨rfl, HB8.out⟩
theorem walk (c0 : Qu.Cf) (a00 a01 a02 : Option Addr) (k00 k01 k02 : Nat) (a1 : Option Addr) (cap1 : Nat) (l1 : List Int) (w : World) (h0 : CIs w w.heap.size c0 a00 a01 a02 k00 k01 k02) (k1 : IsInts w w.heap.size a1 l1) (n1 : l1.length ≤ cap1) (r1 : cap1 * 8 ≤ 140737488351232) (z1 : a1 = none → cap1 = 0) :
    Calls Try.prog 3 #[.agg #[.slice a00 c0.old.length k00, .slice a01 c0.new.length k01, .slice a02 c0.lrn.length k02], .slice a1 l1.length cap1] w fun e w' => e = .returned (.bool true) ∧ Below w.heap.size w w' :=
  core w.heap.size c0 a00 a01 a02 k00 k01 k02 a1 cap1 l1 w h0 k1 (by unfold maxLen; omega) (Nat.le_refl _)

set_option maxRecDepth 100000 in
theorem lifted (os : Os) (started : os.Started) (H : Type) (enc : TypeId × Value → H) :
    ReturnsInHanded {} Try.checked os 3 .any (Rows.quorumTellsSpec.pre6 enc Try.prog Try.f3 Rows.quorumTellsRow.domain false) (Rows.quorumTellsSpec.post enc Try.prog Try.f3 false true false false) := by
  refine returnsInHanded_of_change_sized (C := Try.checked) own started (by kernel_rfl) Try.func3
    (ChangeSpec.witness6 (enc := enc) (C := Try.checked) false ⟨#[], #[.agg #[.slice none 0 0, .slice none 0 0, .slice none 0 0], .slice none 0 0], []⟩ 8 (by kernel_rfl) (by kernel_rfl) (by kernel_rfl) (by kernel_rfl)) ?_
  intro W base args ds gs before hval0 hW hcnd hsz0 _
  have hsz : (DataW.weightsEach Try.prog (Try.f3.params.toList ++ Rows.quorumTellsSpec.plain.varTypes Try.prog) (ds ++ gs)).all (· ≤ reachBytes) = true := hsz0
  clear hsz0
  have hval : ∀ (j : Nat) t v, Try.f3.params[j]? = some t → args[j]? = some v → Value.okWide Try.prog W .any base t v := hval0
  have hW' := hW
  obtain ⟨p, q, hA0, hV, rfl, hfz, hnd⟩ := hW
  have hA : DataW.TrodAll enc Try.prog W 0 (fun _ => true) true Try.f3.params.toList args.toList ds p := hA0
  rw [Try.params3] at hA hval hsz
  obtain ⟨v0, vs0, d0, ds0, p0, q0, hargs, rfl, rfl, g0, t0⟩ := trodAll_cons hA
  obtain ⟨v1, vs1, d1, ds1, p1, q1, rfl, rfl, rfl, g1, t1⟩ := trodAll_cons t0
  obtain ⟨rfl, rfl, rfl⟩ := trodAll_nil t1
  obtain rfl : args = #[v0, v1] := by cases args; simp_all
  obtain ⟨rfl, rfl⟩ := trodVars_none hV
  obtain ⟨cs0, rfl, sz0⟩ := okWide_struct Try.underlying24 (hval 0 24 v0 rfl rfl)
  have m0 := g0
  have lt0 : ∀ x ∈ p0, x.block < W.heap.size := by obtain ⟨m, hm⟩ := m0; exact DataW.trod_lt m _ _ _ hm
  obtain ⟨c0, a00, a01, a02, k00, k01, k02, rfl, k0⟩ := conf_open sz0 g0
  obtain ⟨a1, len1, cap1, rfl⟩ := okWide_slice Try.underlying22 (hval 1 22 v1 rfl rfl)
  have m1 := g1
  have lt1 : ∀ x ∈ p1, x.block < W.heap.size := by obtain ⟨m, hm⟩ := m1; exact DataW.trod_lt m _ _ _ hm
  obtain ⟨l1, k1, rfl, n1, r1, z1⟩ : ∃ l, IsInts W W.heap.size a1 l ∧ len1 = l.length ∧ l.length ≤ cap1 ∧ cap1 * 8 ≤ 140737488351232 ∧ (a1 = none → cap1 = 0) := by
    obtain ⟨fuel, hf⟩ := g1
    rcases open_ints Try.underlying22 Try.underlying3 (by kernel_rfl) hf with ⟨hcs, _⟩ | ⟨x, l, c, zs, hcs, _, hl, hm, hz, hx, hcell, hwz⟩
    · simp [Value.cells] at hcs
      obtain ⟨rfl, rfl, rfl⟩ := hcs
      exact ⟨[], IsInts.nil, rfl, by simp, by omega, fun _ => rfl⟩
    · simp [Value.cells] at hcs
      obtain ⟨rfl, rfl, rfl⟩ := hcs
      simp only [Prod.mk.injEq] at hx
      obtain ⟨rfl, rfl⟩ := hx
      simp only [if_true] at hz
      have hr := sized_slice hsz (j := 1) (t := 22) (e := 3) rfl rfl Try.underlying22
      rw [bytesOfI] at hr
      simp only [lits, List.length_map, List.length_take, List.length_drop, reachBytes] at hr
      obtain ⟨l, h1, h2⟩ := isInts_of_ints hl hz hcell hwz
      exact ⟨l, h1, h2, by omega, by omega, fun h => by cases h⟩
  clear hA0 hval0
  refine (walk c0 a00 a01 a02 k00 k01 k02 a1 cap1 l1 W k0 k1 n1 r1 z1).mono fun e W' ⟨he, bel⟩ => ?_
  subst he
  exact ⟨_, rfl, _, _, _, [], _, [], hW', trodAll_mk1 (shut_bool Try.underlying4 _), (trodAll_cons_mk (Below.trod laidOut (by kernel_rfl) (of_decide_eq_true (by kernel_rfl)) m0 bel lt0) (trodAll_cons_mk (Below.trod laidOut (by kernel_rfl) (of_decide_eq_true (by kernel_rfl)) m1 bel lt1) trodAll_mk0)), rfl, bel.frame _, fun h => by cases h⟩

theorem over : Rows.quorumTellsRow.holds Try.pinned (OpenSpec.ofChange Rows.quorumTellsSpec) :=
  OpenClaim.holds_of_wide 3 Try.f3 rfl rfl rfl rfl rfl rfl rfl ⟨rfl, rfl, rfl, rfl, rfl⟩ rfl rfl rfl rfl rfl (by kernel_rfl) Try.func3 (by kernel_rfl)
    (of_decide_eq_true (by kernel_rfl)) (by unfold Func.isWrapper; first | (rw [if_pos (by decide +kernel)]; kernel_rfl) | (rw [if_neg (by decide +kernel)]; exact ⟨rfl, rfl⟩))
    (fun os started H enc _ => lifted os started H enc)

theorem proved : Rows.QuorumTellsSaid := over
end Go.Proofs.Ytblhfbijffaacaa.quorumTells
