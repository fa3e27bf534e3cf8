/- Who is enough stays so with more that agree, in whatever order; none are not enough; all voters are, of right members. Conditions: none. -/
import Derived.Test.YtblhfbijffaacaaRows
import Derived.Test.YtblhfbijffaacaaLawKit10
import Derived.Test.YtblhfbijffaacaaRegionI
import Derived.Test.YtblhfbijffaacaaConfIn
import Derived.Deep.CutRange
import Derived.WalkKit
import Derived.WalkLawsBesides
import Derived.ProofKit
import Derived.OpenShut
import Derived.ShutString
import Derived.ChangeOld
import Derived.Below
import Derived.SizedLaws
namespace Go.Proofs.Ytblhfbijffaacaa.quorumMore
open Go.ChangeShapes Go.WideShapes Go.ChangeAt Go.RowKit
open Go.ChangeMaps (open_string shut_string)
set_option linter.unusedVariables false

theorem own : ownKnob Try.prog.godebug = none := by kernel_rfl
theorem laidOut : laidOutB Try.prog = true := by kernel_rfl
theorem bytesOfI : Try.prog.bytesOf 3 = 8 := by kernel_rfl

/-- operations that are not carried out where nobody agrees: go_region_held3 is not to take these ahead -/
def opL : Op := Op.load 24 (Operand.tmp 3)
def opM : Op := Op.move (Operand.tmp 7)
def opN : Op := Op.unOp UnOp.not 4 (Operand.tmp 31)
set_option maxRecDepth 100000 in
set_option maxHeartbeats 4000000 in
/-- the same at any capacity -/
theorem core (B : Nat) (c0 : Qu.Cf) (a00 a01 a02 : Option Addr) (k00 k01 k02 : Nat) (a1 : Option Addr) (cap1 : Nat) (l1 : List Int) (a2 : Option Addr) (cap2 : Nat) (l2 : List Int) (w : World) (h0 : CIs w B c0 a00 a01 a02 k00 k01 k02) (h1 : IsInts w B a1 l1) (n1 : l1.length ≤ maxLen) (z1 : a1 = none → cap1 = 0) (h2 : IsInts w B a2 l2) (n2 : l2.length ≤ maxLen) (z2 : a2 = none → cap2 = 0) (hB : B ≤ w.heap.size) :
    Calls Try.prog 6 #[.agg #[.slice a00 c0.old.length k00, .slice a01 c0.new.length k01, .slice a02 c0.lrn.length k02], .slice a1 l1.length cap1, .slice a2 l2.length cap2] w fun e w' => e = .returned (.bool true) ∧ Below w.heap.size w w' := by
  unfold maxLen at n1 n2
  have Z1 := hid z1
  have Z2 := hid z2
  clear z1 z2
  obtain ⟨wb, hwb⟩ : ∃ wb, wb = w.alloc (.cells #[.slice a00 c0.old.length k00, .slice a01 c0.new.length k01, .slice a02 c0.lrn.length k02] 24) := ⟨_, rfl⟩
  have hbel : Below w.heap.size w wb := by rw [hwb]; exact (Below.refl _ _).alloc (Nat.le_refl _) _
  have hsz : wb.heap.size = w.heap.size + 1 := by rw [hwb]; simp
  have hcb : CB wb w.heap.size c0 a00 a01 a02 k00 k01 k02 := by rw [hwb]; exact CB.new w c0 a00 a01 a02 k00 k01 k02
  have HC := hid (h0.below (hbel.mono hB))
  have H1 := hid (h1.below (hbel.mono hB))
  have H2 := hid (h2.below (hbel.mono hB))
  have HB := hid hbel
  have HF := hid (And.intro hB hsz)
  have HCB := hid hcb
  have HLG := hid (fun b hb => long_any c0 a00 a01 a02 k00 k01 k02 wb (by have := h0.co; omega) (by have := h0.cn; omega) (by have := h0.cl; omega) b hb)
  have d0 := hcb.c0
  have d1 := hcb.c1
  have d2 := hcb.c2
  clear h0 h1 h2 hB hbel hsz hcb
  by_cases hs : Short c0
  · have HS := hid hs
    have hlg := HLG.out false ⟨fun _ => hs, fun _ => rfl⟩
    have HL := hid hlg
    clear hs hlg HLG
    by_cases e1 : l1.length ≤ 300
    · have e1' : ¬ (300 : Int) < (l1.length : Int) := by omega
      by_cases e2 : l2.length ≤ 300
      · have e2' : ¬ (300 : Int) < (l2.length : Int) := by omega
        have HY : Hid (∀ w', Below wb.heap.size wb w' → CB w' w.heap.size c0 a00 a01 a02 k00 k01 k02 ∧ CIs w' B c0 a00 a01 a02 k00 k01 k02 ∧ IsInts w' B a1 l1 ∧ IsInts w' B a2 l2 ∧ B ≤ w'.heap.size) := hid fun w' hb =>
          ⟨HCB.out.below hb HCB.out.lt, HC.out.below (hb.mono (by have := HF.out; omega)), H1.out.below (hb.mono (by have := HF.out; omega)), H2.out.below (hb.mono (by have := HF.out; omega)), by have := HF.out; have := hb.size; omega⟩
        obtain ⟨i0, hi, hz0, hz1, hz2⟩ := info_parts I.info_int
        go_enter Try.func6, Try.ntmps6
        go_wp2_with fail
        rw [← hwb]; clear hwb
        refine HL.out.mono ?_
        rintro e w1 ⟨rfl, hb1⟩
        have HB1 := hid hb1
        clear hb1 HL d0 d1 d2
        go_wp2_with fail
        refine (I.copy_any B a2 cap2 l2 (by omega) w1 (HY.out w1 HB1.out).2.2.2.1 (HY.out w1 HB1.out).2.2.2.2).mono ?_
        rintro e w2 ⟨A2, c2, rfl, ho2, hb2⟩
        have HB2 := hid (bthen HB1.out hb2 HB1.out.size)
        have hr1 := (HY.out w2 HB2.out).2.2.1
        have hn1 := fun e => Z1.out e
        have HS2 := hid hb2.size
        clear hb2
        go_wp2_with (at_builtin; refine wpList_append_intsN rfl _ _ 22 rfl w1.heap.size 3 i0 Try.underlying22 hi hz0 hz1 hz2 A2 c2 l2 _ rfl rfl ho2 B a1 cap1 l1 _ rfl rfl hn1 hr1 (l2 ++ l1) rfl (by omega) HS2.out ?_)
        intro A3 c3 w3 ho3 hb3
        have hlen3 : (l2 ++ l1).length = l2.length + l1.length := List.length_append
        have HB3 : Hid (Below wb.heap.size wb w3) := hid (HB2.out.trans (hb3.mono HB1.out.size))
        have HR3 := hid ho3.reads
        clear ho2 ho3 hb3 hr1 hn1 HB2 HS2
        obtain ⟨bo, hbo⟩ : ∃ bo, bo = l2 ++ l1 := ⟨_, rfl⟩
        rw [← hbo] at HR3 hlen3
        have HBO := hid hbo
        have HZ : Hid (∀ w', Below w3.heap.size w3 w' → Below wb.heap.size wb w' ∧ CB w' w.heap.size c0 a00 a01 a02 k00 k01 k02 ∧ CIs w' w3.heap.size c0 a00 a01 a02 k00 k01 k02 ∧ IsInts w' w3.heap.size a1 l1 ∧ IsInts w' w3.heap.size a2 l2 ∧ IsInts w' w3.heap.size A3 bo ∧ w3.heap.size ≤ w'.heap.size) := hid fun w' hb => by
          have h1 := bthen HB3.out hb HB3.out.size
          obtain ⟨q, qC, q1, q2, q3⟩ := HY.out w' h1
          have hle : B ≤ w3.heap.size := by have := HF.out; have := HB3.out.size; omega
          exact ⟨h1, q, qC.more hle, q1.more hle, q2.more hle, HR3.out.below hb, hb.size⟩
        have HCC : Hid (∀ w', Below w3.heap.size w3 w' → w'.cell? ⟨w.heap.size, 0, none⟩ = some (.slice a00 c0.old.length k00) ∧ w'.cell? ⟨w.heap.size, 1, none⟩ = some (.slice a01 c0.new.length k01) ∧ w'.cell? ⟨w.heap.size, 2, none⟩ = some (.slice a02 c0.lrn.length k02)) := hid fun w' hb => by
          have q := (HZ.out w' hb).2.1
          exact ⟨q.c0, q.c1, q.c2⟩
        clear HR3 hbo
        obtain ⟨p, hp⟩ : ∃ p, p = Qu.won c0 l1 := ⟨_, rfl⟩
        obtain ⟨pb, hpb⟩ : ∃ pb, pb = Qu.won c0 bo := ⟨_, rfl⟩
        have himp : p = true → pb = true := fun h => by
          rw [hpb, HBO.out]
          exact Qu.won_mono (fun x hx => List.mem_append_right _ hx) (hp.symm.trans h)
        have hpe : Qu.won c0 (l1 ++ l2) = pb := by
          rw [hpb, HBO.out]
          exact Qu.won_congr (fun x => by rw [List.mem_append, List.mem_append]; exact Or.comm) c0
        have hpn : Qu.won c0 [] = false := Qu.won_nil c0
        have HW1 := hid (fun w' (hb : Below w3.heap.size w3 w') => (won_N _ _ _ _ w3.heap.size c0 rfl rfl rfl HS.out a00 a01 a02 a1 k00 k01 k02 cap1 l1 rfl (by omega) w' (HZ.out w' hb).2.2.1 (HZ.out w' hb).2.2.2.1 (HZ.out w' hb).2.2.2.2.2.2 p hp.symm).mono (fun e w'' (hh : _ ∧ _) => (⟨hh.1, hid (bthen hb hh.2 hb.size)⟩ : e = .returned (.bool p) ∧ Hid (Below w3.heap.size w3 w''))))
        have HW2 := hid (fun w' (hb : Below w3.heap.size w3 w') => (won_N _ _ _ (l2.length + l1.length) w3.heap.size c0 rfl rfl rfl HS.out a00 a01 a02 A3 k00 k01 k02 c3 bo hlen3 (by omega) w' (HZ.out w' hb).2.2.1 (HZ.out w' hb).2.2.2.2.2.1 (HZ.out w' hb).2.2.2.2.2.2 pb hpb.symm).mono (fun e w'' (hh : _ ∧ _) => (⟨hh.1, hid (bthen hb hh.2 hb.size)⟩ : e = .returned (.bool pb) ∧ Hid (Below w3.heap.size w3 w''))))
        have HW3 := hid (fun w' (hb : Below w3.heap.size w3 w') => (won_N _ _ _ 0 w3.heap.size c0 rfl rfl rfl HS.out a00 a01 a02 none k00 k01 k02 0 [] rfl (by omega) w' (HZ.out w' hb).2.2.1 IsInts.nil (HZ.out w' hb).2.2.2.2.2.2 false hpn).mono (fun e w'' (hh : _ ∧ _) => (⟨hh.1, hid (bthen hb hh.2 hb.size)⟩ : e = .returned (.bool false) ∧ Hid (Below w3.heap.size w3 w''))))
        have HW4 := hid (fun A6 c6 w' (ho : IsInts w' w'.heap.size A6 (l1 ++ l2)) (hb : Below w3.heap.size w3 w') => (won_N _ _ _ (l1.length + l2.length) w'.heap.size c0 rfl rfl rfl HS.out a00 a01 a02 A6 k00 k01 k02 c6 (l1 ++ l2) List.length_append (by omega) w' ((HZ.out w' hb).2.2.1.more hb.size) ho (Nat.le_refl _) pb hpe).mono (fun e w'' (hh : _ ∧ _) => (⟨hh.1, hid (bthen hb hh.2 hb.size)⟩ : e = .returned (.bool pb) ∧ Hid (Below w3.heap.size w3 w''))))
        have HCP : Hid (∀ w', Below w3.heap.size w3 w' → Calls Try.prog 28 #[.slice a1 l1.length cap1] w' fun e w'' => ∃ A' c', e = .returned (.slice A' l1.length c') ∧ Hid (∃ bs, OwnsI 3 w'' bs A' c' l1 ∧ bs ≤ w''.heap.size ∧ ∀ w6, Below bs w'' w6 → Below w3.heap.size w3 w6) ∧ Hid (Below w3.heap.size w3 w'')) := hid fun w' hb => by
          refine (I.copy_any w3.heap.size a1 cap1 l1 (by omega) w' (HZ.out w' hb).2.2.2.1 (HZ.out w' hb).2.2.2.2.2.2).mono ?_
          rintro e w'' ⟨A', c', he, ho, hb2⟩
          exact ⟨A', c', he, hid ⟨w'.heap.size, ho, hb2.size, fun w6 h6 => bthen hb (hb2.trans h6) hb.size⟩, hid (bthen hb hb2 hb.size)⟩
        have HR2 : Hid (∀ w', Below w3.heap.size w3 w' → IsInts w' w3.heap.size a2 l2) := hid fun w' hb => (HZ.out w' hb).2.2.2.2.1
        have HIM := hid himp
        clear hp hpb himp hpe hpn
        obtain ⟨d0, d1, d2⟩ := HCC.out w3 (Below.refl _ _)
        have hd0 : w3.drew.cell? ⟨w.heap.size, 0, none⟩ = some (.slice a00 c0.old.length k00) := d0
        have hd1 : w3.drew.cell? ⟨w.heap.size, 1, none⟩ = some (.slice a01 c0.new.length k01) := d1
        have hd2 : w3.drew.cell? ⟨w.heap.size, 2, none⟩ = some (.slice a02 c0.lrn.length k02) := d2
        have hB : Hid (Below w3.heap.size w3 w3.drew) := hid (Below.drew (Below.refl _ _))
        go_upto_region 4 with fail
        go_cut [49] from 25 to 49 (fun c wx => c = .bool false ∧ Hid (Below w3.heap.size w3 wx))
        case first =>
          cases p
          · cases pb
            all_goals
              have hopL : opL = Op.load 24 (Operand.tmp 3) := rfl
              have hopM : opM = Op.move (Operand.tmp 7) := rfl
              have hopN : opN = Op.unOp UnOp.not 4 (Operand.tmp 31) := rfl
              rw (occs := .pos [2]) [← hopL]
              rw (occs := .pos [1]) [← hopM]
              rw [← hopN]
              go_region_held3 (fun w' => w'.cell? ⟨w.heap.size, 0, none⟩ = some (.slice a00 c0.old.length k00) ∧ w'.cell? ⟨w.heap.size, 1, none⟩ = some (.slice a01 c0.new.length k01) ∧ w'.cell? ⟨w.heap.size, 2, none⟩ = some (.slice a02 c0.lrn.length k02))
                (first | exact ⟨hd0, hd1, hd2⟩ | exact HCC.out _ hB.out | fail)
                (first
                  | (go_at_call 17; with_reducible refine (HW1.out _ hB.out).mono ?_; rintro e4 w4 ⟨rfl, hB⟩)
                  | (go_at_call 17; with_reducible refine (HW2.out _ hB.out).mono ?_; rintro e4 w4 ⟨rfl, hB⟩)
                  | (go_at_call 17; with_reducible refine (HW3.out _ hB.out).mono ?_; rintro e4 w4 ⟨rfl, hB⟩)
                  | (go_at_call 17; with_reducible refine (HW4.out _ _ _ HO6.out hB.out).mono ?_; rintro e4 w4 ⟨rfl, hB⟩)
                  | (go_at_call 28; refine (HCP.out _ hB.out).mono ?_; rintro e5 w5 ⟨A5, c5, rfl, HO5, hB⟩; obtain ⟨bs, ho5, hbs, hch⟩ := HO5.out; have HCH := hid hch; have HR5 := hid (HR2.out _ hB.out); clear hch)
                  | (refine step_append_intsG (by first | rfl | simp [Region.wanted, yielded]) _ _ 22 (by rfl) bs 3 i0 Try.underlying22 hi hz0 hz1 hz2 A5 c5 l1 _ rfl (by rfl) ho5 w3.heap.size a2 cap2 l2 _ rfl (by rfl) Z2.out HR5.out (l1 ++ l2) rfl (by omega) hbs ?_; intro A6 c6 w6 ho6 hb6; have hB := hid (HCH.out _ hb6); have HO6 := hid ho6.reads; clear ho6 hb6))
              all_goals
                go_wp2_with fail
                go_meet
                exact ⟨rfl, hB⟩
          · obtain rfl : pb = true := HIM.out rfl
            go_region_held3 (fun w' => w'.cell? ⟨w.heap.size, 0, none⟩ = some (.slice a00 c0.old.length k00) ∧ w'.cell? ⟨w.heap.size, 1, none⟩ = some (.slice a01 c0.new.length k01) ∧ w'.cell? ⟨w.heap.size, 2, none⟩ = some (.slice a02 c0.lrn.length k02))
              (first | exact ⟨hd0, hd1, hd2⟩ | exact HCC.out _ hB.out | fail)
              (first
                | (go_at_call 17; with_reducible refine (HW1.out _ hB.out).mono ?_; rintro e4 w4 ⟨rfl, hB⟩)
                | (go_at_call 17; with_reducible refine (HW2.out _ hB.out).mono ?_; rintro e4 w4 ⟨rfl, hB⟩)
                | (go_at_call 17; with_reducible refine (HW3.out _ hB.out).mono ?_; rintro e4 w4 ⟨rfl, hB⟩)
                | (go_at_call 17; with_reducible refine (HW4.out _ _ _ HO6.out hB.out).mono ?_; rintro e4 w4 ⟨rfl, hB⟩)
                | (go_at_call 28; refine (HCP.out _ hB.out).mono ?_; rintro e5 w5 ⟨A5, c5, rfl, HO5, hB⟩; obtain ⟨bs, ho5, hbs, hch⟩ := HO5.out; have HCH := hid hch; have HR5 := hid (HR2.out _ hB.out); clear hch)
                | (refine step_append_intsG (by first | rfl | simp [Region.wanted, yielded]) _ _ 22 (by rfl) bs 3 i0 Try.underlying22 hi hz0 hz1 hz2 A5 c5 l1 _ rfl (by rfl) ho5 w3.heap.size a2 cap2 l2 _ rfl (by rfl) Z2.out HR5.out (l1 ++ l2) rfl (by omega) hbs ?_; intro A6 c6 w6 ho6 hb6; have hB := hid (HCH.out _ hb6); have HO6 := hid ho6.reads; clear ho6 hb6))
            go_wp2_with fail
            go_meet
            exact ⟨rfl, hB⟩
        case rest =>
          obtain ⟨rfl, hbc⟩ := hcut
          clear d0 d1 d2 hd0 hd1 hd2 hB HIM HW1 HW2 HW3 HW4 HCP HR2
          obtain ⟨d0, d1, d2⟩ := HCC.out wc hbc.out
          have hd0 : wc.drew.cell? ⟨w.heap.size, 0, none⟩ = some (.slice a00 c0.old.length k00) := d0
          have hd1 : wc.drew.cell? ⟨w.heap.size, 1, none⟩ = some (.slice a01 c0.new.length k01) := d1
          have hd2 : wc.drew.cell? ⟨w.heap.size, 2, none⟩ = some (.slice a02 c0.lrn.length k02) := d2
          have hB : Hid (Below w3.heap.size w3 wc.drew) := hid (Below.drew hbc.out)
          have HWK := hid (fun w' (hb : Below w3.heap.size w3 w') => (works_any w').mono (fun e w'' (hh : _ ∧ _) => (⟨hh.1, hid (bthen hb hh.2 hb.size)⟩ : e = .returned (.bool true) ∧ Hid (Below w3.heap.size w3 w''))))
          by_cases hk : Qu.ok c0 = true
          · have hvl : (Qu.uni (c0.old ++ c0.new)).length ≤ 600 := by
              have := (Qu.uni_is (c0.old ++ c0.new)).length_le
              rw [List.length_append] at this
              have := HS.out.1; have := HS.out.2.1; omega
            have hva : Qu.won c0 (Qu.uni (c0.old ++ c0.new)) = true := Qu.won_all (Qu.ok_old hk) (fun x => Qu.uni_mem.trans List.mem_append)
            have HCK := hid (fun w' (hb : Below w3.heap.size w3 w') => (check_N _ _ _ w3.heap.size c0 rfl rfl rfl HS.out a00 a01 a02 k00 k01 k02 w' (HZ.out w' hb).2.2.1 (HZ.out w' hb).2.2.2.2.2.2 0 (Qu.err_ok.2 hk)).mono (fun e w'' (hh : _ ∧ _) => (⟨hh.1, hid (bthen hb hh.2 hb.size)⟩ : e = .returned (.int .i64 0) ∧ Hid (Below w3.heap.size w3 w''))))
            have hvt := fun w' (hb : Below w3.heap.size w3 w') => voters_any w3.heap.size c0 HS.out a00 a01 a02 k00 k01 k02 w' (HZ.out w' hb).2.2.1 (HZ.out w' hb).2.2.2.2.2.2
            have HVE := hid hva
            have HVL := hid hvl
            generalize Qu.uni (c0.old ++ c0.new) = vt at *
            have HVT : Hid (∀ w', Below w3.heap.size w3 w' → Calls Try.prog 13 #[.agg #[.slice a00 c0.old.length k00, .slice a01 c0.new.length k01, .slice a02 c0.lrn.length k02]] w' fun e w'' => ∃ A' c', e = .returned (.slice A' vt.length c') ∧ Hid (IsInts w'' w''.heap.size A' vt) ∧ Hid (Below w3.heap.size w3 w'')) := hid fun w' hb => by
              refine (hvt w' hb).mono ?_
              rintro e w'' ⟨A', c', he, ho, hb2⟩
              exact ⟨A', c', he, hid ho.reads, hid (bthen hb hb2 hb.size)⟩
            have HWV := hid (fun A6 c6 w' (ho : IsInts w' w'.heap.size A6 vt) (hb : Below w3.heap.size w3 w') => (won_N _ _ _ vt.length w'.heap.size c0 rfl rfl rfl HS.out a00 a01 a02 A6 k00 k01 k02 c6 vt rfl (by have := HVL.out; omega) w' ((HZ.out w' hb).2.2.1.more hb.size) ho (Nat.le_refl _) true HVE.out).mono (fun e w'' (hh : _ ∧ _) => (⟨hh.1, hid (bthen hb hh.2 hb.size)⟩ : e = .returned (.bool true) ∧ Hid (Below w3.heap.size w3 w''))))
            clear hk hvl hva hvt
            go_wp2_with fail
            go_region_held3 (fun w' => w'.cell? ⟨w.heap.size, 0, none⟩ = some (.slice a00 c0.old.length k00) ∧ w'.cell? ⟨w.heap.size, 1, none⟩ = some (.slice a01 c0.new.length k01) ∧ w'.cell? ⟨w.heap.size, 2, none⟩ = some (.slice a02 c0.lrn.length k02))
              (first | exact ⟨hd0, hd1, hd2⟩ | exact HCC.out _ hB.out | fail)
              (first
                | (go_at_call 15; refine (HCK.out _ hB.out).mono ?_; rintro e4 w4 ⟨rfl, hB⟩)
                | (go_at_call 13; refine (HVT.out _ hB.out).mono ?_; rintro e5 w5 ⟨A6, c6, rfl, HO6, hB⟩)
                | (go_at_call 17; refine (HWV.out _ _ _ HO6.out hB.out).mono ?_; rintro e4 w4 ⟨rfl, hB⟩)
                | (go_at_call 10; refine (HWK.out _ hB.out).mono ?_; rintro e4 w4 ⟨rfl, hB⟩))
            go_wp2
            go_ret
            exact ⟨rfl, bthen HB.out (bthen HB3.out hB.out HB3.out.size) HB.out.size⟩
          · have her : Qu.err c0 = 29 := by unfold Qu.err; rw [if_neg hk]
            have HCK := hid (fun w' (hb : Below w3.heap.size w3 w') => (check_N _ _ _ w3.heap.size c0 rfl rfl rfl HS.out a00 a01 a02 k00 k01 k02 w' (HZ.out w' hb).2.2.1 (HZ.out w' hb).2.2.2.2.2.2 29 her).mono (fun e w'' (hh : _ ∧ _) => (⟨hh.1, hid (bthen hb hh.2 hb.size)⟩ : e = .returned (.int .i64 29) ∧ Hid (Below w3.heap.size w3 w''))))
            clear hk her
            go_upto_region 6 with fail
            have hopL : opL = Op.load 24 (Operand.tmp 3) := rfl
            rw (occs := .pos [2, 3]) [← hopL]
            go_region_held3 (fun w' => w'.cell? ⟨w.heap.size, 0, none⟩ = some (.slice a00 c0.old.length k00) ∧ w'.cell? ⟨w.heap.size, 1, none⟩ = some (.slice a01 c0.new.length k01) ∧ w'.cell? ⟨w.heap.size, 2, none⟩ = some (.slice a02 c0.lrn.length k02))
              (first | exact ⟨hd0, hd1, hd2⟩ | exact HCC.out _ hB.out | fail)
              (first
                | (go_at_call 15; refine (HCK.out _ hB.out).mono ?_; rintro e4 w4 ⟨rfl, hB⟩)
                | (go_at_call 10; refine (HWK.out _ hB.out).mono ?_; rintro e4 w4 ⟨rfl, hB⟩))
            all_goals
              go_wp2
              go_ret
              exact ⟨rfl, bthen HB.out (bthen HB3.out hB.out HB3.out.size) HB.out.size⟩
      · have e2' : (300 : Int) < (l2.length : Int) := by omega
        go_enter Try.func6, Try.ntmps6
        go_wp2_with fail
        rw [← hwb]; clear hwb
        refine HL.out.mono ?_
        rintro e w1 ⟨rfl, hb1⟩
        have HB1 := hid (bthen HB.out hb1 HB.out.size)
        clear hb1
        go_wp2_with fail
        refine (works_any _).mono ?_
        rintro e w8 ⟨rfl, hb8⟩
        have HB8 := hid (bthen HB1.out hb8 HB1.out.size)
        clear hb8
        go_wp2
        go_ret
        exact ⟨rfl, HB8.out⟩
    · have e1' : (300 : Int) < (l1.length : Int) := by omega
      go_enter Try.func6, Try.ntmps6
      go_wp2_with fail
      rw [← hwb]; clear hwb
      refine HL.out.mono ?_
      rintro e w1 ⟨rfl, hb1⟩
      have HB1 := hid (bthen HB.out hb1 HB.out.size)
      clear hb1
      go_wp2_with fail
      refine (works_any _).mono ?_
      rintro e w8 ⟨rfl, hb8⟩
      have HB8 := hid (bthen HB1.out hb8 HB1.out.size)
      clear hb8
      go_wp2
      go_ret
      exact ⟨rfl, HB8.out⟩
  · have hlg := HLG.out true ⟨(fun h => by cases h), fun h => absurd h hs⟩
    have HL := hid hlg
    clear hs hlg HLG
    go_enter Try.func6, Try.ntmps6
    go_wp2_with fail
    rw [← hwb]; clear hwb
    refine HL.out.mono ?_
    rintro e w1 ⟨rfl, hb1⟩
    have HB1 := hid (bthen HB.out hb1 HB.out.size)
    clear hb1
    go_wp2_with fail
    refine (works_any _).mono ?_
    rintro e w8 ⟨rfl, hb8⟩
    have HB8 := hid (bthen HB1.out hb8 HB1.out.size)
    clear hb8
    go_wp2
    go_ret
    exact ⟨rfl, HB8.out⟩
theorem walk (c0 : Qu.Cf) (a00 a01 a02 : Option Addr) (k00 k01 k02 : Nat) (a1 : Option Addr) (cap1 : Nat) (l1 : List Int) (a2 : Option Addr) (cap2 : Nat) (l2 : List Int) (w : World) (h0 : CIs w w.heap.size c0 a00 a01 a02 k00 k01 k02) (k1 : IsInts w w.heap.size a1 l1) (n1 : l1.length ≤ cap1) (r1 : cap1 * 8 ≤ 140737488351232) (z1 : a1 = none → cap1 = 0) (k2 : IsInts w w.heap.size a2 l2) (n2 : l2.length ≤ cap2) (r2 : cap2 * 8 ≤ 140737488351232) (z2 : a2 = none → cap2 = 0) :
    Calls Try.prog 6 #[.agg #[.slice a00 c0.old.length k00, .slice a01 c0.new.length k01, .slice a02 c0.lrn.length k02], .slice a1 l1.length cap1, .slice a2 l2.length cap2] w fun e w' => e = .returned (.bool true) ∧ Below w.heap.size w w' :=
  core w.heap.size c0 a00 a01 a02 k00 k01 k02 a1 cap1 l1 a2 cap2 l2 w h0 k1 (by unfold maxLen; omega) z1 k2 (by unfold maxLen; omega) z2 (Nat.le_refl _)

set_option maxRecDepth 100000 in
theorem lifted (os : Os) (started : os.Started) (H : Type) (enc : TypeId × Value → H) :
    ReturnsInHanded {} Try.checked os 6 .any (Rows.quorumMoreSpec.pre6 enc Try.prog Try.f6 Rows.quorumMoreRow.domain false) (Rows.quorumMoreSpec.post enc Try.prog Try.f6 false true false false) := by
  refine returnsInHanded_of_change_sized (C := Try.checked) own started (by kernel_rfl) Try.func6
    (ChangeSpec.witness6 (enc := enc) (C := Try.checked) false ⟨#[], #[.agg #[.slice none 0 0, .slice none 0 0, .slice none 0 0], .slice none 0 0, .slice none 0 0], []⟩ 8 (by kernel_rfl) (by kernel_rfl) (by kernel_rfl) (by kernel_rfl)) ?_
  intro W base args ds gs before hval0 hW hcnd hsz0 _
  have hsz : (DataW.weightsEach Try.prog (Try.f6.params.toList ++ Rows.quorumMoreSpec.plain.varTypes Try.prog) (ds ++ gs)).all (· ≤ reachBytes) = true := hsz0
  clear hsz0
  have hval : ∀ (j : Nat) t v, Try.f6.params[j]? = some t → args[j]? = some v → Value.okWide Try.prog W .any base t v := hval0
  have hW' := hW
  obtain ⟨p, q, hA0, hV, rfl, hfz, hnd⟩ := hW
  have hA : DataW.TrodAll enc Try.prog W 0 (fun _ => true) true Try.f6.params.toList args.toList ds p := hA0
  rw [Try.params6] at hA hval hsz
  obtain ⟨v0, vs0, d0, ds0, p0, q0, hargs, rfl, rfl, g0, t0⟩ := trodAll_cons hA
  obtain ⟨v1, vs1, d1, ds1, p1, q1, rfl, rfl, rfl, g1, t1⟩ := trodAll_cons t0
  obtain ⟨v2, vs2, d2, ds2, p2, q2, rfl, rfl, rfl, g2, t2⟩ := trodAll_cons t1
  obtain ⟨rfl, rfl, rfl⟩ := trodAll_nil t2
  obtain rfl : args = #[v0, v1, v2] := by cases args; simp_all
  obtain ⟨rfl, rfl⟩ := trodVars_none hV
  obtain ⟨cs0, rfl, sz0⟩ := okWide_struct Try.underlying24 (hval 0 24 v0 rfl rfl)
  have m0 := g0
  have lt0 : ∀ x ∈ p0, x.block < W.heap.size := by obtain ⟨m, hm⟩ := m0; exact DataW.trod_lt m _ _ _ hm
  obtain ⟨c0, a00, a01, a02, k00, k01, k02, rfl, k0⟩ := conf_open sz0 g0
  obtain ⟨a1, len1, cap1, rfl⟩ := okWide_slice Try.underlying22 (hval 1 22 v1 rfl rfl)
  have m1 := g1
  have lt1 : ∀ x ∈ p1, x.block < W.heap.size := by obtain ⟨m, hm⟩ := m1; exact DataW.trod_lt m _ _ _ hm
  obtain ⟨l1, k1, rfl, n1, r1, z1⟩ : ∃ l, IsInts W W.heap.size a1 l ∧ len1 = l.length ∧ l.length ≤ cap1 ∧ cap1 * 8 ≤ 140737488351232 ∧ (a1 = none → cap1 = 0) := by
    obtain ⟨fuel, hf⟩ := g1
    rcases open_ints Try.underlying22 Try.underlying3 (by kernel_rfl) hf with ⟨hcs, _⟩ | ⟨x, l, c, zs, hcs, _, hl, hm, hz, hx, hcell, hwz⟩
    · simp [Value.cells] at hcs
      obtain ⟨rfl, rfl, rfl⟩ := hcs
      exact ⟨[], IsInts.nil, rfl, by simp, by omega, fun _ => rfl⟩
    · simp [Value.cells] at hcs
      obtain ⟨rfl, rfl, rfl⟩ := hcs
      simp only [Prod.mk.injEq] at hx
      obtain ⟨rfl, rfl⟩ := hx
      simp only [if_true] at hz
      have hr := sized_slice hsz (j := 1) (t := 22) (e := 3) rfl rfl Try.underlying22
      rw [bytesOfI] at hr
      simp only [lits, List.length_map, List.length_take, List.length_drop, reachBytes] at hr
      obtain ⟨l, h1, h2⟩ := isInts_of_ints hl hz hcell hwz
      exact ⟨l, h1, h2, by omega, by omega, fun h => by cases h⟩
  obtain ⟨a2, len2, cap2, rfl⟩ := okWide_slice Try.underlying22 (hval 2 22 v2 rfl rfl)
  have m2 := g2
  have lt2 : ∀ x ∈ p2, x.block < W.heap.size := by obtain ⟨m, hm⟩ := m2; exact DataW.trod_lt m _ _ _ hm
  obtain ⟨l2, k2, rfl, n2, r2, z2⟩ : ∃ l, IsInts W W.heap.size a2 l ∧ len2 = l.length ∧ l.length ≤ cap2 ∧ cap2 * 8 ≤ 140737488351232 ∧ (a2 = none → cap2 = 0) := by
    obtain ⟨fuel, hf⟩ := g2
    rcases open_ints Try.underlying22 Try.underlying3 (by kernel_rfl) hf with ⟨hcs, _⟩ | ⟨x, l, c, zs, hcs, _, hl, hm, hz, hx, hcell, hwz⟩
    · simp [Value.cells] at hcs
      obtain ⟨rfl, rfl, rfl⟩ := hcs
      exact ⟨[], IsInts.nil, rfl, by simp, by omega, fun _ => rfl⟩
    · simp [Value.cells] at hcs
      obtain ⟨rfl, rfl, rfl⟩ := hcs
      simp only [Prod.mk.injEq] at hx
      obtain ⟨rfl, rfl⟩ := hx
      simp only [if_true] at hz
      have hr := sized_slice hsz (j := 2) (t := 22) (e := 3) rfl rfl Try.underlying22
      rw [bytesOfI] at hr
      simp only [lits, List.length_map, List.length_take, List.length_drop, reachBytes] at hr
      obtain ⟨l, h1, h2⟩ := isInts_of_ints hl hz hcell hwz
      exact ⟨l, h1, h2, by omega, by omega, fun h => by cases h⟩
  clear hA0 hval0
  refine (walk c0 a00 a01 a02 k00 k01 k02 a1 cap1 l1 a2 cap2 l2 W k0 k1 n1 r1 z1 k2 n2 r2 z2).mono fun e W' ⟨he, bel⟩ => ?_
  subst he
  exact ⟨_, rfl, _, _, _, [], _, [], hW', trodAll_mk1 (shut_bool Try.underlying4 _), (trodAll_cons_mk (Below.trod laidOut (by kernel_rfl) (of_decide_eq_true (by kernel_rfl)) m0 bel lt0) (trodAll_cons_mk (Below.trod laidOut (by kernel_rfl) (of_decide_eq_true (by kernel_rfl)) m1 bel lt1) (trodAll_cons_mk (Below.trod laidOut (by kernel_rfl) (of_decide_eq_true (by kernel_rfl)) m2 bel lt2) trodAll_mk0))), rfl, bel.frame _, fun h => by cases h⟩

theorem over : Rows.quorumMoreRow.holds Try.pinned (OpenSpec.ofChange Rows.quorumMoreSpec) :=
  OpenClaim.holds_of_wide 6 Try.f6 rfl rfl rfl rfl rfl rfl rfl ⟨rfl, rfl, rfl, rfl, rfl⟩ rfl rfl rfl rfl rfl (by kernel_rfl) Try.func6 (by kernel_rfl)
    (of_decide_eq_true (by kernel_rfl)) (by unfold Func.isWrapper; first | (rw [if_pos (by decide +kernel)]; kernel_rfl) | (rw [if_neg (by decide +kernel)]; exact ⟨rfl, rfl⟩))
    (fun os started H enc _ => lifted os started H enc)

theorem proved : Rows.QuorumMoreSaid := over
end Go.Proofs.Ytblhfbijffaacaa.quorumMore
