/- Of what is agreed enough have reached it, and of no greater number; with a number reached that is greater it does not fall. Conditions: none. -/
import Derived.Test.YtblhfbijffaacaaRows
import Derived.Test.YtblhfbijffaacaaLawKit10
import Derived.Test.YtblhfbijffaacaaRqE
import Derived.Test.YtblhfbijffaacaaMeet10
import Derived.Test.YtblhfbijffaacaaReachZip
import Derived.Test.YtblhfbijffaacaaConfIn
import Derived.Deep.CutRange
import Derived.WalkKit
import Derived.WalkLawsBesides
import Derived.ProofKit
import Derived.OpenShut
import Derived.ShutString
import Derived.ChangeOld
import Derived.Below
import Derived.SizedLaws
namespace Go.Proofs.Ytblhfbijffaacaa.quorumReached
open Go.ChangeShapes Go.WideShapes Go.ChangeAt Go.RowKit
open Go.ChangeMaps (open_string shut_string)
set_option linter.unusedVariables false

theorem own : ownKnob Try.prog.godebug = none := by kernel_rfl
theorem laidOut : laidOutB Try.prog = true := by kernel_rfl
theorem bytesOfI : Try.prog.bytesOf 3 = 8 := by kernel_rfl

set_option maxRecDepth 100000 in
set_option maxHeartbeats 4000000 in
/-- the same at any capacity -/
theorem core (B : Nat) (c0 : Qu.Cf) (a00 a01 a02 : Option Addr) (k00 k01 k02 : Nat) (a1 : Option Addr) (cap1 : Nat) (l1 : List Int) (a2 : Option Addr) (cap2 : Nat) (l2 : List Int) (w : World) (h0 : CIs w B c0 a00 a01 a02 k00 k01 k02) (h1 : IsInts w B a1 l1) (n1 : l1.length ≤ maxLen) (h2 : IsInts w B a2 l2) (n2 : l2.length ≤ maxLen) (x3 : Int) (x4 : Int) (b4 : InInt x4) (hB : B ≤ w.heap.size) :
    Calls Try.prog 7 #[.agg #[.slice a00 c0.old.length k00, .slice a01 c0.new.length k01, .slice a02 c0.lrn.length k02], .slice a1 l1.length cap1, .slice a2 l2.length cap2, .int .i64 x3, .int .i64 x4] w fun e w' => e = .returned (.bool true) ∧ Below w.heap.size w w' := by
  unfold maxLen at n1 n2
  have B4 := hid b4
  clear b4
  obtain ⟨wb, hwb⟩ : ∃ wb, wb = w.alloc (.cells #[.slice a00 c0.old.length k00, .slice a01 c0.new.length k01, .slice a02 c0.lrn.length k02] 24) := ⟨_, rfl⟩
  have hbel : Below w.heap.size w wb := by rw [hwb]; exact (Below.refl _ _).alloc (Nat.le_refl _) _
  have hsz : wb.heap.size = w.heap.size + 1 := by rw [hwb]; simp
  have hcb : CB wb w.heap.size c0 a00 a01 a02 k00 k01 k02 := by rw [hwb]; exact CB.new w c0 a00 a01 a02 k00 k01 k02
  have HC := hid (h0.below (hbel.mono hB))
  have H1 := hid (h1.below (hbel.mono hB))
  have H2 := hid (h2.below (hbel.mono hB))
  have HB := hid hbel
  have HF := hid (And.intro hB hsz)
  have HCB := hid hcb
  have HLG := hid (fun b hb => long_any c0 a00 a01 a02 k00 k01 k02 wb (by have := h0.co; omega) (by have := h0.cn; omega) (by have := h0.cl; omega) b hb)
  have d0 := hcb.c0
  have d1 := hcb.c1
  have d2 := hcb.c2
  clear h0 h1 h2 hB hbel hsz hcb
  by_cases hs : Short c0
  · have HS := hid hs
    have hlg := HLG.out false ⟨fun _ => hs, fun _ => rfl⟩
    have HL := hid hlg
    clear hs hlg HLG
    by_cases e1 : l1.length ≤ 300
    · have e1' : ¬ (300 : Int) < (l1.length : Int) := by omega
      by_cases e2 : l2.length = l1.length
      · have e2' : ((l2.length : Int) != (l1.length : Int)) = false := by rw [bne_eq_false_iff_eq]; omega
        have HE2 := hid e2
        clear e2
        have HY : Hid (∀ w', Below wb.heap.size wb w' → CB w' w.heap.size c0 a00 a01 a02 k00 k01 k02 ∧ CIs w' B c0 a00 a01 a02 k00 k01 k02 ∧ IsInts w' B a1 l1 ∧ IsInts w' B a2 l2 ∧ B ≤ w'.heap.size) := hid fun w' hb =>
          ⟨HCB.out.below hb HCB.out.lt, HC.out.below (hb.mono (by have := HF.out; omega)), H1.out.below (hb.mono (by have := HF.out; omega)), H2.out.below (hb.mono (by have := HF.out; omega)), by have := HF.out; have := hb.size; omega⟩
        obtain ⟨i0, hi, hz0, hz1, hz2⟩ := info_parts I.info_int
        obtain ⟨ps, hps⟩ : ∃ ps, ps = l1.zip l2 := ⟨_, rfl⟩
        have hlp : ps.length = l1.length := by rw [hps, List.length_zip]; have := HE2.out; omega
        have hget : ∀ i (h : i < ps.length), ∃ (h1 : i < l1.length) (h2 : i < l2.length), ps[i].1 = l1[i] ∧ ps[i].2 = l2[i] := fun i h => by
          subst hps
          have h' := h
          rw [List.length_zip] at h'
          exact ⟨by omega, by omega, by rw [zip_get], by rw [zip_get]⟩
        have HPS := hid hps
        have HLP := hid hlp
        have HG := hid hget
        clear hps hlp hget
        go_enter Try.func7, Try.ntmps7
        go_wp2_with fail
        rw [← hwb]; clear hwb
        refine HL.out.mono ?_
        rintro e w1 ⟨rfl, hb1⟩
        have HB1 := hid hb1
        obtain ⟨q, qC, q1, q2, q3⟩ := HY.out w1 hb1
        have QQ := hid (And.intro qC (And.intro q1 (And.intro q2 q3)))
        have d0 := q.c0
        have d1 := q.c1
        have d2 := q.c2
        clear hb1 HL q qC q1 q2 q3
        go_wp2_with fail
        refine (agreed_any B c0 HS.out a00 a01 a02 a1 a2 k00 k01 k02 cap1 cap2 l1 l2 (by omega) (by have := HE2.out; omega) w1 QQ.out.1 QQ.out.2.1 QQ.out.2.2.1 QQ.out.2.2.2).mono ?_
        rintro e w3 ⟨r, rfl, hr, hb3⟩
        rw [← HPS.out] at hr
        have HR := hid hr
        have HB3 := hid (bthen HB1.out hb3 HB1.out.size)
        clear hr hb3 HB1 QQ d0 d1 d2
        have HZ : Hid (∀ w', Below w3.heap.size w3 w' → Below wb.heap.size wb w' ∧ CB w' w.heap.size c0 a00 a01 a02 k00 k01 k02 ∧ CIs w' w3.heap.size c0 a00 a01 a02 k00 k01 k02 ∧ IsInts w' w3.heap.size a1 l1 ∧ IsInts w' w3.heap.size a2 l2 ∧ w3.heap.size ≤ w'.heap.size) := hid fun w' hb => by
          have h1 := bthen HB3.out hb HB3.out.size
          obtain ⟨q, qC, q1, q2, q3⟩ := HY.out w' h1
          have hle : B ≤ w3.heap.size := by have := HF.out; have := HB3.out.size; omega
          exact ⟨h1, q, qC.more hle, q1.more hle, q2.more hle, hb.size⟩
        have hrn : ¬ r < 0 := by have := HR.out.1; omega
        go_upto_region 4 with fail
        go_cut [47] from 36 to 47 (fun c wx => c = .bool false ∧ w3 = wx)
        case first =>
          by_cases h0 : 0 < r
          · have hin := lawIn_any w3.heap.size a2 cap2 l2 (by have := HE2.out; omega) r w3 (HZ.out w3 (Below.refl _ _)).2.2.2.2.1
            rw [decide_eq_true (by have := HR.out; rw [HPS.out] at this; exact this.in_reached h0)] at hin
            have HIN := hid hin
            clear hin
            go_wp2_with fail
            refine HIN.out.mono ?_
            rintro e w4 ⟨rfl, rfl⟩
            go_wp2_with fail
            go_meet
            exact ⟨by rw [decide_eq_false (show ¬ r < 0 by have := HR.out.1; omega)], rfl⟩
          · go_wp2_with fail
            go_meet
            exact ⟨by rw [decide_eq_false (show ¬ r < 0 by have := HR.out.1; omega)], rfl⟩
        case rest =>
          obtain ⟨rfl, rfl⟩ := hcut
          have hn : ps.length = l2.length := by have := HLP.out; have := HE2.out; omega
          have HNN := hid hn
          clear hn
          go_wp2_with fail
          go_loopw [12] (fun i wr => ∃ k : Nat, k ≤ l2.length ∧ i = .int .i64 k ∧ Hid (Below w3.heap.size w3 wr)) (fun i _ => l2.length - (intOf i).toNat)
          case atStart => exact ⟨0, by omega, rfl, hid (Below.refl _ _)⟩
          case round =>
            obtain ⟨k, hk, rfl, HW⟩ := hrel
            by_cases hlt : k < l2.length
            · obtain ⟨rk, hrk⟩ : ∃ rk, rk = l2[k] := ⟨_, rfl⟩
              have HRK := hid hrk
              clear hrk
              go_wp2_with fail
              go_loopw [13, 14] (fun y i w2 => ∃ (j m : Nat) (A : Option Addr) (c2 : Nat), j ≤ l1.length ∧ m ≤ j ∧ y = .slice A m c2 ∧ i = .int .i64 j ∧ Hid ((Qu.upto ps rk j).length = m ∧ OwnsI 3 w2 w3.heap.size A c2 (Qu.upto ps rk j) ∧ Below w3.heap.size w3 w2)) (fun _ i _ => l1.length - (intOf i).toNat)
              case atStart => exact ⟨0, 0, none, 0, by omega, by omega, rfl, rfl, hid ⟨by simp [Qu.upto], OwnsI.nil _ _ _, HW.out⟩⟩
              case round =>
                clear HW
                obtain ⟨j, m, A, cA, hj, hm, rfl, rfl, HQ⟩ := hrel
                by_cases hjl : j < l1.length
                · obtain ⟨hjn, hjr, f1, f2⟩ := HG.out j (by have := HLP.out; omega)
                  have hjr' : (j : Int) < (l2.length : Int) := by omega
                  have hz := HZ.out wr HQ.out.2.2
                  obtain ⟨b, off, rfl, hb, hcell⟩ := hz.2.2.2.2.1.cells j hjr
                  obtain ⟨b2, off2, rfl, hb2, hcell2⟩ := hz.2.2.2.1.cells j hjn
                  have hc1 := hcell j hjr
                  have hc2 := hcell k hlt
                  rw [← HRK.out] at hc2
                  have hc3 := hcell2 j hjn
                  have HU := hid (Qu.upto_succ (ps := ps) (v := rk) (by have := HLP.out; omega : j < ps.length))
                  rw [f1, f2] at HU
                  have HNI := hid (hz.2.2.2.1.small _ (List.getElem_mem hjn))
                  clear hcell hcell2 f1 f2 hz
                  generalize l2[j] = x at *
                  generalize l1[j] = z at *
                  by_cases hge : rk ≤ x
                  · have HGE := hid hge
                    go_wp2
                    go_quiet (fail)
                    have hown : OwnsI 3 (wr.drewN nq) w3.heap.size A cA (Qu.upto ps rk j) := HQ.out.2.1.drewN nq
                    have hbel : Below w3.heap.size w3 (wr.drewN nq) := below_drewN HQ.out.2.2 nq
                    have hc4 : (wr.drewN nq).cell? ⟨b2, off2 + j, none⟩ = some (.int .i64 z) := hc3
                    clear hc1 hc2 hc3
                    obtain ⟨w9, hw9⟩ : ∃ w9, w9 = wr.drewN nq := ⟨_, rfl⟩
                    rw [← hw9] at hown hbel hc4
                    rw [← hw9]
                    clear hw9
                    have H9 := hid (And.intro hown hbel)
                    have hbase := hbel.size
                    have hln := HQ.out.1
                    clear hbel
                    go_wp2_with (at_builtin; refine wpList_append_intN rfl _ _ 22 rfl w3.heap.size 3 i0 Try.underlying22 hi hz0 hz1 hz2 A cA (Qu.upto ps rk j) m hln rfl (hown.alloc _) ⟨w9.heap.size, 0, none⟩ 1 z HNI.out rfl (by simp) (Qu.upto ps rk j ++ [z]) rfl (by omega) (by simp; omega) ?_)
                    intro A3 c3 w5 hown3 hbel3
                    have hu : Qu.upto ps rk (j + 1) = Qu.upto ps rk j ++ [z] := by rw [HU.out, if_pos HGE.out]
                    rw [← hu] at hown3
                    have H4 := hid (And.intro hown3 ((H9.out.2.alloc H9.out.2.size _).trans hbel3))
                    have HLN := hid (show (Qu.upto ps rk (j + 1)).length = m + 1 by rw [hu, List.length_append, hln]; rfl)
                    clear hown hown3 hbel3 hc4 hln hu
                    go_wp2
                    go_roundw
                    case rel => exact ⟨j + 1, m + 1, A3, c3, by omega, by omega, rfl, by go_num, hid ⟨HLN.out, H4.out.1, H4.out.2⟩⟩
                    case measure => simp [intOf]; omega
                  · have HGE := hid hge
                    go_wp2
                    go_quiet (fail)
                    go_wp2
                    go_roundw
                    case rel => exact ⟨j + 1, m, A, cA, by omega, by omega, rfl, by go_num, hid (by rw [HU.out, if_neg (show ¬ rk ≤ x by have := HGE.out; omega)]; exact ⟨HQ.out.1, HQ.out.2.1.drewN _, below_drewN HQ.out.2.2 _⟩)⟩
                    case measure => simp [intOf]; omega
                · obtain rfl : j = l1.length := by omega
                  have hz := HZ.out wr HQ.out.2.2
                  obtain ⟨b, off, rfl, hb, hcell⟩ := hz.2.2.2.2.1.cells k hlt
                  have hck := hcell k hlt
                  rw [← HRK.out] at hck
                  obtain ⟨q, hq⟩ : ∃ q, q = Qu.quo c0 (Qu.reach ps rk) := ⟨_, rfl⟩
                  have hwn : ∀ w' (hb : Below w3.heap.size w3 w') (hi : IsInts w' w'.heap.size A (Qu.upto ps rk l1.length)), Calls Try.prog 17 #[.agg #[.slice a00 c0.old.length k00, .slice a01 c0.new.length k01, .slice a02 c0.lrn.length k02], .slice A m cA] w' fun e w'' => e = .returned (.bool q) ∧ Below w'.heap.size w' w'' := fun w' hb hi =>
                    won_N _ _ _ m w'.heap.size c0 rfl rfl rfl HS.out a00 a01 a02 A k00 k01 k02 cA _ HQ.out.1 (by omega) w' ((HZ.out w' hb).2.2.1.more hb.size) hi (Nat.le_refl _) q (by rw [hq, ← HLP.out]; exact Qu.won_upto c0 ps rk)
                  have HW1 := hid (hwn wr HQ.out.2.2 HQ.out.2.1.reads)
                  have HWN := hid hwn
                  have hle : q = true → rk ≤ r := fun h => HR.out.quo_le (hq.symm.trans h)
                  have heq : 0 < r → rk = r → q = true := fun h1 h2 => by rw [hq, h2]; exact (HR.out.2.1 h1).1
                  have d0 := hz.2.1.c0
                  have d1 := hz.2.1.c1
                  have d2 := hz.2.1.c2
                  have HLE := hid (And.intro hle heq)
                  have HR0 := HR.out.1
                  clear hcell hz hq hwn hle heq
                  cases q
                  · by_cases hv : rk = r
                    · have h0 : ¬ 0 < r := fun h => by have := HLE.out.2 h hv; cases this
                      have hvb : (rk == r) = true := by rw [beq_iff_eq]; exact hv
                      have HV := hid hv
                      clear hv
                      go_wp2_with fail
                      refine HW1.out.mono ?_
                      rintro e w5 ⟨rfl, hb5⟩
                      have hck5 : w5.cell? ⟨b, off + k, none⟩ = some (.int .i64 rk) := (hb5.cell (World.block_lt_of_cell? _ _ hck)).trans hck
                      have HB5 := hid (bthen HQ.out.2.2 hb5 HQ.out.2.2.size)
                      clear hb5
                      go_wp2
                      go_roundw
                      case rel => exact ⟨k + 1, by omega, by go_num, HB5⟩
                      case measure => simp [intOf]; omega
                    · have hvb : (rk == r) = false := by rw [beq_eq_false_iff_ne]; exact hv
                      clear hv
                      go_wp2_with fail
                      refine HW1.out.mono ?_
                      rintro e w5 ⟨rfl, hb5⟩
                      have hck5 : w5.cell? ⟨b, off + k, none⟩ = some (.int .i64 rk) := (hb5.cell (World.block_lt_of_cell? _ _ hck)).trans hck
                      have HB5 := hid (bthen HQ.out.2.2 hb5 HQ.out.2.2.size)
                      clear hb5
                      go_wp2
                      go_roundw
                      case rel => exact ⟨k + 1, by omega, by go_num, HB5⟩
                      case measure => simp [intOf]; omega
                  · have hrr : ¬ r < rk := by have := HLE.out.1 rfl; omega
                    by_cases hv : rk = r
                    · have hvb : (rk == r) = true := by rw [beq_iff_eq]; exact hv
                      clear hv
                      by_cases h0 : 0 < r
                      · go_wp2_with fail
                        refine HW1.out.mono ?_
                        rintro e w5 ⟨rfl, hb5⟩
                        have hck5 : w5.cell? ⟨b, off + k, none⟩ = some (.int .i64 rk) := (hb5.cell (World.block_lt_of_cell? _ _ hck)).trans hck
                        have hB5 := bthen HQ.out.2.2 hb5 HQ.out.2.2.size
                        have hz5 := HZ.out w5 hB5
                        have d05 := hz5.2.1.c0
                        have d15 := hz5.2.1.c1
                        have d25 := hz5.2.1.c2
                        have HW5 := hid (HWN.out w5 hB5 ((HQ.out.2.1.reads.below hb5).more hb5.size))
                        have HB5 := hid hB5
                        clear hb5 hB5 hz5
                        go_wp2_with fail
                        refine HW5.out.mono ?_
                        rintro e w6 ⟨rfl, hb6⟩
                        have HB6 := hid (bthen HB5.out hb6 HB5.out.size)
                        clear hb6
                        go_wp2
                        go_roundw
                        case rel => exact ⟨k + 1, by omega, by go_num, HB6⟩
                        case measure => simp [intOf]; omega
                      · go_wp2_with fail
                        refine HW1.out.mono ?_
                        rintro e w5 ⟨rfl, hb5⟩
                        have hck5 : w5.cell? ⟨b, off + k, none⟩ = some (.int .i64 rk) := (hb5.cell (World.block_lt_of_cell? _ _ hck)).trans hck
                        have HB5 := hid (bthen HQ.out.2.2 hb5 HQ.out.2.2.size)
                        clear hb5
                        go_wp2
                        go_roundw
                        case rel => exact ⟨k + 1, by omega, by go_num, HB5⟩
                        case measure => simp [intOf]; omega
                    · have hvb : (rk == r) = false := by rw [beq_eq_false_iff_ne]; exact hv
                      clear hv
                      go_wp2_with fail
                      refine HW1.out.mono ?_
                      rintro e w5 ⟨rfl, hb5⟩
                      have hck5 : w5.cell? ⟨b, off + k, none⟩ = some (.int .i64 rk) := (hb5.cell (World.block_lt_of_cell? _ _ hck)).trans hck
                      have HB5 := hid (bthen HQ.out.2.2 hb5 HQ.out.2.2.size)
                      clear hb5
                      go_wp2
                      go_roundw
                      case rel => exact ⟨k + 1, by omega, by go_num, HB5⟩
                      case measure => simp [intOf]; omega
            · obtain rfl : k = l2.length := by omega
              by_cases h0 : l2.length = 0
              · have hl2 : ps = [] := List.eq_nil_of_length_eq_zero (by have := HNN.out; omega)
                have hr0 : r = 0 := by have := HR.out; rw [hl2] at this; exact this.nil_
                have hb0 : ((l2.length : Int) == 0) = true := by rw [beq_iff_eq]; omega
                have hrb : (r == 0) = true := by rw [beq_iff_eq]; exact hr0
                clear hl2 hr0 h0
                go_wp2_with fail
                refine (works_any wr).mono ?_
                rintro e w8 ⟨rfl, hb8⟩
                have HB8 := hid (bthen HB.out (bthen (bthen HB3.out HW.out HB3.out.size) hb8 (bthen HB3.out HW.out HB3.out.size).size) HB.out.size)
                clear hb8
                go_wp2
                go_ret
                exact ⟨rfl, HB8.out⟩
              · have hb0 : ((l2.length : Int) == 0) = false := by rw [beq_eq_false_iff_ne]; omega
                have hl300 : l2.length ≤ 300 := by have := HE2.out; omega
                go_wp2_with fail
                refine (I.copy_any w3.heap.size a2 cap2 l2 (by omega) wr (HZ.out wr HW.out).2.2.2.2.1 (HZ.out wr HW.out).2.2.2.2.2).mono ?_
                rintro e w4 ⟨A4, c4, rfl, ho4, hb4⟩
                have HO4 := hid ho4
                have HB4 := hid (And.intro hb4 (bthen HW.out hb4 HW.out.size))
                clear ho4 hb4
                go_wp2_with fail
                refine (pick_lt x3 (l2.length : Int) (by omega) (by omega) w4).mono ?_
                rintro e w5 ⟨⟨p, rfl, hp⟩, rfl⟩
                have hpl : p < l2.length := by omega
                obtain ⟨g, rfl, hg1, hg2, hcg, hfg⟩ := HO4.out.at_ hpl
                obtain ⟨z, hz⟩ : ∃ z, z = l2[p] := ⟨_, rfl⟩
                have HZP := hid hz
                have HZI := hid (HO4.out.small _ (List.getElem_mem hpl))
                have HPL := hid hpl
                have HG2 := hid (And.intro hg1 hg2)
                rw [← hz] at hcg
                clear hz hg1 hg2
                have hfin : ∀ y : Int, InInt y → z ≤ y → Hid (∀ w6, w6 = w4.setCell ⟨g, p, none⟩ (.int .i64 y) → Calls Try.prog 25 #[.agg #[.slice a00 c0.old.length k00, .slice a01 c0.new.length k01, .slice a02 c0.lrn.length k02], .slice a1 l1.length cap1, .slice (some ⟨g, 0, none⟩) l2.length c4] w6 fun e w7 => ∃ s : Int, e = .returned (.int .i64 s) ∧ r ≤ s ∧ Hid (Below wb.heap.size wb w7)) := fun y hy hzy => hid fun w6 hw6 => by
                  subst hw6
                  have hset := HO4.out.set_ p y hy
                  have hgr : Below w3.heap.size w3 (w4.setCell ⟨g, p, none⟩ (.int .i64 y)) := HB4.out.2.setCell (by have := HG2.out.1; have := HW.out.size; show w3.heap.size ≤ g; omega) _
                  have hz := HZ.out _ hgr
                  have hsz : (w4.setCell ⟨g, p, none⟩ (.int .i64 y)).heap.size = w4.heap.size := by simp [World.setCell]
                  have hag := agreed_any (w4.setCell ⟨g, p, none⟩ (.int .i64 y)).heap.size c0 HS.out a00 a01 a02 a1 (some ⟨g, 0, none⟩) k00 k01 k02 cap1 c4 l1 (l2.set p y) (by omega) (by rw [List.length_set]; omega) (w4.setCell ⟨g, p, none⟩ (.int .i64 y)) (hz.2.2.1.more hz.2.2.2.2.2) (hz.2.2.2.1.more hz.2.2.2.2.2) hset.reads (Nat.le_refl _)
                  rw [List.length_set] at hag
                  refine hag.mono ?_
                  rintro e w7 ⟨s, rfl, hs, hb7⟩
                  refine ⟨s, rfl, ?_, hid (bthen hz.1 hb7 hz.1.size)⟩
                  have hR := HR.out
                  rw [HPS.out] at hR
                  exact hR.rise hs (fun v x hh => Qu.reach_set l1 l2 p HPL.out y (by rw [← HZP.out]; exact hzy) v x hh)
                have hq6 : ∀ y : Int, Below w3.heap.size w3 (w4.setCell ⟨g, p, none⟩ (.int .i64 y)) := fun y => HB4.out.2.setCell (by have := HG2.out.1; have := HW.out.size; show w3.heap.size ≤ g; omega) _
                have hcb6 := fun y : Int => (HZ.out _ (hq6 y)).2.1
                by_cases hmx : z < x4
                · have HF6 := hfin x4 B4.out (by omega)
                  have d0 := (hcb6 x4).c0
                  have d1 := (hcb6 x4).c1
                  have d2 := (hcb6 x4).c2
                  have hmx2 : ¬ x4 ≤ z := by omega
                  have hmx3 : z ≤ x4 := by omega
                  have hmx4 : max z x4 = x4 := by omega
                  clear hfin hq6 hcb6
                  go_wp2_with fail
                  refine (HF6.out _ rfl).mono ?_
                  rintro e w7 ⟨s, rfl, hs, hb7⟩
                  have HB7 := hid (bthen HB.out hb7.out HB.out.size)
                  have hsr : ¬ s < r := by omega
                  clear hb7
                  go_wp2_with fail
                  refine (works_any w7).mono ?_
                  rintro e w8 ⟨rfl, hb8⟩
                  have HB8 := hid (bthen HB7.out hb8 HB7.out.size)
                  clear hb8
                  go_wp2
                  go_ret
                  exact ⟨rfl, HB8.out⟩
                · have HF6 := hfin z (by rw [HZP.out]; exact HZI.out) (by omega)
                  have d0 := (hcb6 z).c0
                  have d1 := (hcb6 z).c1
                  have d2 := (hcb6 z).c2
                  have hmx2 : x4 ≤ z := by omega
                  have hmx4 : max z x4 = z := by omega
                  clear hfin hq6 hcb6
                  go_wp2_with fail
                  refine (HF6.out _ rfl).mono ?_
                  rintro e w7 ⟨s, rfl, hs, hb7⟩
                  have HB7 := hid (bthen HB.out hb7.out HB.out.size)
                  have hsr : ¬ s < r := by omega
                  clear hb7
                  go_wp2_with fail
                  refine (works_any w7).mono ?_
                  rintro e w8 ⟨rfl, hb8⟩
                  have HB8 := hid (bthen HB7.out hb8 HB7.out.size)
                  clear hb8
                  go_wp2
                  go_ret
                  exact ⟨rfl, HB8.out⟩
      · have e2' : ((l2.length : Int) != (l1.length : Int)) = true := by rw [bne_iff_ne]; omega
        clear e2
        go_enter Try.func7, Try.ntmps7
        go_wp2_with fail
        rw [← hwb]; clear hwb
        refine HL.out.mono ?_
        rintro e w1 ⟨rfl, hb1⟩
        have HB1 := hid (bthen HB.out hb1 HB.out.size)
        clear hb1
        go_wp2_with fail
        refine (works_any _).mono ?_
        rintro e w8 ⟨rfl, hb8⟩
        have HB8 := hid (bthen HB1.out hb8 HB1.out.size)
        clear hb8
        go_wp2
        go_ret
        exact ⟨rfl, HB8.out⟩
    · have e1' : (300 : Int) < (l1.length : Int) := by omega
      go_enter Try.func7, Try.ntmps7
      go_wp2_with fail
      rw [← hwb]; clear hwb
      refine HL.out.mono ?_
      rintro e w1 ⟨rfl, hb1⟩
      have HB1 := hid (bthen HB.out hb1 HB.out.size)
      clear hb1
      go_wp2_with fail
      refine (works_any _).mono ?_
      rintro e w8 ⟨rfl, hb8⟩
      have HB8 := hid (bthen HB1.out hb8 HB1.out.size)
      clear hb8
      go_wp2
      go_ret
      exact ⟨rfl, HB8.out⟩
  · have hlg := HLG.out true ⟨(fun h => by cases h), fun h => absurd h hs⟩
    have HL := hid hlg
    clear hs hlg HLG
    go_enter Try.func7, Try.ntmps7
    go_wp2_with fail
    rw [← hwb]; clear hwb
    refine HL.out.mono ?_
    rintro e w1 ⟨rfl, hb1⟩
    have HB1 := hid (bthen HB.out hb1 HB.out.size)
    clear hb1
    go_wp2_with fail
    refine (works_any _).mono ?_
    rintro e w8 ⟨rfl, hb8⟩
    have HB8 := hid (bthen HB1.out hb8 HB1.out.size)
    clear hb8
    go_wp2
    go_ret
    exact ⟨rfl, HB8.out⟩
theorem walk (c0 : Qu.Cf) (a00 a01 a02 : Option Addr) (k00 k01 k02 : Nat) (a1 : Option Addr) (cap1 : Nat) (l1 : List Int) (a2 : Option Addr) (cap2 : Nat) (l2 : List Int) (x3 : Int) (x4 : Int) (w : World) (h0 : CIs w w.heap.size c0 a00 a01 a02 k00 k01 k02) (k1 : IsInts w w.heap.size a1 l1) (n1 : l1.length ≤ cap1) (r1 : cap1 * 8 ≤ 140737488351232) (z1 : a1 = none → cap1 = 0) (k2 : IsInts w w.heap.size a2 l2) (n2 : l2.length ≤ cap2) (r2 : cap2 * 8 ≤ 140737488351232) (z2 : a2 = none → cap2 = 0) (b3 : -9223372036854775808 ≤ x3 ∧ x3 ≤ 9223372036854775807) (b4 : -9223372036854775808 ≤ x4 ∧ x4 ≤ 9223372036854775807) :
    Calls Try.prog 7 #[.agg #[.slice a00 c0.old.length k00, .slice a01 c0.new.length k01, .slice a02 c0.lrn.length k02], .slice a1 l1.length cap1, .slice a2 l2.length cap2, .int .i64 x3, .int .i64 x4] w fun e w' => e = .returned (.bool true) ∧ Below w.heap.size w w' :=
  core w.heap.size c0 a00 a01 a02 k00 k01 k02 a1 cap1 l1 a2 cap2 l2 w h0 k1 (by unfold maxLen; omega) k2 (by unfold maxLen; omega) x3 x4 b4 (Nat.le_refl _)

set_option maxRecDepth 100000 in
theorem lifted (os : Os) (started : os.Started) (H : Type) (enc : TypeId × Value → H) :
    ReturnsInHanded {} Try.checked os 7 .any (Rows.quorumReachedSpec.pre6 enc Try.prog Try.f7 Rows.quorumReachedRow.domain false) (Rows.quorumReachedSpec.post enc Try.prog Try.f7 false true false false) := by
  refine returnsInHanded_of_change_sized (C := Try.checked) own started (by kernel_rfl) Try.func7
    (ChangeSpec.witness6 (enc := enc) (C := Try.checked) false ⟨#[], #[.agg #[.slice none 0 0, .slice none 0 0, .slice none 0 0], .slice none 0 0, .slice none 0 0, .int .i64 0, .int .i64 0], []⟩ 8 (by kernel_rfl) (by kernel_rfl) (by kernel_rfl) (by kernel_rfl)) ?_
  intro W base args ds gs before hval0 hW hcnd hsz0 _
  have hsz : (DataW.weightsEach Try.prog (Try.f7.params.toList ++ Rows.quorumReachedSpec.plain.varTypes Try.prog) (ds ++ gs)).all (· ≤ reachBytes) = true := hsz0
  clear hsz0
  have hval : ∀ (j : Nat) t v, Try.f7.params[j]? = some t → args[j]? = some v → Value.okWide Try.prog W .any base t v := hval0
  have hW' := hW
  obtain ⟨p, q, hA0, hV, rfl, hfz, hnd⟩ := hW
  have hA : DataW.TrodAll enc Try.prog W 0 (fun _ => true) true Try.f7.params.toList args.toList ds p := hA0
  rw [Try.params7] at hA hval hsz
  obtain ⟨v0, vs0, d0, ds0, p0, q0, hargs, rfl, rfl, g0, t0⟩ := trodAll_cons hA
  obtain ⟨v1, vs1, d1, ds1, p1, q1, rfl, rfl, rfl, g1, t1⟩ := trodAll_cons t0
  obtain ⟨v2, vs2, d2, ds2, p2, q2, rfl, rfl, rfl, g2, t2⟩ := trodAll_cons t1
  obtain ⟨v3, vs3, d3, ds3, p3, q3, rfl, rfl, rfl, g3, t3⟩ := trodAll_cons t2
  obtain ⟨v4, vs4, d4, ds4, p4, q4, rfl, rfl, rfl, g4, t4⟩ := trodAll_cons t3
  obtain ⟨rfl, rfl, rfl⟩ := trodAll_nil t4
  obtain rfl : args = #[v0, v1, v2, v3, v4] := by cases args; simp_all
  obtain ⟨rfl, rfl⟩ := trodVars_none hV
  obtain ⟨cs0, rfl, sz0⟩ := okWide_struct Try.underlying24 (hval 0 24 v0 rfl rfl)
  have m0 := g0
  have lt0 : ∀ x ∈ p0, x.block < W.heap.size := by obtain ⟨m, hm⟩ := m0; exact DataW.trod_lt m _ _ _ hm
  obtain ⟨c0, a00, a01, a02, k00, k01, k02, rfl, k0⟩ := conf_open sz0 g0
  obtain ⟨a1, len1, cap1, rfl⟩ := okWide_slice Try.underlying22 (hval 1 22 v1 rfl rfl)
  have m1 := g1
  have lt1 : ∀ x ∈ p1, x.block < W.heap.size := by obtain ⟨m, hm⟩ := m1; exact DataW.trod_lt m _ _ _ hm
  obtain ⟨l1, k1, rfl, n1, r1, z1⟩ : ∃ l, IsInts W W.heap.size a1 l ∧ len1 = l.length ∧ l.length ≤ cap1 ∧ cap1 * 8 ≤ 140737488351232 ∧ (a1 = none → cap1 = 0) := by
    obtain ⟨fuel, hf⟩ := g1
    rcases open_ints Try.underlying22 Try.underlying3 (by kernel_rfl) hf with ⟨hcs, _⟩ | ⟨x, l, c, zs, hcs, _, hl, hm, hz, hx, hcell, hwz⟩
    · simp [Value.cells] at hcs
      obtain ⟨rfl, rfl, rfl⟩ := hcs
      exact ⟨[], IsInts.nil, rfl, by simp, by omega, fun _ => rfl⟩
    · simp [Value.cells] at hcs
      obtain ⟨rfl, rfl, rfl⟩ := hcs
      simp only [Prod.mk.injEq] at hx
      obtain ⟨rfl, rfl⟩ := hx
      simp only [if_true] at hz
      have hr := sized_slice hsz (j := 1) (t := 22) (e := 3) rfl rfl Try.underlying22
      rw [bytesOfI] at hr
      simp only [lits, List.length_map, List.length_take, List.length_drop, reachBytes] at hr
      obtain ⟨l, h1, h2⟩ := isInts_of_ints hl hz hcell hwz
      exact ⟨l, h1, h2, by omega, by omega, fun h => by cases h⟩
  obtain ⟨a2, len2, cap2, rfl⟩ := okWide_slice Try.underlying22 (hval 2 22 v2 rfl rfl)
  have m2 := g2
  have lt2 : ∀ x ∈ p2, x.block < W.heap.size := by obtain ⟨m, hm⟩ := m2; exact DataW.trod_lt m _ _ _ hm
  obtain ⟨l2, k2, rfl, n2, r2, z2⟩ : ∃ l, IsInts W W.heap.size a2 l ∧ len2 = l.length ∧ l.length ≤ cap2 ∧ cap2 * 8 ≤ 140737488351232 ∧ (a2 = none → cap2 = 0) := by
    obtain ⟨fuel, hf⟩ := g2
    rcases open_ints Try.underlying22 Try.underlying3 (by kernel_rfl) hf with ⟨hcs, _⟩ | ⟨x, l, c, zs, hcs, _, hl, hm, hz, hx, hcell, hwz⟩
    · simp [Value.cells] at hcs
      obtain ⟨rfl, rfl, rfl⟩ := hcs
      exact ⟨[], IsInts.nil, rfl, by simp, by omega, fun _ => rfl⟩
    · simp [Value.cells] at hcs
      obtain ⟨rfl, rfl, rfl⟩ := hcs
      simp only [Prod.mk.injEq] at hx
      obtain ⟨rfl, rfl⟩ := hx
      simp only [if_true] at hz
      have hr := sized_slice hsz (j := 2) (t := 22) (e := 3) rfl rfl Try.underlying22
      rw [bytesOfI] at hr
      simp only [lits, List.length_map, List.length_take, List.length_drop, reachBytes] at hr
      obtain ⟨l, h1, h2⟩ := isInts_of_ints hl hz hcell hwz
      exact ⟨l, h1, h2, by omega, by omega, fun h => by cases h⟩
  obtain ⟨a3, rfl, rfl, rfl, w3⟩ := open_int Try.underlying3 (hval 3 3 v3 rfl rfl) g3
  have b3 := bounds_i64 w3
  obtain ⟨a4, rfl, rfl, rfl, w4⟩ := open_int Try.underlying3 (hval 4 3 v4 rfl rfl) g4
  have b4 := bounds_i64 w4
  clear hA0 hval0
  refine (walk c0 a00 a01 a02 k00 k01 k02 a1 cap1 l1 a2 cap2 l2 a3 a4 W k0 k1 n1 r1 z1 k2 n2 r2 z2 b3 b4).mono fun e W' ⟨he, bel⟩ => ?_
  subst he
  exact ⟨_, rfl, _, _, _, [], _, [], hW', trodAll_mk1 (shut_bool Try.underlying4 _), (trodAll_cons_mk (Below.trod laidOut (by kernel_rfl) (of_decide_eq_true (by kernel_rfl)) m0 bel lt0) (trodAll_cons_mk (Below.trod laidOut (by kernel_rfl) (of_decide_eq_true (by kernel_rfl)) m1 bel lt1) (trodAll_cons_mk (Below.trod laidOut (by kernel_rfl) (of_decide_eq_true (by kernel_rfl)) m2 bel lt2) (trodAll_cons_mk (shut_int Try.underlying3 w3) (trodAll_cons_mk (shut_int Try.underlying3 w4) trodAll_mk0))))), rfl, bel.frame _, fun h => by cases h⟩

theorem over : Rows.quorumReachedRow.holds Try.pinned (OpenSpec.ofChange Rows.quorumReachedSpec) :=
  OpenClaim.holds_of_wide 7 Try.f7 rfl rfl rfl rfl rfl rfl rfl ⟨rfl, rfl, rfl, rfl, rfl⟩ rfl rfl rfl rfl rfl (by kernel_rfl) Try.func7 (by kernel_rfl)
    (of_decide_eq_true (by kernel_rfl)) (by unfold Func.isWrapper; first | (rw [if_pos (by decide +kernel)]; kernel_rfl) | (rw [if_neg (by decide +kernel)]; exact ⟨rfl, rfl⟩))
    (fun os started H enc _ => lifted os started H enc)

theorem proved : Rows.QuorumReachedSaid := over
end Go.Proofs.Ytblhfbijffaacaa.quorumReached
