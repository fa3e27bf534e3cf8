/- What is read of any bytes has just these bytes, and is in order. Conditions: none. -/
import Derived.Test.YtaeoccpjdjafnaaGreatRows
import Derived.Test.YtaeoccpjdjafnaaGreatBaseAF
import Derived.WalkKit
import Derived.WalkLawsBesides
import Derived.ProofKit
import Derived.OpenShut
import Derived.ShutString
import Derived.ChangeOld
import Derived.Below
import Derived.SizedLaws
namespace Go.Proofs.YtaeoccpjdjafnaaGreat.imageOnly
open Go.ChangeShapes Go.WideShapes Go.ChangeAt Go.RowKit
open Go.ChangeMaps (open_string shut_string)
set_option linter.unusedVariables false

theorem own : ownKnob Tryz.prog.godebug = none := by kernel_rfl
theorem laidOut : laidOutB Tryz.prog = true := by kernel_rfl
theorem bytesOf : Tryz.prog.bytesOf 5 = 1 := by kernel_rfl

attribute [local go_sem ↓] Im.loadAt_image Im.storeAt_image Im.loadAt_conf3 Im.storeAt_conf3
open Im in
set_option maxRecDepth 100000 in
set_option maxHeartbeats 12800000 in
theorem walk (A0 : Option Addr) (c0 : Nat) (l : List Nat) (w : World) (k0 : IsBytes w w.heap.size A0 l) (n0 : l.length ≤ c0) (r0 : c0 ≤ 140737488351232) (z0 : A0 = none → c0 = 0) :
    Calls Tryz.prog 7 #[.slice A0 l.length c0] w fun e w' => e = .returned (.bool true) ∧ Below w.heap.size w w' := by
  obtain ⟨n, hn⟩ : ∃ n, l.length = n := ⟨_, rfl⟩
  rw [hn]
  by_cases hbig : 65536 < n
  · have HK := hid (known_any w)
    have hbi : (65536 : Int) < (n : Int) := by omega
    clear k0 n0 r0 z0
    go_enter Tryz.func7, Tryz.ntmps7
    go_wp2_with fail
    refine HK.out.mono ?_
    rintro e w1 ⟨rfl, hb⟩
    have HB := hid hb
    clear hb
    go_wp2_with fail
    go_ret
    exact ⟨rfl, HB.out⟩
  · have hbi : ¬ (65536 : Int) < (n : Int) := by omega
    have HG := hid (get_any l A0 c0 n hn w k0 z0 (by omega))
    have HI := hid (And.intro k0 (And.intro hn (And.intro z0 k0.small)))
    clear k0 n0 r0 z0
    go_enter Tryz.func7, Tryz.ntmps7
    go_wp2_with fail
    refine HG.out.mono ?_
    rintro e w1 ⟨i1, nh, nv, rfl, ⟨Q, L, ⟨e1, e2⟩, ho, e3⟩, hb1⟩
    obtain ⟨er, her⟩ : ∃ er, er = (get l).2 := ⟨_, rfl⟩
    rw [← her]
    obtain ⟨w2, hw2⟩ : ∃ w2, w2 = w1.alloc (.cells #[.slice i1.h nh i1.ch, .slice i1.v nv i1.cv] 25) := ⟨_, rfl⟩
    have hst := stNew w1 25 2 info_image2 #[.slice none 0 0, .slice none 0 0] #[.slice i1.h nh i1.ch, .slice i1.v nv i1.cv] rfl rfl (by simp [Value.oneCell'])
    rw [← hw2] at hst
    have hb2 : Below w1.heap.size w1 w2 := by rw [hw2]; exact (Below.refl _ _).alloc (Nat.le_refl _) _
    have r2 : w2.heap[w1.heap.size]? = some (.cells #[.slice i1.h nh i1.ch, .slice i1.v nv i1.cv] 25 (0, 0)) := by rw [hw2]; exact heap_alloc_new _ _
    have hv2 := (ho.below hb2).vs
    have hbw2 := hb1.trans (hb2.mono hb1.size)
    have hz2 := hb2.size
    rcases get_cases l HI.out.2.2.2 with ⟨g1, g2, g3⟩ | ⟨g1, g2⟩
    · obtain rfl : er = 0 := her.trans g1
      have hlen := get_len l HI.out.2.2.2 (by have := HI.out.2.1; omega)
      rw [← e3] at hlen g2 g3
      have hq1 : nh ≤ 65536 := by rw [e1]; simpa using hlen.1
      have hq2 : nv ≤ 65536 := by rw [e2]; exact hlen.2
      have HO := hid (Im.ordered_any i1 nh nv Q L e1.symm e2.symm (by omega) (by omega) w2 (hv2.1.more hz2) (hv2.2.more hz2))
      rw [g3] at HO
      have l2 := ldRow info_image2 Tryz.underlying25 rfl r2 rfl
      have H2 := hid (And.intro r2 (And.intro hv2 (And.intro hbw2 (And.intro e1 (And.intro e2 (And.intro e3 (And.intro g2 (And.intro hq1 (And.intro hq2 hz2)))))))))
      clear r2 hv2 hbw2 e1 e2 e3 g2 hq1 hq2 hz2 ho hb1 hb2 hw2 her g1 g3 hlen
      go_wp2_with fail
      refine HO.out.mono ?_
      rintro e w3 ⟨rfl, hb3⟩
      have r3 := (hb3.block _ (row_lt H2.out.1)).trans H2.out.1
      have l3 := ldRow info_image2 Tryz.underlying25 rfl r3 rfl
      have hb13 : Below w1.heap.size w2 w3 := hb3.mono H2.out.2.2.2.2.2.2.2.2.2
      have hz3 := hb3.size
      have HP := hid (putIm_any w3.heap.size w3 (Nat.le_refl _) Q nh H2.out.2.2.2.1.symm L nv H2.out.2.2.2.2.1.symm (by have := H2.out.2.2.2.2.2.2.2.1; have := H2.out.2.2.2.2.2.2.2.2.1; omega) (fun q hq => by
        have hs := get_sz l HI.out.2.2.2 (by have := HI.out.2.1; omega) q.h
        rw [← H2.out.2.2.2.2.2.1] at hs
        exact hs (List.mem_map.2 ⟨q, hq, rfl⟩)) (by rw [im_len Q L H2.out.2.2.2.2.2.2.1, HI.out.2.1]; omega) i1.h i1.v i1.ch i1.cv ((H2.out.2.1.1.below hb13).more (by have := H2.out.2.2.2.2.2.2.2.2.2; omega)) ((H2.out.2.1.2.below hb13).more (by have := H2.out.2.2.2.2.2.2.2.2.2; omega)) n (by rw [im_len Q L H2.out.2.2.2.2.2.2.1, HI.out.2.1]))
      rw [im_enc Q L H2.out.2.2.2.2.2.2.1] at HP
      have H3 := hid (H2.out.2.2.1.trans (hb3.mono H2.out.2.2.1.size))
      clear r3 hb13 hz3 hb3 l2
      go_wp2_with fail
      refine HP.out.mono ?_
      rintro e w4 ⟨A4, c4, rfl, h4⟩
      have hbw4 : Below w.heap.size w w4 := H3.out.trans (h4.put.bel.mono H3.out.size)
      have HS := hid (same_T w4.heap.size w4.heap.size A4 A0 c4 c0 l n HI.out.2.1 (by unfold maxLen; omega) w4 h4.own.reads ((HI.out.1.below hbw4).more hbw4.size))
      have H4 := hid hbw4
      clear h4 hbw4 l3
      go_wp2_with fail
      refine HS.out.mono ?_
      rintro e w5 ⟨rfl, n5, rfl⟩
      go_wp2_with fail
      have HBW : Hid (Below w.heap.size w (w4.drewN n5)) := hid (below_drewN H4.out n5)
      have HC := hid (getCs_any l A0 c0 n HI.out.2.1 (w4.drewN n5) ((HI.out.1.below HBW.out).more HBW.out.size) HI.out.2.2.1 (by omega))
      refine HC.out.mono ?_
      rintro e w6 ⟨A6, c6, nl, rfl, ⟨M, e6, ho6, e7⟩, hb6⟩
      obtain ⟨es, hes⟩ : ∃ es, es = (getCs l).2 := ⟨_, rfl⟩
      rw [← hes]
      have hbw6 := HBW.out.trans (hb6.mono HBW.out.size)
      rcases getCs_cases l HI.out.2.2.2 with ⟨g4, g5⟩ | ⟨g4, g5⟩
      · obtain rfl : es = 0 := hes.trans g4
        have hlen := getCs_len l HI.out.2.2.2 (by have := HI.out.2.1; omega)
        have hszc := getCs_sz l HI.out.2.2.2 (by have := HI.out.2.1; omega)
        rw [← e7] at g5 hlen hszc
        rw [List.length_map, ← e6] at hlen
        have HP := hid (putChs_any w6.heap.size w6 (Nat.le_refl _) M nl e6.symm (by omega) (fun q hq => hszc q.c (List.mem_map.2 ⟨q, hq, rfl⟩)) (by rw [cs_len M g5, HI.out.2.1]; omega) A6 c6 ho6.reads n (by rw [cs_len M g5, HI.out.2.1]))
        rw [cs_enc M g5] at HP
        have H6 := hid hbw6
        clear hes g4 g5 hlen hszc e6 e7 ho6 hb6 hbw6
        go_wp2_with fail
        refine HP.out.mono ?_
        rintro e w7 ⟨A7, c7, rfl, h7⟩
        have hbw7 : Below w.heap.size w w7 := H6.out.trans (h7.put.bel.mono H6.out.size)
        have HS := hid (same_T w7.heap.size w7.heap.size A7 A0 c7 c0 l n HI.out.2.1 (by unfold maxLen; omega) w7 h7.own.reads ((HI.out.1.below hbw7).more hbw7.size))
        have H7 := hid hbw7
        clear h7 hbw7
        go_wp2_with fail
        refine HS.out.mono ?_
        rintro e w8 ⟨rfl, n8, rfl⟩
        have HBV : Hid (Below w.heap.size w (w7.drewN n8)) := hid (below_drewN H7.out n8)
        go_wp2_with fail
        have HD := hid (getCf_any l A0 c0 n HI.out.2.1 (w7.drewN n8) ((HI.out.1.below HBV.out).more HBV.out.size) HI.out.2.2.1 (by omega))
        refine HD.out.mono ?_
        rintro e w9 ⟨a9, m1, m2, m3, rfl, ⟨p, ⟨f1, f2, f3⟩, ho9, f4⟩, hb9⟩
        obtain ⟨et, het⟩ : ∃ et, et = (getCf l).2 := ⟨_, rfl⟩
        rw [← het]
        obtain ⟨wx, hwx⟩ : ∃ wx, wx = w9.alloc (.cells #[.slice a9.o m1 a9.co, .slice a9.n m2 a9.cn, .slice a9.l m3 a9.cl] 28) := ⟨_, rfl⟩
        have hstx := stNew w9 28 3 info_conf33 #[.slice none 0 0, .slice none 0 0, .slice none 0 0] #[.slice a9.o m1 a9.co, .slice a9.n m2 a9.cn, .slice a9.l m3 a9.cl] rfl rfl (by simp [Value.oneCell'])
        rw [← hwx] at hstx
        have hbx : Below w9.heap.size w9 wx := by rw [hwx]; exact (Below.refl _ _).alloc (Nat.le_refl _) _
        have rx : wx.heap[w9.heap.size]? = some (.cells #[.slice a9.o m1 a9.co, .slice a9.n m2 a9.cn, .slice a9.l m3 a9.cl] 28 (0, 0)) := by rw [hwx]; exact heap_alloc_new _ _
        have hbwx := HBV.out.trans ((hb9.trans (hbx.mono hb9.size)).mono HBV.out.size)
        rcases getCf_cases l HI.out.2.2.2 with ⟨g6, g7⟩ | ⟨g6, g7⟩
        · obtain rfl : et = 0 := het.trans g6
          rw [← f4] at g7
          have hlen := cf_len p g7
          rw [HI.out.2.1, ← f1, ← f2, ← f3] at hlen
          have lx := ldRow info_conf33 Tryz.underlying28 rfl rx rfl
          obtain ⟨q1, q2, q3⟩ := OwnCf.ints_ ho9
          have HP := hid (putCf_any wx.heap.size wx (Nat.le_refl _) p a9.o a9.n a9.l a9.co a9.cn a9.cl ((q1.below hbx).more hbx.size) ((q2.below hbx).more hbx.size) ((q3.below hbx).more hbx.size) m1 m2 m3 f1.symm f2.symm f3.symm ⟨by omega, by omega, by omega⟩)
          rw [g7, hlen] at HP
          have HX := hid hbwx
          clear f1 f2 f3 f4 g6 g7 q1 q2 q3 ho9 hb9 hbx rx hbwx hwx het hlen
          go_wp2_with fail
          refine HP.out.mono ?_
          rintro e wy ⟨A5, c5, rfl, h5⟩
          have hbwy : Below w.heap.size w wy := HX.out.trans (h5.put.bel.mono HX.out.size)
          have HS := hid (same_T wy.heap.size wy.heap.size A5 A0 c5 c0 l n HI.out.2.1 (by unfold maxLen; omega) wy h5.own.reads ((HI.out.1.below hbwy).more hbwy.size))
          have HY := hid hbwy
          clear h5 hbwy lx
          go_wp2_with fail
          refine HS.out.mono ?_
          rintro e wz ⟨rfl, nz, rfl⟩
          have HK := hid (known_any (wy.drewN nz))
          go_wp2_with fail
          refine HK.out.mono ?_
          rintro e wq ⟨rfl, hbq⟩
          have HQ := hid ((below_drewN HY.out nz).trans (hbq.mono (below_drewN HY.out nz).size))
          clear hbq
          go_wp2_with fail
          go_ret
          exact ⟨rfl, HQ.out⟩
        · have hnt : ¬ et = 0 := fun e => g6 (het.symm.trans e)
          have HK := hid (known_any wx)
          have HX := hid hbwx
          clear f1 f2 f3 f4 g6 g7 ho9 hb9 hbx rx hbwx hwx het
          go_wp2_with fail
          refine HK.out.mono ?_
          rintro e wq ⟨rfl, hbq⟩
          have HQ := hid (HX.out.trans (hbq.mono HX.out.size))
          clear hbq
          go_wp2_with fail
          go_ret
          exact ⟨rfl, HQ.out⟩
      · have hns : ¬ es = 0 := fun e => g4 (hes.symm.trans e)
        rw [g5] at e7
        have hM0 : M = [] := List.map_eq_nil_iff.1 e7
        subst hM0
        obtain rfl : nl = 0 := e6
        have HBV := hid hbw6
        clear hes g4 g5 e7 ho6 hb6 hbw6
        go_wp2_with fail
        have HD := hid (getCf_any l A0 c0 n HI.out.2.1 w6 ((HI.out.1.below HBV.out).more HBV.out.size) HI.out.2.2.1 (by omega))
        refine HD.out.mono ?_
        rintro e w9 ⟨a9, m1, m2, m3, rfl, ⟨p, ⟨f1, f2, f3⟩, ho9, f4⟩, hb9⟩
        obtain ⟨et, het⟩ : ∃ et, et = (getCf l).2 := ⟨_, rfl⟩
        rw [← het]
        obtain ⟨wx, hwx⟩ : ∃ wx, wx = w9.alloc (.cells #[.slice a9.o m1 a9.co, .slice a9.n m2 a9.cn, .slice a9.l m3 a9.cl] 28) := ⟨_, rfl⟩
        have hstx := stNew w9 28 3 info_conf33 #[.slice none 0 0, .slice none 0 0, .slice none 0 0] #[.slice a9.o m1 a9.co, .slice a9.n m2 a9.cn, .slice a9.l m3 a9.cl] rfl rfl (by simp [Value.oneCell'])
        rw [← hwx] at hstx
        have hbx : Below w9.heap.size w9 wx := by rw [hwx]; exact (Below.refl _ _).alloc (Nat.le_refl _) _
        have rx : wx.heap[w9.heap.size]? = some (.cells #[.slice a9.o m1 a9.co, .slice a9.n m2 a9.cn, .slice a9.l m3 a9.cl] 28 (0, 0)) := by rw [hwx]; exact heap_alloc_new _ _
        have hbwx := HBV.out.trans ((hb9.trans (hbx.mono hb9.size)).mono HBV.out.size)
        rcases getCf_cases l HI.out.2.2.2 with ⟨g6, g7⟩ | ⟨g6, g7⟩
        · obtain rfl : et = 0 := het.trans g6
          rw [← f4] at g7
          have hlen := cf_len p g7
          rw [HI.out.2.1, ← f1, ← f2, ← f3] at hlen
          have lx := ldRow info_conf33 Tryz.underlying28 rfl rx rfl
          obtain ⟨q1, q2, q3⟩ := OwnCf.ints_ ho9
          have HP := hid (putCf_any wx.heap.size wx (Nat.le_refl _) p a9.o a9.n a9.l a9.co a9.cn a9.cl ((q1.below hbx).more hbx.size) ((q2.below hbx).more hbx.size) ((q3.below hbx).more hbx.size) m1 m2 m3 f1.symm f2.symm f3.symm ⟨by omega, by omega, by omega⟩)
          rw [g7, hlen] at HP
          have HX := hid hbwx
          clear f1 f2 f3 f4 g6 g7 q1 q2 q3 ho9 hb9 hbx rx hbwx hwx het hlen
          go_wp2_with fail
          refine HP.out.mono ?_
          rintro e wy ⟨A5, c5, rfl, h5⟩
          have hbwy : Below w.heap.size w wy := HX.out.trans (h5.put.bel.mono HX.out.size)
          have HS := hid (same_T wy.heap.size wy.heap.size A5 A0 c5 c0 l n HI.out.2.1 (by unfold maxLen; omega) wy h5.own.reads ((HI.out.1.below hbwy).more hbwy.size))
          have HY := hid hbwy
          clear h5 hbwy lx
          go_wp2_with fail
          refine HS.out.mono ?_
          rintro e wz ⟨rfl, nz, rfl⟩
          have HK := hid (known_any (wy.drewN nz))
          go_wp2_with fail
          refine HK.out.mono ?_
          rintro e wq ⟨rfl, hbq⟩
          have HQ := hid ((below_drewN HY.out nz).trans (hbq.mono (below_drewN HY.out nz).size))
          clear hbq
          go_wp2_with fail
          go_ret
          exact ⟨rfl, HQ.out⟩
        · have hnt : ¬ et = 0 := fun e => g6 (het.symm.trans e)
          have HK := hid (known_any wx)
          have HX := hid hbwx
          clear f1 f2 f3 f4 g6 g7 ho9 hb9 hbx rx hbwx hwx het
          go_wp2_with fail
          refine HK.out.mono ?_
          rintro e wq ⟨rfl, hbq⟩
          have HQ := hid (HX.out.trans (hbq.mono HX.out.size))
          clear hbq
          go_wp2_with fail
          go_ret
          exact ⟨rfl, HQ.out⟩
    · have hne : ¬ er = 0 := fun e => g1 (her.symm.trans e)
      rw [g2] at e3
      have hQ0 : Q = [] := List.map_eq_nil_iff.1 (congrArg Im.hs e3)
      have hL0 : L = [] := congrArg Im.vs e3
      subst hQ0
      subst hL0
      obtain rfl : nh = 0 := e1
      obtain rfl : nv = 0 := e2
      have c0' : w2.cell? ⟨w1.heap.size, 0, none⟩ = some (.slice i1.h 0 i1.ch) := row_cell r2 0
      have c1' : w2.cell? ⟨w1.heap.size, 1, none⟩ = some (.slice i1.v 0 i1.cv) := row_cell r2 1
      have H2 := hid hbw2
      clear r2 hv2 hbw2 e3 g2 g1 ho hb1 hb2 hw2 her hz2
      go_wp2_with fail
      have HBW : Hid (Below w.heap.size w w2) := hid (H2.out)
      have HC := hid (getCs_any l A0 c0 n HI.out.2.1 w2 ((HI.out.1.below HBW.out).more HBW.out.size) HI.out.2.2.1 (by omega))
      refine HC.out.mono ?_
      rintro e w6 ⟨A6, c6, nl, rfl, ⟨M, e6, ho6, e7⟩, hb6⟩
      obtain ⟨es, hes⟩ : ∃ es, es = (getCs l).2 := ⟨_, rfl⟩
      rw [← hes]
      have hbw6 := HBW.out.trans (hb6.mono HBW.out.size)
      rcases getCs_cases l HI.out.2.2.2 with ⟨g4, g5⟩ | ⟨g4, g5⟩
      · obtain rfl : es = 0 := hes.trans g4
        have hlen := getCs_len l HI.out.2.2.2 (by have := HI.out.2.1; omega)
        have hszc := getCs_sz l HI.out.2.2.2 (by have := HI.out.2.1; omega)
        rw [← e7] at g5 hlen hszc
        rw [List.length_map, ← e6] at hlen
        have HP := hid (putChs_any w6.heap.size w6 (Nat.le_refl _) M nl e6.symm (by omega) (fun q hq => hszc q.c (List.mem_map.2 ⟨q, hq, rfl⟩)) (by rw [cs_len M g5, HI.out.2.1]; omega) A6 c6 ho6.reads n (by rw [cs_len M g5, HI.out.2.1]))
        rw [cs_enc M g5] at HP
        have H6 := hid hbw6
        clear hes g4 g5 hlen hszc e6 e7 ho6 hb6 hbw6
        go_wp2_with fail
        refine HP.out.mono ?_
        rintro e w7 ⟨A7, c7, rfl, h7⟩
        have hbw7 : Below w.heap.size w w7 := H6.out.trans (h7.put.bel.mono H6.out.size)
        have HS := hid (same_T w7.heap.size w7.heap.size A7 A0 c7 c0 l n HI.out.2.1 (by unfold maxLen; omega) w7 h7.own.reads ((HI.out.1.below hbw7).more hbw7.size))
        have H7 := hid hbw7
        clear h7 hbw7
        go_wp2_with fail
        refine HS.out.mono ?_
        rintro e w8 ⟨rfl, n8, rfl⟩
        have HBV : Hid (Below w.heap.size w (w7.drewN n8)) := hid (below_drewN H7.out n8)
        go_wp2_with fail
        have HD := hid (getCf_any l A0 c0 n HI.out.2.1 (w7.drewN n8) ((HI.out.1.below HBV.out).more HBV.out.size) HI.out.2.2.1 (by omega))
        refine HD.out.mono ?_
        rintro e w9 ⟨a9, m1, m2, m3, rfl, ⟨p, ⟨f1, f2, f3⟩, ho9, f4⟩, hb9⟩
        obtain ⟨et, het⟩ : ∃ et, et = (getCf l).2 := ⟨_, rfl⟩
        rw [← het]
        obtain ⟨wx, hwx⟩ : ∃ wx, wx = w9.alloc (.cells #[.slice a9.o m1 a9.co, .slice a9.n m2 a9.cn, .slice a9.l m3 a9.cl] 28) := ⟨_, rfl⟩
        have hstx := stNew w9 28 3 info_conf33 #[.slice none 0 0, .slice none 0 0, .slice none 0 0] #[.slice a9.o m1 a9.co, .slice a9.n m2 a9.cn, .slice a9.l m3 a9.cl] rfl rfl (by simp [Value.oneCell'])
        rw [← hwx] at hstx
        have hbx : Below w9.heap.size w9 wx := by rw [hwx]; exact (Below.refl _ _).alloc (Nat.le_refl _) _
        have rx : wx.heap[w9.heap.size]? = some (.cells #[.slice a9.o m1 a9.co, .slice a9.n m2 a9.cn, .slice a9.l m3 a9.cl] 28 (0, 0)) := by rw [hwx]; exact heap_alloc_new _ _
        have hbwx := HBV.out.trans ((hb9.trans (hbx.mono hb9.size)).mono HBV.out.size)
        rcases getCf_cases l HI.out.2.2.2 with ⟨g6, g7⟩ | ⟨g6, g7⟩
        · obtain rfl : et = 0 := het.trans g6
          rw [← f4] at g7
          have hlen := cf_len p g7
          rw [HI.out.2.1, ← f1, ← f2, ← f3] at hlen
          have lx := ldRow info_conf33 Tryz.underlying28 rfl rx rfl
          obtain ⟨q1, q2, q3⟩ := OwnCf.ints_ ho9
          have HP := hid (putCf_any wx.heap.size wx (Nat.le_refl _) p a9.o a9.n a9.l a9.co a9.cn a9.cl ((q1.below hbx).more hbx.size) ((q2.below hbx).more hbx.size) ((q3.below hbx).more hbx.size) m1 m2 m3 f1.symm f2.symm f3.symm ⟨by omega, by omega, by omega⟩)
          rw [g7, hlen] at HP
          have HX := hid hbwx
          clear f1 f2 f3 f4 g6 g7 q1 q2 q3 ho9 hb9 hbx rx hbwx hwx het hlen
          go_wp2_with fail
          refine HP.out.mono ?_
          rintro e wy ⟨A5, c5, rfl, h5⟩
          have hbwy : Below w.heap.size w wy := HX.out.trans (h5.put.bel.mono HX.out.size)
          have HS := hid (same_T wy.heap.size wy.heap.size A5 A0 c5 c0 l n HI.out.2.1 (by unfold maxLen; omega) wy h5.own.reads ((HI.out.1.below hbwy).more hbwy.size))
          have HY := hid hbwy
          clear h5 hbwy lx
          go_wp2_with fail
          refine HS.out.mono ?_
          rintro e wz ⟨rfl, nz, rfl⟩
          have HK := hid (known_any (wy.drewN nz))
          go_wp2_with fail
          refine HK.out.mono ?_
          rintro e wq ⟨rfl, hbq⟩
          have HQ := hid ((below_drewN HY.out nz).trans (hbq.mono (below_drewN HY.out nz).size))
          clear hbq
          go_wp2_with fail
          go_ret
          exact ⟨rfl, HQ.out⟩
        · have hnt : ¬ et = 0 := fun e => g6 (het.symm.trans e)
          have HK := hid (known_any wx)
          have HX := hid hbwx
          clear f1 f2 f3 f4 g6 g7 ho9 hb9 hbx rx hbwx hwx het
          go_wp2_with fail
          refine HK.out.mono ?_
          rintro e wq ⟨rfl, hbq⟩
          have HQ := hid (HX.out.trans (hbq.mono HX.out.size))
          clear hbq
          go_wp2_with fail
          go_ret
          exact ⟨rfl, HQ.out⟩
      · have hns : ¬ es = 0 := fun e => g4 (hes.symm.trans e)
        rw [g5] at e7
        have hM0 : M = [] := List.map_eq_nil_iff.1 e7
        subst hM0
        obtain rfl : nl = 0 := e6
        have HBV := hid hbw6
        clear hes g4 g5 e7 ho6 hb6 hbw6
        go_wp2_with fail
        have HD := hid (getCf_any l A0 c0 n HI.out.2.1 w6 ((HI.out.1.below HBV.out).more HBV.out.size) HI.out.2.2.1 (by omega))
        refine HD.out.mono ?_
        rintro e w9 ⟨a9, m1, m2, m3, rfl, ⟨p, ⟨f1, f2, f3⟩, ho9, f4⟩, hb9⟩
        obtain ⟨et, het⟩ : ∃ et, et = (getCf l).2 := ⟨_, rfl⟩
        rw [← het]
        obtain ⟨wx, hwx⟩ : ∃ wx, wx = w9.alloc (.cells #[.slice a9.o m1 a9.co, .slice a9.n m2 a9.cn, .slice a9.l m3 a9.cl] 28) := ⟨_, rfl⟩
        have hstx := stNew w9 28 3 info_conf33 #[.slice none 0 0, .slice none 0 0, .slice none 0 0] #[.slice a9.o m1 a9.co, .slice a9.n m2 a9.cn, .slice a9.l m3 a9.cl] rfl rfl (by simp [Value.oneCell'])
        rw [← hwx] at hstx
        have hbx : Below w9.heap.size w9 wx := by rw [hwx]; exact (Below.refl _ _).alloc (Nat.le_refl _) _
        have rx : wx.heap[w9.heap.size]? = some (.cells #[.slice a9.o m1 a9.co, .slice a9.n m2 a9.cn, .slice a9.l m3 a9.cl] 28 (0, 0)) := by rw [hwx]; exact heap_alloc_new _ _
        have hbwx := HBV.out.trans ((hb9.trans (hbx.mono hb9.size)).mono HBV.out.size)
        rcases getCf_cases l HI.out.2.2.2 with ⟨g6, g7⟩ | ⟨g6, g7⟩
        · obtain rfl : et = 0 := het.trans g6
          rw [← f4] at g7
          have hlen := cf_len p g7
          rw [HI.out.2.1, ← f1, ← f2, ← f3] at hlen
          have lx := ldRow info_conf33 Tryz.underlying28 rfl rx rfl
          obtain ⟨q1, q2, q3⟩ := OwnCf.ints_ ho9
          have HP := hid (putCf_any wx.heap.size wx (Nat.le_refl _) p a9.o a9.n a9.l a9.co a9.cn a9.cl ((q1.below hbx).more hbx.size) ((q2.below hbx).more hbx.size) ((q3.below hbx).more hbx.size) m1 m2 m3 f1.symm f2.symm f3.symm ⟨by omega, by omega, by omega⟩)
          rw [g7, hlen] at HP
          have HX := hid hbwx
          clear f1 f2 f3 f4 g6 g7 q1 q2 q3 ho9 hb9 hbx rx hbwx hwx het hlen
          go_wp2_with fail
          refine HP.out.mono ?_
          rintro e wy ⟨A5, c5, rfl, h5⟩
          have hbwy : Below w.heap.size w wy := HX.out.trans (h5.put.bel.mono HX.out.size)
          have HS := hid (same_T wy.heap.size wy.heap.size A5 A0 c5 c0 l n HI.out.2.1 (by unfold maxLen; omega) wy h5.own.reads ((HI.out.1.below hbwy).more hbwy.size))
          have HY := hid hbwy
          clear h5 hbwy lx
          go_wp2_with fail
          refine HS.out.mono ?_
          rintro e wz ⟨rfl, nz, rfl⟩
          have HK := hid (known_any (wy.drewN nz))
          go_wp2_with fail
          refine HK.out.mono ?_
          rintro e wq ⟨rfl, hbq⟩
          have HQ := hid ((below_drewN HY.out nz).trans (hbq.mono (below_drewN HY.out nz).size))
          clear hbq
          go_wp2_with fail
          go_ret
          exact ⟨rfl, HQ.out⟩
        · have hnt : ¬ et = 0 := fun e => g6 (het.symm.trans e)
          have HK := hid (known_any wx)
          have HX := hid hbwx
          clear f1 f2 f3 f4 g6 g7 ho9 hb9 hbx rx hbwx hwx het
          go_wp2_with fail
          refine HK.out.mono ?_
          rintro e wq ⟨rfl, hbq⟩
          have HQ := hid (HX.out.trans (hbq.mono HX.out.size))
          clear hbq
          go_wp2_with fail
          go_ret
          exact ⟨rfl, HQ.out⟩

set_option maxRecDepth 100000 in
theorem lifted (os : Os) (started : os.Started) (H : Type) (enc : TypeId × Value → H) :
    ReturnsInHanded {} Tryz.checked os 7 .any (Rows.imageOnlySpec.pre6 enc Tryz.prog Tryz.f7 Rows.imageOnlyRow.domain false) (Rows.imageOnlySpec.post enc Tryz.prog Tryz.f7 false true false false) := by
  refine returnsInHanded_of_change_sized (C := Tryz.checked) own started (by kernel_rfl) Tryz.func7
    (ChangeSpec.witness6 (enc := enc) (C := Tryz.checked) false ⟨#[], #[.slice none 0 0], []⟩ 8 (by kernel_rfl) (by kernel_rfl) (by kernel_rfl) (by kernel_rfl)) ?_
  intro W base args ds gs before hval0 hW hcnd hsz0 _
  have hsz : (DataW.weightsEach Tryz.prog (Tryz.f7.params.toList ++ Rows.imageOnlySpec.plain.varTypes Tryz.prog) (ds ++ gs)).all (· ≤ reachBytes) = true := hsz0
  clear hsz0
  have hval : ∀ (j : Nat) t v, Tryz.f7.params[j]? = some t → args[j]? = some v → Value.okWide Tryz.prog W .any base t v := hval0
  have hW' := hW
  obtain ⟨p, q, hA0, hV, rfl, hfz, hnd⟩ := hW
  have hA : DataW.TrodAll enc Tryz.prog W 0 (fun _ => true) true Tryz.f7.params.toList args.toList ds p := hA0
  rw [Tryz.params7] at hA hval hsz
  obtain ⟨v0, vs0, d0, ds0, p0, q0, hargs, rfl, rfl, g0, t0⟩ := trodAll_cons hA
  obtain ⟨rfl, rfl, rfl⟩ := trodAll_nil t0
  obtain rfl : args = #[v0] := by cases args; simp_all
  obtain ⟨rfl, rfl⟩ := trodVars_none hV
  obtain ⟨a0, len0, cap0, rfl⟩ := okWide_slice Tryz.underlying35 (hval 0 35 v0 rfl rfl)
  have m0 := g0
  have lt0 : ∀ x ∈ p0, x.block < W.heap.size := by obtain ⟨m, hm⟩ := m0; exact DataW.trod_lt m _ _ _ hm
  obtain ⟨l0, k0, rfl, n0, r0, z0⟩ : ∃ l, IsBytes W W.heap.size a0 l ∧ len0 = l.length ∧ l.length ≤ cap0 ∧ cap0 ≤ 140737488351232 ∧ (a0 = none → cap0 = 0) := by
    obtain ⟨fuel, hf⟩ := g0
    rcases open_ints Tryz.underlying35 Tryz.underlying5 (by kernel_rfl) hf with ⟨hcs, _⟩ | ⟨x, l, c, zs, hcs, _, hl, hm, hz, hx, hcell, hwz⟩
    · simp [Value.cells] at hcs
      obtain ⟨rfl, rfl, rfl⟩ := hcs
      exact ⟨[], IsBytes.nil, rfl, by simp, by omega, fun _ => rfl⟩
    · simp [Value.cells] at hcs
      obtain ⟨rfl, rfl, rfl⟩ := hcs
      simp only [Prod.mk.injEq] at hx
      obtain ⟨rfl, rfl⟩ := hx
      simp only [if_true] at hz
      have hr := sized_slice hsz (j := 0) (t := 35) (e := 5) rfl rfl Tryz.underlying35
      rw [bytesOf] at hr
      simp only [lits, List.length_map, List.length_take, List.length_drop, reachBytes] at hr
      obtain ⟨l, h1, h2⟩ := isBytes_of_ints hl hz hcell hwz
      exact ⟨l, h1, h2, by omega, by omega, fun h => by cases h⟩
  clear hA0 hval0
  refine (walk a0 cap0 l0 W k0 n0 r0 z0).mono fun e W' ⟨he, bel⟩ => ?_
  subst he
  exact ⟨_, rfl, _, _, _, [], _, [], hW', trodAll_mk1 (shut_bool Tryz.underlying4 _), (trodAll_cons_mk (Below.trod laidOut (by kernel_rfl) (of_decide_eq_true (by kernel_rfl)) m0 bel lt0) trodAll_mk0), rfl, bel.frame _, fun h => by cases h⟩

theorem over : Rows.imageOnlyRow.holds Tryz.pinned (OpenSpec.ofChange Rows.imageOnlySpec) :=
  OpenClaim.holds_of_wide 7 Tryz.f7 rfl rfl rfl rfl rfl rfl rfl ⟨rfl, rfl, rfl, rfl, rfl⟩ rfl rfl rfl rfl rfl (by kernel_rfl) Tryz.func7 (by kernel_rfl)
    (of_decide_eq_true (by kernel_rfl)) (by unfold Func.isWrapper; first | (rw [if_pos (by decide +kernel)]; kernel_rfl) | (rw [if_neg (by decide +kernel)]; exact ⟨rfl, rfl⟩))
    (fun os started H enc _ => lifted os started H enc)

theorem proved : Rows.ImageOnlySaid := over
end Go.Proofs.YtaeoccpjdjafnaaGreat.imageOnly
