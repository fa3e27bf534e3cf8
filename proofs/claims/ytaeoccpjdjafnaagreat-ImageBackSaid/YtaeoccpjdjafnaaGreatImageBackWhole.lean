/- An image that is in order, and changes, are read from their bytes as they were; no beginning of these is one. Conditions: none. -/
import Derived.Test.YtaeoccpjdjafnaaGreatRows
import Derived.Test.YtaeoccpjdjafnaaGreatBaseAG
import Derived.Test.YtaeoccpjdjafnaaGreatBaseAF
import Derived.WalkKit
import Derived.WalkLawsBesides
import Derived.ProofKit
import Derived.OpenShut
import Derived.ShutString
import Derived.ChangeOld
import Derived.Below
import Derived.SizedLaws
namespace Go.Proofs.YtaeoccpjdjafnaaGreat.imageBack
open Go.ChangeShapes Go.WideShapes Go.ChangeAt Go.RowKit
open Go.ChangeMaps (open_string shut_string)
set_option linter.unusedVariables false

theorem own : ownKnob Tryz.prog.godebug = none := by kernel_rfl
theorem laidOut : laidOutB Tryz.prog = true := by kernel_rfl

attribute [local go_sem ↓] Im.loadAt_image Im.storeAt_image Im.loadAt_change Im.storeAt_change
open Im in
set_option maxRecDepth 100000 in
set_option maxHeartbeats 12800000 in
theorem walk (i0 : Im.Ia) (Q0 : List Im.Hq) (L0 : List Im.Vt) (a1 : Option Addr) (cap1 : Nat) (l1 : List Im.Cq) (a2 : Int) (w : World) (k0 : Im.ImIs w w.heap.size i0 Q0 L0) (k1 : Im.IsCs w w.heap.size a1 l1) (n1 : l1.length ≤ cap1) (r1 : cap1 ≤ maxLen) (z1 : a1 = none → cap1 = 0) (b2 : -9223372036854775808 ≤ a2 ∧ a2 ≤ 9223372036854775807) :
    Calls Tryz.prog 6 #[.agg #[.slice i0.h Q0.length i0.ch, .slice i0.v L0.length i0.cv], .slice a1 l1.length cap1, .int .i64 a2] w fun e w' => e = .returned (.bool true) ∧ Below w.heap.size w w' := by
  obtain ⟨nh, hnh⟩ : ∃ n, Q0.length = n := ⟨_, rfl⟩
  obtain ⟨nv, hnv⟩ : ∃ n, L0.length = n := ⟨_, rfl⟩
  obtain ⟨m, hm⟩ : ∃ n, l1.length = n := ⟨_, rfl⟩
  rw [hnh, hnv, hm]
  obtain ⟨w1, hw1⟩ : ∃ w1, w1 = w.alloc (.cells #[.slice i0.h nh i0.ch, .slice i0.v nv i0.cv] 25) := ⟨_, rfl⟩
  have q1 : w1.heap[w.heap.size]? = some (.cells #[.slice i0.h nh i0.ch, .slice i0.v nv i0.cv] 25 (0, 0)) := by rw [hw1]; exact heap_alloc_new _ _
  have hb1 : Below w.heap.size w w1 := by rw [hw1]; exact (Below.refl _ _).alloc (Nat.le_refl _) _
  have ld1 := ldRow info_image2 Tryz.underlying25 rfl q1 rfl
  have hi1 := (k0.below hb1).more hb1.size
  have HF := hid (fewI_any i0 nh nv Q0 L0 hnh.symm hnv.symm w1 hi1.h)
  have HX := hid (And.intro q1 (And.intro hb1 (And.intro hi1 ((k1.below hb1).more hb1.size))))
  have HN := hid (And.intro hnh (And.intro hnv (And.intro hm b2)))
  have HKN := hid known_any
  rw [hw1] at ld1
  obtain ⟨i3, hi3, hz30, hz31, hz32⟩ := info_parts info_u8
  clear q1 hb1 hi1 k0 k1 n1 r1 z1 b2 hnh hnv hm
  go_enter Tryz.func6, Tryz.ntmps6
  go_wp2_with fail
  rw [← hw1]
  clear hw1 ld1
  refine HF.out.mono ?_
  rintro e w2 ⟨rfl, hb2⟩
  have HB2 := hid hb2
  obtain ⟨b, hb⟩ : ∃ b, fewI Q0 L0 = b := ⟨_, rfl⟩
  rw [hb]
  have HFW := hid hb
  clear hb hb2 HF
  cases b with
  | false =>
    go_wp2_with fail
    refine (HKN.out w2).mono ?_
    rintro e w3 ⟨rfl, hb3⟩
    have HB3 := hid (HX.out.2.1.trans ((HB2.out.trans (hb3.mono HB2.out.size)).mono HX.out.2.1.size))
    clear hb3
    go_wp2_with fail
    go_ret
    exact ⟨rfl, HB3.out⟩
  | true =>
    by_cases h20 : 20 < m
    · have h20' : (20 : Int) < (m : Int) := by omega
      clear h20
      go_wp2_with fail
      refine (HKN.out w2).mono ?_
      rintro e w3 ⟨rfl, hb3⟩
      have HB3 := hid (HX.out.2.1.trans ((HB2.out.trans (hb3.mono HB2.out.size)).mono HX.out.2.1.size))
      clear hb3
      go_wp2_with fail
      go_ret
      exact ⟨rfl, HB3.out⟩
    · have h20' : ¬ (20 : Int) < (m : Int) := by omega
      have HM := hid h20
      have hm20 : m ≤ 20 := by omega
      clear h20
      go_wp2_with fail
      go_loopw [7] (fun j wr => ∃ k : Nat, k ≤ m ∧ j = .int .i64 (k : Int) ∧ Hid (Below w1.heap.size w1 wr ∧ ∀ q ∈ l1.take k, bigPt q.c.p = false)) (fun j _ => m - (RowKit.intOf j).toNat)
      case atStart => exact ⟨0, Nat.zero_le _, by simp, hid ⟨HB2.out, by simp⟩⟩
      case round =>
        obtain ⟨k, hk, rfl, HI⟩ := hrel
        by_cases hlt : k < m
        · have hlt0 : (k : Int) < (m : Int) := by omega
          have hlt1 : k < l1.length := by rw [HN.out.2.2.1]; exact hlt
          have hc1 := (HX.out.2.2.2.below HI.out.1).more HI.out.1.size
          obtain ⟨g, off, rfl, hg, hcs⟩ := hc1.row.at_ k hlt1
          obtain ⟨q, hq⟩ : ∃ q, q = l1[k] := ⟨_, rfl⟩
          have hr := hcs k hlt1
          have hpt := hc1.pt _ (List.getElem_mem hlt1)
          have HT := hid (List.take_succ_eq_append_getElem hlt1)
          rw [← hq] at hr hpt HT
          obtain ⟨y, ay⟩ := q
          have ldc := ldC wr g (off + k * 17) (cellsC ⟨y, ay⟩) rfl hr
          have HC := hid (few_any y ay wr hpt)
          clear hc1 hcs hr hpt hq hg hlt
          go_wp2_with fail
          refine HC.out.mono ?_
          rintro e w3 ⟨rfl, hb3⟩
          have HB3 := hid (HI.out.1.trans (hb3.mono HI.out.1.size))
          obtain ⟨b, hb⟩ : ∃ b, bigPt y.p = b := ⟨_, rfl⟩
          rw [hb]
          have HV := hid hb
          clear hb hb3 ldc HC
          cases b with
          | true =>
            go_wp2_with fail
            refine (HKN.out w3).mono ?_
            rintro e w4 ⟨rfl, hb4⟩
            have HB4 := hid (HX.out.2.1.trans ((HB3.out.trans (hb4.mono HB3.out.size)).mono HX.out.2.1.size))
            clear hb4
            go_wp2_with fail
            go_ret
            exact ⟨rfl, HB4.out⟩
          | false =>
            have HI3 : Hid (Below w1.heap.size w1 w3 ∧ ∀ q ∈ l1.take (k + 1), bigPt q.c.p = false) := hid ⟨HB3.out, fun q hq => by
              rw [HT.out] at hq
              rcases List.mem_append.1 hq with hq | hq
              · exact HI.out.2 q hq
              · rw [List.mem_singleton.1 hq]; exact HV.out⟩
            clear HI HT HB3
            go_wp2_with fail
            go_roundw
            case rel => exact ⟨k + 1, by omega, by go_num, HI3⟩
            case measure => simp [RowKit.intOf]; omega
        · obtain rfl : k = m := by omega
          have hlt0 : ¬ (k : Int) < (k : Int) := by omega
          have hfx := fewX_of HX.out.2.2.1.h HX.out.2.2.1.v HFW.out
          have hfc := fewCs_of HX.out.2.2.2 (by rw [HN.out.2.2.1]; exact hm20) (fun q hq => HI.out.2 q (by rw [List.take_of_length_le (by rw [HN.out.2.2.1]; exact Nat.le_refl _)]; exact hq))
          obtain ⟨x, hx⟩ : ∃ x : Im, x = ⟨Q0.map (·.h), L0⟩ := ⟨_, rfl⟩
          obtain ⟨n, hn⟩ : ∃ n, (encIm x).length = n := ⟨_, rfl⟩
          obtain ⟨lc, hlc⟩ : ∃ lc : List Ch, lc = l1.map (·.c) := ⟨_, rfl⟩
          obtain ⟨nc, hnc⟩ : ∃ n, (encL encC lc).length = n := ⟨_, rfl⟩
          have hlen := hfx.len
          have hbig := hfx.big
          have hlow := hfx.low
          have hokx := hfx.ok
          rw [← hx, hn] at hlen hbig hlow
          rw [← hx] at hokx
          have clen := hfc.len
          have cbig := hfc.big
          have clow := hfc.low
          have hokc := hfc.ok
          rw [← hlc, hnc] at clen cbig clow
          rw [← hlc] at hokc
          have HFX := hid (And.intro hfx hfc)
          have HC := hid (And.intro hx (And.intro hn (And.intro hlen (And.intro hokx (And.intro hlc (And.intro hnc (And.intro clen hokc)))))))
          have hi2 := (HX.out.2.2.1.below HI.out.1).more HI.out.1.size
          have hbw := HX.out.2.1.trans (HI.out.1.mono HX.out.2.1.size)
          have q2 := (HI.out.1.block _ (row_lt HX.out.1)).trans HX.out.1
          have ld2 := ldRow info_image2 Tryz.underlying25 rfl q2 rfl
          have HP := hid (putIm_any wr.heap.size wr (Nat.le_refl _) Q0 nh HN.out.1 L0 nv HN.out.2.1 ⟨by have := HN.out.1; have := hfx.hq; omega, by have := HN.out.2.1; have := hfx.lv; omega⟩ hfx.sz (by omega) i0.h i0.v i0.ch i0.cv hi2.h hi2.v n hlen)
          rw [im_enc Q0 L0 (l := encIm x) (by rw [hx])] at HP
          have HW := hid (And.intro hi2 (And.intro hbw (And.intro q2 ((HX.out.2.2.2.below HI.out.1).more HI.out.1.size))))
          have HNB := hid (And.intro hbig (And.intro hlow (And.intro cbig clow)))
          clear hfx hfc hx hn hlc hnc hlen hbig hlow hokx clen cbig clow hokc hi2 hbw q2 hlt HI hk
          go_wp2_with fail
          refine HP.out.mono ?_
          rintro e w3 ⟨A3, c3, rfl, h3⟩
          obtain ⟨g3, rfl⟩ : ∃ g, A3 = some ⟨g, 0, none⟩ := by
            obtain ⟨g, h, _⟩ := h3.own.at_ (k := 0) (by rw [h3.len]; have := HNB.out.2.1; omega)
            exact ⟨g, h⟩
          have hb3 : Below wr.heap.size wr w3 := h3.put.bel
          have hcap3 : n ≤ c3 := by have := h3.own.cap; rw [h3.len] at this; exact this
          have q3 := (hb3.block _ (row_lt HW.out.2.2.1)).trans HW.out.2.2.1
          have ld3 := ldRow info_image2 Tryz.underlying25 rfl q3 rfl
          have HO3 := hid (And.intro h3.own (And.intro hb3 q3))
          have HCP := hid (And.intro hcap3 h3.own.capZ.1)
          clear HP ld2 h3 hb3 q3 hcap3
          obtain ⟨bs, hbs⟩ : ∃ b, sorted x = b := ⟨_, rfl⟩
          cases bs with
          | false =>
            have HG := hid (getNo_any (encIm x) (some ⟨g3, 0, none⟩) c3 n HC.out.2.1 15 (by rw [get_back HC.out.2.2.2.1, hbs]; rfl) (by have := HNB.out.1; omega) HO3.out.1.none_ w3 HO3.out.1.reads)
            have HSR := hid hbs
            clear hbs
            go_wp2_with fail
            refine HG.out.mono ?_
            rintro e w4 ⟨i4, rfl, hb4⟩
            obtain ⟨w5, hw5⟩ : ∃ w5, w5 = w4.alloc (.cells #[.slice i4.h 0 i4.ch, .slice i4.v 0 i4.cv] 25) := ⟨_, rfl⟩
            have hst5 := stNew w4 25 2 info_image2 #[.slice none 0 0, .slice none 0 0] #[.slice i4.h 0 i4.ch, .slice i4.v 0 i4.cv] rfl rfl (by simp [Value.oneCell'])
            rw [← hw5] at hst5
            have hb45 : Below w4.heap.size w4 w5 := by rw [hw5]; exact (Below.refl _ _).alloc (Nat.le_refl _) _
            have q5 : w5.heap[w4.heap.size]? = some (.cells #[.slice i4.h 0 i4.ch, .slice i4.v 0 i4.cv] 25 (0, 0)) := by rw [hw5]; exact heap_alloc_new _ _
            have hb35 : Below w3.heap.size w3 w5 := hb4.trans (hb45.mono hb4.size)
            have q5x := (hb35.block _ (row_lt HO3.out.2.2)).trans HO3.out.2.2
            have ld5 := ldRow info_image2 Tryz.underlying25 rfl q5x rfl
            have hbr5 : Below wr.heap.size wr w5 := HO3.out.2.1.trans (hb35.mono HO3.out.2.1.size)
            have hi5 := (HW.out.1.below hbr5).more hbr5.size
            have HOR := hid (Im.ordered_any i0 nh nv Q0 L0 HN.out.1 HN.out.2.1 (by have := HN.out.1; have := HFX.out.1.hq; omega) (by have := HN.out.2.1; have := HFX.out.1.lv; omega) w5 hi5.h hi5.v)
            rw [← HC.out.1, HSR.out] at HOR
            have H5 := hid (And.intro q5 hbr5)
            clear HG hb4 hw5 hb45 q5 hb35 q5x hbr5 hi5 ld3
            go_wp2_with fail
            refine HOR.out.mono ?_
            rintro e w6 ⟨rfl, hb6⟩
            have q6 := (hb6.block _ (row_lt H5.out.1)).trans H5.out.1
            have c60 : w6.cell? ⟨w4.heap.size, 0, none⟩ = some (.slice i4.h 0 i4.ch) := row_cell q6 0
            have c61 : w6.cell? ⟨w4.heap.size, 1, none⟩ = some (.slice i4.v 0 i4.cv) := row_cell q6 1
            have HB6 := hid (HW.out.2.1.trans ((H5.out.2.trans (hb6.mono H5.out.2.size)).mono HW.out.2.1.size))
            clear HOR hb6 q6 ld5 hst5
            go_wp2_with fail
            refine (HKN.out w6).mono ?_
            rintro e w7 ⟨rfl, hb7⟩
            have HB7 := hid (HB6.out.trans (hb7.mono HB6.out.size))
            clear hb7
            go_wp2_with fail
            go_ret
            exact ⟨rfl, HB7.out⟩
          | true =>
            have HG := hid (getIm_any x (some ⟨g3, 0, none⟩) c3 n HC.out.2.1 HC.out.2.2.2.1 hbs HNB.out.1 HO3.out.1.none_ w3 HO3.out.1.reads)
            have hxl : x.hs.length = nh ∧ x.vs = L0 ∧ x.hs = Q0.map (·.h) := by rw [HC.out.1]; exact ⟨by rw [List.length_map]; exact HN.out.1, rfl, rfl⟩
            rw [hxl.1, hxl.2.1, HN.out.2.1] at HG
            have HXL := hid hxl
            have HSR := hid hbs
            clear hbs hxl
            go_wp2_with fail
            refine HG.out.mono ?_
            rintro e w4 ⟨i4, rfl, ⟨Q4, hQ4, ho4⟩, hb4⟩
            obtain ⟨w5, hw5⟩ : ∃ w5, w5 = w4.alloc (.cells #[.slice i4.h nh i4.ch, .slice i4.v nv i4.cv] 25) := ⟨_, rfl⟩
            have hst5 := stNew w4 25 2 info_image2 #[.slice none 0 0, .slice none 0 0] #[.slice i4.h nh i4.ch, .slice i4.v nv i4.cv] rfl rfl (by simp [Value.oneCell'])
            rw [← hw5] at hst5
            have hb45 : Below w4.heap.size w4 w5 := by rw [hw5]; exact (Below.refl _ _).alloc (Nat.le_refl _) _
            have q5 : w5.heap[w4.heap.size]? = some (.cells #[.slice i4.h nh i4.ch, .slice i4.v nv i4.cv] 25 (0, 0)) := by rw [hw5]; exact heap_alloc_new _ _
            have hv5 := (ho4.below hb45).vs
            have hb35 : Below w3.heap.size w3 w5 := hb4.trans (hb45.mono hb4.size)
            have q5x := (hb35.block _ (row_lt HO3.out.2.2)).trans HO3.out.2.2
            have ld5 := ldRow info_image2 Tryz.underlying25 rfl q5x rfl
            have hbr5 : Below wr.heap.size wr w5 := HO3.out.2.1.trans (hb35.mono HO3.out.2.1.size)
            have hi5 := (HW.out.1.below hbr5).more hbr5.size
            have HOR := hid (Im.ordered_any i0 nh nv Q0 L0 HN.out.1 HN.out.2.1 (by have := HN.out.1; have := HFX.out.1.hq; omega) (by have := HN.out.2.1; have := HFX.out.1.lv; omega) w5 hi5.h hi5.v)
            rw [← HC.out.1, HSR.out] at HOR
            have H5 := hid (And.intro q5 (And.intro hbr5 (And.intro (hv5.1.more hb45.size) (And.intro (hv5.2.more hb45.size) (And.intro q5x (HO3.out.1.below hb35))))))
            clear HG hb4 hw5 hb45 q5 hb35 q5x hbr5 hi5 ld3 ho4 hv5
            go_wp2_with fail
            refine HOR.out.mono ?_
            rintro e w6 ⟨rfl, hb6⟩
            have hown6 := H5.out.2.2.2.2.2.below hb6
            have HPK := hid (pick_any a2 n (by have := HNB.out.2.1; omega) (by have := HNB.out.1; omega) w6)
            have H6 := hid (And.intro hb6 hown6)
            clear HOR hb6 ld5 hst5 hown6
            go_wp2_with fail
            refine HPK.out.mono ?_
            rintro e w7 ⟨⟨p, rfl, hp⟩, rfl⟩
            have hp1 : p ≤ c3 := by have := HCP.out.1; omega
            have HG7 := hid (getNo_any ((encIm x).take p) (some ⟨g3, 0, none⟩) c3 p (by rw [List.length_take, HC.out.2.1]; omega) 4 (get_cut HC.out.2.2.2.1 p (by rw [HC.out.2.1]; exact hp)) (by have := HNB.out.1; omega) (fun e => by cases e) w6 (H6.out.2.reads.take p))
            clear HPK hp
            go_wp2_with fail
            refine HG7.out.mono ?_
            rintro e w7 ⟨i7, rfl, hb7⟩
            obtain ⟨w8, hw8⟩ : ∃ w8, w8 = w7.alloc (.cells #[.slice i7.h 0 i7.ch, .slice i7.v 0 i7.cv] 25) := ⟨_, rfl⟩
            have hst8 := stNew w7 25 2 info_image2 #[.slice none 0 0, .slice none 0 0] #[.slice i7.h 0 i7.ch, .slice i7.v 0 i7.cv] rfl rfl (by simp [Value.oneCell'])
            rw [← hw8] at hst8
            have hb78 : Below w7.heap.size w7 w8 := by rw [hw8]; exact (Below.refl _ _).alloc (Nat.le_refl _) _
            have hb58 : Below w5.heap.size w5 w8 := H6.out.1.trans ((hb7.trans (hb78.mono hb7.size)).mono H6.out.1.size)
            have hbr8 : Below wr.heap.size wr w8 := H5.out.2.1.trans (hb58.mono H5.out.2.1.size)
            have hc8 := (HW.out.2.2.2.below hbr8).more hbr8.size
            have HPC := hid (putChs_any w8.heap.size w8 (Nat.le_refl _) l1 k HN.out.2.2.1 (by omega) HFX.out.2.sz (by have := HC.out.2.2.2.2.2.2.1; have := HNB.out.2.2.1; omega) a1 cap1 hc8 nc HC.out.2.2.2.2.2.2.1)
            rw [cs_enc l1 (l := encL encC lc) (by rw [HC.out.2.2.2.2.1])] at HPC
            have H8 := hid (And.intro hb58 hbr8)
            clear HG7 hb7 hw8 hb78 hb58 hbr8 hc8 hp1
            go_wp2_with fail
            refine HPC.out.mono ?_
            rintro e w9 ⟨A9, c9, rfl, h9⟩
            obtain ⟨g9, rfl⟩ : ∃ g, A9 = some ⟨g, 0, none⟩ := by
              obtain ⟨g, h, _⟩ := h9.own.at_ (k := 0) (by rw [h9.len]; have := HNB.out.2.2.2; omega)
              exact ⟨g, h⟩
            have hb9 : Below w8.heap.size w8 w9 := h9.put.bel
            have hcap9 : nc ≤ c9 := by have := h9.own.cap; rw [h9.len] at this; exact this
            have HO9 := hid (And.intro h9.own hb9)
            have HGC := hid (getCsIs_any lc (some ⟨g9, 0, none⟩) c9 nc k HC.out.2.2.2.2.2.1 (by rw [HC.out.2.2.2.2.1, List.length_map]; exact HN.out.2.2.1) HC.out.2.2.2.2.2.2.2 HNB.out.2.2.1 (fun e => by cases e) w9 h9.own.reads)
            have HCP9 := hid hcap9
            clear HPC hst8 h9 hb9 hcap9
            go_wp2_with fail
            refine HGC.out.mono ?_
            rintro e w10 ⟨A10, c10, rfl, ⟨M10, hM10, ho10⟩, hb10⟩
            have hown10 := HO9.out.1.below hb10
            have HPK := hid (pick_any a2 nc (by have := HNB.out.2.2.2; omega) (by have := HNB.out.2.2.1; omega) w10)
            have H10 := hid (And.intro hM10 (And.intro ho10 (And.intro hown10 (HO9.out.2.trans (hb10.mono HO9.out.2.size)))))
            clear HGC hM10 ho10 hb10 hown10
            go_wp2_with fail
            refine HPK.out.mono ?_
            rintro e w11 ⟨⟨p, rfl, hp⟩, rfl⟩
            have hp1 : p ≤ c9 := by have := HCP9.out; omega
            have HG11 := hid (getCsNo_any ((encL encC lc).take p) (some ⟨g9, 0, none⟩) c9 p (by rw [List.length_take, HC.out.2.2.2.2.2.1]; omega) 4 (getCs_cut HC.out.2.2.2.2.2.2.2 p (by rw [HC.out.2.2.2.2.2.1]; exact hp)) (by have := HNB.out.2.2.1; omega) (fun e => by cases e) w10 (H10.out.2.2.1.reads.take p))
            clear HPK hp
            go_wp2_with fail
            refine HG11.out.mono ?_
            rintro e w12 ⟨⟨A12, c12, rfl⟩, hb12⟩
            have hown12 := H10.out.2.2.1.below hb12
            have HCY := hid (copy_N w12.heap.size (some ⟨g9, 0, none⟩) c9 (encL encC lc) nc HC.out.2.2.2.2.2.1 (by have := HNB.out.2.2.1; omega) w12 hown12.reads (Nat.le_refl _))
            have H12 := hid hb12
            clear HG11 hb12 hown12 hp1
            go_wp2_with fail
            refine HCY.out.mono ?_
            rintro e w13 ⟨A13, c13, rfl, ho13, hb13⟩
            have hrow := isBytes_new w13 [0] (by decide) 5 (0, 0)
            have hown := ho13.alloc (.cells #[.int .u8 0] 5)
            have hsz13 := hb13.size
            have hnc := HNB.out.2.2.1
            go_wp2_with (at_builtin; refine wpList_append_bytesN rfl _ _ 35 rfl w12.heap.size 5 i3 Tryz.underlying35 hi3 hz30 hz31 hz32 A13 c13 (encL encC lc) nc HC.out.2.2.2.2.2.1 rfl hown (w13.heap.size + 1) _ 1 [0] 1 rfl rfl (fun e => by cases e) hrow (encL encC lc ++ [0]) rfl (by omega) (by simp; omega) ?_)
            intro A14 c14 w14 hown14 hbel14
            have hb1214 : Below w12.heap.size w12 w14 := (hb13.alloc hsz13 _).trans hbel14
            have HG14 := hid (getCsNo_any (encL encC lc ++ [0]) A14 c14 (nc + 1) (by rw [List.length_append, HC.out.2.2.2.2.2.1]; rfl) 2 (getCs_more HC.out.2.2.2.2.2.2.2 0) (by omega) hown14.none_ w14 hown14.reads)
            have H14 := hid hb1214
            clear HCY ho13 hb13 hrow hown hsz13 hnc hown14 hbel14 hb1214
            go_wp2_with fail
            refine HG14.out.mono ?_
            rintro e w15 ⟨⟨A15, c15, rfl⟩, hb15⟩
            have hb1015 : Below w10.heap.size w10 w15 := H12.out.trans ((H14.out.trans (hb15.mono H14.out.size)).mono H12.out.size)
            have hb815 : Below w8.heap.size w8 w15 := H10.out.2.2.2.trans (hb1015.mono H10.out.2.2.2.size)
            have hb515 : Below w5.heap.size w5 w15 := H8.out.1.trans (hb815.mono H8.out.1.size)
            have hbr15 : Below wr.heap.size wr w15 := H8.out.2.trans (hb815.mono H8.out.2.size)
            have q15 := (hb515.block _ (row_lt H5.out.1)).trans H5.out.1
            have q15x := (hb515.block _ (row_lt H5.out.2.2.2.2.1)).trans H5.out.2.2.2.2.1
            have ld15 := ldRow info_image2 Tryz.underlying25 rfl q15 rfl
            have ld15x := ldRow info_image2 Tryz.underlying25 rfl q15x rfl
            have hi15 := (HW.out.1.below hbr15).more hbr15.size
            have HSI := hid (sameIm_any i0 i4 nh nv Q0 Q4 L0 HN.out.1 HN.out.2.1 (by rw [← HXL.out.2.2, hQ4]) (by have := HN.out.1; have := HFX.out.1.hq; omega) (by have := HN.out.2.1; have := HFX.out.1.lv; omega) HFX.out.1.fk w15 hi15.h ((H5.out.2.2.1.below hb515).more hb515.size) hi15.v ((H5.out.2.2.2.1.below hb515).more hb515.size))
            have H15 := hid (And.intro hb1015 hbr15)
            clear HG14 hb15 hb1015 hb815 hb515 hbr15 q15 q15x hi15
            go_wp2_with fail
            refine HSI.out.mono ?_
            rintro e w16 ⟨rfl, hb16⟩
            have hb1016 : Below w10.heap.size w10 w16 := H15.out.1.trans (hb16.mono H15.out.1.size)
            have hbr16 : Below wr.heap.size wr w16 := H15.out.2.trans (hb16.mono H15.out.2.size)
            have HSC := hid (sameCs_any a1 A10 cap1 c10 k l1 M10 HN.out.2.2.1 (by rw [← HC.out.2.2.2.2.1, H10.out.1]) (by omega) HFX.out.2.fk w16 ((HW.out.2.2.2.below hbr16).more hbr16.size) ((H10.out.2.1.reads.below hb1016).more hb1016.size))
            have H16 := hid hbr16
            clear HSI ld15 ld15x hb16 hb1016 hbr16
            go_wp2_with fail
            refine HSC.out.mono ?_
            rintro e w17 ⟨rfl, hb17⟩
            have HB17 := hid (HW.out.2.1.trans ((H16.out.trans (hb17.mono H16.out.size)).mono HW.out.2.1.size))
            clear hb17
            go_wp2_with fail
            refine (HKN.out w17).mono ?_
            rintro e w18 ⟨rfl, hb18⟩
            have HB18 := hid (HB17.out.trans (hb18.mono HB17.out.size))
            clear hb18
            go_wp2_with fail
            go_ret
            exact ⟨rfl, HB18.out⟩

set_option maxRecDepth 100000 in
theorem lifted (os : Os) (started : os.Started) (H : Type) (enc : TypeId × Value → H) :
    ReturnsInHanded {} Tryz.checked os 6 .any (Rows.imageBackSpec.pre6 enc Tryz.prog Tryz.f6 Rows.imageBackRow.domain false) (Rows.imageBackSpec.post enc Tryz.prog Tryz.f6 false true false false) := by
  refine returnsInHanded_of_change_sized (C := Tryz.checked) own started (by kernel_rfl) Tryz.func6
    (ChangeSpec.witness6 (enc := enc) (C := Tryz.checked) false ⟨#[], #[.agg #[.slice none 0 0, .slice none 0 0], .slice none 0 0, .int .i64 0], []⟩ 8 (by kernel_rfl) (by kernel_rfl) (by kernel_rfl) (by kernel_rfl)) ?_
  intro W base args ds gs before hval0 hW hcnd hsz0 _
  have hsz : (DataW.weightsEach Tryz.prog (Tryz.f6.params.toList ++ Rows.imageBackSpec.plain.varTypes Tryz.prog) (ds ++ gs)).all (· ≤ reachBytes) = true := hsz0
  clear hsz0
  have hval : ∀ (j : Nat) t v, Tryz.f6.params[j]? = some t → args[j]? = some v → Value.okWide Tryz.prog W .any base t v := hval0
  have hW' := hW
  obtain ⟨p, q, hA0, hV, rfl, hfz, hnd⟩ := hW
  have hA : DataW.TrodAll enc Tryz.prog W 0 (fun _ => true) true Tryz.f6.params.toList args.toList ds p := hA0
  rw [Tryz.params6] at hA hval hsz
  obtain ⟨v0, vs0, d0, ds0, p0, q0, hargs, rfl, rfl, g0, t0⟩ := trodAll_cons hA
  obtain ⟨v1, vs1, d1, ds1, p1, q1, rfl, rfl, rfl, g1, t1⟩ := trodAll_cons t0
  obtain ⟨v2, vs2, d2, ds2, p2, q2, rfl, rfl, rfl, g2, t2⟩ := trodAll_cons t1
  obtain ⟨rfl, rfl, rfl⟩ := trodAll_nil t2
  obtain rfl : args = #[v0, v1, v2] := by cases args; simp_all
  obtain ⟨rfl, rfl⟩ := trodVars_none hV
  obtain ⟨cs0, rfl, sz0⟩ := okWide_struct Tryz.underlying25 (hval 0 25 v0 rfl rfl)
  have m0 := g0
  have lt0 : ∀ x ∈ p0, x.block < W.heap.size := by obtain ⟨m, hm⟩ := m0; exact DataW.trod_lt m _ _ _ hm
  obtain ⟨i0, Q0, L0, rfl, k0⟩ := Im.image_open sz0 g0
  obtain ⟨a1, len1, cap1, rfl⟩ := okWide_slice Tryz.underlying45 (hval 1 45 v1 rfl rfl)
  have m1 := g1
  have lt1 : ∀ x ∈ p1, x.block < W.heap.size := by obtain ⟨m, hm⟩ := m1; exact DataW.trod_lt m _ _ _ hm
  obtain ⟨l1, k1, rfl, n1, r1, z1⟩ : ∃ l, Im.IsCs W W.heap.size a1 l ∧ len1 = l.length ∧ l.length ≤ cap1 ∧ cap1 ≤ maxLen ∧ (a1 = none → cap1 = 0) := by
    obtain ⟨fuel, hf⟩ := g1
    obtain ⟨a, c, ts, hcs, h1, h2, h3⟩ := Im.changes_in hf
    simp [Value.cells] at hcs
    obtain ⟨rfl, rfl, rfl⟩ := hcs
    exact ⟨ts, h1, rfl, h2.1, h2.2, h3⟩
  obtain ⟨a2, rfl, rfl, rfl, w2⟩ := open_int Tryz.underlying3 (hval 2 3 v2 rfl rfl) g2
  have b2 := bounds_i64 w2
  clear hA0 hval0
  refine (walk i0 Q0 L0 a1 cap1 l1 a2 W k0 k1 n1 r1 z1 b2).mono fun e W' ⟨he, bel⟩ => ?_
  subst he
  exact ⟨_, rfl, _, _, _, [], _, [], hW', trodAll_mk1 (shut_bool Tryz.underlying4 _), (trodAll_cons_mk (Below.trod laidOut (by kernel_rfl) (of_decide_eq_true (by kernel_rfl)) m0 bel lt0) (trodAll_cons_mk (Below.trod laidOut (by kernel_rfl) (of_decide_eq_true (by kernel_rfl)) m1 bel lt1) (trodAll_cons_mk (shut_int Tryz.underlying3 w2) trodAll_mk0))), rfl, bel.frame _, fun h => by cases h⟩

theorem over : Rows.imageBackRow.holds Tryz.pinned (OpenSpec.ofChange Rows.imageBackSpec) :=
  OpenClaim.holds_of_wide 6 Tryz.f6 rfl rfl rfl rfl rfl rfl rfl ⟨rfl, rfl, rfl, rfl, rfl⟩ rfl rfl rfl rfl rfl (by kernel_rfl) Tryz.func6 (by kernel_rfl)
    (of_decide_eq_true (by kernel_rfl)) (by unfold Func.isWrapper; first | (rw [if_pos (by decide +kernel)]; kernel_rfl) | (rw [if_neg (by decide +kernel)]; exact ⟨rfl, rfl⟩))
    (fun os started H enc _ => lifted os started H enc)

theorem proved : Rows.ImageBackSaid := over
end Go.Proofs.YtaeoccpjdjafnaaGreat.imageBack
