/- Texts of the proof, one behind the other: MsRefJ, MsRefK. -/
import Derived.Test.YtpigekbfngalbaaDoorPartAQ
import Derived.Test.YtpigekbfngalbaaDoorPartAL
namespace Go.Proofs.YtpigekbfngalbaaDoor.Ms
open Go.RowKit
open Pk (St rdInt rdBlob)
set_option maxRecDepth 100000
set_option linter.unusedVariables false
attribute [local go_sem ↓] loadAt_msg storeAt_msg

theorem stOf_new (p : List Nat) : stOf p 0 false = ⟨p, false⟩ := by unfold stOf leftOf; simp
theorem dec_ends {p : List Nat} {m : M} {s : St} (h : head3 p = (m, s)) (hb : s.bad = false) (hk : m.isKind = true) (he : Ends (tab m.kind) m s) : dec p = (M0, 4) := by
  rcases he with he | ⟨m1, s1, h1, h2⟩
  · exact dec_none h hb hk he
  · exact dec_left h hb hk h1 h2
/-- the head's numbers, one after the other -/
structure Hd3 (p : List Nat) (v0 v1 v2 : Int) (s1 s2 s3 : St) : Prop where
  q0 : rdInt ⟨p, false⟩ = (v0, s1)
  q1 : rdInt s1 = (v1, s2)
  q2 : rdInt s2 = (v2, s3)
  h : head3 p = ({ M0 with K := v0, F := v1, T := v2 }, s3)
theorem hd3_of (p : List Nat) : ∃ v0 v1 v2 s1 s2 s3, Hd3 p v0 v1 v2 s1 s2 s3 := ⟨_, _, _, _, _, _, rfl, rfl, rfl, rfl⟩
theorem m3_num {v0 v1 v2 : Int} (h0 : InInt v0) (h1 : InInt v1) (h2 : InInt v2) : ∀ r ∈ nums, InInt (({ M0 with K := v0, F := v1, T := v2 } : M).num r) := by
  have hz : InInt 0 := ⟨by decide, by decide⟩
  intro r hr
  simp only [nums, List.mem_cons, List.not_mem_nil, or_false] at hr
  rcases hr with rfl | rfl | rfl | rfl | rfl | rfl | rfl | rfl | rfl | rfl | rfl | rfl | rfl | rfl <;> first | exact h0 | exact h1 | exact h2 | exact hz
theorem OwnM.is {w : World} {B : Nat} {m : M} {A A' : Option Addr} {c c' : Nat} (h : OwnM w B m A c A' c') : Is w w.heap.size m A c A' c' :=
  ⟨h.num, h.es.reads, h.es.room, h.es.none_, h.d.reads, h.d.room, h.d.none_⟩
/-- the reader at gr, the box behind it; ahead of both the box of the answer -/
structure Gt (w W : World) (gr gm : Nat) (p : List Nat) (m : M) (a : Nat) (b : Bool) : Prop where
  bel : Below w.heap.size w W
  zero : Zero W w.heap.size
  box : Bx W gm m none 0 none 0
  rdr : RefR W gr gm p a b
  lt : w.heap.size < gr ∧ gr < gm ∧ gm < W.heap.size
namespace Gt
variable {w W : World} {gr gm : Nat} {p : List Nat} {m : M} {a : Nat} {b : Bool}
theorem int (h : Gt w W gr gm p m a b) :
    Calls Tryd.prog 53 #[.pointer (some ⟨gr, 0, none⟩)] W fun e w' => ∃ a2 b2, e = .returned (.int .i64 (rdInt (stOf p a b)).1) ∧ Gt w w' gr gm p m a2 b2 ∧ stOf p a2 b2 = (rdInt (stOf p a b)).2 :=
  (refRInt_any gr gm p a b W h.rdr).mono fun e w' ⟨a2, b2, he, hr, hs, hg⟩ => ⟨a2, b2, he,
    ⟨h.bel.trans (below_grown hg h.bel.size (fun k hk => by injection hk with hk; have := h.lt; omega)),
     (hg.block _ (row_lt h.zero) (fun e => by injection e; have := h.lt; omega)).trans h.zero, ⟨(hg.block _ (row_lt h.box.row) (fun e => by injection e; have := h.lt; omega)).trans h.box.row⟩, hr, ⟨h.lt.1, h.lt.2.1, Nat.lt_of_lt_of_le h.lt.2.2 hg.size⟩⟩, hs⟩
theorem set_ (h : Gt w W gr gm p m a b) (i : Nat) (u : Value) (m' : M) (hc : (#[.int .i64 m.K, .int .i64 m.F, .int .i64 m.T, .int .i64 m.g, .int .i64 m.t, .int .i64 m.i, .int .i64 m.p, .int .i64 m.c, .int .i64 m.r, .int .i64 m.x, .int .i64 m.a, .int .i64 m.b, .int .i64 m.v, .int .i64 m.s, .bool m.ok, .slice none m.es.length 0, .slice none m.d.length 0] : Array Value).setIfInBounds i u = (#[.int .i64 m'.K, .int .i64 m'.F, .int .i64 m'.T, .int .i64 m'.g, .int .i64 m'.t, .int .i64 m'.i, .int .i64 m'.p, .int .i64 m'.c, .int .i64 m'.r, .int .i64 m'.x, .int .i64 m'.a, .int .i64 m'.b, .int .i64 m'.v, .int .i64 m'.s, .bool m'.ok, .slice none m'.es.length 0, .slice none m'.d.length 0] : Array Value)) : Gt w (W.setCell ⟨gm, i, none⟩ u) gr gm p m' a b := by
  have hg := grown_setCell W gm i u
  refine ⟨h.bel.trans (below_grown hg h.bel.size (fun k hk => by injection hk with hk; have := h.lt; omega)), (hg.block _ (row_lt h.zero) (fun e => by injection e; have := h.lt; omega)).trans h.zero, ⟨by rw [row_set h.box.row, hc]⟩, h.rdr.other hg (fun k hk => by injection hk with hk; omega), ⟨h.lt.1, h.lt.2.1, Nat.lt_of_lt_of_le h.lt.2.2 hg.size⟩⟩
theorem below (h : Gt w W gr gm p m a b) {W' : World} (hb : Below W.heap.size W W') : Gt w W' gr gm p m a b :=
  ⟨h.bel.trans (hb.mono h.bel.size), (hb.block _ (row_lt h.zero)).trans h.zero, h.box.below hb h.lt.2.2, h.rdr.below hb, ⟨h.lt.1, h.lt.2.1, Nat.lt_of_lt_of_le h.lt.2.2 hb.size⟩⟩
theorem badC (h : Gt w W gr gm p m a b) : W.cell? ⟨gr, 2, none⟩ = some (.bool b) := by
  obtain ⟨_, _, _, _, h2, _⟩ := h.rdr.cells
  exact h2
end Gt
set_option maxHeartbeats 6400000 in
theorem rget_any (l : List Nat) (A0 : Option Addr) (c0 n0 : Nat) (hn0 : l.length = n0) (w : World) (h : IsBytes w w.heap.size A0 l) (hc : n0 ≤ c0) (hl : n0 ≤ 140737488355000) :
    Calls Tryd.prog 23 #[.slice A0 n0 c0] w fun e w' => ∃ A c A' c', e = .returned (.tuple #[.agg #[.int .i64 ((get l).1).K, .int .i64 ((get l).1).F, .int .i64 ((get l).1).T, .int .i64 ((get l).1).g, .int .i64 ((get l).1).t, .int .i64 ((get l).1).i, .int .i64 ((get l).1).p, .int .i64 ((get l).1).c, .int .i64 ((get l).1).r, .int .i64 ((get l).1).x, .int .i64 ((get l).1).a, .int .i64 ((get l).1).b, .int .i64 ((get l).1).v, .int .i64 ((get l).1).s, .bool ((get l).1).ok, .slice A ((get l).1).es.length c, .slice A' ((get l).1).d.length c'], .int .i64 (((get l).2 : Nat) : Int)]) ∧ OwnM w' w.heap.size (get l).1 A c A' c' ∧ Below w.heap.size w w' := by
  obtain ⟨wA, hwA⟩ : ∃ wA, wA = w.alloc (.cells #[.int .i64 0, .int .i64 0, .int .i64 0, .int .i64 0, .int .i64 0, .int .i64 0, .int .i64 0, .int .i64 0, .int .i64 0, .int .i64 0, .int .i64 0, .int .i64 0, .int .i64 0, .int .i64 0, .bool false, .slice none 0 0, .slice none 0 0] 25) := ⟨_, rfl⟩
  have hsA : wA.heap.size = w.heap.size + 1 := by rw [hwA]; simp
  have hbA : Below w.heap.size w wA := by rw [hwA]; exact (Below.refl _ w).alloc (Nat.le_refl _) _
  have hzA : Zero wA w.heap.size := by rw [hwA]; exact heap_alloc_new w _
  obtain ⟨p, nn, ee, hg⟩ : ∃ p nn ee, Fr.get l = (p, nn, ee) := ⟨_, _, _, rfl⟩
  have hpl : p.length ≤ 65536 := by have := fr_short l; rw [hg] at this; exact this
  have HFR := hid (Frame.ref_get_N wA.heap.size A0 c0 l n0 hn0 hl hc wA ((h.below hbA).more hbA.size) (Nat.le_refl _) p nn ee hg p.length rfl nn ee rfl rfl)
  have HG := hid hg
  have HN0 := hid hn0
  have HW := hid (And.intro hbA hzA)
  clear hg h hn0 hbA hzA
  go_enter Tryd.func23, Tryd.ntmps23
  go_wp2_with fail
  rw [← hwA]
  refine HFR.out.mono ?_
  rintro e w1 ⟨A1, c1, rfl, ho, hb1⟩
  have HB1 : Hid (Below w.heap.size w w1 ∧ Zero w1 w.heap.size ∧ OwnsB 5 w1 wA.heap.size A1 c1 p) := hid ⟨HW.out.1.trans (hb1.mono (by omega)), (hb1.block _ (by omega)).trans HW.out.2, ho⟩
  have hst1 := zero_st HB1.out.2.1
  have hw1 := hb1.size
  clear HFR ho hb1 hwA
  by_cases he : ee = 0
  · subst he
    by_cases hlong : nn < n0
    · have HD := hid (get_long HG.out (by rw [HN0.out]; exact hlong))
      go_wp2_with fail
      refine bodyPost_ret (results_msg rfl _ _ w.heap.size _ _ _ rfl HB1.out.2.1 rfl) rfl ?_
      exact get_zero (w0 := w) HD.out HB1.out.1
    · have HNL : Hid (¬ nn < l.length) := hid (by rw [HN0.out]; exact hlong)
      obtain ⟨v0, v1, v2, s1, s2, s3, hh⟩ := hd3_of p
      have hrd := refReader_any w1.heap.size A1 c1 p (by omega) w1 HB1.out.2.2.reads (Nat.le_refl _)
      have HRD := hid hrd
      have HH := hid hh
      have hps : Pk.St.small ⟨p, false⟩ := HB1.out.2.2.small
      have hi0 : InInt v0 := by have := Pk.rdInt_in ⟨p, false⟩ hps; rw [hh.q0] at this; exact this
      have hps1 : s1.small := by have := Pk.rdInt_small ⟨p, false⟩ hps; rw [hh.q0] at this; exact this
      have hi1 : InInt v1 := by have := Pk.rdInt_in s1 hps1; rw [hh.q1] at this; exact this
      have hps2 : s2.small := by have := Pk.rdInt_small s1 hps1; rw [hh.q1] at this; exact this
      have hi2 : InInt v2 := by have := Pk.rdInt_in s2 hps2; rw [hh.q2] at this; exact this
      have HNUM := hid (m3_num hi0 hi1 hi2)
      clear hrd hh hst1 hps hi0 hps1 hi1 hps2 hi2
      go_wp2_with fail
      refine HRD.out.mono ?_
      rintro e w2 ⟨rfl, hR2, hb2⟩
      obtain ⟨w3, hw3⟩ : ∃ w3, w3 = w2.alloc (.cells #[.int .i64 0, .int .i64 0, .int .i64 0, .int .i64 0, .int .i64 0, .int .i64 0, .int .i64 0, .int .i64 0, .int .i64 0, .int .i64 0, .int .i64 0, .int .i64 0, .int .i64 0, .int .i64 0, .bool false, .slice none 0 0, .slice none 0 0] 25) := ⟨_, rfl⟩
      have hb3 : Below w2.heap.size w2 w3 := by rw [hw3]; exact (Below.refl _ w2).alloc (Nat.le_refl _) _
      have hz3 : Zero w3 w2.heap.size := by rw [hw3]; exact heap_alloc_new w2 _
      have hst3 := zero_st hz3
      have hgr : w1.heap.size < w2.heap.size := hR2.top_.1
      have HG3 : Hid (Gt w w3 w1.heap.size w2.heap.size p M0 0 false) := hid ⟨HB1.out.1.trans ((hb2.mono HB1.out.1.size).trans (hb3.mono (by omega))), (hb3.block _ (by omega)).trans ((hb2.block _ (by omega)).trans HB1.out.2.1), zero_bx hz3, hR2.below hb3, ⟨by omega, hgr, by rw [hw3]; simp⟩⟩
      have hin := HG3.out.int
      rw [stOf_new, HH.out.q0] at hin
      dsimp only at hin
      have HI0 := hid hin
      rw [hw3] at hst3
      clear HRD hR2 hb2 hb3 hz3 hin
      go_wp2_with fail
      rw [← hw3]
      clear hst3 hw3
      generalize w1.heap.size = gr at *
      generalize w2.heap.size = gm at *
      refine HI0.out.mono ?_
      rintro e w4 ⟨a4, b4, rfl, h4, hs4⟩
      have hc0 : w4.cell? ⟨gm, 0, none⟩ = some (.int .i64 0) := h4.box.cell 0
      have hf0 := row_free h4.box.row 0
      obtain ⟨w5, hw5⟩ : ∃ w5, w5 = w4.setCell ⟨gm, 0, none⟩ (.int .i64 v0) := ⟨_, rfl⟩
      have h5 : Gt w w5 gr gm p { M0 with K := v0 } a4 b4 := by rw [hw5]; exact h4.set_ 0 _ _ rfl
      have hin := h5.int
      rw [hs4, HH.out.q1] at hin
      dsimp only at hin
      have HI1 := hid hin
      clear h4 hs4 h5 hin HI0 HG3
      go_wp2_with fail
      rw [← hw5]
      clear hw5 hc0 hf0
      refine HI1.out.mono ?_
      rintro e w6 ⟨a6, b6, rfl, h6, hs6⟩
      have hc1 : w6.cell? ⟨gm, 1, none⟩ = some (.int .i64 0) := h6.box.cell 1
      have hf1 := row_free h6.box.row 1
      obtain ⟨w7, hw7⟩ : ∃ w7, w7 = w6.setCell ⟨gm, 1, none⟩ (.int .i64 v1) := ⟨_, rfl⟩
      have h7 : Gt w w7 gr gm p { M0 with K := v0, F := v1 } a6 b6 := by rw [hw7]; exact h6.set_ 1 _ _ rfl
      have hin := h7.int
      rw [hs6, HH.out.q2] at hin
      dsimp only at hin
      have HI2 := hid hin
      clear h6 hs6 h7 hin HI1
      go_wp2_with fail
      rw [← hw7]
      clear hw7 hc1 hf1
      refine HI2.out.mono ?_
      rintro e w8 ⟨a8, b8, rfl, h8, hs8⟩
      have hc2 : w8.cell? ⟨gm, 2, none⟩ = some (.int .i64 0) := h8.box.cell 2
      have hf2 := row_free h8.box.row 2
      obtain ⟨w9, hw9⟩ : ∃ w9, w9 = w8.setCell ⟨gm, 2, none⟩ (.int .i64 v2) := ⟨_, rfl⟩
      obtain ⟨m3, hm3⟩ : ∃ m3 : M, m3 = { M0 with K := v0, F := v1, T := v2 } := ⟨_, rfl⟩
      have h9 : Gt w w9 gr gm p m3 a8 b8 := by rw [hw9, hm3]; exact h8.set_ 2 _ _ rfl
      have HH3 : Hid (head3 p = (m3, stOf p a8 b8)) := hid (by rw [hs8, hm3]; exact HH.out.h)
      have HNM : Hid ((∀ r ∈ nums, InInt (m3.num r)) ∧ m3.es = [] ∧ m3.d = []) := hid (by rw [hm3]; exact ⟨HNUM.out, rfl, rfl⟩)
      have H9 := hid h9
      have hbad := h9.badC
      have hst9 := zero_st h9.zero
      clear h8 hs8 h9 HI2 hm3 HNUM HH
      go_upto_region 11 with fail
      rw [← hw9]
      clear hw9 hc2 hf2
      cases b8
      · have HB := HH3.out
        have hcK := H9.out.box.c0
        obtain ⟨ik, hik⟩ : ∃ ik, ik = m3.isKind := ⟨_, rfl⟩
        have HIK := hid hik
        have hHas := has_any m3.K w9
        obtain ⟨n, hn⟩ : ∃ n, n = (hasL m3.K).length := ⟨_, rfl⟩
        rw [← hn] at hHas
        have HAS := hid hHas
        cases ik
        · have hn0 : n = 0 := by
            have : ¬ (1 ≤ m3.K ∧ m3.K ≤ 11) := fun e => by unfold M.isKind at hik; simp [e.1, e.2] at hik
            rw [hn]; unfold hasL; rw [if_neg this]; rfl
          subst hn0
          have HD := hid (dec_kind HH3.out rfl HIK.out.symm)
          have HDD := hid (get_dec HG.out HNL.out HD.out (by decide))
          clear hik hn hHas HB hst9
          go_wp2_with fail
          refine HAS.out.mono ?_
          rintro e w10 ⟨A10, c10, rfl, _, _, hb10⟩
          have H10 := hid (H9.out.below hb10)
          have hst10 := zero_st H10.out.zero
          clear hb10
          go_wp2_with fail
          refine bodyPost_ret (results_msg rfl _ _ w.heap.size _ _ _ rfl H10.out.zero rfl) rfl ?_
          exact get_zero (w0 := w) HDD.out H10.out.bel
        · have hK : 1 ≤ m3.K ∧ m3.K ≤ 11 := by unfold M.isKind at hik; simpa using hik.symm
          have hn1 : 1 ≤ n := by rw [hn]; exact (has_len m3.K hK).2
          have hn2 : ¬ (n : Int) = 0 := by omega
          have HK := hid hK
          clear hik hn hHas HB hst9 hK
          go_wp2_with fail
          refine HAS.out.mono ?_
          rintro e w10 ⟨A10, c10, rfl, _, _, hb10⟩
          have H10 := hid (H9.out.below hb10)
          have hrr := rread_any m3 w10 gr gm p a8 false H10.out.rdr HK.out HNM.out.2.1 HNM.out.2.2 HNM.out.1
          have HR := hid hrr
          have hld10 := H10.out.box.load
          clear hb10 hrr hcK hbad
          go_wp2_with fail
          refine HR.out.mono ?_
          rintro e w11 ⟨m', A, c, A', c', v, rfl, hom, hg11, hv1, hv2⟩
          have hrow : w11.heap[gm]? = _ := (hg11.block _ (row_lt H10.out.box.row) (fun e => by injection e; have := H10.out.lt; omega)).trans H10.out.box.row
          have hz11 : Zero w11 w.heap.size := (hg11.block _ (row_lt H10.out.zero) (fun e => by injection e; have := H10.out.lt; omega)).trans H10.out.zero
          have hst11 := st_row w11 gm _ (#[.int .i64 m'.K, .int .i64 m'.F, .int .i64 m'.T, .int .i64 m'.g, .int .i64 m'.t, .int .i64 m'.i, .int .i64 m'.p, .int .i64 m'.c, .int .i64 m'.r, .int .i64 m'.x, .int .i64 m'.a, .int .i64 m'.b, .int .i64 m'.v, .int .i64 m'.s, .bool m'.ok, .slice A m'.es.length c, .slice A' m'.d.length c']) hrow rfl rfl (msg_one m' A c A' c')
          obtain ⟨w12, hw12⟩ : ∃ w12, w12 = w11.setRow gm (#[.int .i64 m'.K, .int .i64 m'.F, .int .i64 m'.T, .int .i64 m'.g, .int .i64 m'.t, .int .i64 m'.i, .int .i64 m'.p, .int .i64 m'.c, .int .i64 m'.r, .int .i64 m'.x, .int .i64 m'.a, .int .i64 m'.b, .int .i64 m'.v, .int .i64 m'.s, .bool m'.ok, .slice A m'.es.length c, .slice A' m'.d.length c']) := ⟨_, rfl⟩
          have htu : Turned (fun k => k = gm) w11 w12 := by rw [hw12]; exact set_turned w11 gm _
          have hx12 : Bx w12 gm m' A c A' c' := ⟨by rw [hw12]; exact setRow_heap _ _ _ _ _ _ hrow⟩
          have hl10 := H10.out.lt
          have hz12 : Zero w12 w.heap.size := (htu.block _ (row_lt hz11) (by omega)).trans hz11
          have hb11 : Below w.heap.size w w11 := H10.out.bel.trans (below_grown hg11 H10.out.bel.size (fun k hk => by injection hk with hk; omega))
          have hb12 : Below w.heap.size w w12 := hb11.trans (htu.below hb11.size (fun k hk => by omega))
          have hom12 : OwnM w12 w10.heap.size m' A c A' c' := hom.turned htu hl10.2.2
          rw [← hw12] at hst11
          have HX := hid (And.intro hx12 (And.intro hz12 (And.intro hb12 (And.intro hom12 hl10))))
          have HV := hid (And.intro hv1 hv2)
          clear hw12 htu hx12 hl10 hz12 hz11 hb11 hb12 hom12 hom hg11 hrow hv1 hv2 HR hn1 hn2 hld10
          cases v
          · have HD := hid (dec_ends HH3.out rfl HIK.out.symm (HV.out.2 rfl))
            have HDD := hid (get_dec HG.out HNL.out HD.out (by decide))
            have hst12 := zero_st HX.out.2.1
            go_wp2_with fail
            refine bodyPost_ret (results_msg rfl _ _ w.heap.size _ _ _ rfl HX.out.2.1 rfl) rfl ?_
            exact get_zero (w0 := w) HDD.out HX.out.2.2.1
          · obtain ⟨s9, hs9, hov⟩ := HV.out.1 rfl
            have hd := dec_some HH3.out rfl HIK.out.symm hs9 hov
            have hsm := dec_small p hpl
            rw [hd] at hsm
            have hsm2 : Small m' := hsm
            have HD := hid hd
            have HCK := hid (rcheck_any m' A c A' c' w12 HX.out.2.2.2.1.is hsm2)
            have hld12 := HX.out.1.load
            clear hs9 hov hd hsm hsm2
            go_wp2_with fail
            refine HCK.out.mono ?_
            rintro e w13 ⟨rfl, hb13⟩
            have hz13 : Zero w13 w.heap.size := (hb13.block _ (row_lt HX.out.2.1)).trans HX.out.2.1
            have hst13 := zero_st hz13
            have HZ := hid (And.intro hz13 (HX.out.2.2.1.trans (hb13.mono HX.out.2.2.1.size)))
            by_cases hck : check m' = 0
            · have HDD := hid (get_ok HG.out HNL.out HD.out hck)
              have hx13 := HX.out.1.below hb13 (row_lt HX.out.1.row)
              have hld13 := hx13.load
              have hst14 := st_row w13 w.heap.size _ (#[.int .i64 m'.K, .int .i64 m'.F, .int .i64 m'.T, .int .i64 m'.g, .int .i64 m'.t, .int .i64 m'.i, .int .i64 m'.p, .int .i64 m'.c, .int .i64 m'.r, .int .i64 m'.x, .int .i64 m'.a, .int .i64 m'.b, .int .i64 m'.v, .int .i64 m'.s, .bool m'.ok, .slice A m'.es.length c, .slice A' m'.d.length c']) hz13 rfl rfl (msg_one m' A c A' c')
              have htu := set_turned w13 w.heap.size #[.int .i64 m'.K, .int .i64 m'.F, .int .i64 m'.T, .int .i64 m'.g, .int .i64 m'.t, .int .i64 m'.i, .int .i64 m'.p, .int .i64 m'.c, .int .i64 m'.r, .int .i64 m'.x, .int .i64 m'.a, .int .i64 m'.b, .int .i64 m'.v, .int .i64 m'.s, .bool m'.ok, .slice A m'.es.length c, .slice A' m'.d.length c']
              have hro : (w13.setRow w.heap.size #[.int .i64 m'.K, .int .i64 m'.F, .int .i64 m'.T, .int .i64 m'.g, .int .i64 m'.t, .int .i64 m'.i, .int .i64 m'.p, .int .i64 m'.c, .int .i64 m'.r, .int .i64 m'.x, .int .i64 m'.a, .int .i64 m'.b, .int .i64 m'.v, .int .i64 m'.s, .bool m'.ok, .slice A m'.es.length c, .slice A' m'.d.length c']).heap[w.heap.size]? = some (.cells #[.int .i64 m'.K, .int .i64 m'.F, .int .i64 m'.T, .int .i64 m'.g, .int .i64 m'.t, .int .i64 m'.i, .int .i64 m'.p, .int .i64 m'.c, .int .i64 m'.r, .int .i64 m'.x, .int .i64 m'.a, .int .i64 m'.b, .int .i64 m'.v, .int .i64 m'.s, .bool m'.ok, .slice A m'.es.length c, .slice A' m'.d.length c'] 25 (0, 0)) := setRow_heap w13 w.heap.size _ _ _ _ hz13
              have hl := HX.out.2.2.2.2
              have hb10 := H10.out.bel.size
              have hom14 := ((HX.out.2.2.2.1.below hb13).turned htu (by omega)).weaken (B' := w.heap.size) hb10
              have HE := hid (And.intro hro (And.intro hom14 (HZ.out.2.trans (htu.below HZ.out.2.size (fun k hk => by omega)))))
              rw [hck]
              clear hz13 hb13 hst13 htu hro hom14 hx13 hck hl hb10 hld12 hst11
              generalize (w13.setRow w.heap.size #[.int .i64 m'.K, .int .i64 m'.F, .int .i64 m'.T, .int .i64 m'.g, .int .i64 m'.t, .int .i64 m'.i, .int .i64 m'.p, .int .i64 m'.c, .int .i64 m'.r, .int .i64 m'.x, .int .i64 m'.a, .int .i64 m'.b, .int .i64 m'.v, .int .i64 m'.s, .bool m'.ok, .slice A m'.es.length c, .slice A' m'.d.length c']) = w14 at hst14 HE
              go_wp2_with fail
              refine bodyPost_ret (results_msg rfl _ _ w.heap.size _ _ _ rfl HE.out.1 rfl) rfl ?_
              rw [HDD.out]
              exact ⟨A, c, A', c', rfl, HE.out.2.1, HE.out.2.2⟩
            · have HDD := hid (get_check HG.out HNL.out HD.out hck)
              clear hz13 hb13 hst11 hld12
              go_wp2_with fail
              refine bodyPost_ret (results_msg rfl _ _ w.heap.size _ _ _ rfl HZ.out.1 rfl) rfl ?_
              exact get_zero (w0 := w) HDD.out HZ.out.2
      · have HD := hid (dec_bad HH3.out rfl)
        have HDD := hid (get_dec HG.out HNL.out HD.out (by decide))
        go_wp2_with fail
        refine bodyPost_ret (results_msg rfl _ _ w.heap.size _ _ _ rfl H9.out.zero rfl) rfl ?_
        exact get_zero (w0 := w) HDD.out H9.out.bel
  · have HD := hid (get_frame HG.out he)
    go_wp2_with fail
    refine bodyPost_ret (results_msg rfl _ _ w.heap.size _ _ _ rfl HB1.out.2.1 rfl) rfl ?_
    exact get_zero (w0 := w) HD.out HB1.out.1
end Go.Proofs.YtpigekbfngalbaaDoor.Ms
namespace Go.Proofs.YtpigekbfngalbaaDoor.Ms
open Go.RowKit
set_option maxRecDepth 100000
set_option linter.unusedVariables false
attribute [local go_sem ↓] loadAt_msg storeAt_msg

/-- a message that the call has made: what it leads to lies in blocks from B on, below N -/
structure MIn (w : World) (B N : Nat) (m : M) (A : Option Addr) (c : Nat) (A' : Option Addr) (c' : Nat) : Prop where
  num : ∀ r ∈ nums, InInt (m.num r)
  es : OwnE w B N A c m.es
  d : OwnsB 5 w B A' c' m.d
  dN : ∀ k, blk A' = some k → k < N
  one : (A = none ∧ c = 0) ∨ (A' = none ∧ c' = 0)
  few : m.es.length ≤ 50000
  hi : N ≤ w.heap.size
theorem OwnM.min {w : World} {B : Nat} {m : M} {A A' : Option Addr} {c c' : Nat} (h : OwnM w B m A c A' c') : MIn w B w.heap.size m A c A' c' :=
  ⟨h.num, h.es, h.d, fun k hk => (h.d.blkLt k hk).2, h.one, h.few, Nat.le_refl _⟩
namespace MIn
variable {w w' : World} {B N : Nat} {m : M} {A A' : Option Addr} {c c' : Nat}
theorem turned (h : MIn w B N m A c A' c') {S : Nat → Prop} (ht : Turned S w w') (hS : ∀ k, S k → k < B ∨ N ≤ k) : MIn w' B N m A c A' c' :=
  ⟨h.num, h.es.keep ht (fun k hk hB => by have := hB.1; have := hB.2; have := hS k hk; omega), h.d.turned ht (fun k hk e => by have := (h.d.blkLt k hk).1; have := h.dN k hk; have := hS k e; omega), h.dN, h.one, h.few, Nat.le_trans h.hi ht.size⟩
theorem below (h : MIn w B N m A c A' c') (hb : Below w.heap.size w w') : MIn w' B N m A c A' c' := h.turned (S := fun _ => False) (Turned.ofBelow _ hb) (fun _ e => e.elim)
theorem is (h : MIn w B N m A c A' c') : Is w w.heap.size m A c A' c' := ⟨h.num, h.es.reads.more h.hi, h.es.room, h.es.none_, h.d.reads, h.d.room, h.d.none_⟩
end MIn
theorem MIn.nil_es {w : World} {B N : Nat} {m : M} {c : Nat} {A' : Option Addr} {c' : Nat} (h : MIn w B N m none c A' c') : m.es = [] := by
  rcases hh : m.es with _ | ⟨x, L⟩
  · rfl
  · obtain ⟨_, _, e, _⟩ := h.es.reads.cells 0 (by rw [hh]; simp)
    cases e
def M77 : M := { M0 with K := -77 }
set_option maxHeartbeats 3200000 in
theorem spoilM_any (w : World) (b B N cc : Nat) (m : M) (A : Option Addr) (c : Nat) (A' : Option Addr) (c' : Nat) (h : MIn w B N m A c A' c') (hx : Bx w b m A c A' c') (hb : N ≤ b) :
    Calls Tryd.prog 25 #[.slice (some ⟨b, 0, none⟩) 1 cc] w fun e w' => e = .returned (.tuple #[]) ∧ Turned (fun k => Bl B N k ∨ k = b) w w' := by
  have hfew := h.few
  have hdl := h.d.room
  obtain ⟨ne, hne⟩ : ∃ ne, ne = m.es.length := ⟨_, rfl⟩
  have HNE := hid hne
  have HE : Hid (Calls Tryd.prog 55 #[.slice A ne c] w fun e w' => e = .returned (.tuple #[]) ∧ Turned (Bl B N) w w' ∧ OwnsB 5 w' B A' c' m.d) := by
    rcases h.one with ⟨rfl, rfl⟩ | ⟨rfl, rfl⟩
    · have he : m.es = [] := h.nil_es
      refine hid ((spoilE_any 0 0 none 0 ne m.es hne.symm (by omega) w (by rw [he]; exact OwnE.nil _ _ _)).mono fun e w' ⟨h1, h2⟩ => ⟨h1, ?_, ?_⟩)
      · exact ⟨h2.os, h2.tape, h2.output, h2.size, fun k hk _ => h2.block k hk (fun e => by have := e.2; omega)⟩
      · exact h.d.turned h2 (fun k _ e => by have := e.2; omega)
    · have hd : m.d = [] := h.d.reads.of_none
      refine hid ((spoilE_any B N A c ne m.es hne.symm (by omega) w h.es).mono fun e w' ⟨h1, h2⟩ => ⟨h1, h2, ?_⟩)
      rw [hd]; exact OwnsB.nil _ _ _
  have HX := hid hx
  have HD := hid (And.intro h.dN hdl)
  have HBB := hid h.d.blkLt
  have hlt := row_lt hx.row
  have hc15 := hx.c15
  rw [← hne] at hc15
  have HB := hid hb
  clear h hfew hdl hne hx hb
  go_enter Tryd.func25, Tryd.ntmps25
  go_wp2_with fail
  go_loopw [2] (fun i wr => ∃ k : Nat, k ≤ 1 ∧ i = .int .i64 (k : Int) ∧ Hid (k = 0 → wr = w) ∧ Hid (Turned (fun k => Bl B N k ∨ k = b) w wr)) (fun i _ => 1 - (RowKit.intOf i).toNat)
  case atStart => exact ⟨0, by omega, rfl, hid (fun _ => rfl), hid (Turned.refl _ _)⟩
  case round =>
    obtain ⟨k, hk, rfl, hw, hT⟩ := hrel
    by_cases hk0 : k = 0
    · have hwr := hw.out hk0
      subst hk0
      subst hwr
      clear hw hT hk
      go_wp2_with fail
      refine HE.out.mono ?_
      rintro e w2 ⟨rfl, ht2, ho2⟩
      have hx2 : Bx w2 b m A c A' c' := ⟨(ht2.block b hlt (fun e => by have := e.2; have := HB.out; omega)).trans HX.out.row⟩
      have hc16 := hx2.c16
      have HSP := hid (spoil_N B A' c' m.d m.d.length rfl (Nat.le_trans HD.out.2.1 HD.out.2.2) w2 ho2)
      have H2 := hid (And.intro ht2 hx2)
      clear ht2 ho2 hx2 HE
      go_wp2_with fail
      refine HSP.out.mono ?_
      rintro e w3 ⟨rfl, hg3⟩
      have ht3 : Turned (fun k => blk A' = some k) w2 w3 := Turned.ofGrown hg3 (fun j hj => hj)
      have hx3 : Bx w3 b m A c A' c' := ⟨(ht3.block b (row_lt H2.out.2.row) (fun e => by have := HD.out.1 b e; have := HB.out; omega)).trans H2.out.2.row⟩
      have hst := st_row w3 b _ (#[.int .i64 M77.K, .int .i64 M77.F, .int .i64 M77.T, .int .i64 M77.g, .int .i64 M77.t, .int .i64 M77.i, .int .i64 M77.p, .int .i64 M77.c, .int .i64 M77.r, .int .i64 M77.x, .int .i64 M77.a, .int .i64 M77.b, .int .i64 M77.v, .int .i64 M77.s, .bool M77.ok, .slice none M77.es.length 0, .slice none M77.d.length 0]) hx3.row rfl rfl (msg_one M77 none 0 none 0)
      obtain ⟨w4, hw4⟩ : ∃ w4, w4 = w3.setRow b (#[.int .i64 M77.K, .int .i64 M77.F, .int .i64 M77.T, .int .i64 M77.g, .int .i64 M77.t, .int .i64 M77.i, .int .i64 M77.p, .int .i64 M77.c, .int .i64 M77.r, .int .i64 M77.x, .int .i64 M77.a, .int .i64 M77.b, .int .i64 M77.v, .int .i64 M77.s, .bool M77.ok, .slice none M77.es.length 0, .slice none M77.d.length 0]) := ⟨_, rfl⟩
      have ht4 : Turned (fun k => k = b) w3 w4 := by rw [hw4]; exact set_turned w3 b _
      rw [← hw4] at hst
      have HT4 : Hid (Turned (fun k => Bl B N k ∨ k = b) wr w4) := hid (by
        have h1 : Turned (fun k => Bl B N k ∨ k = b) wr w2 := ⟨H2.out.1.os, H2.out.1.tape, H2.out.1.output, H2.out.1.size, fun k hk hn => H2.out.1.block k hk (fun e => hn (Or.inl e))⟩
        exact (h1.then_ ht3 (fun j _ hj => Or.inl ⟨(HBB.out j hj).1, HD.out.1 j hj⟩)).then_ ht4 (fun j _ hj => Or.inr hj))
      have hst2 : (stMsg (.pointer (some ⟨b, 0, none⟩)) (.agg #[.int .i64 (-77), .int .i64 0, .int .i64 0, .int .i64 0, .int .i64 0, .int .i64 0, .int .i64 0, .int .i64 0, .int .i64 0, .int .i64 0, .int .i64 0, .int .i64 0, .int .i64 0, .int .i64 0, .bool false, .slice none 0 0, .slice none 0 0])).run Tryd.prog w3 = .ok () w4 := hst
      clear ht3 hx3 ht4 hw4 hst hg3 hc15 hc16
      go_wp2_with fail
      go_roundw
      case rel => exact ⟨1, Nat.le_refl _, by go_num, hid (fun e => by cases e), HT4⟩
      case measure => simp [RowKit.intOf]
    · obtain rfl : k = 1 := by omega
      go_wp2_with fail
      go_end0
      exact ⟨rfl, hT.out⟩
end Go.Proofs.YtpigekbfngalbaaDoor.Ms
