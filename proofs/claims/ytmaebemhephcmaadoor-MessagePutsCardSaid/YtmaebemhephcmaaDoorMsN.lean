/- The walk through package message's Get. -/
import Derived.Test.YtmaebemhephcmaaDoorMsMath2
namespace Go.Proofs.YtmaebemhephcmaaDoor.Ms
open Go.RowKit
set_option maxRecDepth 100000
set_option linter.unusedVariables false
attribute [local go_sem ↓] loadAt_msg storeAt_msg

theorem OwnM.inp {w : World} {B : Nat} {m : M} {A A' : Option Addr} {c c' : Nat} (h : OwnM w B m A c A' c') (hT : Tab w) (hs : Small m) : Inp w m A := ⟨hT, h.es.reads, hs⟩
theorem OwnM.below {w w' : World} {B : Nat} {m : M} {A A' : Option Addr} {c c' : Nat} (h : OwnM w B m A c A' c') (hb : Below w.heap.size w w') : OwnM w' B m A c A' c' :=
  ⟨h.num, (h.es.below hb).wide (Nat.le_refl _) hb.size, h.d.below hb, h.one, h.few⟩
theorem OwnM.weaken {w : World} {B B' : Nat} {m : M} {A A' : Option Addr} {c c' : Nat} (h : OwnM w B m A c A' c') (hB : B' ≤ B) : OwnM w B' m A c A' c' :=
  ⟨h.num, h.es.wide hB (Nat.le_refl _), h.d.weaken hB, h.one, h.few⟩
/-- .. and behind a store into a box ahead of what it leads to -/
theorem OwnM.turned {w w' : World} {B b : Nat} {m : M} {A A' : Option Addr} {c c' : Nat} (h : OwnM w B m A c A' c') (ht : Turned (fun k => k = b) w w') (hb : b < B) : OwnM w' B m A c A' c' :=
  ⟨h.num, (h.es.keep ht (fun k hk hB => by have := hB.1; omega)).wide (Nat.le_refl _) ht.size, h.d.turned ht (fun k hk e => by have := h.d.blkLt k hk; omega), h.one, h.few⟩
theorem get_frame {b : List Nat} {p : List Nat} {n e : Nat} (h : Fr.get b = (p, n, e)) (he : e ≠ 0) : get b = (M0, e) := by
  unfold get; rw [h, if_pos he]
theorem get_long {b : List Nat} {p : List Nat} {n : Nat} (h : Fr.get b = (p, n, 0)) (hn : n < b.length) : get b = (M0, 2) := by
  unfold get; rw [h, if_neg (by simp), if_pos hn]
theorem get_dec {b : List Nat} {p : List Nat} {n e : Nat} {m : M} (h : Fr.get b = (p, n, 0)) (hn : ¬ n < b.length) (hd : dec p = (m, e)) (he : e ≠ 0) : get b = (M0, e) := by
  unfold get checked; rw [h, if_neg (by simp), if_neg hn, hd, if_pos he]
theorem get_check {b : List Nat} {p : List Nat} {n : Nat} {m : M} (h : Fr.get b = (p, n, 0)) (hn : ¬ n < b.length) (hd : dec p = (m, 0)) (he : check m ≠ 0) : get b = (M0, check m) := by
  unfold get checked; rw [h, if_neg (by simp), if_neg hn, hd, if_neg (by simp), if_pos he]
theorem get_ok {b : List Nat} {p : List Nat} {n : Nat} {m : M} (h : Fr.get b = (p, n, 0)) (hn : ¬ n < b.length) (hd : dec p = (m, 0)) (he : check m = 0) : get b = (m, 0) := by
  unfold get checked; rw [h, if_neg (by simp), if_neg hn, hd, if_neg (by simp), if_neg (by simp [he])]
theorem get_zero {w0 w w' : World} {l : List Nat} {n : Nat} (hd : get l = (M0, n)) (hb : Below w.heap.size w w') :
    ∃ A c A' c', Ending.returned (.tuple #[.agg #[.int .i64 M0.K, .int .i64 M0.F, .int .i64 M0.T, .int .i64 M0.g, .int .i64 M0.t, .int .i64 M0.i, .int .i64 M0.p, .int .i64 M0.c, .int .i64 M0.r, .int .i64 M0.x, .int .i64 M0.a, .int .i64 M0.b, .int .i64 M0.v, .int .i64 M0.s, .bool M0.ok, .slice none M0.es.length 0, .slice none M0.d.length 0], .int .i64 (n : Int)]) = .returned (.tuple #[.agg #[.int .i64 ((get l).1).K, .int .i64 ((get l).1).F, .int .i64 ((get l).1).T, .int .i64 ((get l).1).g, .int .i64 ((get l).1).t, .int .i64 ((get l).1).i, .int .i64 ((get l).1).p, .int .i64 ((get l).1).c, .int .i64 ((get l).1).r, .int .i64 ((get l).1).x, .int .i64 ((get l).1).a, .int .i64 ((get l).1).b, .int .i64 ((get l).1).v, .int .i64 ((get l).1).s, .bool ((get l).1).ok, .slice A ((get l).1).es.length c, .slice A' ((get l).1).d.length c'], .int .i64 (((get l).2 : Nat) : Int)]) ∧ OwnM w' w.heap.size (get l).1 A c A' c' ∧ Below w.heap.size w w' := by
  rw [hd]; exact ⟨none, 0, none, 0, rfl, OwnM.zero _ _, hb⟩
theorem fr_short (b : List Nat) : (Fr.get b).1.length ≤ 65536 := by
  rcases Fr.get_cases b with h | ⟨h1, h2, h3, h4, h5⟩
  · rcases h with h | h | h <;> rw [h] <;> exact Nat.zero_le _
  · rw [h5]; show ((b.drop 8).take _).length ≤ _; rw [List.length_take]; omega
set_option maxHeartbeats 6400000 in
theorem get_any (l : List Nat) (A0 : Option Addr) (c0 n0 : Nat) (hn0 : l.length = n0) (w : World) (h : IsBytes w w.heap.size A0 l) (hn : A0 = none → c0 = 0) (hc : n0 ≤ c0) (hl : n0 ≤ 140737488355000) (hT : Tab w) :
    Calls Tryd.prog 22 #[.slice A0 n0 c0] w fun e w' => ∃ A c A' c', e = .returned (.tuple #[.agg #[.int .i64 ((get l).1).K, .int .i64 ((get l).1).F, .int .i64 ((get l).1).T, .int .i64 ((get l).1).g, .int .i64 ((get l).1).t, .int .i64 ((get l).1).i, .int .i64 ((get l).1).p, .int .i64 ((get l).1).c, .int .i64 ((get l).1).r, .int .i64 ((get l).1).x, .int .i64 ((get l).1).a, .int .i64 ((get l).1).b, .int .i64 ((get l).1).v, .int .i64 ((get l).1).s, .bool ((get l).1).ok, .slice A ((get l).1).es.length c, .slice A' ((get l).1).d.length c'], .int .i64 (((get l).2 : Nat) : Int)]) ∧ OwnM w' w.heap.size (get l).1 A c A' c' ∧ Below w.heap.size w w' := by
  obtain ⟨wA, hwA⟩ : ∃ wA, wA = w.alloc (.cells #[.int .i64 0, .int .i64 0, .int .i64 0, .int .i64 0, .int .i64 0, .int .i64 0, .int .i64 0, .int .i64 0, .int .i64 0, .int .i64 0, .int .i64 0, .int .i64 0, .int .i64 0, .int .i64 0, .bool false, .slice none 0 0, .slice none 0 0] 25) := ⟨_, rfl⟩
  have hsA : wA.heap.size = w.heap.size + 1 := by rw [hwA]; simp
  have hbA : Below w.heap.size w wA := by rw [hwA]; exact (Below.refl _ w).alloc (Nat.le_refl _) _
  have hzA : Zero wA w.heap.size := by rw [hwA]; exact heap_alloc_new w _
  have hpos := hT.pos
  obtain ⟨p, nn, ee, hg⟩ : ∃ p nn ee, Fr.get l = (p, nn, ee) := ⟨_, _, _, rfl⟩
  have hpl : p.length ≤ 65536 := by have := fr_short l; rw [hg] at this; exact this
  have HFR := hid (Frame.get_N wA.heap.size A0 c0 l n0 hn0 hl hc wA ((h.below hbA).more hbA.size) (Nat.le_refl _) hn p nn ee hg p.length rfl nn ee rfl rfl)
  have HG := hid hg
  have HN0 := hid hn0
  have HT := hid hT
  have HW := hid (And.intro hbA hzA)
  clear hg h hT hn hn0 hbA hzA
  go_enter Tryd.func22, Tryd.ntmps22
  go_wp2_with fail
  rw [← hwA]
  refine HFR.out.mono ?_
  rintro e w1 ⟨A1, c1, rfl, ho, hb1⟩
  have HB1 : Hid (Below w.heap.size w w1 ∧ Zero w1 w.heap.size ∧ OwnsB 5 w1 wA.heap.size A1 c1 p) := hid ⟨HW.out.1.trans (hb1.mono (by omega)), (hb1.block _ (by omega)).trans HW.out.2, ho⟩
  have hst1 := zero_st HB1.out.2.1
  have hw1 := hb1.size
  clear HFR ho hb1
  by_cases he : ee = 0
  · subst he
    by_cases hlong : nn < n0
    · have HD := hid (get_long HG.out (by rw [HN0.out]; exact hlong))
      go_wp2_with fail
      refine bodyPost_ret (results_msg rfl _ _ w.heap.size _ _ _ rfl HB1.out.2.1 rfl) rfl ?_
      exact get_zero (w0 := w) HD.out HB1.out.1
    · have HNL : Hid (¬ nn < l.length) := hid (by rw [HN0.out]; exact hlong)
      have hdec := decode_any p A1 c1 w1 HB1.out.2.2.reads HB1.out.2.2.none_ hpl (HT.out.below HB1.out.1 hpos)
      obtain ⟨m, e1, hd⟩ : ∃ m e1, dec p = (m, e1) := ⟨_, _, rfl⟩
      have hsm := dec_small p hpl
      rw [hd] at hdec hsm
      have HDC := hid hdec
      have HD := hid hd
      have HSM : Hid (Small m) := hid hsm
      clear hdec hd hsm hst1
      go_wp2_with fail
      refine HDC.out.mono ?_
      rintro e w2 ⟨A, c, A', c', rfl, hom, hb2⟩
      have hom2 : OwnM w2 w1.heap.size m A c A' c' := hom
      obtain ⟨w3, hw3⟩ : ∃ w3, w3 = w2.alloc (.cells #[.int .i64 m.K, .int .i64 m.F, .int .i64 m.T, .int .i64 m.g, .int .i64 m.t, .int .i64 m.i, .int .i64 m.p, .int .i64 m.c, .int .i64 m.r, .int .i64 m.x, .int .i64 m.a, .int .i64 m.b, .int .i64 m.v, .int .i64 m.s, .bool m.ok, .slice A m.es.length c, .slice A' m.d.length c'] 25) := ⟨_, rfl⟩
      have hb3 : Below w2.heap.size w2 w3 := by rw [hw3]; exact (Below.refl _ w2).alloc (Nat.le_refl _) _
      have hbx : Bx w3 w2.heap.size m A c A' c' := by rw [hw3]; exact ⟨heap_alloc_new w2 _⟩
      have hst2 := st_new w2 #[.int .i64 0, .int .i64 0, .int .i64 0, .int .i64 0, .int .i64 0, .int .i64 0, .int .i64 0, .int .i64 0, .int .i64 0, .int .i64 0, .int .i64 0, .int .i64 0, .int .i64 0, .int .i64 0, .bool false, .slice none 0 0, .slice none 0 0] #[.int .i64 m.K, .int .i64 m.F, .int .i64 m.T, .int .i64 m.g, .int .i64 m.t, .int .i64 m.i, .int .i64 m.p, .int .i64 m.c, .int .i64 m.r, .int .i64 m.x, .int .i64 m.a, .int .i64 m.b, .int .i64 m.v, .int .i64 m.s, .bool m.ok, .slice A m.es.length c, .slice A' m.d.length c'] rfl rfl (msg_one m A c A' c')
      rw [← hw3] at hst2
      have hw2 := hb2.size
      have hbw : Below w.heap.size w w3 := HB1.out.1.trans ((hb2.mono HB1.out.1.size).trans (hb3.mono (by have := HB1.out.1.size; omega)))
      have hz3 : Zero w3 w.heap.size := (hb3.block _ (by omega)).trans ((hb2.block _ (by omega)).trans HB1.out.2.1)
      have hom3 := hom2.below hb3
      have HX := hid (And.intro hbw (And.intro hz3 (And.intro hbx (And.intro hom3 hb3.size))))
      have hst3 := zero_st hz3
      have hld3 := hbx.load
      have HCK := hid (check_any m A c A' c' w3 (hom3.inp (HT.out.below hbw hpos) HSM.out))
      clear hom hom2 hb2 hb3 hbx hbw hz3 hom3 hw3
      show _
      simp only []
      by_cases he1 : e1 = 0
      · subst he1
        go_wp2_with fail
        refine HCK.out.mono ?_
        rintro e w4 ⟨rfl, hb4⟩
        have hz4 : Zero w4 w.heap.size := (hb4.block _ (by have := HX.out.2.2.2.2; omega)).trans HX.out.2.1
        have hst4 := zero_st hz4
        have HZ4 := hid (And.intro hz4 (HX.out.1.trans (hb4.mono HX.out.1.size)))
        by_cases hck : check m = 0
        · have HDD := hid (get_ok HG.out HNL.out HD.out hck)
          have hbx4 := HX.out.2.2.1.below hb4 (row_lt HX.out.2.2.1.row)
          have hld4 := hbx4.load
          have hst5 := st_row w4 w.heap.size _ #[.int .i64 m.K, .int .i64 m.F, .int .i64 m.T, .int .i64 m.g, .int .i64 m.t, .int .i64 m.i, .int .i64 m.p, .int .i64 m.c, .int .i64 m.r, .int .i64 m.x, .int .i64 m.a, .int .i64 m.b, .int .i64 m.v, .int .i64 m.s, .bool m.ok, .slice A m.es.length c, .slice A' m.d.length c'] hz4 rfl rfl (msg_one m A c A' c')
          have htu := set_turned w4 w.heap.size #[.int .i64 m.K, .int .i64 m.F, .int .i64 m.T, .int .i64 m.g, .int .i64 m.t, .int .i64 m.i, .int .i64 m.p, .int .i64 m.c, .int .i64 m.r, .int .i64 m.x, .int .i64 m.a, .int .i64 m.b, .int .i64 m.v, .int .i64 m.s, .bool m.ok, .slice A m.es.length c, .slice A' m.d.length c']
          have hro : (w4.setRow w.heap.size #[.int .i64 m.K, .int .i64 m.F, .int .i64 m.T, .int .i64 m.g, .int .i64 m.t, .int .i64 m.i, .int .i64 m.p, .int .i64 m.c, .int .i64 m.r, .int .i64 m.x, .int .i64 m.a, .int .i64 m.b, .int .i64 m.v, .int .i64 m.s, .bool m.ok, .slice A m.es.length c, .slice A' m.d.length c']).heap[w.heap.size]? = some (.cells #[.int .i64 m.K, .int .i64 m.F, .int .i64 m.T, .int .i64 m.g, .int .i64 m.t, .int .i64 m.i, .int .i64 m.p, .int .i64 m.c, .int .i64 m.r, .int .i64 m.x, .int .i64 m.a, .int .i64 m.b, .int .i64 m.v, .int .i64 m.s, .bool m.ok, .slice A m.es.length c, .slice A' m.d.length c'] 25 (0, 0)) := setRow_heap w4 w.heap.size _ _ _ _ hz4
          have hom5 := ((HX.out.2.2.2.1.below hb4).turned htu (by omega)).weaken (B' := w.heap.size) (by omega)
          have HE := hid (And.intro hro (And.intro hom5 (HZ4.out.2.trans (htu.below HZ4.out.2.size (fun k hk => by omega)))))
          rw [hck]
          clear hz4 hb4 hst4 htu hro hom5 hbx4 hck hst3 hst2 hld3
          generalize (w4.setRow w.heap.size #[.int .i64 m.K, .int .i64 m.F, .int .i64 m.T, .int .i64 m.g, .int .i64 m.t, .int .i64 m.i, .int .i64 m.p, .int .i64 m.c, .int .i64 m.r, .int .i64 m.x, .int .i64 m.a, .int .i64 m.b, .int .i64 m.v, .int .i64 m.s, .bool m.ok, .slice A m.es.length c, .slice A' m.d.length c']) = w9 at hst5 HE
          go_wp2_with fail
          refine bodyPost_ret (results_msg rfl _ _ w.heap.size _ _ _ rfl HE.out.1 rfl) rfl ?_
          rw [HDD.out]
          exact ⟨A, c, A', c', rfl, HE.out.2.1, HE.out.2.2⟩
        · have HDD := hid (get_check HG.out HNL.out HD.out hck)
          clear hz4 hb4 hst3 hst2 hld3
          go_wp2_with fail
          refine bodyPost_ret (results_msg rfl _ _ w.heap.size _ _ _ rfl HZ4.out.1 rfl) rfl ?_
          exact get_zero (w0 := w) HDD.out HZ4.out.2
      · have HDD := hid (get_dec HG.out HNL.out HD.out he1)
        go_wp2_with fail
        refine bodyPost_ret (results_msg rfl _ _ w.heap.size _ _ _ rfl HX.out.2.1 rfl) rfl ?_
        exact get_zero (w0 := w) HDD.out HX.out.1
  · have HD := hid (get_frame HG.out he)
    go_wp2_with fail
    refine bodyPost_ret (results_msg rfl _ _ w.heap.size _ _ _ rfl HB1.out.2.1 rfl) rfl ?_
    exact get_zero (w0 := w) HD.out HB1.out.1
end Go.Proofs.YtmaebemhephcmaaDoor.Ms
