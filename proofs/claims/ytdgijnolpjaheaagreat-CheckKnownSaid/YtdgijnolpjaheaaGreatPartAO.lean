/- Texts of the proof, one behind the other: RefPut04, RefDisk. -/
import Derived.Test.YtdgijnolpjaheaaGreatPartAN
import Derived.Test.YtdgijnolpjaheaaGreatPartAI
import Derived.Test.YtdgijnolpjaheaaGreatPartAM
import Derived.BigQuiet
namespace Go.Proofs.YtdgijnolpjaheaaGreat
open Go.RowKit

namespace Sx
theorem putGo_le (s : Sec) : ∀ (lb : Bool) (l : List Sec), (putGo s lb l).length ≤ l.length + 1
  | lb, [] => by unfold putGo; split <;> simp
  | lb, x :: r => by
    unfold putGo
    rw [List.length_append, List.length_append]
    have h := putGo_le s (lb || decide (s.no ≤ x.no)) r
    cases lb
    · by_cases h1 : s.no ≤ x.no
      · have h2 : (putGo s true r).length ≤ r.length := by
          clear h
          induction r with
          | nil => simp [putGo]
          | cons y r ih =>
            unfold putGo
            rw [Bool.true_or, List.length_append, List.length_append]
            simp only [Bool.not_true, Bool.false_and, Bool.false_eq_true, if_false, List.length_nil, List.length_cons]
            split <;> simp <;> omega
        simp only [Bool.not_false, Bool.true_and, h1, decide_true, if_true, Bool.false_or, List.length_cons, List.length_nil]
        split <;> simp <;> omega
      · simp only [Bool.not_false, Bool.true_and, h1, decide_false, Bool.false_eq_true, if_false, Bool.false_or, List.length_cons, List.length_nil] at h ⊢
        split <;> simp <;> omega
    · simp only [Bool.not_true, Bool.false_and, Bool.false_eq_true, if_false, Bool.true_or, List.length_cons, List.length_nil] at h ⊢
      split <;> simp <;> omega
theorem putGo_lay (s x : Sec) (r : List Sec) (h : s.no ≤ x.no) : putGo s false (x :: r) = s :: putGo s true (x :: r) := by
  conv => lhs; unfold putGo
  conv => rhs; unfold putGo
  simp [h]
theorem putGo_skip (s x : Sec) (r : List Sec) (h : x.no = s.no) : putGo s true (x :: r) = putGo s true r := by
  conv => lhs; unfold putGo
  simp [h]
theorem putGo_take (s x : Sec) (r : List Sec) (h : x.no ≠ s.no) : putGo s true (x :: r) = x :: putGo s true r := by
  conv => lhs; unfold putGo
  simp [h]
theorem putGo_ahead (s x : Sec) (r : List Sec) (h : x.no < s.no) : putGo s false (x :: r) = x :: putGo s false r := by
  conv => lhs; unfold putGo
  have h1 : ¬ s.no ≤ x.no := by omega
  have h2 : x.no ≠ s.no := by omega
  simp [h1, h2]
end Sx

/-- put, midway: what is out, and what the rest will come to -/
def PutMid (w1 : World) (Z : Nat → Prop) (M : List Sx.Sec) (s : Sx.Sec) (lb : Bool) (rest : List Sx.Sec) (v : Value) (wr : World) : Prop :=
  ∃ O, SecsAt wr Z v O ∧ (∀ k, v.ownBlock = some k → w1.heap.size ≤ k) ∧ Below w1.heap.size w1 wr ∧ O ++ Sx.putGo s lb rest = M
theorem PutMid.below {w1 wr w' : World} {Z : Nat → Prop} {M rest : List Sx.Sec} {s : Sx.Sec} {lb : Bool} {v : Value} (h : PutMid w1 Z M s lb rest v wr) (hb : Below wr.heap.size wr w') : PutMid w1 Z M s lb rest v w' := by
  obtain ⟨O, h1, h2, h3, h4⟩ := h
  exact ⟨O, h1.below hb, h2, h3.trans (hb.mono h3.size), h4⟩
theorem PutMid.re {w1 wr : World} {Z : Nat → Prop} {M rest rest' : List Sx.Sec} {s : Sx.Sec} {lb lb' : Bool} {v : Value} (h : PutMid w1 Z M s lb rest v wr) (he : Sx.putGo s lb rest = Sx.putGo s lb' rest') : PutMid w1 Z M s lb' rest' v wr := by
  obtain ⟨O, h1, h2, h3, h4⟩ := h
  exact ⟨O, h1, h2, h3, by rw [← he]; exact h4⟩
theorem PutMid.hb {w1 wr : World} {Z : Nat → Prop} {M rest : List Sx.Sec} {s : Sx.Sec} {lb : Bool} {v : Value} (h : PutMid w1 Z M s lb rest v wr) : Below w1.heap.size w1 wr := by
  obtain ⟨O, h1, h2, h3, h4⟩ := h
  exact h3
theorem SecsAt.atG {w : World} {Z : Nat → Prop} {L : List Sx.Sec} {g n c : Nat} (h : SecsAt w Z (.slice (some ⟨g, 0, none⟩) n c) L) (i : Nat) (hi : i < L.length) : ∃ A' c', w.cell? ⟨g, i * 3, none⟩ = some (.int .i64 (L[i].no : Nat)) ∧ w.cell? ⟨g, i * 3 + 1, none⟩ = some (.slice A' L[i].b.length c') ∧ w.cell? ⟨g, i * 3 + 2, none⟩ = some (.bool L[i].torn) ∧
    OwnsZ w Z A' c' L[i].b ∧ L[i].no ≤ 100000 ∧ L[i].b.length ≤ 64 := by
  obtain ⟨g', A', c', e, _, h⟩ := h.at_ i hi
  injection e with e
  injection e with e _ _
  subst e
  exact ⟨A', c', h⟩
/-- append of one more, midway -/
theorem wpList_mid {wr : World} {ops : Array Oper} {rest : List Oper} {o : Oper} {a : Act} {Q : Exit → Act → World → Prop} (hgd : o.guard = none) (s x : Operand)
    (ho : o.op = .call { callee := .builtin .append, args := #[s, x], argTypes := #[57, 57] })
    {w1 : World} {Z : Nat → Prop} {M l l' : List Sx.Sec} {sc y : Sx.Sec} {lb lb' : Bool} {v : Value} (hs : a.eval s = v) (h : PutMid w1 Z M sc lb l v wr) (he : Sx.putGo sc lb l = y :: Sx.putGo sc lb' l') (hM : M.length ≤ 100000) (hZ : ∀ k, Z k → k < w1.heap.size)
    (g : Nat) (c' : Nat) (A : Option Addr) (c : Nat) (hy : y.no ≤ 100000) (hyl : y.b.length ≤ 64) (hx : a.eval x = .slice (some ⟨g, 0, none⟩) 1 c')
    (h0 : wr.cell? ⟨g, 0, none⟩ = some (.int .i64 (y.no : Nat))) (h1 : wr.cell? ⟨g, 1, none⟩ = some (.slice A y.b.length c)) (h2 : wr.cell? ⟨g, 2, none⟩ = some (.bool y.torn)) (hA : OwnsZ wr Z A c y.b)
    (hK : ∀ v' w', PutMid w1 Z M sc lb' l' v' w' → wpList Tryz.prog ops Q rest (a.put o.dst v') w') :
    wpList Tryz.prog ops Q (o :: rest) a wr := by
  obtain ⟨O, p1, p2, p3, p4⟩ := h
  have hlen : O.length + 1 ≤ 100000 := by
    have := congrArg List.length p4
    rw [he] at this
    simp at this
    omega
  refine wpList_append_sec hgd s x ho Z (fun k hk => by have := hZ k hk; have := p3.size; omega) v O hs p1 g c' A c y hy hyl hx h0 h1 h2 hA (O ++ [y]) rfl hlen ?_
  intro v' w' h3 h4 h5
  refine hK v' w' ⟨O ++ [y], h3, fun k hk => ?_, p3.grown h4 p3.size (fun k hk => p2 k hk), by rw [← p4, he]; simp⟩
  rcases h5 with h5 | h5
  · exact p2 k (by rw [← h5]; exact hk)
  · rw [h5] at hk
    injection hk with hk
    have := p3.size
    omega

set_option maxRecDepth 100000 in
set_option maxHeartbeats 1600000 in
theorem secPut_any (Z : Nat → Prop) (A : Option Addr) (c n : Nat) (L : List Sx.Sec) (hL : L.length ≤ 20000) (s : Sx.Sec) (As : Option Addr) (cs : Nat) (hs1 : s.no ≤ 100000) (hs2 : s.b.length ≤ 64) (w : World) (hZ : ∀ k, Z k → k < w.heap.size) (h : SecsAt w Z (.slice A n c) L) (hA : OwnsZ w Z As cs s.b) :
    Calls Tryz.prog 58 #[.slice A n c, .agg #[.int .i64 (s.no : Nat), .slice As s.b.length cs, .bool s.torn]] w fun e w' => ∃ v, e = .returned v ∧ SecsAt w' Z v (Sx.putGo s false L) ∧ Below w.heap.size w w' := by
  obtain ⟨w1, hw1⟩ : ∃ w1, w1 = w.alloc (.cells #[.int .i64 (s.no : Nat), .slice As s.b.length cs, .bool s.torn] 71) := ⟨_, rfl⟩
  have hb1 : Below w.heap.size w w1 := by rw [hw1]; exact below_one _ _
  have hsz1 : w1.heap.size = w.heap.size + 1 := by rw [hw1]; simp
  have q0 : w1.cell? ⟨w.heap.size, 0, none⟩ = some (.int .i64 (s.no : Nat)) := by rw [hw1]; simp
  have q1 : w1.cell? ⟨w.heap.size, 1, none⟩ = some (.slice As s.b.length cs) := by rw [hw1]; simp
  have q2 : w1.cell? ⟨w.heap.size, 2, none⟩ = some (.bool s.torn) := by rw [hw1]; simp
  have hZ1 : ∀ k, Z k → k < w1.heap.size := fun k hk => by have := hZ k hk; omega
  have HIN := hid (And.intro (h.below hb1) (hA.keep (Turned.ofBelow Z hb1)))
  have HQ := hid (And.intro q0 (And.intro q1 q2))
  have HZ := hid hZ1
  have HB1 := hid hb1
  have hM : (Sx.putGo s false L).length ≤ 100000 := by have := Sx.putGo_le s false L; omega
  have HM := hid hM
  have HS : Hid (PutMid w1 Z (Sx.putGo s false L) s false (L.drop 0) (.slice none 0 0) w1) := hid ⟨[], SecsAt.nil _ _, (fun k hk => by cases (show (none : Option Nat) = some k from hk)), Below.refl _ _, rfl⟩
  have hlt0 : w.heap.size < w1.heap.size := by omega
  obtain ⟨bx, hbx⟩ : ∃ bx, bx = w.heap.size := ⟨_, rfl⟩
  have HBX : Hid (bx < w1.heap.size) := hid (by omega)
  have HW1 := hid hw1
  obtain ⟨vs, hvs, _⟩ := h.row
  obtain ⟨_, _, hnn⟩ := own_slice hvs
  have hn : n = L.length := by injection hnn
  subst hn
  clear hnn hvs hM hZ1 hb1 q0 q1 q2 h hA hZ hsz1 hlt0
  rw [← hbx] at HQ
  go_enter Tryz.func58, Tryz.ntmps58
  go_wp2_with fail
  rw [← HW1.out, ← hbx]
  clear hbx hw1
  go_loopw [5, 6, 7] (fun o lv iv wr => ∃ k : Nat, ∃ lb : Bool, k ≤ L.length ∧ iv = .int .i64 k ∧ lv = .bool lb ∧ Hid (PutMid w1 Z (Sx.putGo s false L) s lb (L.drop k) o wr)) (fun _ _ i _ => L.length - (RowKit.intOf i).toNat)
  case atStart => exact ⟨0, false, by omega, rfl, rfl, HS⟩
  case round =>
    clear HS
    obtain ⟨k, lb, hk, rfl, rfl, hP⟩ := hrel
    by_cases hlt : k < L.length
    · have hd := hid (List.drop_eq_getElem_cons hlt)
      have hk0 : (k : Int) < (L.length : Int) := by omega
      have hPr := hP
      have hBr := hPr.out.hb
      have hLr := HIN.out.1.below hBr
      obtain ⟨g, Ax, cx, rfl, _, d0, d1, d2, hOx, hx1, hx2⟩ := hLr.at_ k hlt
      have b0 := (hBr.cell HBX.out).trans HQ.out.1
      have b1 := (hBr.cell HBX.out).trans HQ.out.2.1
      have b2 := (hBr.cell HBX.out).trans HQ.out.2.2
      have hOs := HIN.out.2.keep (Turned.ofBelow Z hBr)
      cases lb
      · by_cases hc : s.no ≤ L[k].no
        · have hc' : (s.no : Int) ≤ (L[k].no : Int) := by omega
          have hcH := hid hc
          clear hc
          go_wp2_with fail
          go_quiet (fail)
          obtain ⟨wa, hwa⟩ : ∃ wz, wz = wr.drewN nq := ⟨_, rfl⟩
          rw [← hwa]
          have HPa : Hid (PutMid w1 Z (Sx.putGo s false L) s false (L.drop k) _ wa) := hid (by rw [hwa]; exact hPr.out.below (below_drewN (Below.refl _ _) nq))
          clear hwa hBr hLr d0 d1 d2 hOx b0 b1 b2 hOs
          have hBwa := HPa.out.hb
          have hLwa := HIN.out.1.below hBwa
          obtain ⟨Ax, cx, d0, d1, d2, hOx, hx1, hx2⟩ := hLwa.atG k hlt
          have b0 := (hBwa.cell HBX.out).trans HQ.out.1
          have b1 := (hBwa.cell HBX.out).trans HQ.out.2.1
          have b2 := (hBwa.cell HBX.out).trans HQ.out.2.2
          have hOs := HIN.out.2.keep (Turned.ofBelow Z hBwa)
          go_wp2_with (at_builtin; refine wpList_mid (y := s) (lb' := true) (l' := L[k] :: L.drop (k + 1)) rfl _ _ rfl rfl (HPa.out.below (below_one _ _)) (by rw [hd.out, Sx.putGo_lay s L[k] _ hcH.out]) HM.out HZ.out wa.heap.size 1 As cs hs1 hs2 rfl (by simp) (by simp) (by simp) (hOs.keep (Turned.ofBelow Z (below_one _ _))) ?_; intro vw5 w5 hpw5; have HP5x := hid hpw5; clear hpw5)
          have HP5 : Hid (PutMid w1 Z (Sx.putGo s false L) s true (L.drop k) _ w5) := hid (by rw [hd.out]; exact HP5x.out)
          clear HP5x hBwa hLwa d0 d1 d2 hOx b0 b1 b2 hOs
          have hBw5 := HP5.out.hb
          have hLw5 := HIN.out.1.below hBw5
          obtain ⟨Ax, cx, d0, d1, d2, hOx, hx1, hx2⟩ := hLw5.atG k hlt
          have b0 := (hBw5.cell HBX.out).trans HQ.out.1
          have b1 := (hBw5.cell HBX.out).trans HQ.out.2.1
          have b2 := (hBw5.cell HBX.out).trans HQ.out.2.2
          have hOs := HIN.out.2.keep (Turned.ofBelow Z hBw5)
          by_cases heq : L[k].no = s.no
          · have heq' : (L[k].no : Int) = (s.no : Int) := by omega
            have heqb : ((L[k].no : Int) != (s.no : Int)) = false := by simp [heq]
            go_quiet (fail)
            obtain ⟨w5q, hw5q⟩ : ∃ wz, wz = w5.drewN nq := ⟨_, rfl⟩
            rw [← hw5q]
            have HP5q : Hid (PutMid w1 Z (Sx.putGo s false L) s true (L.drop k) _ w5q) := hid (by rw [hw5q]; exact HP5.out.below (below_drewN (Below.refl _ _) nq))
            clear hw5q hBw5 hLw5 d0 d1 d2 hOx b0 b1 b2 hOs
            have HPz := hid (HP5q.out.re (by rw [hd.out, Sx.putGo_skip s L[k] _ heq]) : PutMid w1 Z (Sx.putGo s false L) s true (L.drop (k + 1)) _ _)
            clear heq
            go_wp2_with fail
            first
            | (refine ⟨⟨k + 1, true, by omega, by go_num, rfl, HPz⟩, by simp [RowKit.intOf]; omega⟩)
            | (go_roundw
               case rel => exact ⟨k + 1, true, by omega, by go_num, rfl, HPz⟩
               case measure => simp [RowKit.intOf]; omega)
          · have heq' : ¬ (L[k].no : Int) = (s.no : Int) := by omega
            have heqb : ((L[k].no : Int) != (s.no : Int)) = true := bne_iff_ne.2 heq'
            have heqH := hid heq
            clear heq
            go_quiet (fail)
            obtain ⟨w5q, hw5q⟩ : ∃ wz, wz = w5.drewN nq := ⟨_, rfl⟩
            rw [← hw5q]
            have HP5q : Hid (PutMid w1 Z (Sx.putGo s false L) s true (L.drop k) _ w5q) := hid (by rw [hw5q]; exact HP5.out.below (below_drewN (Below.refl _ _) nq))
            clear hw5q hBw5 hLw5 d0 d1 d2 hOx b0 b1 b2 hOs
            have hBw5q := HP5q.out.hb
            have hLw5q := HIN.out.1.below hBw5q
            obtain ⟨Ax, cx, d0, d1, d2, hOx, hx1, hx2⟩ := hLw5q.atG k hlt
            have b0 := (hBw5q.cell HBX.out).trans HQ.out.1
            have b1 := (hBw5q.cell HBX.out).trans HQ.out.2.1
            have b2 := (hBw5q.cell HBX.out).trans HQ.out.2.2
            have hOs := HIN.out.2.keep (Turned.ofBelow Z hBw5q)
            go_wp2_with (at_builtin; refine wpList_mid (y := L[k]) (lb' := true) (l' := L.drop (k + 1)) rfl _ _ rfl rfl (HP5q.out.below (below_one _ _)) (by rw [hd.out, Sx.putGo_take s L[k] _ heqH.out]) HM.out HZ.out w5q.heap.size 1 Ax cx hx1 hx2 rfl (by simp) (by simp) (by simp) (hOx.keep (Turned.ofBelow Z (below_one _ _))) ?_; intro vw8 w8 hpw8; have HP8 := hid hpw8; clear hpw8)
            first
            | (refine ⟨⟨k + 1, true, by omega, by go_num, rfl, HP8⟩, by simp [RowKit.intOf]; omega⟩)
            | (go_roundw
               case rel => exact ⟨k + 1, true, by omega, by go_num, rfl, HP8⟩
               case measure => simp [RowKit.intOf]; omega)
        · have hc' : ¬ (s.no : Int) ≤ (L[k].no : Int) := by omega
          have hcb : decide ((s.no : Int) ≤ (L[k].no : Int)) = false := decide_eq_false hc'
          have hcH : Hid (L[k].no < s.no) := hid (by omega)
          clear hc
          go_wp2_with fail
          go_quiet (fail)
          obtain ⟨wa, hwa⟩ : ∃ wz, wz = wr.drewN nq := ⟨_, rfl⟩
          rw [← hwa]
          have HPa : Hid (PutMid w1 Z (Sx.putGo s false L) s false (L.drop k) _ wa) := hid (by rw [hwa]; exact hPr.out.below (below_drewN (Below.refl _ _) nq))
          clear hwa hBr hLr d0 d1 d2 hOx b0 b1 b2 hOs
          have hBwa := HPa.out.hb
          have hLwa := HIN.out.1.below hBwa
          obtain ⟨Ax, cx, d0, d1, d2, hOx, hx1, hx2⟩ := hLwa.atG k hlt
          have b0 := (hBwa.cell HBX.out).trans HQ.out.1
          have b1 := (hBwa.cell HBX.out).trans HQ.out.2.1
          have b2 := (hBwa.cell HBX.out).trans HQ.out.2.2
          have hOs := HIN.out.2.keep (Turned.ofBelow Z hBwa)
          go_wp2_with fail
          have heq' : ¬ (L[k].no : Int) = (s.no : Int) := by omega
          have heqb : ((L[k].no : Int) != (s.no : Int)) = true := bne_iff_ne.2 heq'
          go_quiet (fail)
          obtain ⟨waq, hwaq⟩ : ∃ wz, wz = wa.drewN nq := ⟨_, rfl⟩
          rw [← hwaq]
          have HPaq : Hid (PutMid w1 Z (Sx.putGo s false L) s false (L.drop k) _ waq) := hid (by rw [hwaq]; exact HPa.out.below (below_drewN (Below.refl _ _) nq))
          clear hwaq hBwa hLwa d0 d1 d2 hOx b0 b1 b2 hOs
          have hBwaq := HPaq.out.hb
          have hLwaq := HIN.out.1.below hBwaq
          obtain ⟨Ax, cx, d0, d1, d2, hOx, hx1, hx2⟩ := hLwaq.atG k hlt
          have b0 := (hBwaq.cell HBX.out).trans HQ.out.1
          have b1 := (hBwaq.cell HBX.out).trans HQ.out.2.1
          have b2 := (hBwaq.cell HBX.out).trans HQ.out.2.2
          have hOs := HIN.out.2.keep (Turned.ofBelow Z hBwaq)
          go_wp2_with (at_builtin; refine wpList_mid (y := L[k]) (lb' := false) (l' := L.drop (k + 1)) rfl _ _ rfl rfl (HPaq.out.below (below_one _ _)) (by rw [hd.out, Sx.putGo_ahead s L[k] _ hcH.out]) HM.out HZ.out waq.heap.size 1 Ax cx hx1 hx2 rfl (by simp) (by simp) (by simp) (hOx.keep (Turned.ofBelow Z (below_one _ _))) ?_; intro vw8 w8 hpw8; have HP8 := hid hpw8; clear hpw8)
          first
          | (refine ⟨⟨k + 1, false, by omega, by go_num, rfl, HP8⟩, by simp [RowKit.intOf]; omega⟩)
          | (go_roundw
             case rel => exact ⟨k + 1, false, by omega, by go_num, rfl, HP8⟩
             case measure => simp [RowKit.intOf]; omega)
      · go_wp2_with fail
        go_quiet (fail)
        obtain ⟨wa, hwa⟩ : ∃ wz, wz = wr.drewN nq := ⟨_, rfl⟩
        rw [← hwa]
        have HPa : Hid (PutMid w1 Z (Sx.putGo s false L) s true (L.drop k) _ wa) := hid (by rw [hwa]; exact hPr.out.below (below_drewN (Below.refl _ _) nq))
        clear hwa hBr hLr d0 d1 d2 hOx b0 b1 b2 hOs
        have hBwa := HPa.out.hb
        have hLwa := HIN.out.1.below hBwa
        obtain ⟨Ax, cx, d0, d1, d2, hOx, hx1, hx2⟩ := hLwa.atG k hlt
        have b0 := (hBwa.cell HBX.out).trans HQ.out.1
        have b1 := (hBwa.cell HBX.out).trans HQ.out.2.1
        have b2 := (hBwa.cell HBX.out).trans HQ.out.2.2
        have hOs := HIN.out.2.keep (Turned.ofBelow Z hBwa)
        go_wp2_with fail
        by_cases heq : L[k].no = s.no
        · have heq' : (L[k].no : Int) = (s.no : Int) := by omega
          have heqb : ((L[k].no : Int) != (s.no : Int)) = false := by simp [heq]
          go_quiet (fail)
          obtain ⟨waq, hwaq⟩ : ∃ wz, wz = wa.drewN nq := ⟨_, rfl⟩
          rw [← hwaq]
          have HPaq : Hid (PutMid w1 Z (Sx.putGo s false L) s true (L.drop k) _ waq) := hid (by rw [hwaq]; exact HPa.out.below (below_drewN (Below.refl _ _) nq))
          clear hwaq hBwa hLwa d0 d1 d2 hOx b0 b1 b2 hOs
          have HPz := hid (HPaq.out.re (by rw [hd.out, Sx.putGo_skip s L[k] _ heq]) : PutMid w1 Z (Sx.putGo s false L) s true (L.drop (k + 1)) _ _)
          clear heq
          go_wp2_with fail
          first
          | (refine ⟨⟨k + 1, true, by omega, by go_num, rfl, HPz⟩, by simp [RowKit.intOf]; omega⟩)
          | (go_roundw
             case rel => exact ⟨k + 1, true, by omega, by go_num, rfl, HPz⟩
             case measure => simp [RowKit.intOf]; omega)
        · have heq' : ¬ (L[k].no : Int) = (s.no : Int) := by omega
          have heqb : ((L[k].no : Int) != (s.no : Int)) = true := bne_iff_ne.2 heq'
          have heqH := hid heq
          clear heq
          go_quiet (fail)
          obtain ⟨waq, hwaq⟩ : ∃ wz, wz = wa.drewN nq := ⟨_, rfl⟩
          rw [← hwaq]
          have HPaq : Hid (PutMid w1 Z (Sx.putGo s false L) s true (L.drop k) _ waq) := hid (by rw [hwaq]; exact HPa.out.below (below_drewN (Below.refl _ _) nq))
          clear hwaq hBwa hLwa d0 d1 d2 hOx b0 b1 b2 hOs
          have hBwaq := HPaq.out.hb
          have hLwaq := HIN.out.1.below hBwaq
          obtain ⟨Ax, cx, d0, d1, d2, hOx, hx1, hx2⟩ := hLwaq.atG k hlt
          have b0 := (hBwaq.cell HBX.out).trans HQ.out.1
          have b1 := (hBwaq.cell HBX.out).trans HQ.out.2.1
          have b2 := (hBwaq.cell HBX.out).trans HQ.out.2.2
          have hOs := HIN.out.2.keep (Turned.ofBelow Z hBwaq)
          go_wp2_with (at_builtin; refine wpList_mid (y := L[k]) (lb' := true) (l' := L.drop (k + 1)) rfl _ _ rfl rfl (HPaq.out.below (below_one _ _)) (by rw [hd.out, Sx.putGo_take s L[k] _ heqH.out]) HM.out HZ.out waq.heap.size 1 Ax cx hx1 hx2 rfl (by simp) (by simp) (by simp) (hOx.keep (Turned.ofBelow Z (below_one _ _))) ?_; intro vw8 w8 hpw8; have HP8 := hid hpw8; clear hpw8)
          first
          | (refine ⟨⟨k + 1, true, by omega, by go_num, rfl, HP8⟩, by simp [RowKit.intOf]; omega⟩)
          | (go_roundw
             case rel => exact ⟨k + 1, true, by omega, by go_num, rfl, HP8⟩
             case measure => simp [RowKit.intOf]; omega)
    · obtain rfl : k = L.length := by omega
      have hk1 : ¬ (L.length : Int) < (L.length : Int) := by omega
      have hdn : L.drop L.length = [] := List.drop_length
      rw [hdn] at hP
      clear hdn hlt hk
      cases lb
      · have hBr := hP.out.hb
        have b0 := (hBr.cell HBX.out).trans HQ.out.1
        have b1 := (hBr.cell HBX.out).trans HQ.out.2.1
        have b2 := (hBr.cell HBX.out).trans HQ.out.2.2
        have hOs := HIN.out.2.keep (Turned.ofBelow Z hBr)
        go_wp2_with (at_builtin; refine wpList_mid (y := s) (lb' := true) (l' := []) rfl _ _ rfl rfl (hP.out.below (below_one _ _)) rfl HM.out HZ.out wr.heap.size 1 As cs hs1 hs2 rfl (by simp) (by simp) (by simp) (hOs.keep (Turned.ofBelow Z (below_one _ _))) ?_; intro v5 w5 hp5; have HP5 := hid hp5; clear hp5)
        go_ret
        obtain ⟨O, h1, h2, h3, h4⟩ := HP5.out
        have h4 : O = Sx.putGo s false L := by rw [← h4]; simp [Sx.putGo]
        exact ⟨_, rfl, by rw [← h4]; exact h1, HB1.out.trans (h3.mono HB1.out.size)⟩
      · go_wp2_with fail
        go_ret
        obtain ⟨O, h1, h2, h3, h4⟩ := hP.out
        have h4 : O = Sx.putGo s false L := by rw [← h4]; simp [Sx.putGo]
        exact ⟨_, rfl, by rw [← h4]; exact h1, HB1.out.trans (h3.mono HB1.out.size)⟩
end Go.Proofs.YtdgijnolpjaheaaGreat
namespace Go.Proofs.YtdgijnolpjaheaaGreat
open Go.RowKit

namespace Sx
structure Xs where
  n : Nat
  left : Int
  off : Bool
  lasts : Nat → Option (List Nat × Bool)
  cache : Nat → Option (List Nat)
def Xs.cf (x : Xs) : Nat → Option (List Nat × Bool) := fun i => (x.cache i).map fun b => (b, false)
def Xs.ll (x : Xs) : List Sec := secs x.lasts 0 x.n
def Xs.cl (x : Xs) : List Sec := secs x.cf 0 x.n
def newX (n : Nat) : Xs := ⟨n, -1, false, fun _ => none, fun _ => none⟩
def doneS (x : Xs) : Xs := if x.left = 0 then { x with off := true } else if 0 < x.left then { x with left := x.left - 1 } else x
def armX (x : Xs) (n : Int) : Xs := { x with left := if n < 0 then -1 else n }
end Sx

/-- The document's disk x lies in block g; neither it nor its lists lie in a block of Z. -/
structure RefAt (w : World) (Z : Nat → Prop) (g : Nat) (x : Sx.Xs) : Prop where
  bound : 1 ≤ x.n ∧ x.n ≤ 16384
  off : ¬ Z g
  left : -1 ≤ x.left ∧ x.left ≤ 9223372036854775807
  disk : ∃ A1 n1 c1 A2 n2 c2, w.heap[g]? = some (.cells #[.int .i64 (x.n : Nat), .int .i64 x.left, .bool x.off, .slice A1 n1 c1, .slice A2 n2 c2] 59 (0, 0)) ∧ SecsAt w Z (.slice A1 n1 c1) x.ll ∧ SecsAt w Z (.slice A2 n2 c2) x.cl
namespace RefAt
variable {w w' : World} {Z Z' : Nat → Prop} {g : Nat} {x x' : Sx.Xs}
theorem lt (h : RefAt w Z g x) : g < w.heap.size := by
  obtain ⟨_, _, _, _, _, _, h1, _⟩ := h.disk
  exact (Array.getElem?_eq_some_iff.1 h1).1
theorem keep (h : RefAt w Z g x) (ht : Turned Z w w') : RefAt w' Z g x := by
  have hlt := h.lt
  obtain ⟨A1, n1, c1, A2, n2, c2, h1, h2, h3⟩ := h.disk
  exact ⟨h.bound, h.off, h.left, A1, n1, c1, A2, n2, c2, (ht.block g hlt h.off).trans h1, h2.keep ht, h3.keep ht⟩
theorem mono (h : RefAt w Z g x) (hz : ∀ k, Z' k → Z k) : RefAt w Z' g x := by
  obtain ⟨A1, n1, c1, A2, n2, c2, h1, h2, h3⟩ := h.disk
  exact ⟨h.bound, fun e => h.off (hz g e), h.left, A1, n1, c1, A2, n2, c2, h1, h2.mono hz, h3.mono hz⟩
theorem shun (h : RefAt w Z g x) : RefAt w (fun k => Z k ∨ w.heap.size ≤ k) g x := by
  have hlt := h.lt
  obtain ⟨A1, n1, c1, A2, n2, c2, h1, h2, h3⟩ := h.disk
  exact ⟨h.bound, fun e => e.elim h.off (fun e => by omega), h.left, A1, n1, c1, A2, n2, c2, h1, h2.shun, h3.shun⟩
theorem below (h : RefAt w Z g x) (hb : Below w.heap.size w w') : RefAt w' Z g x := h.keep (Turned.ofBelow _ hb)
theorem drewN (h : RefAt w Z g x) (n : Nat) : RefAt (w.drewN n) Z g x := h.below (below_drewN (Below.refl _ _) n)
theorem drew (h : RefAt w Z g x) : RefAt w.drew Z g x := h.below (Below.refl _ _).drew
theorem congr (h : RefAt w Z g x) (hn : x'.n = x.n) (hl : x'.left = x.left) (ho : x'.off = x.off) (h1 : ∀ i, i < x.n → x'.lasts i = x.lasts i) (h2 : ∀ i, i < x.n → x'.cache i = x.cache i) : RefAt w Z g x' := by
  have e1 : x'.ll = x.ll := by unfold Sx.Xs.ll; rw [hn]; exact Sx.secs_cong _ _ (fun i _ hi => h1 i (by omega))
  have e2 : x'.cl = x.cl := by unfold Sx.Xs.cl Sx.Xs.cf; rw [hn]; exact Sx.secs_cong _ _ (fun i _ hi => by rw [h2 i (by omega)])
  refine ⟨by rw [hn]; exact h.bound, h.off, by rw [hl]; exact h.left, ?_⟩
  rw [e1, e2, hn, hl, ho]
  exact h.disk
theorem frozen (h : RefAt w Z g x) (k : Nat) : w.frozen? ⟨g, k, none⟩ = false := by
  obtain ⟨A1, n1, c1, A2, n2, c2, h1, _⟩ := h.disk
  simp [World.frozen?, h1]
/-- its cells -/
theorem cells (h : RefAt w Z g x) : ∃ A1 c1 A2 c2, w.cell? ⟨g, 0, none⟩ = some (.int .i64 (x.n : Nat)) ∧ w.cell? ⟨g, 1, none⟩ = some (.int .i64 x.left) ∧ w.cell? ⟨g, 2, none⟩ = some (.bool x.off) ∧
    w.cell? ⟨g, 3, none⟩ = some (.slice A1 x.ll.length c1) ∧ w.cell? ⟨g, 4, none⟩ = some (.slice A2 x.cl.length c2) ∧ SecsAt w Z (.slice A1 x.ll.length c1) x.ll ∧ SecsAt w Z (.slice A2 x.cl.length c2) x.cl := by
  obtain ⟨A1, n1, c1, A2, n2, c2, h1, h2, h3⟩ := h.disk
  obtain ⟨A1', c1', e1⟩ := h2.slice
  obtain ⟨A2', c2', e2⟩ := h3.slice
  have e1 : n1 = x.ll.length := by injection e1
  have e2 : n2 = x.cl.length := by injection e2
  subst e1
  subst e2
  exact ⟨A1, c1, A2, c2, by simp [World.cell?, h1], by simp [World.cell?, h1], by simp [World.cell?, h1], by simp [World.cell?, h1], by simp [World.cell?, h1], h2, h3⟩
theorem len1 (x : Sx.Xs) : x.ll.length ≤ x.n := Sx.secs_length_le _ _ _
theorem len2 (x : Sx.Xs) : x.cl.length ≤ x.n := Sx.secs_length_le _ _ _
/-- the lists stay while its head is written -/
theorem secsHead (h : RefAt w Z g x) {v : Value} {L : List Sx.Sec} (hs : SecsAt w Z v L) (ht : Turned (fun k => k = g) w w') : SecsAt w' Z v L := by
  obtain ⟨A1, n1, c1, A2, n2, c2, h1, _⟩ := h.disk
  refine (((hs.shunTag h1 ?_ ?_).keep (ht.mono (fun _ h => .inr h))).mono (fun _ h => .inl h))
  · intro cur e
    have h3 := (Obj.cells.inj e).2.1
    revert h3; decide
  · intro cur e
    have h3 := (Obj.cells.inj e).2.1
    revert h3; decide
/-- the power is written -/
theorem head (h : RefAt w Z g x) (ht : Turned (fun k => k = g) w w') (hn : x'.n = x.n) (hl : x'.lasts = x.lasts) (hc : x'.cache = x.cache) (hb : -1 ≤ x'.left ∧ x'.left ≤ 9223372036854775807)
    (he : ∀ a b, w.heap[g]? = some (.cells #[.int .i64 (x.n : Nat), .int .i64 x.left, .bool x.off, a, b] 59 (0, 0)) → w'.heap[g]? = some (.cells #[.int .i64 (x.n : Nat), .int .i64 x'.left, .bool x'.off, a, b] 59 (0, 0))) : RefAt w' Z g x' := by
  have hd := h.disk
  obtain ⟨A1, n1, c1, A2, n2, c2, h1, h2, h3⟩ := hd
  have e1 : x'.ll = x.ll := by unfold Sx.Xs.ll; rw [hn, hl]
  have e2 : x'.cl = x.cl := by unfold Sx.Xs.cl Sx.Xs.cf; rw [hn, hc]
  refine ⟨by rw [hn]; exact h.bound, h.off, hb, A1, n1, c1, A2, n2, c2, by rw [hn]; exact he _ _ h1, ?_, ?_⟩
  · rw [e1]; exact h.secsHead h2 ht
  · rw [e2]; exact h.secsHead h3 ht
/-- a list is written: what is lasting -/
theorem setL (h : RefAt w Z g x) {A : Option Addr} {n c : Nat} (hs : SecsAt w Z (.slice A n c) x'.ll) (hn : x'.n = x.n) (hl : x'.left = x.left) (ho : x'.off = x.off) (hc : x'.cache = x.cache) :
    RefAt (w.setCell ⟨g, 3, none⟩ (.slice A n c)) Z g x' ∧ Turned (fun k => k = g) w (w.setCell ⟨g, 3, none⟩ (.slice A n c)) := by
  have ht : Turned (fun k => k = g) w (w.setCell ⟨g, 3, none⟩ (.slice A n c)) := Turned.one _ _ _ _
  obtain ⟨A1, n1, c1, A2, n2, c2, h1, h2, h3⟩ := h.disk
  have e2 : x'.cl = x.cl := by unfold Sx.Xs.cl Sx.Xs.cf; rw [hn, hc]
  refine ⟨⟨by rw [hn]; exact h.bound, h.off, by rw [hl]; exact h.left, A, n, c, A2, n2, c2, ?_, h.secsHead hs ht, by rw [e2]; exact h.secsHead h3 ht⟩, ht⟩
  rw [hn, hl, ho]
  simp [World.setCell, Array.getElem?_modify, h1]
/-- .. what the cache has -/
theorem setC (h : RefAt w Z g x) {A : Option Addr} {n c : Nat} (hs : SecsAt w Z (.slice A n c) x'.cl) (hn : x'.n = x.n) (hl : x'.left = x.left) (ho : x'.off = x.off) (hc : x'.lasts = x.lasts) :
    RefAt (w.setCell ⟨g, 4, none⟩ (.slice A n c)) Z g x' ∧ Turned (fun k => k = g) w (w.setCell ⟨g, 4, none⟩ (.slice A n c)) := by
  have ht : Turned (fun k => k = g) w (w.setCell ⟨g, 4, none⟩ (.slice A n c)) := Turned.one _ _ _ _
  obtain ⟨A1, n1, c1, A2, n2, c2, h1, h2, h3⟩ := h.disk
  have e2 : x'.ll = x.ll := by unfold Sx.Xs.ll; rw [hn, hc]
  refine ⟨⟨by rw [hn]; exact h.bound, h.off, by rw [hl]; exact h.left, A1, n1, c1, A, n, c, ?_, by rw [e2]; exact h.secsHead h2 ht, h.secsHead hs ht⟩, ht⟩
  rw [hn, hl, ho]
  simp [World.setCell, Array.getElem?_modify, h1]
end RefAt

theorem refNew_err (n : Int) (hn : n < 1 ∨ 16384 < n) (w : World) :
    Calls Tryz.prog 10 #[.int .i64 n] w fun e w' => e = .returned (.tuple #[.pointer none, .int .i64 3]) ∧ w' = w := by
  rcases hn with hn | hn
  · go_enter Tryz.func10, Tryz.ntmps10
    go_wp2
    go_ret2
    exact ⟨rfl, rfl⟩
  · have h1 : ¬ n < 1 := by omega
    go_enter Tryz.func10, Tryz.ntmps10
    go_wp2
    go_ret2
    exact ⟨rfl, rfl⟩
set_option maxRecDepth 100000 in
theorem refNew_any (n : Nat) (hn : 1 ≤ n ∧ n ≤ 16384) (w : World) :
    Calls Tryz.prog 10 #[.int .i64 (n : Int)] w fun e w' => ∃ g, e = .returned (.tuple #[.pointer (some ⟨g, 0, none⟩), .int .i64 0]) ∧ RefAt w' (fun k => k < w.heap.size) g (Sx.newX n) ∧ Below w.heap.size w w' := by
  obtain ⟨hn1, hn2⟩ := hn
  go_enter Tryz.func10, Tryz.ntmps10
  go_wp2
  go_ret2
  refine ⟨w.heap.size, rfl, ⟨⟨hn1, hn2⟩, fun e => Nat.lt_irrefl _ e, ⟨by show (-1 : Int) ≤ -1; omega, by show (-1 : Int) ≤ 9223372036854775807; omega⟩, none, 0, 0, none, 0, 0, ?_, ?_, ?_⟩, below_one _ _⟩
  · exact heap_alloc_new w _
  · have e : (Sx.newX n).ll = [] := Sx.secs_none _ _
    rw [e]; exact SecsAt.nil _ _
  · have e : (Sx.newX n).cl = [] := Sx.secs_none _ _
    rw [e]; exact SecsAt.nil _ _
theorem refArm_any (Z : Nat → Prop) (g : Nat) (x : Sx.Xs) (n : Int) (hn : InInt n) (w : World) (h : RefAt w Z g x) :
    Calls Tryz.prog 30 #[.pointer (some ⟨g, 0, none⟩), .int .i64 n] w fun e w' => e = .returned (.tuple #[]) ∧ RefAt w' Z g (Sx.armX x n) ∧ Turned (fun k => k = g) w w' := by
  obtain ⟨A1, c1', A2, c2', c0, c1, c2, c3, c4, _, _⟩ := h.cells
  have f1 := h.frozen 1
  have HH := hid h
  have HN := hid hn
  clear h hn
  by_cases h0 : n < 0
  · go_enter Tryz.func30, Tryz.ntmps30
    go_wp2
    go_end0
    have ht : Turned (fun j => j = g) w ((w.setCell ⟨g, 1, none⟩ (.int .i64 n)).setCell ⟨g, 1, none⟩ (.int .i64 (-1))) := Turned.two _ _ _ _ _ _
    have e : (Sx.armX x n).left = -1 := by unfold Sx.armX; simp [h0]
    refine ⟨rfl, HH.out.head ht rfl rfl rfl (by rw [e]; omega) (fun a b hd => ?_), ht⟩
    rw [e]
    simp [World.setCell, Array.getElem?_modify, hd, Sx.armX]
  · go_enter Tryz.func30, Tryz.ntmps30
    go_wp2
    go_end0
    have ht : Turned (fun j => j = g) w (w.setCell ⟨g, 1, none⟩ (.int .i64 n)) := Turned.one _ _ _ _
    have e : (Sx.armX x n).left = n := by show (if n < 0 then -1 else n) = n; rw [if_neg (by omega)]
    refine ⟨rfl, HH.out.head ht rfl rfl rfl (by rw [e]; have := HN.out.2; omega) (fun a b hd => ?_), ht⟩
    rw [e]
    simp [World.setCell, Array.getElem?_modify, hd, Sx.armX]
theorem refDone_any (Z : Nat → Prop) (g : Nat) (x : Sx.Xs) (w : World) (h : RefAt w Z g x) :
    Calls Tryz.prog 60 #[.pointer (some ⟨g, 0, none⟩)] w fun e w' => e = .returned (.bool (decide (x.left ≠ 0))) ∧ RefAt w' Z g (Sx.doneS x) ∧ Turned (fun k => k = g) w w' := by
  obtain ⟨A1, c1', A2, c2', c0, c1, c2, c3, c4, _, _⟩ := h.cells
  have f1 := h.frozen 1
  have f2 := h.frozen 2
  have HH := hid h
  have HB := hid h.left
  clear h
  by_cases h0 : x.left = 0
  · have e : Sx.doneS x = { x with off := true } := by unfold Sx.doneS; rw [if_pos h0]
    have e2 : decide (x.left ≠ 0) = false := by simp [h0]
    rw [e, e2]
    have H0 := hid h0
    rw [h0] at c1
    clear h0 e e2
    go_enter Tryz.func60, Tryz.ntmps60
    go_wp2
    go_ret
    have ht : Turned (fun j => j = g) w (w.setCell ⟨g, 2, none⟩ (.bool true)) := Turned.one _ _ _ _
    refine ⟨rfl, HH.out.head ht rfl rfl rfl HB.out (fun a b hd => ?_), ht⟩
    simp [World.setCell, Array.getElem?_modify, hd]
  · have e2 : decide (x.left ≠ 0) = true := by simp [h0]
    rw [e2]
    by_cases h1 : 0 < x.left
    · have e : Sx.doneS x = { x with left := x.left - 1 } := by unfold Sx.doneS; rw [if_neg h0, if_pos h1]
      rw [e]
      have H1 := hid h1
      clear e e2
      obtain ⟨hb1, hb2⟩ := HB.out
      go_enter Tryz.func60, Tryz.ntmps60
      go_wp2
      go_ret
      have e0 : wrap64 (x.left - 1) = x.left - 1 := IntWalk.wrap64_in (x.left - 1) ⟨by omega, by omega⟩
      first
      | (rw [e0]
         have ht : Turned (fun j => j = g) w (w.setCell ⟨g, 1, none⟩ (.int .i64 (x.left - 1))) := Turned.one _ _ _ _
         refine ⟨rfl, HH.out.head ht rfl rfl rfl ⟨by show -1 ≤ x.left - 1; omega, by show x.left - 1 ≤ 9223372036854775807; omega⟩ (fun a b hd => ?_), ht⟩
         simp [World.setCell, Array.getElem?_modify, hd])
      | (have ht : Turned (fun j => j = g) w (w.setCell ⟨g, 1, none⟩ (.int .i64 (x.left - 1))) := Turned.one _ _ _ _
         refine ⟨rfl, HH.out.head ht rfl rfl rfl ⟨by show -1 ≤ x.left - 1; omega, by show x.left - 1 ≤ 9223372036854775807; omega⟩ (fun a b hd => ?_), ht⟩
         simp [World.setCell, Array.getElem?_modify, hd])
    · have e : Sx.doneS x = x := by unfold Sx.doneS; rw [if_neg h0, if_neg h1]
      rw [e]
      clear e e2
      go_enter Tryz.func60, Tryz.ntmps60
      go_wp2
      go_ret
      exact ⟨rfl, HH.out, Turned.refl _ _⟩
theorem find_any (Z : Nat → Prop) (A : Option Addr) (c n : Nat) (L : List Sx.Sec) (hl : L.length ≤ 20000) (i : Int) (w : World) (h : SecsAt w Z (.slice A n c) L) (hn : n = L.length) :
    Calls Tryz.prog 62 #[.slice A n c, .int .i64 i] w fun e w' => (∃ r, e = .returned (.int .i64 r) ∧ ((∃ (k : Nat) (hk : k < L.length), r = k ∧ (L[k].no : Int) = i) ∨ (r = -1 ∧ ∀ x ∈ L, (x.no : Int) ≠ i))) ∧ w' = w := by
  subst hn
  have HH := hid h
  clear h
  go_enter Tryz.func62, Tryz.ntmps62
  go_wp2_with fail
  go_loopw [5] (fun iv wr => ∃ k : Nat, k ≤ L.length ∧ iv = .int .i64 k ∧ Hid (∀ x ∈ L.take k, (x.no : Int) ≠ i) ∧ wr = w) (fun i _ => L.length - (RowKit.intOf i).toNat)
  case atStart => exact ⟨0, by omega, rfl, hid (by simp), rfl⟩
  case round =>
    obtain ⟨k, hk, rfl, hS, rfl⟩ := hrel
    by_cases hlt : k < L.length
    · obtain ⟨g, A', c', rfl, _, d0, d1, d2, _, hx1, _⟩ := HH.out.at_ k hlt
      have hk0 : (k : Int) < (L.length : Int) := by omega
      by_cases h1 : (L[k].no : Int) = i
      · have H1 := hid h1
        rw [h1] at d0
        clear h1
        go_wp2
        go_ret
        refine ⟨⟨_, rfl, .inl ⟨k, ?_⟩⟩, rfl⟩
        first
        | exact ⟨hlt, rfl, H1.out⟩
        | exact ⟨rfl, hlt, H1.out⟩
      · have hS' : ∀ x ∈ L.take (k + 1), (x.no : Int) ≠ i := by
          intro x hx
          rw [List.take_succ_eq_append_getElem hlt] at hx
          rcases List.mem_append.1 hx with hx | hx
          · exact hS.out x hx
          · rw [List.mem_singleton.1 hx]; exact h1
        have HS := hid hS'
        clear hS'
        go_wp2
        go_roundw
        case rel => exact ⟨k + 1, by omega, by go_num, HS, trivial⟩
        case measure => simp [RowKit.intOf]; omega
    · obtain rfl : k = L.length := by omega
      have hS1 := hS.out
      rw [List.take_length] at hS1
      have HS := hid hS1
      clear hS1
      go_wp2
      go_ret
      exact ⟨⟨_, rfl, .inr ⟨rfl, HS.out⟩⟩, rfl⟩
end Go.Proofs.YtdgijnolpjaheaaGreat
