/- Texts of the proof, one behind the other: ImPlH, ImAscV, ImBsV, ImOwnV, ImPlV, ImEachH, ImOwnIm, ImApply. -/
import Derived.Test.YtaeoccpjdjafnaaImageApartPartAE
import Derived.Deep.CutRange
import Derived.Test.YtaeoccpjdjafnaaImageApartPartAB
import Derived.Deep.RegionHeld3
import Derived.Test.YtaeoccpjdjafnaaImageApartPartAD
import Derived.Test.YtaeoccpjdjafnaaImageApartPartAC
namespace Go.Proofs.Ytaeoccpjdjafnaa.Im
open Go Go.RowKit
set_option maxRecDepth 100000
set_option linter.unusedVariables false
attribute [local go_sem ↓] loadAt_hard storeAt_hard
def ins {α : Type} (lt : α → α → Bool) (L : List α) (x : α) : List α := L.filter (fun y => lt y x) ++ x :: L.filter (fun y => lt x y)
theorem ins_at {α : Type} {lt : α → α → Bool} (ht : ∀ a b c, lt a b = true → lt b c = true → lt a c = true) (hi : ∀ a, lt a a = false) {L : List α} {x : α} (hasc : asc lt L = true) {k : Nat} (h : At lt L x k) {f : Bool} (hf : f = true ↔ ∃ h : k < L.length, (∀ y, lt y L[k] = lt y x) ∧ ∀ y, lt L[k] y = lt x y) (hno : ∀ y, lt y x = false → lt x y = false → (∀ z, lt z y = lt z x) ∧ ∀ z, lt y z = lt x z) :
    L.take k ++ x :: (if f = true then L.drop (k + 1) else L.drop k) = ins lt L x := by
  have has : ∀ a b, lt a b = true → lt b a = false := fun a b hab => by
    rcases hb : lt b a with _ | _
    · rfl
    · have := ht a b a hab hb
      rw [hi] at this; cases this
  have hlt := asc_lt lt ht L hasc
  have e1 : (L.take k).filter (fun y => lt y x) = L.take k := List.filter_eq_self.2 (fun y hy => by
    obtain ⟨i, hi, rfl⟩ := List.getElem_of_mem hy
    rw [List.length_take] at hi
    rw [List.getElem_take]
    exact h.ahead i (by omega) (by omega))
  have e2 : (L.drop k).filter (fun y => lt y x) = [] := List.filter_eq_nil_iff.2 (fun y hy => by
    obtain ⟨i, hi, rfl⟩ := List.getElem_of_mem hy
    rw [List.length_drop] at hi
    rw [List.getElem_drop, h.behind (k + i) (by omega) (by omega)]
    exact Bool.false_ne_true)
  have e3 : (L.take k).filter (fun y => lt x y) = [] := List.filter_eq_nil_iff.2 (fun y hy => by
    obtain ⟨i, hi, rfl⟩ := List.getElem_of_mem hy
    rw [List.length_take] at hi
    rw [List.getElem_take, has _ _ (h.ahead i (by omega) (by omega))]
    exact Bool.false_ne_true)
  have e4 : (L.drop k).filter (fun y => lt x y) = if f = true then L.drop (k + 1) else L.drop k := by
    by_cases hk : k < L.length
    · rw [List.drop_eq_getElem_cons hk]
      have hrest : ∀ (hx : ∀ j (hj : j < L.length), k < j → lt x L[j] = true), (L.drop (k + 1)).filter (fun y => lt x y) = L.drop (k + 1) := fun hx => List.filter_eq_self.2 (fun y hy => by
        obtain ⟨i, hi, rfl⟩ := List.getElem_of_mem hy
        rw [List.length_drop] at hi
        rw [List.getElem_drop]
        exact hx (k + 1 + i) (by omega) (by omega))
      by_cases hff : f = true
      · obtain ⟨_, h1, h2⟩ := hf.1 hff
        rw [if_pos hff, List.filter_cons_of_neg (by rw [← h2, hi]; exact Bool.false_ne_true)]
        exact hrest (fun j hj hkj => by rw [← h2]; exact hlt k j hk hj hkj)
      · have hx : lt x L[k] = true := by
          rcases hb : lt x L[k] with _ | _
          · exact absurd (hf.2 ⟨hk, hno _ (h.behind k hk (Nat.le_refl _)) hb⟩) hff
          · rfl
        rw [if_neg hff, List.filter_cons_of_pos hx, hrest (fun j hj hkj => ht _ _ _ hx (hlt k j hk hj hkj))]
    · have h0 : L.drop k = [] := List.drop_of_length_le (by omega)
      have h1 : L.drop (k + 1) = [] := List.drop_of_length_le (by omega)
      rw [h0, h1]
      simp
  unfold ins
  conv => rhs; rw [show L = L.take k ++ L.drop k from (List.take_append_drop k L).symm]
  rw [List.filter_append, List.filter_append, e1, e2, e3, e4, List.append_nil, List.nil_append]
theorem ltH_irr (a : Hd) : ltH a a = false := by simp [ltH]
theorem ltH_no (x y : Hd) (h1 : ltH y x = false) (h2 : ltH x y = false) : (∀ z, ltH z y = ltH z x) ∧ ∀ z, ltH y z = ltH x z := by
  simp [ltH] at h1 h2
  have : x.g = y.g := by omega
  exact ⟨fun z => by simp [ltH, this], fun z => by simp [ltH, this]⟩
set_option maxHeartbeats 6400000 in
theorem placedH_any (A : Option Addr) (c : Nat) (Q : List Hq) (n : Nat) (hn : Q.length = n) (hnn : n ≤ 40000) (hc : n ≤ c ∧ c ≤ maxLen) (hnil : A = none → c = 0) (x : Hd) (ad : Ad) (hasc : asc ltH (Q.map (·.h)) = true) (B N0 : Nat) (w : World) (hB : B ≤ w.heap.size) (hN : N0 ≤ w.heap.size) (h : IsHds w B A Q) (hpx : ∀ W, Turned (fun k => B ≤ k ∧ k < N0) w W → IsPt W W.heap.size x.p ad) (hnx : InInt x.g ∧ InInt x.t ∧ InInt x.v) :
    Calls Try.prog 31 #[.slice A n c, .agg #[.int .i64 x.g, .int .i64 x.t, .int .i64 x.v, .int .i64 x.p.log.base, .int .i64 x.p.log.term, .slice ad.e x.p.log.es.length ad.ce, .slice ad.o x.p.cf.old.length ad.co, .slice ad.n x.p.cf.new.length ad.cn, .slice ad.l x.p.cf.lrn.length ad.cl, .slice ad.s x.p.sn.length ad.cs], .func (.func 29) #[] #[]] w fun e w' => ∃ A' c' m, e = .returned (.slice A' m c') ∧ (∃ Q' : List Hq, Q'.map (·.h) = ins ltH (Q.map (·.h)) x ∧ (m = Q'.length ∧ m ≤ n + 1) ∧ (∀ W, Turned (fun k => B ≤ k ∧ k < N0) w' W → IsHds W W.heap.size A' Q') ∧ (A' = none → c' = 0) ∧ (m ≤ c' ∧ c' ≤ maxLen)) ∧ Below w.heap.size w w' := by
  obtain ⟨w1, hw1⟩ : ∃ w1, w1 = w.alloc (.cells #[.int .i64 x.g, .int .i64 x.t, .int .i64 x.v, .int .i64 x.p.log.base, .int .i64 x.p.log.term, .slice ad.e x.p.log.es.length ad.ce, .slice ad.o x.p.cf.old.length ad.co, .slice ad.n x.p.cf.new.length ad.cn, .slice ad.l x.p.cf.lrn.length ad.cl, .slice ad.s x.p.sn.length ad.cs] 59) := ⟨_, rfl⟩
  have hb1 : Below w.heap.size w w1 := by rw [hw1]; exact (Below.refl _ w).alloc (Nat.le_refl _) _
  have hr1 : w1.heap[w.heap.size]? = some (.cells #[.int .i64 x.g, .int .i64 x.t, .int .i64 x.v, .int .i64 x.p.log.base, .int .i64 x.p.log.term, .slice ad.e x.p.log.es.length ad.ce, .slice ad.o x.p.cf.old.length ad.co, .slice ad.n x.p.cf.new.length ad.cn, .slice ad.l x.p.cf.lrn.length ad.cl, .slice ad.s x.p.sn.length ad.cs] 59 (0, 0)) := by rw [hw1]; exact heap_alloc_new w _
  have HB := hid (bsH_any B A c Q n hn (by omega) x ad hasc w1 (h.below (hb1.mono hB)) (Nat.le_trans hB hb1.size))
  have HBN := hid (And.intro hB hN)
  clear hB hN
  obtain ⟨b0, hb0⟩ : ∃ b, b = w.heap.size := ⟨_, rfl⟩
  have l1 := ldRow info_hard Try.underlying59 rfl hr1 rfl
  rw [hw1] at l1
  have H1 := hid (And.intro hb1 (And.intro hr1 hb0))
  have HH := hid (And.intro h (And.intro hn (And.intro hc (And.intro hnil hasc))))
  have HX := hid (And.intro hpx hnx)
  clear hpx hnx
  have hc1 := hc.1
  have hc2 := hc.2
  unfold maxLen at hc2
  clear hb1 hr1 h hn hnil hc hasc
  go_enter Try.func31, Try.ntmps31
  go_wp2_with fail
  rw [← hw1, ← hb0]
  clear hw1 hb0
  refine HB.out.mono ?_
  rintro e w2 ⟨k, f, rfl, hat, hf, hb2⟩
  have hkn : k ≤ n := by have := hat.le; have := HH.out.2.1; rw [List.length_map] at *; omega
  have H2 := hid (And.intro hat (And.intro hf hb2))
  have bk0 : (0 : Int) ≤ (k : Int) := by omega
  have bk1 : (k : Int) ≤ (n : Int) := by omega
  have bk2 : (k : Int) ≤ (c : Int) := by omega
  have h0 : w2.heap[b0]? = some (.cells #[.int .i64 x.g, .int .i64 x.t, .int .i64 x.v, .int .i64 x.p.log.base, .int .i64 x.p.log.term, .slice ad.e x.p.log.es.length ad.ce, .slice ad.o x.p.cf.old.length ad.co, .slice ad.n x.p.cf.new.length ad.cn, .slice ad.l x.p.cf.lrn.length ad.cl, .slice ad.s x.p.sn.length ad.cs] 59 (0, 0)) := (hb2.block b0 (by rw [H1.out.2.2]; exact row_lt H1.out.2.1)).trans (by rw [H1.out.2.2]; exact H1.out.2.1)
  have l2 : (ldX 59 (.pointer (some ⟨b0, 0, none⟩))).run Try.prog w2 = .ok (.agg #[.int .i64 x.g, .int .i64 x.t, .int .i64 x.v, .int .i64 x.p.log.base, .int .i64 x.p.log.term, .slice ad.e x.p.log.es.length ad.ce, .slice ad.o x.p.cf.old.length ad.co, .slice ad.n x.p.cf.new.length ad.cn, .slice ad.l x.p.cf.lrn.length ad.cl, .slice ad.s x.p.sn.length ad.cs]) w2 := ldRow info_hard Try.underlying59 rfl h0 rfl
  have m2 : (ldX 59 (.pointer (some ⟨b0, 0, none⟩))).run Try.prog w2.drew = .ok (.agg #[.int .i64 x.g, .int .i64 x.t, .int .i64 x.v, .int .i64 x.p.log.base, .int .i64 x.p.log.term, .slice ad.e x.p.log.es.length ad.ce, .slice ad.o x.p.cf.old.length ad.co, .slice ad.n x.p.cf.new.length ad.cn, .slice ad.l x.p.cf.lrn.length ad.cl, .slice ad.s x.p.sn.length ad.cs]) w2.drew := ldRow info_hard Try.underlying59 rfl (show w2.drew.heap[b0]? = _ from h0) rfl
  have LD : Hid (∀ W, Below w2.heap.size w2 W → (ldX 59 (.pointer (some ⟨b0, 0, none⟩))).run Try.prog W = .ok (.agg #[.int .i64 x.g, .int .i64 x.t, .int .i64 x.v, .int .i64 x.p.log.base, .int .i64 x.p.log.term, .slice ad.e x.p.log.es.length ad.ce, .slice ad.o x.p.cf.old.length ad.co, .slice ad.n x.p.cf.new.length ad.cn, .slice ad.l x.p.cf.lrn.length ad.cl, .slice ad.s x.p.sn.length ad.cs]) W) := hid (fun W hb => ldRow info_hard Try.underlying59 rfl ((hb.block _ (row_lt h0)).trans h0) rfl)
  have hb02 : Below w.heap.size w w2 := H1.out.1.trans (hb2.mono H1.out.1.size)
  have hrow2 : IsRow cellsH 10 w2 w2.heap.size A Q := (HH.out.1.row.below (hb02.mono HBN.out.1)).more (Nat.le_trans HBN.out.1 hb02.size)
  have CC : Hid (∀ (Ab : Option Addr) (nb cb : Nat) (R : List Hq), nb = R.length → nb ≤ n → IsRow cellsH 10 w2 w2.heap.size Ab R → (Ab = none → cb = 0) →
      Calls Try.prog 61 #[.slice (some ⟨w2.heap.size + 1, 0, none⟩) 3 3] (((w2.alloc (.cells #[.int .i64 x.g, .int .i64 x.t, .int .i64 x.v, .int .i64 x.p.log.base, .int .i64 x.p.log.term, .slice ad.e x.p.log.es.length ad.ce, .slice ad.o x.p.cf.old.length ad.co, .slice ad.n x.p.cf.new.length ad.cn, .slice ad.l x.p.cf.lrn.length ad.cl, .slice ad.s x.p.sn.length ad.cs] 59)).alloc (.cells #[.slice A k c, .slice (some ⟨w2.heap.size, 0, none⟩) 1 1, .slice Ab nb cb] 22)).drew) fun e w' => ∃ A' c' m, e = .returned (.slice A' m c') ∧ m = (Q.take k ++ (⟨x, ad⟩ : Hq) :: R).length ∧ RowIn cellsH 10 59 w' (fun k => w2.heap.size ≤ k) A' c' (Q.take k ++ (⟨x, ad⟩ : Hq) :: R) ∧ Below w2.heap.size w2 w') := hid (by
    intro Ab nb cb R hnb hnn2 hR hz
    obtain ⟨W, hW⟩ : ∃ W, W = ((w2.alloc (.cells #[.int .i64 x.g, .int .i64 x.t, .int .i64 x.v, .int .i64 x.p.log.base, .int .i64 x.p.log.term, .slice ad.e x.p.log.es.length ad.ce, .slice ad.o x.p.cf.old.length ad.co, .slice ad.n x.p.cf.new.length ad.cn, .slice ad.l x.p.cf.lrn.length ad.cl, .slice ad.s x.p.sn.length ad.cs] 59)).alloc (.cells #[.slice A k c, .slice (some ⟨w2.heap.size, 0, none⟩) 1 1, .slice Ab nb cb] 22)).drew := ⟨_, rfl⟩
    have hbW : Below w2.heap.size w2 W := by rw [hW]; exact (((Below.refl _ w2).alloc (Nat.le_refl _) _).alloc (by simp) _).drew
    have hsW : W.heap.size = w2.heap.size + 2 := by rw [hW]; simp
    have r0 : W.heap[w2.heap.size]? = some (.cells #[.int .i64 x.g, .int .i64 x.t, .int .i64 x.v, .int .i64 x.p.log.base, .int .i64 x.p.log.term, .slice ad.e x.p.log.es.length ad.ce, .slice ad.o x.p.cf.old.length ad.co, .slice ad.n x.p.cf.new.length ad.cn, .slice ad.l x.p.cf.lrn.length ad.cl, .slice ad.s x.p.sn.length ad.cs] 59 (0, 0)) := by
      rw [hW]; show (((w2.alloc _).alloc _)).heap[w2.heap.size]? = _
      rw [heap_alloc_old _ _ (by simp)]; exact heap_alloc_new w2 _
    have r1 : W.heap[w2.heap.size + 1]? = some (.cells #[.slice A k c, .slice (some ⟨w2.heap.size, 0, none⟩) 1 1, .slice Ab nb cb] 22 (0, 0)) := by
      have := heap_alloc_new (w2.alloc (.cells #[.int .i64 x.g, .int .i64 x.t, .int .i64 x.v, .int .i64 x.p.log.base, .int .i64 x.p.log.term, .slice ad.e x.p.log.es.length ad.ce, .slice ad.o x.p.cf.old.length ad.co, .slice ad.n x.p.cf.new.length ad.cn, .slice ad.l x.p.cf.lrn.length ad.cl, .slice ad.s x.p.sn.length ad.cs] 59)) (.cells #[.slice A k c, .slice (some ⟨w2.heap.size, 0, none⟩) 1 1, .slice Ab nb cb] 22)
      rw [World.size_alloc] at this
      rw [hW]; exact this
    have hkq : (Q.take k).length = k := by rw [List.length_take]; have := HH.out.2.1; omega
    have hS : SRows cellsH 10 W W.heap.size (w2.heap.size + 1) [Q.take k, [(⟨x, ad⟩ : Hq)], R] := by
      refine ⟨fun i hi => ?_⟩
      match i, hi with
      | 0, _ => exact ⟨A, c, by rw [row_cell r1 0]; simp [hkq], (hrow2.take k |>.below hbW).more hbW.size, HH.out.2.2.2.1⟩
      | 1, _ => exact ⟨some ⟨w2.heap.size, 0, none⟩, 1, by rw [row_cell r1 1]; simp, ⟨fun i hi => ⟨w2.heap.size, 0, rfl, by omega, fun j hj t v hv => by
          obtain rfl : j = 0 := by simpa using hj
          have := range_row (cs := cellsH (⟨x, ad⟩ : Hq)) r0 t v hv
          simpa using this⟩⟩, fun e => by cases e⟩
      | 2, _ => exact ⟨Ab, cb, by rw [row_cell r1 2]; simp [hnb], (hR.below hbW).more hbW.size, hz⟩
    have hfl : [Q.take k, [(⟨x, ad⟩ : Hq)], R].flatten = Q.take k ++ (⟨x, ad⟩ : Hq) :: R := by simp
    have hcl := concatH_any W.heap.size (w2.heap.size + 1) [Q.take k, [(⟨x, ad⟩ : Hq)], R] 3 3 rfl (by omega) (by rw [hfl, List.length_append, List.length_cons, hkq]; omega) W hS (by omega) (Nat.le_refl _)
    rw [hfl] at hcl
    rw [← hW]
    refine hcl.mono ?_
    rintro e w' ⟨A', c', m, rfl, hm, hr, hb⟩
    exact ⟨A', c', m, rfl, hm, hr.mono (fun j hj => by have := hr.blk j hj; omega), hbW.trans (hb.mono (by omega))⟩)
  have FIN : Hid (∀ (R : List Hq) (w3 : World) (A' : Option Addr) (c' m : Nat), R = (if f = true then Q.drop (k + 1) else Q.drop k) → m = (Q.take k ++ (⟨x, ad⟩ : Hq) :: R).length → RowIn cellsH 10 59 w3 (fun k => w2.heap.size ≤ k) A' c' (Q.take k ++ (⟨x, ad⟩ : Hq) :: R) → Below w2.heap.size w2 w3 →
      (∃ Q' : List Hq, Q'.map (·.h) = ins ltH (Q.map (·.h)) x ∧ (m = Q'.length ∧ m ≤ n + 1) ∧ (∀ W, Turned (fun k => B ≤ k ∧ k < N0) w3 W → IsHds W W.heap.size A' Q') ∧ (A' = none → c' = 0) ∧ (m ≤ c' ∧ c' ≤ maxLen)) ∧ Below w.heap.size w w3) := hid (by
    intro R w3 A' c' m hR hm hr hb
    have hbw := hb02.trans (hb.mono hb02.size)
    have hRl : R.length ≤ n - k := by rw [hR]; split <;> rw [List.length_drop] <;> have := HH.out.2.1 <;> omega
    have hkq : (Q.take k).length = k := by rw [List.length_take]; have := HH.out.2.1; omega
    have hRs : ∀ q ∈ R, q ∈ Q := fun q hq => by
      rw [hR] at hq
      split at hq <;> exact List.mem_of_mem_drop hq
    have hcap := hr.cap
    rw [← hm] at hcap
    have hz02 := hb02.size
    have hBN := HBN.out
    have hzw := hbw.size
    refine ⟨⟨Q.take k ++ (⟨x, ad⟩ : Hq) :: R, ?_, ⟨hm, by rw [hm, List.length_append, List.length_cons, hkq]; omega⟩, fun W hT => ⟨RowIn.isRow (hr.keep hT (fun k hk e => by have := hr.blk k hk; omega)), fun q hq => by
      rcases List.mem_append.1 hq with h | h
      · exact st_pt (HH.out.1.pt q (List.mem_of_mem_take h)) hBN.1 hbw W hT
      · rcases List.mem_cons.1 h with rfl | h
        · exact HX.out.1 W ((Turned.ofBelow _ hbw).trans hT)
        · exact st_pt (HH.out.1.pt q (hRs q h)) hBN.1 hbw W hT, fun q hq => by
      rcases List.mem_append.1 hq with h | h
      · exact HH.out.1.num q (List.mem_of_mem_take h)
      · rcases List.mem_cons.1 h with rfl | h
        · exact HX.out.2
        · exact HH.out.1.num q (hRs q h)⟩, hr.none_, ⟨hcap, hr.capLe⟩⟩, hbw⟩
    have := ins_at (f := f) ltH_trans ltH_irr HH.out.2.2.2.2 H2.out.1 (by
      rw [H2.out.2.1]
      constructor
      · rintro ⟨h, e⟩
        exact ⟨by simpa using h, fun y => by simp [ltH, e], fun y => by simp [ltH, e]⟩
      · rintro ⟨h, e1, e2⟩
        have h' : k < Q.length := by simpa using h
        refine ⟨h', ?_⟩
        have q1 := e1 x
        have q2 := e2 x
        rw [List.getElem_map] at q1 q2
        simp [ltH] at q1 q2
        omega) (fun y => ltH_no x y)
    rw [← this, hR]
    rw [List.map_append, List.map_cons, List.map_take]; split <;> simp)
  clear hat hf hb2 l1 h0 hb02
  have HRW := hid hrow2
  clear hrow2
  have hz2 : (Below.refl w2.heap.size w2).size = (Below.refl w2.heap.size w2).size := rfl
  cases f with
  | false =>
    by_cases hck : c = k
    · have bn : n - k = 0 := by omega
      have bc : c - k = 0 := by omega
      have CC1 := hid (CC.out A 0 0 [] rfl (Nat.zero_le _) IsRow.nil (fun _ => rfl))
      have hR1 : Hid ([] = if false = true then Q.drop (k + 1) else Q.drop k) := hid (by rw [if_neg Bool.false_ne_true, List.drop_of_length_le]; have := HH.out.2.1; omega)
      subst hck
      go_wp2_with fail
      go_region_held3 (fun W => (ldX 59 (.pointer (some ⟨b0, 0, none⟩))).run Try.prog W = .ok (.agg #[.int .i64 x.g, .int .i64 x.t, .int .i64 x.v, .int .i64 x.p.log.base, .int .i64 x.p.log.term, .slice ad.e x.p.log.es.length ad.ce, .slice ad.o x.p.cf.old.length ad.co, .slice ad.n x.p.cf.new.length ad.cn, .slice ad.l x.p.cf.lrn.length ad.cl, .slice ad.s x.p.sn.length ad.cs]) W)
        (first | with_reducible exact l2 | with_reducible exact m2 | with_reducible exact e3 | exact LD.out _ ((Below.refl _ w2).drew.alloc (Nat.le_refl _) _) | exact LD.out _ ((Below.refl _ w2).alloc (Nat.le_refl _) _).drew | exact LD.out _ (((Below.refl _ w2).drew.alloc (Nat.le_refl _) _).alloc (by simp) _) | exact LD.out _ (((Below.refl _ w2).alloc (Nat.le_refl _) _).alloc (by simp) _).drew | fail)
        (first
          | (go_at_call 61; refine CC1.out.mono ?_; rintro e w3 ⟨A3, c3, m3, rfl, hm3, hr3, hb3⟩; have e3 := LD.out w3 hb3; have H3 := hid (And.intro hm3 (And.intro hr3 hb3)); clear hm3 hr3 hb3)
          | fail)
      all_goals
        go_wp2_with fail
        go_ret
        exact ⟨A3, c3, m3, rfl, FIN.out _ w3 A3 c3 m3 hR1.out H3.out.1 H3.out.2.1 H3.out.2.2⟩
    · have bn : k ≤ n := hkn
      have CC1 := hid (CC.out (A.map (fun x => x.add (k * 10))) (n - k) (c - k) (Q.drop k) (by rw [List.length_drop, HH.out.2.1]) (by omega) (by have := IsRow.sl HRW.out (c := c) (i := k) (by rw [HH.out.2.1]; exact hc1); rwa [if_neg hck] at this) (fun e => by
        rcases A with _ | a
        · have := HH.out.2.2.2.1 rfl; omega
        · cases e))
      have hR1 : Hid (Q.drop k = if false = true then Q.drop (k + 1) else Q.drop k) := hid (by rw [if_neg Bool.false_ne_true])
      go_wp2_with fail
      go_region_held3 (fun W => (ldX 59 (.pointer (some ⟨b0, 0, none⟩))).run Try.prog W = .ok (.agg #[.int .i64 x.g, .int .i64 x.t, .int .i64 x.v, .int .i64 x.p.log.base, .int .i64 x.p.log.term, .slice ad.e x.p.log.es.length ad.ce, .slice ad.o x.p.cf.old.length ad.co, .slice ad.n x.p.cf.new.length ad.cn, .slice ad.l x.p.cf.lrn.length ad.cl, .slice ad.s x.p.sn.length ad.cs]) W)
        (first | with_reducible exact l2 | with_reducible exact m2 | with_reducible exact e3 | exact LD.out _ ((Below.refl _ w2).drew.alloc (Nat.le_refl _) _) | exact LD.out _ ((Below.refl _ w2).alloc (Nat.le_refl _) _).drew | exact LD.out _ (((Below.refl _ w2).drew.alloc (Nat.le_refl _) _).alloc (by simp) _) | exact LD.out _ (((Below.refl _ w2).alloc (Nat.le_refl _) _).alloc (by simp) _).drew | fail)
        (first
          | (go_at_call 61; refine CC1.out.mono ?_; rintro e w3 ⟨A3, c3, m3, rfl, hm3, hr3, hb3⟩; have e3 := LD.out w3 hb3; have H3 := hid (And.intro hm3 (And.intro hr3 hb3)); clear hm3 hr3 hb3)
          | fail)
      all_goals
        go_wp2_with fail
        go_ret
        exact ⟨A3, c3, m3, rfl, FIN.out _ w3 A3 c3 m3 hR1.out H3.out.1 H3.out.2.1 H3.out.2.2⟩
  | true =>
    have hkl : k < n := by
      obtain ⟨h, _⟩ := H2.out.2.1.1 rfl
      have := HH.out.2.1
      omega
    have hck : ¬ c = k := by omega
    obtain ⟨b, off, rfl, _, _⟩ := HRW.out.at_ k (by rw [HH.out.2.1]; exact hkl)
    have hsl := IsRow.from HRW.out (k + 1)
    have b1 : (1 : Int) ≤ (n : Int) - (k : Int) := by omega
    have b2 : (1 : Int) ≤ (c : Int) - (k : Int) := by omega
    have hR1 : Hid (Q.drop (k + 1) = if true = true then Q.drop (k + 1) else Q.drop k) := hid (by rw [if_pos rfl])
    by_cases hc1k : c - k = 1
    · have hnk : n - k - 1 = 0 := by omega
      have CC1 := hid (CC.out (some ⟨b, off + k * 10, none⟩) (n - k - 1) 0 (Q.drop (k + 1)) (by rw [List.length_drop, HH.out.2.1]; omega) (by omega) (by rw [List.drop_of_length_le (by rw [HH.out.2.1]; omega)]; exact IsRow.nil) (fun e => by cases e))
      clear hsl hnk
      go_wp2_with fail
      go_region_held3 (fun W => (ldX 59 (.pointer (some ⟨b0, 0, none⟩))).run Try.prog W = .ok (.agg #[.int .i64 x.g, .int .i64 x.t, .int .i64 x.v, .int .i64 x.p.log.base, .int .i64 x.p.log.term, .slice ad.e x.p.log.es.length ad.ce, .slice ad.o x.p.cf.old.length ad.co, .slice ad.n x.p.cf.new.length ad.cn, .slice ad.l x.p.cf.lrn.length ad.cl, .slice ad.s x.p.sn.length ad.cs]) W)
        (first | with_reducible exact l2 | with_reducible exact m2 | with_reducible exact e3 | exact LD.out _ ((Below.refl _ w2).drew.alloc (Nat.le_refl _) _) | exact LD.out _ ((Below.refl _ w2).alloc (Nat.le_refl _) _).drew | exact LD.out _ (((Below.refl _ w2).drew.alloc (Nat.le_refl _) _).alloc (by simp) _) | exact LD.out _ (((Below.refl _ w2).alloc (Nat.le_refl _) _).alloc (by simp) _).drew | fail)
        (first
          | (go_at_call 61; refine CC1.out.mono ?_; rintro e w3 ⟨A3, c3, m3, rfl, hm3, hr3, hb3⟩; have e3 := LD.out w3 hb3; have H3 := hid (And.intro hm3 (And.intro hr3 hb3)); clear hm3 hr3 hb3)
          | fail)
      all_goals
        go_wp2_with fail
        go_ret
        exact ⟨A3, c3, m3, rfl, FIN.out _ w3 A3 c3 m3 hR1.out H3.out.1 H3.out.2.1 H3.out.2.2⟩
    · have CC1 := hid (CC.out (some ⟨b, off + k * 10 + 10, none⟩) (n - k - 1) (c - k - 1) (Q.drop (k + 1)) (by rw [List.length_drop, HH.out.2.1]; omega) (by omega) (by rw [Nat.succ_mul, ← Nat.add_assoc] at hsl; exact hsl) (fun e => by cases e))
      clear hsl
      go_wp2_with fail
      go_region_held3 (fun W => (ldX 59 (.pointer (some ⟨b0, 0, none⟩))).run Try.prog W = .ok (.agg #[.int .i64 x.g, .int .i64 x.t, .int .i64 x.v, .int .i64 x.p.log.base, .int .i64 x.p.log.term, .slice ad.e x.p.log.es.length ad.ce, .slice ad.o x.p.cf.old.length ad.co, .slice ad.n x.p.cf.new.length ad.cn, .slice ad.l x.p.cf.lrn.length ad.cl, .slice ad.s x.p.sn.length ad.cs]) W)
        (first | with_reducible exact l2 | with_reducible exact m2 | with_reducible exact e3 | exact LD.out _ ((Below.refl _ w2).drew.alloc (Nat.le_refl _) _) | exact LD.out _ ((Below.refl _ w2).alloc (Nat.le_refl _) _).drew | exact LD.out _ (((Below.refl _ w2).drew.alloc (Nat.le_refl _) _).alloc (by simp) _) | exact LD.out _ (((Below.refl _ w2).alloc (Nat.le_refl _) _).alloc (by simp) _).drew | fail)
        (first
          | (go_at_call 61; refine CC1.out.mono ?_; rintro e w3 ⟨A3, c3, m3, rfl, hm3, hr3, hb3⟩; have e3 := LD.out w3 hb3; have H3 := hid (And.intro hm3 (And.intro hr3 hb3)); clear hm3 hr3 hb3)
          | fail)
      all_goals
        go_wp2_with fail
        go_ret
        exact ⟨A3, c3, m3, rfl, FIN.out _ w3 A3 c3 m3 hR1.out H3.out.1 H3.out.2.1 H3.out.2.2⟩
end Go.Proofs.Ytaeoccpjdjafnaa.Im
namespace Go.Proofs.Ytaeoccpjdjafnaa.Im
open Go.RowKit
open Rl (En Lg)
open Qu (Cf)
set_option maxRecDepth 100000
set_option linter.unusedVariables false
attribute [local go_sem ↓] loadAt_hard storeAt_hard loadAt_vote storeAt_vote loadAt_change storeAt_change
theorem orT_lt (x y : Vt) : (0 ≤ orI [cmpI x.x y.x, cmpI x.p y.p]) = ¬ (ltV x y = true) := by
  unfold orI orI orI ltV cmpI
  apply propext
  by_cases h1 : x.x < y.x
  · simp [h1]
  · by_cases h2 : y.x < x.x
    · have h3 : ¬ x.x = y.x := by omega
      simp [h1, h2, h3]
    · have h3 : x.x = y.x := by omega
      by_cases h4 : x.p < y.p
      · simp [h3, h4]
      · by_cases h5 : y.p < x.p
        · simp [h3, h4, h5]
        · simp [h3, h4, h5]
set_option maxHeartbeats 3200000 in
theorem ascV_any (B : Nat) (A : Option Addr) (c : Nat) (Q : List Vt) (n : Nat) (hn : Q.length = n) (hnn : n ≤ 100000000) (w : World) (h : IsVs w B A Q) (hB : B ≤ w.heap.size) :
    Calls Try.prog 52 #[.slice A n c, .func (.func 33) #[] #[]] w fun e w' => e = .returned (.bool (asc ltV (Q))) ∧ Below w.heap.size w w' := by
  have HA := hid (asc_iff ltV (Q))
  have HH := hid (And.intro h (And.intro hn hB))
  clear h hn hB
  go_enter Try.func52, Try.ntmps52
  go_wp2_with fail
  go_loopw [5] (fun i wr => ∃ k : Nat, k ≤ n ∧ i = .int .i64 ((k : Int) + 1) ∧ Hid (Below w.heap.size w wr ∧ ∀ j (hj : j + 1 < Q.length), j < k → ltV (Q[j]'(by omega)) (Q[j + 1]'hj) = true)) (fun i _ => n + 1 - (RowKit.intOf i).toNat)
  case atStart => exact ⟨0, Nat.zero_le _, rfl, hid ⟨Below.refl _ w, fun j hj hlt => absurd hlt (Nat.not_lt_zero _)⟩⟩
  case round =>
    obtain ⟨k, hk, rfl, HK⟩ := hrel
    by_cases hlt : k + 1 < n
    · have hQ : k + 1 < Q.length := by rw [HH.out.2.1]; exact hlt
      have hI := HH.out.1.below (HK.out.1.mono HH.out.2.2)
      obtain ⟨b, off, hA, hbb, hcs⟩ := hI.row.at_ k (by omega)
      subst hA
      obtain ⟨x, hx⟩ : ∃ x, x = Q[k]'(by omega) := ⟨_, rfl⟩
      obtain ⟨y, hy⟩ : ∃ y, y = Q[k + 1]'hQ := ⟨_, rfl⟩
      have hr0 := hcs k (by omega)
      have hr1 := hcs (k + 1) hQ
      rw [← hx] at hr0
      rw [← hy] at hr1
      have l0 : (ldX 34 (.pointer (some ⟨b, off + k * 5, none⟩))).run Try.prog wr = .ok (.agg #[.int .i64 x.x, .int .i64 x.p, .int .i64 x.r, .int .i64 x.b, .int .i64 x.v]) wr := ldV wr b (off + k * 5) (cellsV x) rfl hr0
      have l1 : (ldX 34 (.pointer (some ⟨b, off + (k + 1) * 5, none⟩))).run Try.prog wr = .ok (.agg #[.int .i64 y.x, .int .i64 y.p, .int .i64 y.r, .int .i64 y.b, .int .i64 y.v]) wr := ldV wr b (off + (k + 1) * 5) (cellsV y) rfl hr1
      have m0 : (ldX 34 (.pointer (some ⟨b, off + k * 5, none⟩))).run Try.prog wr.drew = .ok (.agg #[.int .i64 x.x, .int .i64 x.p, .int .i64 x.r, .int .i64 x.b, .int .i64 x.v]) wr.drew := ldV wr.drew b (off + k * 5) (cellsV x) rfl hr0
      have m1 : (ldX 34 (.pointer (some ⟨b, off + (k + 1) * 5, none⟩))).run Try.prog wr.drew = .ok (.agg #[.int .i64 y.x, .int .i64 y.p, .int .i64 y.r, .int .i64 y.b, .int .i64 y.v]) wr.drew := ldV wr.drew b (off + (k + 1) * 5) (cellsV y) rfl hr1
      have HST : Hid (∀ j (hj : j + 1 < Q.length), j < k + 1 → ltV x y = true → ltV (Q[j]'(by omega)) (Q[j + 1]'hj) = true) := hid (by
        intro j hj hlt2 hxy
        by_cases e : j = k
        · subst e; rw [← hx, ← hy]; exact hxy
        · exact HK.out.2 j hj (by omega))
      have HNO : Hid (¬ ltV x y = true → asc ltV (Q) = false) := hid (by
        intro hno
        rw [Bool.eq_false_iff]
        intro hb
        have := HA.out.1 hb k (by simpa using hQ)
        rw [← hx, ← hy] at this
        exact absurd this hno)
      have hbw0 : b < wr.heap.size := by have := HH.out.2.2; have := HK.out.1.size; omega
      have LD : Hid (∀ W, Below wr.heap.size wr W → (ldX 34 (.pointer (some ⟨b, off + k * 5, none⟩))).run Try.prog W = .ok (.agg #[.int .i64 x.x, .int .i64 x.p, .int .i64 x.r, .int .i64 x.b, .int .i64 x.v]) W ∧ (ldX 34 (.pointer (some ⟨b, off + (k + 1) * 5, none⟩))).run Try.prog W = .ok (.agg #[.int .i64 y.x, .int .i64 y.p, .int .i64 y.r, .int .i64 y.b, .int .i64 y.v]) W) := hid (fun W hb =>
        ⟨ldV W b (off + k * 5) (cellsV x) rfl (fun j v hv => (hb.cell (p := ⟨b, off + k * 5 + j, none⟩) hbw0).trans (hr0 j v hv)), ldV W b (off + (k + 1) * 5) (cellsV y) rfl (fun j v hv => (hb.cell (p := ⟨b, off + (k + 1) * 5 + j, none⟩) hbw0).trans (hr1 j v hv))⟩)
      have hbw : Below w.heap.size w wr.drew := HK.out.1.drew
      have HBW := hid hbw
      clear hbw
      have w0 : (k : Int) + 1 - 1 = (k : Int) := by omega
      have w1 : IntKind.i64.wrap (k : Int) = (k : Int) := by rw [IntKind.wrap_i64]; omega
      have w2 : IntKind.i64.wrap ((k : Int) + 1 - 1) = (k : Int) := by rw [IntKind.wrap_i64]; omega
      have b3 : (0 : Int) ≤ (k : Int) + 1 := by omega
      have t0 : ((k : Int) + 1).toNat = k + 1 := by omega
      have b0 : (0 : Int) ≤ (k : Int) := by omega
      have b1 : (k : Int) < (n : Int) := by omega
      have b2 : (k : Int) + 1 < (n : Int) := by omega
      clear hI hcs hr0 hr1 hx hy hQ
      go_wp2_with fail
      go_region_held3 (fun W => (ldX 34 (.pointer (some ⟨b, off + k * 5, none⟩))).run Try.prog W = .ok (.agg #[.int .i64 x.x, .int .i64 x.p, .int .i64 x.r, .int .i64 x.b, .int .i64 x.v]) W ∧ (ldX 34 (.pointer (some ⟨b, off + (k + 1) * 5, none⟩))).run Try.prog W = .ok (.agg #[.int .i64 y.x, .int .i64 y.p, .int .i64 y.r, .int .i64 y.b, .int .i64 y.v]) W)
        (first | with_reducible exact ⟨l0, l1⟩ | with_reducible exact ⟨m0, m1⟩ | with_reducible exact e3 | fail)
        (first
          | (go_at_call 33; refine (byTP_any x y _).mono ?_; rintro e w3 ⟨rfl, hb3⟩; have HB3 := hid (HBW.out.trans (hb3.mono HBW.out.size)); have e3 : (ldX 34 (.pointer (some ⟨b, off + k * 5, none⟩))).run Try.prog w3 = .ok (.agg #[.int .i64 x.x, .int .i64 x.p, .int .i64 x.r, .int .i64 x.b, .int .i64 x.v]) w3 ∧ (ldX 34 (.pointer (some ⟨b, off + (k + 1) * 5, none⟩))).run Try.prog w3 = .ok (.agg #[.int .i64 y.x, .int .i64 y.p, .int .i64 y.r, .int .i64 y.b, .int .i64 y.v]) w3 := LD.out w3 ((Below.refl _ wr).drew.trans hb3); clear hb3))
      all_goals
        clear l0 l1 m0 m1 e3
        by_cases hxy : ltV x y = true
        · have hd : decide (0 ≤ orI [cmpI x.x y.x, cmpI x.p y.p]) = false := by simp only [orT_lt, hxy]; simp
          rw [hd]
          have HN : Hid (∀ j (hj : j + 1 < Q.length), j < k + 1 → ltV (Q[j]'(by omega)) (Q[j + 1]'hj) = true) := hid (fun j hj h2 => HST.out j hj h2 hxy)
          go_wp2_with fail
          go_roundw
          case rel => exact ⟨k + 1, by omega, by go_num, hid ⟨HB3.out, HN.out⟩⟩
          case measure => simp [RowKit.intOf]; omega
        · have hd : decide (0 ≤ orI [cmpI x.x y.x, cmpI x.p y.p]) = true := by simp only [orT_lt, hxy]; simp
          rw [hd]
          have HN := hid (HNO.out hxy)
          go_wp2_with fail
          go_ret
          rw [HN.out]
          exact ⟨rfl, HB3.out⟩
    · have HF : Hid (asc ltV (Q) = true) := hid (by
        refine HA.out.2 (fun i hi => ?_)
        have hn := HH.out.2.1
        have := HK.out.2 i hi (by omega)
        exact this)
      have b1 : ¬ ((k : Int) + 1 < (n : Int)) := by omega
      go_wp2_with fail
      go_ret
      rw [HF.out]
      exact ⟨rfl, HK.out.1⟩
end Go.Proofs.Ytaeoccpjdjafnaa.Im
namespace Go.Proofs.Ytaeoccpjdjafnaa.Im
open Go Go.RowKit
set_option maxRecDepth 100000
set_option linter.unusedVariables false
attribute [local go_sem ↓] loadAt_vote storeAt_vote
theorem or_neg (y x : Vt) : decide (orI [cmpI y.x x.x, cmpI y.p x.p] < 0) = ltV y x := by
  unfold orI orI orI ltV cmpI
  by_cases h1 : y.x < x.x
  · simp [h1]
  · by_cases h2 : x.x < y.x
    · have h3 : ¬ y.x = x.x := by omega
      simp [h1, h2, h3]
    · have h3 : y.x = x.x := by omega
      by_cases h4 : y.p < x.p
      · simp [h3, h4]
      · by_cases h5 : x.p < y.p
        · simp [h3, h4, h5]
        · simp [h3, h4, h5]
theorem or_zero (y x : Vt) : (orI [cmpI y.x x.x, cmpI y.p x.p] == 0) = true ↔ y.x = x.x ∧ y.p = x.p := by
  unfold orI orI orI cmpI
  by_cases h1 : y.x < x.x
  · have h3 : ¬ y.x = x.x := by omega
    simp [h1, h3]
  · by_cases h2 : x.x < y.x
    · have h3 : ¬ y.x = x.x := by omega
      simp [h1, h2, h3]
    · have h3 : y.x = x.x := by omega
      by_cases h4 : y.p < x.p
      · have h5 : ¬ y.p = x.p := by omega
        simp [h3, h4, h5]
      · by_cases h5 : x.p < y.p
        · have h6 : ¬ y.p = x.p := by omega
          simp [h3, h4, h5, h6]
        · have h6 : y.p = x.p := by omega
          simp [h3, h6]
set_option maxHeartbeats 6400000 in
theorem bsV_any (B : Nat) (A : Option Addr) (c : Nat) (Q : List Vt) (n : Nat) (hn : Q.length = n) (hnn : n ≤ 1000000) (x : Vt) (hasc : asc ltV (Q) = true) (w : World) (h : IsVs w B A Q) (hB : B ≤ w.heap.size) :
    Calls Try.prog 62 #[.slice A n c, .agg #[.int .i64 x.x, .int .i64 x.p, .int .i64 x.r, .int .i64 x.b, .int .i64 x.v], .func (.func 33) #[] #[]] w fun e w' => ∃ (k : Nat) (f : Bool), e = .returned (.tuple #[.int .i64 k, .bool f]) ∧ At ltV (Q) x k ∧ (f = true ↔ ∃ h : k < Q.length, (Q[k].x = x.x ∧ Q[k].p = x.p)) ∧ Below w.heap.size w w' := by
  have hlt := asc_lt ltV ltV_trans _ hasc
  obtain ⟨w1, hw1⟩ : ∃ w1, w1 = w.alloc (.cells #[.int .i64 x.x, .int .i64 x.p, .int .i64 x.r, .int .i64 x.b, .int .i64 x.v] 34) := ⟨_, rfl⟩
  have hb1 : Below w.heap.size w w1 := by rw [hw1]; exact (Below.refl _ w).alloc (Nat.le_refl _) _
  have hr1 : w1.heap[w.heap.size]? = some (.cells #[.int .i64 x.x, .int .i64 x.p, .int .i64 x.r, .int .i64 x.b, .int .i64 x.v] 34 (0, 0)) := by rw [hw1]; exact heap_alloc_new w _
  have HH := hid (And.intro h (And.intro hn hB))
  have HA : Hid (∀ i j (hi : i < Q.length) (hj : j < Q.length), i < j → ltV Q[i] Q[j] = true) := hid (fun i j hi hj hij => by exact hlt i j hi hj hij)
  have HL := hid hnn
  have H1 := hid (And.intro hb1 hr1)
  obtain ⟨b0, hb0⟩ : ∃ b, b = w.heap.size := ⟨_, rfl⟩
  have HB0 := hid hb0
  clear h hn hB hlt hasc hb1 hr1
  go_enter Try.func62, Try.ntmps62
  go_wp2_with fail
  rw [← hw1, ← hb0]
  clear hw1 hb0
  go_wp2_with fail
  go_loopw [9, 10] (fun iv jv wr => ∃ i j : Nat, i ≤ j ∧ j ≤ n ∧ iv = .int .i64 i ∧ jv = .int .i64 j ∧ Hid (Bs ltV (Q) x i j ∧ Below w1.heap.size w1 wr)) (fun iv jv _ => (RowKit.intOf jv).toNat - (RowKit.intOf iv).toNat)
  case atStart => exact ⟨0, n, Nat.zero_le _, Nat.le_refl _, rfl, rfl, hid ⟨⟨fun a ha hlt => absurd hlt (Nat.not_lt_zero _), fun a ha hge => by skip; have := HH.out.2.1; omega⟩, Below.refl _ _⟩⟩
  case round =>
    obtain ⟨i, j, hij, hjn, rfl, rfl, HI⟩ := hrel
    have hrow0 : wr.heap[b0]? = some (.cells #[.int .i64 x.x, .int .i64 x.p, .int .i64 x.r, .int .i64 x.b, .int .i64 x.v] 34 (0, 0)) := (HI.out.2.block b0 (by rw [HB0.out]; exact row_lt H1.out.2)).trans (by rw [HB0.out]; exact H1.out.2)
    by_cases hlt : i < j
    · obtain ⟨h, hh⟩ : ∃ h, h = (i + j) / 2 := ⟨_, rfl⟩
      have hh1 : i ≤ h := by omega
      have hh2 : h < j := by omega
      have hQ : h < Q.length := by rw [HH.out.2.1]; omega
      have hI := HH.out.1.below ((H1.out.1.mono HH.out.2.2).trans (HI.out.2.mono (by have := H1.out.1.size; have := HH.out.2.2; omega)))
      obtain ⟨b, off, hA, hbb, hcs⟩ := hI.row.at_ h hQ
      subst hA
      obtain ⟨q, hq⟩ : ∃ q, q = Q[h] := ⟨_, rfl⟩
      have hr0 := hcs h hQ
      rw [← hq] at hr0
      skip
      have l0 : (ldX 34 (.pointer (some ⟨b, off + h * 5, none⟩))).run Try.prog wr = .ok (.agg #[.int .i64 q.x, .int .i64 q.p, .int .i64 q.r, .int .i64 q.b, .int .i64 q.v]) wr := ldV wr b (off + h * 5) (cellsV q) rfl hr0
      have l1 : (ldX 34 (.pointer (some ⟨b0, 0, none⟩))).run Try.prog wr = .ok (.agg #[.int .i64 x.x, .int .i64 x.p, .int .i64 x.r, .int .i64 x.b, .int .i64 x.v]) wr := ldRow info_vote Try.underlying34 rfl hrow0 rfl
      have m0 : (ldX 34 (.pointer (some ⟨b, off + h * 5, none⟩))).run Try.prog wr.drew = .ok (.agg #[.int .i64 q.x, .int .i64 q.p, .int .i64 q.r, .int .i64 q.b, .int .i64 q.v]) wr.drew := ldV wr.drew b (off + h * 5) (cellsV q) rfl hr0
      have m1 : (ldX 34 (.pointer (some ⟨b0, 0, none⟩))).run Try.prog wr.drew = .ok (.agg #[.int .i64 x.x, .int .i64 x.p, .int .i64 x.r, .int .i64 x.b, .int .i64 x.v]) wr.drew := ldRow info_vote Try.underlying34 rfl (show wr.drew.heap[b0]? = _ from hrow0) rfl
      have hbw0 : b < wr.heap.size := by have := HH.out.2.2; have := H1.out.1.size; have := HI.out.2.size; omega
      have LD : Hid (∀ W, Below wr.heap.size wr W → (ldX 34 (.pointer (some ⟨b, off + h * 5, none⟩))).run Try.prog W = .ok (.agg #[.int .i64 q.x, .int .i64 q.p, .int .i64 q.r, .int .i64 q.b, .int .i64 q.v]) W ∧ (ldX 34 (.pointer (some ⟨b0, 0, none⟩))).run Try.prog W = .ok (.agg #[.int .i64 x.x, .int .i64 x.p, .int .i64 x.r, .int .i64 x.b, .int .i64 x.v]) W) := hid (fun W hb =>
        ⟨ldV W b (off + h * 5) (cellsV q) rfl (fun j v hv => (hb.cell (p := ⟨b, off + h * 5 + j, none⟩) hbw0).trans (hr0 j v hv)), ldRow info_vote Try.underlying34 rfl ((hb.block _ (row_lt hrow0)).trans hrow0) rfl⟩)
      have HLE : Hid (ltV q x = true → Bs ltV (Q) x (h + 1) j) := hid (fun hlx => ⟨fun a ha hal => by
        skip
        skip
        rcases Nat.lt_or_ge a h with h2 | h2
        · have h3 := HA.out a h ha hQ h2
          rw [← hq] at h3
          exact ltV_trans _ _ _ h3 hlx
        · obtain rfl : a = h := by omega
          rw [← hq]; exact hlx, HI.out.1.behind⟩)
      have HGE : Hid (ltV q x = false → Bs ltV (Q) x i h) := hid (fun hlx => ⟨HI.out.1.ahead, fun a ha hal => by
        skip
        skip
        rcases Nat.lt_or_ge h a with h2 | h2
        · have h3 := HA.out h a hQ ha h2
          rw [← hq] at h3
          rw [Bool.eq_false_iff]
          intro h4
          have := ltV_trans _ _ _ h3 h4
          rw [hlx] at this
          cases this
        · obtain rfl : a = h := by omega
          rw [← hq]; exact hlx⟩)
      have HBW := hid (And.intro HI.out.2 hh)
      have b1 : (i : Int) < (j : Int) := by omega
      have b2 : (h : Int) < (n : Int) := by omega
      have b3 : (i : Int) + (j : Int) ≤ 2000000 := by omega
      have b4 : ((i : Int) + (j : Int)) / 2 = (h : Int) := by omega
      clear hI hcs hr0 hq hQ hh hrow0 HI
      have bi : (0 : Int) ≤ (h : Int) := by omega
      go_wp2_with fail
      go_region_held3 (fun W => (ldX 34 (.pointer (some ⟨b, off + h * 5, none⟩))).run Try.prog W = .ok (.agg #[.int .i64 q.x, .int .i64 q.p, .int .i64 q.r, .int .i64 q.b, .int .i64 q.v]) W ∧ (ldX 34 (.pointer (some ⟨b0, 0, none⟩))).run Try.prog W = .ok (.agg #[.int .i64 x.x, .int .i64 x.p, .int .i64 x.r, .int .i64 x.b, .int .i64 x.v]) W)
        (first | with_reducible exact ⟨l0, l1⟩ | with_reducible exact ⟨m0, m1⟩ | with_reducible exact e3 | fail)
        (first
          | (go_at_call 33; refine (byTP_any q x _).mono ?_; rintro e w3 ⟨rfl, hb3⟩; have HB3 := hid (HBW.out.1.drew.trans (hb3.mono HBW.out.1.size)); have e3 := LD.out w3 ((Below.refl _ wr).drew.trans hb3); clear hb3))
      all_goals
        clear l0 l1 m0 m1 e3
        by_cases hxy : ltV q x = true
        · have hd : decide (orI [cmpI q.x x.x, cmpI q.p x.p] < 0) = true := by rw [or_neg, hxy]
          rw [hd]
          have HN := hid (HLE.out hxy)
          go_wp2_with fail
          go_roundw
          case rel => exact ⟨h + 1, j, by omega, hjn, by go_num, rfl, hid ⟨HN.out, HB3.out⟩⟩
          case measure => simp [RowKit.intOf]; omega
        · have hxf : ltV q x = false := by simpa using hxy
          have hd : decide (orI [cmpI q.x x.x, cmpI q.p x.p] < 0) = false := by rw [or_neg, hxf]
          rw [hd]
          have HN := hid (HGE.out hxf)
          go_wp2_with fail
          go_roundw
          case rel => exact ⟨i, h, by omega, by omega, rfl, rfl, hid ⟨HN.out, HB3.out⟩⟩
          case measure => simp [RowKit.intOf]; omega
    · obtain rfl : i = j := by omega
      have HAT : Hid (At ltV (Q) x i) := hid ⟨by have := HH.out.2.1; omega, HI.out.1.ahead, HI.out.1.behind⟩
      have hbel := H1.out.1.trans (HI.out.2.mono H1.out.1.size)
      by_cases hin : i < n
      · have hQ : i < Q.length := by rw [HH.out.2.1]; omega
        have hI := HH.out.1.below (hbel.mono HH.out.2.2)
        obtain ⟨b, off, hA, hbb, hcs⟩ := hI.row.at_ i hQ
        subst hA
        obtain ⟨q, hq⟩ : ∃ q, q = Q[i] := ⟨_, rfl⟩
        have hr0 := hcs i hQ
        rw [← hq] at hr0
        skip
        have l0 : (ldX 34 (.pointer (some ⟨b, off + i * 5, none⟩))).run Try.prog wr = .ok (.agg #[.int .i64 q.x, .int .i64 q.p, .int .i64 q.r, .int .i64 q.b, .int .i64 q.v]) wr := ldV wr b (off + i * 5) (cellsV q) rfl hr0
        have l1 : (ldX 34 (.pointer (some ⟨b0, 0, none⟩))).run Try.prog wr = .ok (.agg #[.int .i64 x.x, .int .i64 x.p, .int .i64 x.r, .int .i64 x.b, .int .i64 x.v]) wr := ldRow info_vote Try.underlying34 rfl hrow0 rfl
        have m0 : (ldX 34 (.pointer (some ⟨b, off + i * 5, none⟩))).run Try.prog wr.drew = .ok (.agg #[.int .i64 q.x, .int .i64 q.p, .int .i64 q.r, .int .i64 q.b, .int .i64 q.v]) wr.drew := ldV wr.drew b (off + i * 5) (cellsV q) rfl hr0
        have m1 : (ldX 34 (.pointer (some ⟨b0, 0, none⟩))).run Try.prog wr.drew = .ok (.agg #[.int .i64 x.x, .int .i64 x.p, .int .i64 x.r, .int .i64 x.b, .int .i64 x.v]) wr.drew := ldRow info_vote Try.underlying34 rfl (show wr.drew.heap[b0]? = _ from hrow0) rfl
        have hbw0 : b < wr.heap.size := by have := HH.out.2.2; have := H1.out.1.size; have := HI.out.2.size; omega
        have LD : Hid (∀ W, Below wr.heap.size wr W → (ldX 34 (.pointer (some ⟨b, off + i * 5, none⟩))).run Try.prog W = .ok (.agg #[.int .i64 q.x, .int .i64 q.p, .int .i64 q.r, .int .i64 q.b, .int .i64 q.v]) W ∧ (ldX 34 (.pointer (some ⟨b0, 0, none⟩))).run Try.prog W = .ok (.agg #[.int .i64 x.x, .int .i64 x.p, .int .i64 x.r, .int .i64 x.b, .int .i64 x.v]) W) := hid (fun W hb =>
          ⟨ldV W b (off + i * 5) (cellsV q) rfl (fun j v hv => (hb.cell (p := ⟨b, off + i * 5 + j, none⟩) hbw0).trans (hr0 j v hv)), ldRow info_vote Try.underlying34 rfl ((hb.block _ (row_lt hrow0)).trans hrow0) rfl⟩)
        have HEQ : Hid ((orI [cmpI q.x x.x, cmpI q.p x.p] == 0) = true ↔ ∃ h : i < Q.length, (Q[i].x = x.x ∧ Q[i].p = x.p)) := hid (by
          rw [or_zero]
          exact ⟨fun e => ⟨hQ, by rw [← hq]; exact e⟩, fun ⟨_, e⟩ => by rw [← hq] at e; exact e⟩)
        have HBW := hid (And.intro HI.out.2 hbel)
        have b2 : (i : Int) < (n : Int) := by omega
        have bi : (0 : Int) ≤ (i : Int) := by omega
        clear hI hcs hr0 hq hQ hrow0 HI hbel
        go_wp2_with fail
        go_region_held3 (fun W => (ldX 34 (.pointer (some ⟨b, off + i * 5, none⟩))).run Try.prog W = .ok (.agg #[.int .i64 q.x, .int .i64 q.p, .int .i64 q.r, .int .i64 q.b, .int .i64 q.v]) W ∧ (ldX 34 (.pointer (some ⟨b0, 0, none⟩))).run Try.prog W = .ok (.agg #[.int .i64 x.x, .int .i64 x.p, .int .i64 x.r, .int .i64 x.b, .int .i64 x.v]) W)
          (first | with_reducible exact ⟨l0, l1⟩ | with_reducible exact ⟨m0, m1⟩ | with_reducible exact e3 | fail)
          (first
            | (go_at_call 33; refine (byTP_any q x _).mono ?_; rintro e w3 ⟨rfl, hb3⟩; have HB3 := hid (HBW.out.2.drew.trans (hb3.mono HBW.out.2.size)); have e3 := LD.out w3 ((Below.refl _ wr).drew.trans hb3); clear hb3))
        all_goals
          clear l0 l1 m0 m1 e3
          go_wp2_with fail
          go_ret2
          exact ⟨i, _, rfl, HAT.out, HEQ.out, HB3.out⟩
      · have HBW := hid (And.intro HI.out.2 hbel)
        have HNO : Hid (false = true ↔ ∃ h : i < Q.length, (Q[i].x = x.x ∧ Q[i].p = x.p)) := hid ⟨fun e => (by cases e), fun ⟨h, _⟩ => (by have := HH.out.2.1; omega)⟩
        have b2 : ¬ (i : Int) < (n : Int) := by omega
        clear hrow0 HI hbel
        go_wp2_with fail
        refine region_calls (C := (⟨_, 49, fun _ => none, vShut i n, fun _ _ W => Below w1.heap.size w1 W⟩ : Rc Unit)) rfl (by kernel_rfl) rfl () ?inv (by kernel_rfl) ?arms ?he
        case inv => exact HBW.out.1.drew
        case arms =>
          intro hC
          exact ⟨arm_pure hC rfl rfl (fun X p listed a w h hu ha => run_move (show a.eval (.tmp 9) = .int .i64 i from h.kept 9 (by kernel_rfl))),
            arm_pure hC rfl rfl (fun X p listed a w h hu ha => run_move (show a.eval (.tmp 9) = .int .i64 i from h.kept 9 (by kernel_rfl))),
            arm_pure hC rfl rfl (fun X p listed a w h hu ha => run_move (show a.eval (.tmp 8) = .int .i64 n from h.kept 8 (by kernel_rfl))),
            arm_pure hC rfl rfl (fun X p listed a w h hu ha => run_bin (show a.eval (.tmp 36) = .int .i64 i from h.slots 1 _ 36 rfl rfl (ha ⟨1, .data⟩ (by simp) rfl)) (show a.eval (.tmp 37) = .int .i64 n from h.slots 2 _ 37 rfl rfl (ha ⟨2, .data⟩ (by simp) rfl)) (show Sem.run _ _ w = .ok (Value.bool false) w by go_simp)),
            arm_pure hC rfl rfl (fun X p listed a w h hu ha => run_move (show a.eval (.tmp 38) = .bool false from h.slots 3 _ 38 rfl rfl (ha ⟨3, .data⟩ (by simp) rfl))),
            arm_shut hC rfl (fun _ => rfl) (fun X p listed a w h hu ha => (wanted_of rfl rfl rfl (by rw [h.size]; show 39 < 49; decide) (show a.eval (.tmp 39) = .bool false from h.slots 4 _ 39 rfl rfl (ha ⟨4, .guard⟩ (by simp) rfl))).trans rfl),
            arm_shut hC rfl (fun _ => rfl) (fun X p listed a w h hu ha => (wanted_of rfl rfl rfl (by rw [h.size]; show 39 < 49; decide) (show a.eval (.tmp 39) = .bool false from h.slots 4 _ 39 rfl rfl (ha ⟨4, .guard⟩ (by simp) rfl))).trans rfl),
            arm_shut hC rfl (fun _ => rfl) (fun X p listed a w h hu ha => (wanted_of rfl rfl rfl (by rw [h.size]; show 39 < 49; decide) (show a.eval (.tmp 39) = .bool false from h.slots 4 _ 39 rfl rfl (ha ⟨4, .guard⟩ (by simp) rfl))).trans rfl),
            arm_shut hC rfl (fun _ => rfl) (fun X p listed a w h hu ha => (wanted_of rfl rfl rfl (by rw [h.size]; show 39 < 49; decide) (show a.eval (.tmp 39) = .bool false from h.slots 4 _ 39 rfl rfl (ha ⟨4, .guard⟩ (by simp) rfl))).trans rfl),
            arm_shut hC rfl (fun _ => rfl) (fun X p listed a w h hu ha => (wanted_of rfl rfl rfl (by rw [h.size]; show 39 < 49; decide) (show a.eval (.tmp 39) = .bool false from h.slots 4 _ 39 rfl rfl (ha ⟨4, .guard⟩ (by simp) rfl))).trans rfl),
            arm_shut hC rfl (fun _ => rfl) (fun X p listed a w h hu ha => (wanted_of rfl rfl rfl (by rw [h.size]; show 39 < 49; decide) (show a.eval (.tmp 39) = .bool false from h.slots 4 _ 39 rfl rfl (ha ⟨4, .guard⟩ (by simp) rfl))).trans rfl),
            arm_shut hC rfl (fun _ => rfl) (fun X p listed a w h hu ha => (wanted_of rfl rfl rfl (by rw [h.size]; show 39 < 49; decide) (show a.eval (.tmp 39) = .bool false from h.slots 4 _ 39 rfl rfl (ha ⟨4, .guard⟩ (by simp) rfl))).trans rfl),
            arm_shut hC rfl (fun _ => rfl) (fun X p listed a w h hu ha => (wanted_of rfl rfl rfl (by rw [h.size]; show 39 < 49; decide) (show a.eval (.tmp 39) = .bool false from h.slots 4 _ 39 rfl rfl (ha ⟨4, .guard⟩ (by simp) rfl))).trans rfl),
            arm_pure hC rfl rfl (fun X p listed a w h hu ha => run_pick (show a.eval (.tmp 39) = .bool false from h.slots 4 _ 39 rfl rfl (ha ⟨4, .data⟩ (by simp) rfl)) rfl),
            arm_pure hC rfl rfl (fun X p listed a w h hu ha => run_assign (show a.eval (.tmp 35) = .int .i64 i from h.slots 0 _ 35 rfl rfl (ha ⟨0, .data⟩ (by simp) rfl))),
            arm_pure hC rfl rfl (fun X p listed a w h hu ha => run_assign (show a.eval (.tmp 48) = .bool false from h.slots 13 _ 48 rfl rfl (ha ⟨13, .data⟩ (by simp) rfl))),
            trivial⟩
        case he =>
          intro listed a w3 X p hJ hall
          have hR : Below w1.heap.size w1 w3 := hJ.inv
          have H3 := hid (H1.out.1.trans (hR.mono H1.out.1.size))
          have k6 : a.eval (.tmp 6) = .int .i64 i := hJ.slots 14 _ 6 rfl rfl (hall 14 (show 14 < 16 by decide))
          have k7 : a.eval (.tmp 7) = .bool false := hJ.slots 15 _ 7 rfl rfl (hall 15 (show 15 < 16 by decide))
          have hts : a.tmps.size = 49 := hJ.size
          have k6' : (a.tmps[6]?).getD undef = .int .i64 i := by rw [← Array.getD_eq_getD_getElem?]; exact k6
          have k7' : (a.tmps[7]?).getD undef = .bool false := by rw [← Array.getD_eq_getD_getElem?]; exact k7
          have hdf : a.defers = [] := hJ.defers
          obtain ⟨tmps, defers⟩ := a
          obtain rfl : defers = [] := hdf
          clear hJ hall hR k6 k7
          have hl := act_listing tmps 49 hts
          have h2 : (List.range 49).map (fun i => (tmps[i]?).getD undef) = [(tmps[0]?).getD undef, (tmps[1]?).getD undef, (tmps[2]?).getD undef, (tmps[3]?).getD undef, (tmps[4]?).getD undef, (tmps[5]?).getD undef, (tmps[6]?).getD undef, (tmps[7]?).getD undef, (tmps[8]?).getD undef, (tmps[9]?).getD undef, (tmps[10]?).getD undef, (tmps[11]?).getD undef, (tmps[12]?).getD undef, (tmps[13]?).getD undef, (tmps[14]?).getD undef, (tmps[15]?).getD undef, (tmps[16]?).getD undef, (tmps[17]?).getD undef, (tmps[18]?).getD undef, (tmps[19]?).getD undef, (tmps[20]?).getD undef, (tmps[21]?).getD undef, (tmps[22]?).getD undef, (tmps[23]?).getD undef, (tmps[24]?).getD undef, (tmps[25]?).getD undef, (tmps[26]?).getD undef, (tmps[27]?).getD undef, (tmps[28]?).getD undef, (tmps[29]?).getD undef, (tmps[30]?).getD undef, (tmps[31]?).getD undef, (tmps[32]?).getD undef, (tmps[33]?).getD undef, (tmps[34]?).getD undef, (tmps[35]?).getD undef, (tmps[36]?).getD undef, (tmps[37]?).getD undef, (tmps[38]?).getD undef, (tmps[39]?).getD undef, (tmps[40]?).getD undef, (tmps[41]?).getD undef, (tmps[42]?).getD undef, (tmps[43]?).getD undef, (tmps[44]?).getD undef, (tmps[45]?).getD undef, (tmps[46]?).getD undef, (tmps[47]?).getD undef, (tmps[48]?).getD undef] := by kernel_rfl
          rw [h2, k6', k7'] at hl
          clear h2 k6' k7' hts
          generalize (tmps[0]?).getD undef = x0 at hl
          generalize (tmps[1]?).getD undef = x1 at hl
          generalize (tmps[2]?).getD undef = x2 at hl
          generalize (tmps[3]?).getD undef = x3 at hl
          generalize (tmps[4]?).getD undef = x4 at hl
          generalize (tmps[5]?).getD undef = x5 at hl
          generalize (tmps[8]?).getD undef = x8 at hl
          generalize (tmps[9]?).getD undef = x9 at hl
          generalize (tmps[10]?).getD undef = x10 at hl
          generalize (tmps[11]?).getD undef = x11 at hl
          generalize (tmps[12]?).getD undef = x12 at hl
          generalize (tmps[13]?).getD undef = x13 at hl
          generalize (tmps[14]?).getD undef = x14 at hl
          generalize (tmps[15]?).getD undef = x15 at hl
          generalize (tmps[16]?).getD undef = x16 at hl
          generalize (tmps[17]?).getD undef = x17 at hl
          generalize (tmps[18]?).getD undef = x18 at hl
          generalize (tmps[19]?).getD undef = x19 at hl
          generalize (tmps[20]?).getD undef = x20 at hl
          generalize (tmps[21]?).getD undef = x21 at hl
          generalize (tmps[22]?).getD undef = x22 at hl
          generalize (tmps[23]?).getD undef = x23 at hl
          generalize (tmps[24]?).getD undef = x24 at hl
          generalize (tmps[25]?).getD undef = x25 at hl
          generalize (tmps[26]?).getD undef = x26 at hl
          generalize (tmps[27]?).getD undef = x27 at hl
          generalize (tmps[28]?).getD undef = x28 at hl
          generalize (tmps[29]?).getD undef = x29 at hl
          generalize (tmps[30]?).getD undef = x30 at hl
          generalize (tmps[31]?).getD undef = x31 at hl
          generalize (tmps[32]?).getD undef = x32 at hl
          generalize (tmps[33]?).getD undef = x33 at hl
          generalize (tmps[34]?).getD undef = x34 at hl
          generalize (tmps[35]?).getD undef = x35 at hl
          generalize (tmps[36]?).getD undef = x36 at hl
          generalize (tmps[37]?).getD undef = x37 at hl
          generalize (tmps[38]?).getD undef = x38 at hl
          generalize (tmps[39]?).getD undef = x39 at hl
          generalize (tmps[40]?).getD undef = x40 at hl
          generalize (tmps[41]?).getD undef = x41 at hl
          generalize (tmps[42]?).getD undef = x42 at hl
          generalize (tmps[43]?).getD undef = x43 at hl
          generalize (tmps[44]?).getD undef = x44 at hl
          generalize (tmps[45]?).getD undef = x45 at hl
          generalize (tmps[46]?).getD undef = x46 at hl
          generalize (tmps[47]?).getD undef = x47 at hl
          generalize (tmps[48]?).getD undef = x48 at hl
          subst hl
          go_wp2_with fail
          go_ret2
          exact ⟨i, false, rfl, HAT.out, HNO.out, H3.out⟩
end Go.Proofs.Ytaeoccpjdjafnaa.Im
namespace Go.Proofs.Ytaeoccpjdjafnaa.Im
open Go.RowKit
set_option maxRecDepth 100000
set_option linter.unusedVariables false
theorem fitV (q : Vt) : (cellsV q).length = 5 := rfl
theorem oneV (q : Vt) : ∀ u ∈ cellsV q, u.oneCell' = true := by
  intro u hu
  simp [cellsV] at hu
  rcases hu with rfl | rfl | rfl | rfl | rfl <;> rfl
theorem infV : (Try.prog.info? 34).map (fun i => (i.zero, i.size, i.bytes)) = some (some (.agg #[.int .i64 0, .int .i64 0, .int .i64 0, .int .i64 0, .int .i64 0]), 5, 40) := by kernel_rfl
set_option maxHeartbeats 800000 in
theorem ownV_any (A : Option Addr) (c n : Nat) (L : List Vt) (hn : L.length = n) (hl : n ≤ 100000) (w : World) (h : IsRow cellsV 5 w w.heap.size A L) (hnil : A = none → c = 0) :
    Calls Try.prog 67 #[.slice A n c] w fun e w' => ∃ A' c', e = .returned (.slice A' n c') ∧ RowIn cellsV 5 34 w' (fun k => w.heap.size ≤ k) A' c' L ∧ Below w.heap.size w w' := by
  obtain ⟨i0, hi, hz0, hz1, hz2⟩ := info_parts infV
  have hrow : RowIn cellsV 5 34 w (fun k => w.heap.size ≤ k) none 0 [] := RowIn.nil fitV _ _ _
  go_enter Try.func67, Try.ntmps67
  go_wp2_with (at_builtin; refine wpList_append_rows rfl _ _ 23 rfl i0 _ Try.underlying23 hi hz0 hz1 hz2 rfl (by decide) hrow 0 rfl rfl A c L n hn rfl hnil h oneV (by omega) (by omega) ?_)
  intro A2 c2 w2 hrow2 hg2
  have H2 : Hid (RowIn cellsV 5 34 w2 (fun k => w.heap.size ≤ k) A2 c2 L ∧ Below w.heap.size w w2) := hid ⟨hrow2.mono (fun k hk => by have := hrow2.blk k hk; omega), below_grown hg2 (Nat.le_refl _) (fun k e => by cases e)⟩
  clear hrow2 hg2 hrow
  go_wp2_with fail
  go_ret
  exact ⟨A2, c2, rfl, H2.out⟩
set_option maxHeartbeats 800000 in
theorem growV_any (n : Nat) (hn : n ≤ 100000) (w : World) :
    Calls Try.prog 91 #[.slice none 0 0, .int .i64 (n : Int)] w fun e w' => ∃ A' c', e = .returned (.slice A' 0 c') ∧ RowIn cellsV 5 34 w' (fun k => w.heap.size ≤ k) A' c' [] ∧ Below w.heap.size w w' := by
  obtain ⟨i0, hi, hz0, hz1, hz2⟩ := info_parts infV
  have hui : Try.prog.underlying 3 = some (.int .i64) := by kernel_rfl
  by_cases h0 : 0 < n
  · go_enter Try.func91, Try.ntmps91
    go_wp2_with (at_builtin; refine Lib.wpList_append_run _ rfl _ _ 23 3 rfl (.slice none 0 0) (.int .i64 (n : Int)) rfl rfl _ _ (Lib.run_append_nil_zeros _ 23 3 _ 34 i0 (.agg #[.int .i64 0, .int .i64 0, .int .i64 0, .int .i64 0, .int .i64 0]) .i64 .i64 Try.underlying23 hui hi hz0 n h0 (by rw [hz1]; decide) (by omega) (by rw [hz2]; omega)) ?_)
    have hcap1 := grownCap_ge w n 0 34
    have hcap2 := grownCap_le_maxLen w n 0 34 (by unfold maxLen; omega)
    obtain ⟨cap, hcap⟩ : ∃ cap, cap = grownCap w n 0 34 := ⟨_, rfl⟩
    rw [← hcap] at hcap1 hcap2 ⊢
    have HO : Hid (RowIn cellsV 5 34 (w.drew.alloc (.cells (Builtin.zeroCells (Value.agg #[.int .i64 0, .int .i64 0, .int .i64 0, .int .i64 0, .int .i64 0]).cells n ++ Builtin.zeroCells (Value.agg #[.int .i64 0, .int .i64 0, .int .i64 0, .int .i64 0, .int .i64 0]).cells (cap - n)) 34)) (fun k => w.heap.size ≤ k) (some ⟨w.heap.size, 0, none⟩) cap []) := by
      refine ⟨fitV, ⟨by simp, .inr ⟨w.heap.size, cap, _, rfl, Nat.zero_le _, heap_alloc_new w.drew _, Nat.zero_le _, hcap2, ?_, by simp⟩⟩, fun k hk => by cases hk; exact Nat.le_refl _⟩
      rw [Array.size_append, size_zeroCells, size_zeroCells]
      show n * 5 + (cap - n) * 5 = cap * 5
      omega
    have HB : Hid (Below w.heap.size w (w.drew.alloc (.cells (Builtin.zeroCells (Value.agg #[.int .i64 0, .int .i64 0, .int .i64 0, .int .i64 0, .int .i64 0]).cells n ++ Builtin.zeroCells (Value.agg #[.int .i64 0, .int .i64 0, .int .i64 0, .int .i64 0, .int .i64 0]).cells (cap - n)) 34))) :=
      (Below.refl _ _).drew.alloc (Nat.le_refl _) _
    unfold maxLen at hcap2
    have HC := hid hcap
    clear hcap
    go_wp2
    go_ret
    exact ⟨_, _, rfl, HO.out, HB.out⟩
  · obtain rfl : n = 0 := by omega
    go_enter Try.func91, Try.ntmps91
    go_wp2
    go_ret
    exact ⟨none, 0, rfl, RowIn.nil fitV _ _ _, Below.refl _ _⟩
set_option maxHeartbeats 1600000 in
theorem concatV_any (B b : Nat) (L : List (List Vt)) (n c : Nat) (hn : L.length = n) (hL : n ≤ 1000) (hF : L.flatten.length ≤ 100000) (w : World) (h0 : SRows cellsV 5 w B b L) (hb : b < w.heap.size) (hB : B ≤ w.heap.size) :
    Calls Try.prog 63 #[.slice (some ⟨b, 0, none⟩) n c] w fun e w' => ∃ A c' m, e = .returned (.slice A m c') ∧ m = L.flatten.length ∧ RowIn cellsV 5 34 w' (fun k => w.heap.size ≤ k) A c' L.flatten ∧ Below w.heap.size w w' := by
  obtain ⟨i0, hi, hz0, hz1, hz2⟩ := info_parts infV
  subst hn
  have h := hid h0
  have HF := hid hF
  clear h0 hF
  go_enter Try.func63, Try.ntmps63
  go_wp2_with fail
  go_loopw [3, 11] (fun v i wr => ∃ k m : Nat, k ≤ L.length ∧ m ≤ 100000 ∧ v = .int .i64 m ∧ i = .int .i64 k ∧ w = wr ∧ Hid (m = (L.take k).flatten.length)) (fun _ i _ => L.length - (RowKit.intOf i).toNat)
  case atStart => exact ⟨0, 0, by omega, by omega, rfl, rfl, rfl, hid (by simp)⟩
  case round =>
    obtain ⟨k, m, hk, hm, rfl, rfl, rfl, hs⟩ := hrel
    by_cases hlt : k < L.length
    · obtain ⟨a, ka, hcell, _, _⟩ := h.out.at_ k hlt
      have hst := sflat_step L k hlt
      have hle := sflat_le L (k + 1)
      rw [hst, List.length_append, ← hs.out] at hle
      have hm2 : m + L[k].length ≤ 100000 := by have := HF.out; omega
      have HS := hid hst
      clear hst hle
      generalize hn : L[k].length = n at *
      have HN := hid hn
      clear hn
      have hneg : ¬ ((m : Int) + (n : Int) < 0) := by omega
      go_wp2_with fail
      go_roundw
      case rel => exact ⟨k + 1, m + n, by omega, hm2, by go_num, by go_num, trivial, hid (by rw [HS.out, List.length_append, ← hs.out, HN.out])⟩
      case measure => simp [RowKit.intOf]; omega
    · obtain rfl : k = L.length := by omega
      have HG := hid (growV_any m (by omega) w)
      go_wp2_with fail
      refine HG.out.mono ?_
      rintro e w1 ⟨A1, c1, rfl, hown1, hbel1⟩
      have HO := hid hown1
      have HB := hid hbel1
      clear hown1 hbel1 HG
      go_wp2_with fail
      go_loopw [6, 27] (fun v i wr => ∃ (k q : Nat) (A : Option Addr) (c2 : Nat), k ≤ L.length ∧ v = .slice A q c2 ∧ i = .int .i64 k ∧ Hid (q = (L.take k).flatten.length ∧ RowIn cellsV 5 34 wr (fun k => w.heap.size ≤ k) A c2 (L.take k).flatten ∧ Below w.heap.size w wr)) (fun _ i _ => L.length - (RowKit.intOf i).toNat)
      case atStart => exact ⟨0, 0, A1, c1, by omega, rfl, rfl, hid ⟨by simp, by simpa using HO.out, HB.out⟩⟩
      case round =>
        clear HO HB
        obtain ⟨k, q, A, c2, hk, rfl, rfl, HX⟩ := hrel
        by_cases hlt : k < L.length
        · obtain ⟨a, ka, hcell0, hrow, hnil⟩ := h.out.at_ k hlt
          have hbel := HX.out.2.2
          have hcell : wr.cell? ⟨b, k, none⟩ = some (.slice a L[k].length ka) := (hbel.cell (by exact hb)).trans hcell0
          have hrow2 : IsRow cellsV 5 wr w.heap.size a L[k] := (hrow.more hB).below hbel
          have hst := sflat_step L k hlt
          have hle := sflat_le L (k + 1)
          rw [hst, List.length_append, ← HX.out.1] at hle
          have hsum : q + L[k].length ≤ 100000 := by have := HF.out; omega
          have hown := HX.out.2.1
          have HM := hid (And.intro hst (And.intro hle hbel))
          generalize hLk : L[k] = M at *
          obtain ⟨m, hm⟩ : ∃ m, m = M.length := ⟨_, rfl⟩
          rw [← hm] at hcell hsum
          have HK := hid (And.intro hm (And.intro hsum HX.out.1))
          clear hst hle hrow hcell0 hbel hm
          go_wp2_with (at_builtin; refine wpList_append_rows rfl _ _ 23 rfl i0 _ Try.underlying23 hi hz0 hz1 hz2 rfl (by decide) hown q HK.out.2.2.symm rfl a ka M m HK.out.1.symm rfl hnil hrow2 oneV (by have := HK.out.2.1; omega) HK.out.2.1 ?_)
          intro A3 c3 w3 hown3 hg3
          have H4 : Hid (q + m = (L.take (k + 1)).flatten.length ∧ RowIn cellsV 5 34 w3 (fun k => w.heap.size ≤ k) A3 c3 (L.take (k + 1)).flatten ∧ Below w.heap.size w w3) := hid (by
            refine ⟨by rw [HM.out.1, List.length_append, ← HK.out.1, ← HK.out.2.2], ?_, HM.out.2.2.trans (below_grown hg3 HM.out.2.2.size (fun k hk => HX.out.2.1.blk k hk))⟩
            rw [HM.out.1]
            have hz := HM.out.2.2.size
            exact hown3.mono (fun k hk => by have := hown3.blk k hk; omega))
          clear hown3 hg3 hown hrow2
          go_wp2_with fail
          go_roundw
          case rel => exact ⟨k + 1, q + m, A3, c3, by omega, by first | rfl | (simp), by go_num, H4⟩
          case measure => simp [RowKit.intOf]; omega
        · obtain rfl : k = L.length := by omega
          have H3 := HX.out
          rw [List.take_length] at H3
          have H3' := hid H3
          clear H3
          go_wp2_with fail
          go_ret
          exact ⟨A, c2, q, rfl, H3'.out.1, H3'.out.2.1, H3'.out.2.2⟩
end Go.Proofs.Ytaeoccpjdjafnaa.Im
namespace Go.Proofs.Ytaeoccpjdjafnaa.Im
open Go Go.RowKit
set_option maxRecDepth 100000
set_option linter.unusedVariables false
attribute [local go_sem ↓] loadAt_vote storeAt_vote
theorem ltV_irr (a : Vt) : ltV a a = false := by simp [ltV]
theorem ltV_no (x y : Vt) (h1 : ltV y x = false) (h2 : ltV x y = false) : (∀ z, ltV z y = ltV z x) ∧ ∀ z, ltV y z = ltV x z := by
  simp [ltV] at h1 h2
  have h3 : x.x = y.x := by omega
  have h4 : x.p = y.p := by omega
  exact ⟨fun z => by simp [ltV, h3, h4], fun z => by simp [ltV, h3, h4]⟩
set_option maxHeartbeats 6400000 in
theorem placedV_any (A : Option Addr) (c : Nat) (Q : List Vt) (n : Nat) (hn : Q.length = n) (hnn : n ≤ 40000) (hc : n ≤ c ∧ c ≤ maxLen) (hnil : A = none → c = 0) (x : Vt) (hasc : asc ltV (Q) = true) (B N0 : Nat) (w : World) (hB : B ≤ w.heap.size) (hN : N0 ≤ w.heap.size) (h : IsVs w B A Q) (hnx : okV x) :
    Calls Try.prog 32 #[.slice A n c, .agg #[.int .i64 x.x, .int .i64 x.p, .int .i64 x.r, .int .i64 x.b, .int .i64 x.v], .func (.func 33) #[] #[]] w fun e w' => ∃ A' c' m, e = .returned (.slice A' m c') ∧ (∃ Q' : List Vt, Q' = ins ltV (Q) x ∧ (m = Q'.length ∧ m ≤ n + 1) ∧ (∀ W, Turned (fun k => B ≤ k ∧ k < N0) w' W → IsVs W W.heap.size A' Q') ∧ (A' = none → c' = 0) ∧ (m ≤ c' ∧ c' ≤ maxLen)) ∧ Below w.heap.size w w' := by
  obtain ⟨w1, hw1⟩ : ∃ w1, w1 = w.alloc (.cells #[.int .i64 x.x, .int .i64 x.p, .int .i64 x.r, .int .i64 x.b, .int .i64 x.v] 34) := ⟨_, rfl⟩
  have hb1 : Below w.heap.size w w1 := by rw [hw1]; exact (Below.refl _ w).alloc (Nat.le_refl _) _
  have hr1 : w1.heap[w.heap.size]? = some (.cells #[.int .i64 x.x, .int .i64 x.p, .int .i64 x.r, .int .i64 x.b, .int .i64 x.v] 34 (0, 0)) := by rw [hw1]; exact heap_alloc_new w _
  have HB := hid (bsV_any B A c Q n hn (by omega) x hasc w1 (h.below (hb1.mono hB)) (Nat.le_trans hB hb1.size))
  have HBN := hid (And.intro hB hN)
  clear hB hN
  obtain ⟨b0, hb0⟩ : ∃ b, b = w.heap.size := ⟨_, rfl⟩
  have l1 := ldRow info_vote Try.underlying34 rfl hr1 rfl
  rw [hw1] at l1
  have H1 := hid (And.intro hb1 (And.intro hr1 hb0))
  have HH := hid (And.intro h (And.intro hn (And.intro hc (And.intro hnil hasc))))
  have HX := hid hnx
  clear hnx
  have hc1 := hc.1
  have hc2 := hc.2
  unfold maxLen at hc2
  clear hb1 hr1 h hn hnil hc hasc
  go_enter Try.func32, Try.ntmps32
  go_wp2_with fail
  rw [← hw1, ← hb0]
  clear hw1 hb0
  refine HB.out.mono ?_
  rintro e w2 ⟨k, f, rfl, hat, hf, hb2⟩
  have hkn : k ≤ n := by have := hat.le; have := HH.out.2.1; skip; omega
  have H2 := hid (And.intro hat (And.intro hf hb2))
  have bk0 : (0 : Int) ≤ (k : Int) := by omega
  have bk1 : (k : Int) ≤ (n : Int) := by omega
  have bk2 : (k : Int) ≤ (c : Int) := by omega
  have h0 : w2.heap[b0]? = some (.cells #[.int .i64 x.x, .int .i64 x.p, .int .i64 x.r, .int .i64 x.b, .int .i64 x.v] 34 (0, 0)) := (hb2.block b0 (by rw [H1.out.2.2]; exact row_lt H1.out.2.1)).trans (by rw [H1.out.2.2]; exact H1.out.2.1)
  have l2 : (ldX 34 (.pointer (some ⟨b0, 0, none⟩))).run Try.prog w2 = .ok (.agg #[.int .i64 x.x, .int .i64 x.p, .int .i64 x.r, .int .i64 x.b, .int .i64 x.v]) w2 := ldRow info_vote Try.underlying34 rfl h0 rfl
  have m2 : (ldX 34 (.pointer (some ⟨b0, 0, none⟩))).run Try.prog w2.drew = .ok (.agg #[.int .i64 x.x, .int .i64 x.p, .int .i64 x.r, .int .i64 x.b, .int .i64 x.v]) w2.drew := ldRow info_vote Try.underlying34 rfl (show w2.drew.heap[b0]? = _ from h0) rfl
  have LD : Hid (∀ W, Below w2.heap.size w2 W → (ldX 34 (.pointer (some ⟨b0, 0, none⟩))).run Try.prog W = .ok (.agg #[.int .i64 x.x, .int .i64 x.p, .int .i64 x.r, .int .i64 x.b, .int .i64 x.v]) W) := hid (fun W hb => ldRow info_vote Try.underlying34 rfl ((hb.block _ (row_lt h0)).trans h0) rfl)
  have hb02 : Below w.heap.size w w2 := H1.out.1.trans (hb2.mono H1.out.1.size)
  have hrow2 : IsRow cellsV 5 w2 w2.heap.size A Q := (HH.out.1.row.below (hb02.mono HBN.out.1)).more (Nat.le_trans HBN.out.1 hb02.size)
  have CC : Hid (∀ (Ab : Option Addr) (nb cb : Nat) (R : List Vt), nb = R.length → nb ≤ n → IsRow cellsV 5 w2 w2.heap.size Ab R → (Ab = none → cb = 0) →
      Calls Try.prog 63 #[.slice (some ⟨w2.heap.size + 1, 0, none⟩) 3 3] (((w2.alloc (.cells #[.int .i64 x.x, .int .i64 x.p, .int .i64 x.r, .int .i64 x.b, .int .i64 x.v] 34)).alloc (.cells #[.slice A k c, .slice (some ⟨w2.heap.size, 0, none⟩) 1 1, .slice Ab nb cb] 23)).drew) fun e w' => ∃ A' c' m, e = .returned (.slice A' m c') ∧ m = (Q.take k ++ x :: R).length ∧ RowIn cellsV 5 34 w' (fun k => w2.heap.size ≤ k) A' c' (Q.take k ++ x :: R) ∧ Below w2.heap.size w2 w') := hid (by
    intro Ab nb cb R hnb hnn2 hR hz
    obtain ⟨W, hW⟩ : ∃ W, W = ((w2.alloc (.cells #[.int .i64 x.x, .int .i64 x.p, .int .i64 x.r, .int .i64 x.b, .int .i64 x.v] 34)).alloc (.cells #[.slice A k c, .slice (some ⟨w2.heap.size, 0, none⟩) 1 1, .slice Ab nb cb] 23)).drew := ⟨_, rfl⟩
    have hbW : Below w2.heap.size w2 W := by rw [hW]; exact (((Below.refl _ w2).alloc (Nat.le_refl _) _).alloc (by simp) _).drew
    have hsW : W.heap.size = w2.heap.size + 2 := by rw [hW]; simp
    have r0 : W.heap[w2.heap.size]? = some (.cells #[.int .i64 x.x, .int .i64 x.p, .int .i64 x.r, .int .i64 x.b, .int .i64 x.v] 34 (0, 0)) := by
      rw [hW]; show (((w2.alloc _).alloc _)).heap[w2.heap.size]? = _
      rw [heap_alloc_old _ _ (by simp)]; exact heap_alloc_new w2 _
    have r1 : W.heap[w2.heap.size + 1]? = some (.cells #[.slice A k c, .slice (some ⟨w2.heap.size, 0, none⟩) 1 1, .slice Ab nb cb] 23 (0, 0)) := by
      have := heap_alloc_new (w2.alloc (.cells #[.int .i64 x.x, .int .i64 x.p, .int .i64 x.r, .int .i64 x.b, .int .i64 x.v] 34)) (.cells #[.slice A k c, .slice (some ⟨w2.heap.size, 0, none⟩) 1 1, .slice Ab nb cb] 23)
      rw [World.size_alloc] at this
      rw [hW]; exact this
    have hkq : (Q.take k).length = k := by rw [List.length_take]; have := HH.out.2.1; omega
    have hS : SRows cellsV 5 W W.heap.size (w2.heap.size + 1) [Q.take k, [x], R] := by
      refine ⟨fun i hi => ?_⟩
      match i, hi with
      | 0, _ => exact ⟨A, c, by rw [row_cell r1 0]; simp [hkq], (hrow2.take k |>.below hbW).more hbW.size, HH.out.2.2.2.1⟩
      | 1, _ => exact ⟨some ⟨w2.heap.size, 0, none⟩, 1, by rw [row_cell r1 1]; simp, ⟨fun i hi => ⟨w2.heap.size, 0, rfl, by omega, fun j hj t v hv => by
          obtain rfl : j = 0 := by simpa using hj
          have := range_row (cs := cellsV x) r0 t v hv
          simpa using this⟩⟩, fun e => by cases e⟩
      | 2, _ => exact ⟨Ab, cb, by rw [row_cell r1 2]; simp [hnb], (hR.below hbW).more hbW.size, hz⟩
    have hfl : [Q.take k, [x], R].flatten = Q.take k ++ x :: R := by simp
    have hcl := concatV_any W.heap.size (w2.heap.size + 1) [Q.take k, [x], R] 3 3 rfl (by omega) (by rw [hfl, List.length_append, List.length_cons, hkq]; omega) W hS (by omega) (Nat.le_refl _)
    rw [hfl] at hcl
    rw [← hW]
    refine hcl.mono ?_
    rintro e w' ⟨A', c', m, rfl, hm, hr, hb⟩
    exact ⟨A', c', m, rfl, hm, hr.mono (fun j hj => by have := hr.blk j hj; omega), hbW.trans (hb.mono (by omega))⟩)
  have FIN : Hid (∀ (R : List Vt) (w3 : World) (A' : Option Addr) (c' m : Nat), R = (if f = true then Q.drop (k + 1) else Q.drop k) → m = (Q.take k ++ x :: R).length → RowIn cellsV 5 34 w3 (fun k => w2.heap.size ≤ k) A' c' (Q.take k ++ x :: R) → Below w2.heap.size w2 w3 →
      (∃ Q' : List Vt, Q' = ins ltV (Q) x ∧ (m = Q'.length ∧ m ≤ n + 1) ∧ (∀ W, Turned (fun k => B ≤ k ∧ k < N0) w3 W → IsVs W W.heap.size A' Q') ∧ (A' = none → c' = 0) ∧ (m ≤ c' ∧ c' ≤ maxLen)) ∧ Below w.heap.size w w3) := hid (by
    intro R w3 A' c' m hR hm hr hb
    have hbw := hb02.trans (hb.mono hb02.size)
    have hRl : R.length ≤ n - k := by rw [hR]; split <;> rw [List.length_drop] <;> have := HH.out.2.1 <;> omega
    have hkq : (Q.take k).length = k := by rw [List.length_take]; have := HH.out.2.1; omega
    have hRs : ∀ q ∈ R, q ∈ Q := fun q hq => by
      rw [hR] at hq
      split at hq <;> exact List.mem_of_mem_drop hq
    have hcap := hr.cap
    rw [← hm] at hcap
    have hz02 := hb02.size
    have hBN := HBN.out
    have hzw := hbw.size
    refine ⟨⟨Q.take k ++ x :: R, ?_, ⟨hm, by rw [hm, List.length_append, List.length_cons, hkq]; omega⟩, fun W hT => ⟨RowIn.isRow (hr.keep hT (fun k hk e => by have := hr.blk k hk; omega)), fun q hq => by
      rcases List.mem_append.1 hq with h | h
      · exact HH.out.1.num q (List.mem_of_mem_take h)
      · rcases List.mem_cons.1 h with rfl | h
        · exact HX.out
        · exact HH.out.1.num q (hRs q h)⟩, hr.none_, ⟨hcap, hr.capLe⟩⟩, hbw⟩
    have := ins_at (f := f) ltV_trans ltV_irr HH.out.2.2.2.2 H2.out.1 (by
      rw [H2.out.2.1]
      constructor
      · rintro ⟨h, e1, e2⟩
        exact ⟨h, fun y => by simp [ltV, e1, e2], fun y => by simp [ltV, e1, e2]⟩
      · rintro ⟨h, e1, e2⟩
        refine ⟨h, ?_⟩
        have q1 := e1 x
        have q2 := e2 x
        simp [ltV] at q1 q2
        omega) (fun y => ltV_no x y)
    rw [← this, hR]
    skip)
  clear hat hf hb2 l1 h0 hb02
  have HRW := hid hrow2
  clear hrow2
  have hz2 : (Below.refl w2.heap.size w2).size = (Below.refl w2.heap.size w2).size := rfl
  cases f with
  | false =>
    by_cases hck : c = k
    · have bn : n - k = 0 := by omega
      have bc : c - k = 0 := by omega
      have CC1 := hid (CC.out A 0 0 [] rfl (Nat.zero_le _) IsRow.nil (fun _ => rfl))
      have hR1 : Hid ([] = if false = true then Q.drop (k + 1) else Q.drop k) := hid (by rw [if_neg Bool.false_ne_true, List.drop_of_length_le]; have := HH.out.2.1; omega)
      subst hck
      go_wp2_with fail
      go_region_held3 (fun W => (ldX 34 (.pointer (some ⟨b0, 0, none⟩))).run Try.prog W = .ok (.agg #[.int .i64 x.x, .int .i64 x.p, .int .i64 x.r, .int .i64 x.b, .int .i64 x.v]) W)
        (first | with_reducible exact l2 | with_reducible exact m2 | with_reducible exact e3 | exact LD.out _ ((Below.refl _ w2).drew.alloc (Nat.le_refl _) _) | exact LD.out _ ((Below.refl _ w2).alloc (Nat.le_refl _) _).drew | exact LD.out _ (((Below.refl _ w2).drew.alloc (Nat.le_refl _) _).alloc (by simp) _) | exact LD.out _ (((Below.refl _ w2).alloc (Nat.le_refl _) _).alloc (by simp) _).drew | fail)
        (first
          | (go_at_call 63; refine CC1.out.mono ?_; rintro e w3 ⟨A3, c3, m3, rfl, hm3, hr3, hb3⟩; have e3 := LD.out w3 hb3; have H3 := hid (And.intro hm3 (And.intro hr3 hb3)); clear hm3 hr3 hb3)
          | fail)
      all_goals
        go_wp2_with fail
        go_ret
        exact ⟨A3, c3, m3, rfl, FIN.out _ w3 A3 c3 m3 hR1.out H3.out.1 H3.out.2.1 H3.out.2.2⟩
    · have bn : k ≤ n := hkn
      have CC1 := hid (CC.out (A.map (fun x => x.add (k * 5))) (n - k) (c - k) (Q.drop k) (by rw [List.length_drop, HH.out.2.1]) (by omega) (by have := IsRow.sl HRW.out (c := c) (i := k) (by rw [HH.out.2.1]; exact hc1); rwa [if_neg hck] at this) (fun e => by
        rcases A with _ | a
        · have := HH.out.2.2.2.1 rfl; omega
        · cases e))
      have hR1 : Hid (Q.drop k = if false = true then Q.drop (k + 1) else Q.drop k) := hid (by rw [if_neg Bool.false_ne_true])
      go_wp2_with fail
      go_region_held3 (fun W => (ldX 34 (.pointer (some ⟨b0, 0, none⟩))).run Try.prog W = .ok (.agg #[.int .i64 x.x, .int .i64 x.p, .int .i64 x.r, .int .i64 x.b, .int .i64 x.v]) W)
        (first | with_reducible exact l2 | with_reducible exact m2 | with_reducible exact e3 | exact LD.out _ ((Below.refl _ w2).drew.alloc (Nat.le_refl _) _) | exact LD.out _ ((Below.refl _ w2).alloc (Nat.le_refl _) _).drew | exact LD.out _ (((Below.refl _ w2).drew.alloc (Nat.le_refl _) _).alloc (by simp) _) | exact LD.out _ (((Below.refl _ w2).alloc (Nat.le_refl _) _).alloc (by simp) _).drew | fail)
        (first
          | (go_at_call 63; refine CC1.out.mono ?_; rintro e w3 ⟨A3, c3, m3, rfl, hm3, hr3, hb3⟩; have e3 := LD.out w3 hb3; have H3 := hid (And.intro hm3 (And.intro hr3 hb3)); clear hm3 hr3 hb3)
          | fail)
      all_goals
        go_wp2_with fail
        go_ret
        exact ⟨A3, c3, m3, rfl, FIN.out _ w3 A3 c3 m3 hR1.out H3.out.1 H3.out.2.1 H3.out.2.2⟩
  | true =>
    have hkl : k < n := by
      obtain ⟨h, _⟩ := H2.out.2.1.1 rfl
      have := HH.out.2.1
      omega
    have hck : ¬ c = k := by omega
    obtain ⟨b, off, rfl, _, _⟩ := HRW.out.at_ k (by rw [HH.out.2.1]; exact hkl)
    have hsl := IsRow.from HRW.out (k + 1)
    have b1 : (1 : Int) ≤ (n : Int) - (k : Int) := by omega
    have b2 : (1 : Int) ≤ (c : Int) - (k : Int) := by omega
    have hR1 : Hid (Q.drop (k + 1) = if true = true then Q.drop (k + 1) else Q.drop k) := hid (by rw [if_pos rfl])
    by_cases hc1k : c - k = 1
    · have hnk : n - k - 1 = 0 := by omega
      have CC1 := hid (CC.out (some ⟨b, off + k * 5, none⟩) (n - k - 1) 0 (Q.drop (k + 1)) (by rw [List.length_drop, HH.out.2.1]; omega) (by omega) (by rw [List.drop_of_length_le (by rw [HH.out.2.1]; omega)]; exact IsRow.nil) (fun e => by cases e))
      clear hsl hnk
      go_wp2_with fail
      go_region_held3 (fun W => (ldX 34 (.pointer (some ⟨b0, 0, none⟩))).run Try.prog W = .ok (.agg #[.int .i64 x.x, .int .i64 x.p, .int .i64 x.r, .int .i64 x.b, .int .i64 x.v]) W)
        (first | with_reducible exact l2 | with_reducible exact m2 | with_reducible exact e3 | exact LD.out _ ((Below.refl _ w2).drew.alloc (Nat.le_refl _) _) | exact LD.out _ ((Below.refl _ w2).alloc (Nat.le_refl _) _).drew | exact LD.out _ (((Below.refl _ w2).drew.alloc (Nat.le_refl _) _).alloc (by simp) _) | exact LD.out _ (((Below.refl _ w2).alloc (Nat.le_refl _) _).alloc (by simp) _).drew | fail)
        (first
          | (go_at_call 63; refine CC1.out.mono ?_; rintro e w3 ⟨A3, c3, m3, rfl, hm3, hr3, hb3⟩; have e3 := LD.out w3 hb3; have H3 := hid (And.intro hm3 (And.intro hr3 hb3)); clear hm3 hr3 hb3)
          | fail)
      all_goals
        go_wp2_with fail
        go_ret
        exact ⟨A3, c3, m3, rfl, FIN.out _ w3 A3 c3 m3 hR1.out H3.out.1 H3.out.2.1 H3.out.2.2⟩
    · have CC1 := hid (CC.out (some ⟨b, off + k * 5 + 5, none⟩) (n - k - 1) (c - k - 1) (Q.drop (k + 1)) (by rw [List.length_drop, HH.out.2.1]; omega) (by omega) (by rw [Nat.succ_mul, ← Nat.add_assoc] at hsl; exact hsl) (fun e => by cases e))
      clear hsl
      go_wp2_with fail
      go_region_held3 (fun W => (ldX 34 (.pointer (some ⟨b0, 0, none⟩))).run Try.prog W = .ok (.agg #[.int .i64 x.x, .int .i64 x.p, .int .i64 x.r, .int .i64 x.b, .int .i64 x.v]) W)
        (first | with_reducible exact l2 | with_reducible exact m2 | with_reducible exact e3 | exact LD.out _ ((Below.refl _ w2).drew.alloc (Nat.le_refl _) _) | exact LD.out _ ((Below.refl _ w2).alloc (Nat.le_refl _) _).drew | exact LD.out _ (((Below.refl _ w2).drew.alloc (Nat.le_refl _) _).alloc (by simp) _) | exact LD.out _ (((Below.refl _ w2).alloc (Nat.le_refl _) _).alloc (by simp) _).drew | fail)
        (first
          | (go_at_call 63; refine CC1.out.mono ?_; rintro e w3 ⟨A3, c3, m3, rfl, hm3, hr3, hb3⟩; have e3 := LD.out w3 hb3; have H3 := hid (And.intro hm3 (And.intro hr3 hb3)); clear hm3 hr3 hb3)
          | fail)
      all_goals
        go_wp2_with fail
        go_ret
        exact ⟨A3, c3, m3, rfl, FIN.out _ w3 A3 c3 m3 hR1.out H3.out.1 H3.out.2.1 H3.out.2.2⟩
end Go.Proofs.Ytaeoccpjdjafnaa.Im
namespace Go.Proofs.Ytaeoccpjdjafnaa.Im
open Go.RowKit
open Rl (En Lg)
open Qu (Cf)
set_option maxRecDepth 100000
set_option linter.unusedVariables false
attribute [local go_sem ↓] loadAt_hard storeAt_hard loadAt_image storeAt_image
local instance lo2 : Lo := ⟨0⟩
structure EvH (w : World) (lo : Nat) (A : Option Addr) (c : Nat) (M : List Hq) (k : Nat) (W : World) (M1 : List Hq) : Prop where
  len : M1.length = k
  row : RowIn cellsH 10 59 W (fun k => w.heap.size ≤ k) A c (M1 ++ M.drop k)
  ch : OwnPts W lo W.heap.size (M1.map fun q => (q.h.p, q.a))
  val : M1.map (·.h) = (M.map (·.h)).take k
  bel : Below w.heap.size w W
  lo : w.heap.size ≤ lo
set_option maxHeartbeats 1600000 in
theorem eachH_any (A : Option Addr) (c n : Nat) (M : List Hq) (hMn : M.length = n) (hl : n ≤ 100000) (hf : ∀ q ∈ M, FewP q.h.p) (w : World) (h : IsHds w w.heap.size A M) (hnil : A = none → c = 0) :
    Calls Try.prog 65 #[.slice A n c, .func (.func 66) #[] #[]] w fun e w' => ∃ A' c', e = .returned (.slice A' n c') ∧ (∃ M' : List Hq, M'.map (·.h) = M.map (·.h) ∧ OwnHs w' w.heap.size w'.heap.size A' c' M') ∧ Below w.heap.size w w' := by
  have HO := hid (ownH_any A c n M hMn hl w h.row hnil)
  have H0 := hid (And.intro h (And.intro hMn hf))
  have HL := hid hl
  clear h hnil hMn hf
  go_enter Try.func65, Try.ntmps65
  go_wp2_with fail
  refine HO.out.mono ?_
  rintro e w1 ⟨A1, c1, rfl, hrow1, hb1⟩
  have HI : Hid (EvH w w1.heap.size A1 c1 M 0 w1 []) := hid ⟨rfl, by simpa using hrow1, Nat.le_refl _, by simp, hb1, hb1.size⟩
  clear hrow1 hb1
  go_wp2_with fail
  go_loopw [11] (fun i wr => ∃ k : Nat, k ≤ n ∧ i = .int .i64 k ∧ Hid (∃ M1, EvH w w1.heap.size A1 c1 M k wr M1)) (fun i _ => n - (RowKit.intOf i).toNat)
  case atStart => exact ⟨0, by omega, rfl, hid ⟨_, HI.out⟩⟩
  case round =>
    clear HI
    obtain ⟨k, hk, rfl, HV⟩ := hrel
    obtain ⟨M1, hv⟩ := HV.out
    by_cases hlt : k < n
    · have hkM : k < M.length := by rw [H0.out.2.1]; exact hlt
      have hkr : k < (M1 ++ M.drop k).length := by rw [List.length_append, List.length_drop, hv.len]; omega
      have hel : (M1 ++ M.drop k)[k] = M[k] := by
        rw [List.getElem_append_right (by rw [hv.len]; exact Nat.le_refl _)]
        simp [hv.len]
      obtain ⟨g, rfl⟩ : ∃ g, A1 = some ⟨g, 0, none⟩ := by
        obtain ⟨g, e, _⟩ := hv.row.get k hkr
        exact ⟨g, e⟩
      have hrange := RowIn.range hv.row k hkr
      rw [hel] at hrange
      have hkn : (k : Int) < (n : Int) := by omega
      obtain ⟨q, hq⟩ : ∃ q, q = M[k] := ⟨_, rfl⟩
      have hqm : q ∈ M := by rw [hq]; exact List.getElem_mem hkM
      rw [← hq] at hrange
      obtain ⟨x, ad⟩ := q
      have hld : (ldX 59 (.pointer (some ⟨g, k * 10, none⟩))).run Try.prog wr = .ok (.agg #[.int .i64 x.g, .int .i64 x.t, .int .i64 x.v, .int .i64 x.p.log.base, .int .i64 x.p.log.term, .slice ad.e x.p.log.es.length ad.ce, .slice ad.o x.p.cf.old.length ad.co, .slice ad.n x.p.cf.new.length ad.cn, .slice ad.l x.p.cf.lrn.length ad.cl, .slice ad.s x.p.sn.length ad.cs]) wr := ldH wr g (k * 10) (cellsH ⟨x, ad⟩) rfl hrange
      have HE := hid (ownHard_any x ad (H0.out.2.2 _ hqm) wr (((H0.out.1.pt _ hqm).below hv.bel).more hv.bel.size))
      have H3 := hid (And.intro hv (And.intro hq hkr))
      clear hv hrange hel hq hkr hqm
      go_wp2_with fail
      refine HE.out.mono ?_
      rintro e w3 ⟨a3, rfl, ho3, hb3⟩
      have hrow3 := H3.out.1.row.below hb3
      have hth := RowIn.there hrow3 k H3.out.2.2
      have hst := stAt info_hard hth #[.int .i64 x.g, .int .i64 x.t, .int .i64 x.v, .int .i64 x.p.log.base, .int .i64 x.p.log.term, .slice a3.e x.p.log.es.length a3.ce, .slice a3.o x.p.cf.old.length a3.co, .slice a3.n x.p.cf.new.length a3.cn, .slice a3.l x.p.cf.lrn.length a3.cl, .slice a3.s x.p.sn.length a3.cs] rfl (by simp [Value.oneCell'])
      have hrow4 := RowIn.setAll hrow3 k H3.out.2.2 (⟨x, a3⟩ : Hq)
      have hT := turned_setCells g (cellsH ⟨x, a3⟩) w3 (k * 10)
      have HI : Hid (EvH w w1.heap.size (some ⟨g, 0, none⟩) c1 M (k + 1) (w3.setCells g (k * 10) (cellsH ⟨x, a3⟩)) (M1 ++ [⟨x, a3⟩])) := hid (by
        obtain ⟨hv, hq, hkr⟩ := H3.out
        have hlen := hv.len
        obtain ⟨cur, hcur⟩ := hrow3.tag rfl
        have hgr : w3.grownBy (w3.setCells g (k * 10) (cellsH ⟨x, a3⟩)) (some g) := ⟨hT.os, hT.tape, hT.output, hT.size, fun j hj hne => hT.block j hj (fun e => hne (by rw [e]))⟩
        have kp : Kp Parts w3 (w3.setCells g (k * 10) (cellsH ⟨x, a3⟩)) := Kp.ofGrown hcur (by rintro (e | e | e) <;> exact absurd e (by decide)) hgr
        have hset : (M1 ++ M.drop k).set k (⟨x, a3⟩ : Hq) = (M1 ++ [⟨x, a3⟩]) ++ M.drop (k + 1) := by
          rw [List.set_append_right _ _ (by omega), hlen, Nat.sub_self, List.drop_eq_getElem_cons hkM, List.append_assoc]
          rfl
        have hz := hT.size
        have hb3z := hb3.size
        refine ⟨by simp [hlen], by rw [← hset]; exact hrow4, ?_, ?_, ?_, hv.lo⟩
        · rw [List.map_append]
          have c1 := (OwnPts.kp_ (OwnPts.kp_ hv.ch (Kp.ofBelow hb3)) kp)
          exact (OwnPts.snoc c1 (ho3.kp kp)).wide (Nat.le_refl _) hz
        · rw [List.map_append, hv.val, List.take_succ_eq_append_getElem (by rw [List.length_map]; exact hkM), List.getElem_map, ← hq]; rfl
        · exact (hv.bel.trans (hb3.mono hv.bel.size)).trans (hT.below (by have := hv.bel.size; omega) (fun j hj => by
            have := hrow3.blk g rfl
            omega)))
      clear hrow3 hth hrow4 hT ho3 hb3
      have hst' : (stX 59 (.pointer (some ⟨g, k * 10, none⟩)) (.agg #[.int .i64 x.g, .int .i64 x.t, .int .i64 x.v, .int .i64 x.p.log.base, .int .i64 x.p.log.term, .slice a3.e x.p.log.es.length a3.ce, .slice a3.o x.p.cf.old.length a3.co, .slice a3.n x.p.cf.new.length a3.cn, .slice a3.l x.p.cf.lrn.length a3.cl, .slice a3.s x.p.sn.length a3.cs])).run Try.prog w3 = .ok () (w3.setCells g (k * 10) (cellsH ⟨x, a3⟩)) := hst
      clear hst
      generalize w3.setCells g (k * 10) (cellsH ⟨x, a3⟩) = w4 at *
      go_wp2_with fail
      go_roundw
      case rel => exact ⟨k + 1, by omega, by go_num, hid ⟨_, HI.out⟩⟩
      case measure => simp [RowKit.intOf]; omega
    · obtain rfl : k = n := by omega
      have HF2 : Hid ((∃ M' : List Hq, M'.map (·.h) = M.map (·.h) ∧ OwnHs wr w.heap.size wr.heap.size A1 c1 M') ∧ Below w.heap.size w wr) := hid (by
        have h0 : M.drop k = [] := List.drop_of_length_le (by rw [H0.out.2.1]; exact Nat.le_refl _)
        have h1 := hv.row
        rw [h0, List.append_nil] at h1
        have h2 := hv.val
        rw [List.take_of_length_le (by rw [List.length_map, H0.out.2.1]; exact Nat.le_refl _)] at h2
        refine ⟨⟨M1, h2, h1.mono (fun j hj => ⟨h1.blk j hj, h1.lt j hj⟩), hv.ch.wide hv.lo (Nat.le_refl _), fun q hq => ?_⟩, hv.bel⟩
        have hqe : q.h ∈ M.map (·.h) := by rw [← h2]; exact List.mem_map.2 ⟨q, hq, rfl⟩
        obtain ⟨q', hq', e⟩ := List.mem_map.1 hqe
        have := H0.out.1.num q' hq'
        rw [e] at this
        exact this)
      clear hv
      go_wp2_with fail
      go_ret
      exact ⟨A1, c1, rfl, HF2.out⟩
end Go.Proofs.Ytaeoccpjdjafnaa.Im
namespace Go.Proofs.Ytaeoccpjdjafnaa.Im
open Go.RowKit
open Rl (En Lg)
open Qu (Cf)
set_option maxRecDepth 100000
set_option linter.unusedVariables false
attribute [local go_sem ↓] loadAt_image storeAt_image
local instance lo3 : Lo := ⟨0⟩
theorem cell_sets {W : World} {R G j : Nat} {v : Value} (h : W.cell? ⟨G, j, none⟩ = some v) (hne : G ≠ R) (L : List Value) : (W.setCells R 0 L).cell? ⟨G, j, none⟩ = some v :=
  (World.cell?_setCells_out R L 0 W _ (fun e => absurd e hne)).trans h
structure Oi (w : World) (b0 b1 : Nat) (vh vv : Value) (W : World) : Prop where
  bel : Below b0 w W
  c0 : W.heap[b0]? = some (.cells #[vh, vv] 25 (0, 0))
  c1 : W.heap[b1]? = some (.cells #[.slice none 0 0, .slice none 0 0] 25 (0, 0))
theorem Oi.grow {w W W' : World} {b0 b1 : Nat} {vh vv : Value} (h : Oi w b0 b1 vh vv W) (hb : Below W.heap.size W W') : Oi w b0 b1 vh vv W' :=
  ⟨h.bel.trans (hb.mono (Nat.le_of_lt (row_lt h.c0))), (hb.block _ (row_lt h.c0)).trans h.c0, (hb.block _ (row_lt h.c1)).trans h.c1⟩
theorem Oi.facts {w W : World} {b0 b1 : Nat} {vh vv : Value} (h : Oi w b0 b1 vh vv W) : W.cell? ⟨b0, 0, none⟩ = some vh ∧ W.cell? ⟨b0, 1, none⟩ = some vv ∧ W.there b1 0 2 :=
  ⟨row_cell h.c0 0, row_cell h.c0 1, there_row h.c1⟩
set_option maxHeartbeats 3200000 in
theorem ownImage_any (i : Ia) (nh nv : Nat) (Q : List Hq) (L : List Vt) (hnh : nh = Q.length) (hnv : nv = L.length) (hlh : nh ≤ 100000) (hlv : nv ≤ 100000) (hf : ∀ q ∈ Q, FewP q.h.p) (w : World) (hh : IsHds w w.heap.size i.h Q) (hv : IsVs w w.heap.size i.v L) (zh : i.h = none → i.ch = 0) (zv : i.v = none → i.cv = 0) :
    Calls Try.prog 34 #[.agg #[.slice i.h nh i.ch, .slice i.v nv i.cv]] w fun e w' => ∃ i' : Ia, e = .returned (.agg #[.slice i'.h nh i'.ch, .slice i'.v nv i'.cv]) ∧ (∃ Q' : List Hq, Q'.map (·.h) = Q.map (·.h) ∧ OwnIm w' w.heap.size w'.heap.size i' Q' L) ∧ Below w.heap.size w w' := by
  obtain ⟨wA, hwA⟩ : ∃ wA, wA = (w.alloc (.cells #[.slice i.h nh i.ch, .slice i.v nv i.cv] 25)).alloc (.cells #[.slice none 0 0, .slice none 0 0] 25) := ⟨_, rfl⟩
  obtain ⟨b0, hb0⟩ : ∃ b, b = w.heap.size := ⟨_, rfl⟩
  obtain ⟨b1, hb1⟩ : ∃ b, b = w.heap.size + 1 := ⟨_, rfl⟩
  have hsA : wA.heap.size = w.heap.size + 2 := by rw [hwA]; simp
  have o0 : Oi w b0 b1 (.slice i.h nh i.ch) (.slice i.v nv i.cv) wA := by
    refine ⟨by rw [hwA, hb0]; exact ((Below.refl _ w).alloc (Nat.le_refl _) _).alloc (by simp) _, ?_, ?_⟩
    · rw [hwA, heap_alloc_old _ _ (by rw [hb0]; simp), hb0]; exact heap_alloc_new w _
    · have := heap_alloc_new (w.alloc (.cells #[.slice i.h nh i.ch, .slice i.v nv i.cv] 25)) (.cells #[.slice none 0 0, .slice none 0 0] 25)
      rw [World.size_alloc, ← hwA, ← hb1] at this
      exact this
  have o1 : Oi w b0 b1 (.slice i.h nh i.ch) (.slice i.v nv i.cv) wA.drew := ⟨o0.bel.drew, o0.c0, o0.c1⟩
  have CH : Hid (∀ W, Oi w b0 b1 (.slice i.h nh i.ch) (.slice i.v nv i.cv) W → Calls Try.prog 65 #[.slice i.h nh i.ch, .func (.func 66) #[] #[]] W fun e w' => ∃ A' c', e = .returned (.slice A' nh c') ∧ (∃ M' : List Hq, M'.map (·.h) = Q.map (·.h) ∧ OwnHs w' W.heap.size w'.heap.size A' c' M') ∧ Below W.heap.size W w') := hid (fun W hW =>
    eachH_any i.h i.ch nh Q hnh.symm hlh hf W ((hh.below (hb0 ▸ hW.bel)).more (by have := row_lt hW.c0; omega)) zh)
  have CV : Hid (∀ W, Oi w b0 b1 (.slice i.h nh i.ch) (.slice i.v nv i.cv) W → Calls Try.prog 67 #[.slice i.v nv i.cv] W fun e w' => ∃ A' c', e = .returned (.slice A' nv c') ∧ RowIn cellsV 5 34 w' (fun k => W.heap.size ≤ k) A' c' L ∧ Below W.heap.size W w') := hid (fun W hW =>
    ownV_any i.v i.cv nv L hnv.symm hlv W ((hv.row.below (hb0 ▸ hW.bel)).more (by have := row_lt hW.c0; omega)) zv)
  have HN := hid (And.intro hb0 (And.intro hb1 (And.intro hsA hv.num)))
  have NE : b0 ≠ b1 := by omega
  obtain ⟨q0, r0, t0⟩ := o0.facts
  obtain ⟨q1, r1, t1⟩ := o1.facts
  have P1 := hid o1
  have STV : ∀ W (A1 A2 : Option Addr) (c1 c2 : Nat), W.there b1 0 2 → (stX 25 (.pointer (some ⟨b1, 0, none⟩)) (.agg #[.slice A1 nh c1, .slice A2 nv c2])).run Try.prog W = .ok () (W.setCells b1 0 [.slice A1 nh c1, .slice A2 nv c2]) := fun W A1 A2 c1 c2 hW => stThere info_image2 W b1 _ hW rfl (by simp [Value.oneCell'])
  clear hnh hnv hlh hlv hf hh hv zh zv hsA o0 o1
  go_enter Try.func34, Try.ntmps34
  go_wp2_with fail
  rw [← hb1, ← hb0, ← hwA]
  clear hwA hb0 hb1
  go_region_held3 (fun W => W.cell? ⟨b0, 0, none⟩ = some (.slice i.h nh i.ch) ∧ W.cell? ⟨b0, 1, none⟩ = some (.slice i.v nv i.cv) ∧ W.there b1 0 2)
    (first | exact ⟨cell_sets f3.1 NE _, cell_sets f3.2.1 NE _, World.there_setCells f3.2.2 _ _ _⟩ | with_reducible exact f3 | with_reducible exact f2 | exact ⟨q1, r1, t1⟩ | exact ⟨q0, r0, t0⟩ | fail)
    (first
      | (go_at_call 67; refine (CV.out _ P2.out.1).mono ?_; rintro e w3 ⟨A3, c3, rfl, o3, y3⟩; have f3 := (P2.out.1.grow y3).facts; have P3 := hid (And.intro (P2.out.1.grow y3) (And.intro o3 y3)); clear o3 y3)
      | (go_at_call 65; refine (CH.out _ P1.out).mono ?_; rintro e w2 ⟨A2, c2, rfl, o2, y2⟩; have f2 := (P1.out.grow y2).facts; have P2 := hid (And.intro (P1.out.grow y2) (And.intro o2 y2)); clear o2 y2)
      | fail)
  all_goals
    have hT := turned_setCells b1 [.slice A2 nh c2, .slice A3 nv c3] w3 0
    have HR := hid (setCells_all P3.out.1.c1 [.slice A2 nh c2, .slice A3 nv c3] rfl)
    have HF : Hid ((∃ Q' : List Hq, Q'.map (·.h) = Q.map (·.h) ∧ OwnIm (w3.setCells b1 0 [.slice A2 nh c2, .slice A3 nv c3]) w.heap.size (w3.setCells b1 0 [.slice A2 nh c2, .slice A3 nv c3]).heap.size ⟨A2, c2, A3, c3⟩ Q' L) ∧ Below w.heap.size w (w3.setCells b1 0 [.slice A2 nh c2, .slice A3 nv c3])) := hid (by
      obtain ⟨z0, z1, z2, hnum⟩ := HN.out
      obtain ⟨Q', hQ', ho2⟩ := P2.out.2.1
      have y2 := P2.out.2.2.size
      have y3 := P3.out.2.2.size
      have hz := hT.size
      have hdr : wA.drew.heap.size = wA.heap.size := rfl
      refine ⟨⟨Q', hQ', w2.heap.size, by omega, by omega, ?_, ?_, hnum⟩, ?_⟩
      · exact ((ho2.below P3.out.2.2).keep hT (fun k hk hB => by have := hB.1; omega)).wide (by omega) (Nat.le_refl _)
      · refine (P3.out.2.1.keep hT (fun k hk e => ?_)).mono (fun k hk => ⟨P3.out.2.1.blk k hk, by have := P3.out.2.1.lt k hk; omega⟩)
        have := P3.out.2.1.blk k hk
        omega
      · rw [← z0]
        exact P3.out.1.bel.trans (hT.below (by omega) (fun k hk => by omega)))
    clear hT
    go_wp2_with fail
    refine bodyPost_ret (results_cell_row rfl _ _ b1 _ _ _ _ rfl HR.out Try.underlying25 rfl (by rw [info_image2]; rfl)) rfl ?_
    exact ⟨⟨A2, c2, A3, c3⟩, rfl, HF.out⟩
end Go.Proofs.Ytaeoccpjdjafnaa.Im
namespace Go.Proofs.Ytaeoccpjdjafnaa.Im
open Go Go.RowKit
open Rl (En Lg)
open Qu (Cf)
set_option maxRecDepth 100000
set_option linter.unusedVariables false
attribute [local go_sem ↓] loadAt_hard storeAt_hard loadAt_change storeAt_change loadAt_vote storeAt_vote loadAt_image storeAt_image
local instance lo7 : Lo := ⟨0⟩
def apply (x : Im) (c : Ch) : Im × Int :=
  if c.k = 1 ∨ c.k = 2 ∨ c.k = 3 then
    match x.hs.find? (fun h => decide (h.g = c.g)) with
    | none => (⟨[], []⟩, 6)
    | some h => match chgd h c with
      | none => (⟨[], []⟩, 3)
      | some y => (⟨ins ltH x.hs y, x.vs⟩, 0)
  else if c.k = 4 then (⟨x.hs, ins ltV x.vs c.a⟩, 0)
  else (⟨[], []⟩, 13)
theorem mem_ins {α : Type} {lt : α → α → Bool} {L : List α} {x y : α} (h : y ∈ ins lt L x) : y = x ∨ y ∈ L := by
  unfold ins at h
  rcases List.mem_append.1 h with h | h
  · exact .inr (List.mem_filter.1 h).1
  · rcases List.mem_cons.1 h with h | h
    · exact .inl h
    · exact .inr (List.mem_filter.1 h).1
theorem find_no {Q : List Hq} {g : Int} {k : Nat} (hasc : asc ltH (Q.map (·.h)) = true) (hat : At ltH (Q.map (·.h)) ⟨g, 0, 0, P0⟩ k) (hf : ¬ ∃ h : k < Q.length, Q[k].h.g = g) : (Q.map (·.h)).find? (fun h => decide (h.g = g)) = none := by
  rw [List.find?_eq_none]
  intro y hy
  obtain ⟨i, hi, rfl⟩ := List.getElem_of_mem hy
  intro he
  have he' : (Q.map (fun q : Hq => q.h))[i].g = g := by simpa using he
  have hk : k ≤ i := by
    rcases Nat.lt_or_ge i k with h | h
    · have := hat.ahead i hi h
      simp only [ltH, decide_eq_true_eq] at this
      omega
    · exact h
  have hkl : k < (Q.map (·.h)).length := by omega
  have h1 := hat.behind k hkl (Nat.le_refl _)
  simp only [ltH, decide_eq_false_iff_not] at h1
  rcases Nat.lt_or_ge k i with h | h
  · have h2 := asc_lt ltH ltH_trans _ hasc k i hkl hi h
    simp only [ltH, decide_eq_true_eq] at h2
    omega
  · obtain rfl : k = i := by omega
    rw [List.length_map] at hkl
    rw [List.getElem_map] at he'
    exact hf ⟨hkl, he'⟩
theorem find_yes {Q : List Hq} {g : Int} {k : Nat} (hat : At ltH (Q.map (·.h)) ⟨g, 0, 0, P0⟩ k) (h : k < Q.length) (hf : Q[k].h.g = g) : (Q.map (·.h)).find? (fun h => decide (h.g = g)) = some Q[k].h := by
  rw [List.find?_eq_some_iff_getElem]
  refine ⟨by simpa using hf, k, by simpa using h, by simp, fun j hj => ?_⟩
  have hjl : j < (Q.map (·.h)).length := by rw [List.length_map]; omega
  have := hat.ahead j hjl hj
  simp only [ltH, decide_eq_true_eq] at this
  simp only [Bool.not_eq_true', decide_eq_false_iff_not]
  omega
structure Ap (w : World) (v1 v2 : Value) (c : Ch) (ac : Ad) (W : World) : Prop where
  bel : Below w.heap.size w W
  r2 : W.heap[w.heap.size]? = some (.cells #[v1, v2] 25 (0, 0))
  r3 : W.heap[w.heap.size + 1]? = some (.cells #[.int .i64 c.k, .int .i64 c.g, .int .i64 c.t, .int .i64 c.v, .int .i64 c.f, .int .i64 c.p.log.base, .int .i64 c.p.log.term, .slice ac.e c.p.log.es.length ac.ce, .slice ac.o c.p.cf.old.length ac.co, .slice ac.n c.p.cf.new.length ac.cn, .slice ac.l c.p.cf.lrn.length ac.cl, .slice ac.s c.p.sn.length ac.cs, .int .i64 c.a.x, .int .i64 c.a.p, .int .i64 c.a.r, .int .i64 c.a.b, .int .i64 c.a.v] 36 (0, 0))
  r4 : W.heap[w.heap.size + 1 + 1]? = some (.cells #[.slice none 0 0, .slice none 0 0] 25 (0, 0))
theorem ap_start (w : World) (v1 v2 : Value) (c : Ch) (ac : Ad) : Ap w v1 v2 c ac (((w.alloc (.cells #[v1, v2] 25)).alloc (.cells #[.int .i64 c.k, .int .i64 c.g, .int .i64 c.t, .int .i64 c.v, .int .i64 c.f, .int .i64 c.p.log.base, .int .i64 c.p.log.term, .slice ac.e c.p.log.es.length ac.ce, .slice ac.o c.p.cf.old.length ac.co, .slice ac.n c.p.cf.new.length ac.cn, .slice ac.l c.p.cf.lrn.length ac.cl, .slice ac.s c.p.sn.length ac.cs, .int .i64 c.a.x, .int .i64 c.a.p, .int .i64 c.a.r, .int .i64 c.a.b, .int .i64 c.a.v] 36)).alloc (.cells #[.slice none 0 0, .slice none 0 0] 25)) := by
  refine ⟨(((Below.refl _ w).alloc (Nat.le_refl _) _).alloc (by simp) _).alloc (by simp; omega) _, ?_, ?_, ?_⟩
  · rw [heap_alloc_old _ _ (by simp; omega), heap_alloc_old _ _ (by simp)]; exact heap_alloc_new w _
  · rw [heap_alloc_old _ _ (by simp)]
    have := heap_alloc_new (w.alloc (.cells #[v1, v2] 25)) (.cells #[.int .i64 c.k, .int .i64 c.g, .int .i64 c.t, .int .i64 c.v, .int .i64 c.f, .int .i64 c.p.log.base, .int .i64 c.p.log.term, .slice ac.e c.p.log.es.length ac.ce, .slice ac.o c.p.cf.old.length ac.co, .slice ac.n c.p.cf.new.length ac.cn, .slice ac.l c.p.cf.lrn.length ac.cl, .slice ac.s c.p.sn.length ac.cs, .int .i64 c.a.x, .int .i64 c.a.p, .int .i64 c.a.r, .int .i64 c.a.b, .int .i64 c.a.v] 36)
    rwa [World.size_alloc] at this
  · have := heap_alloc_new ((w.alloc (.cells #[v1, v2] 25)).alloc (.cells #[.int .i64 c.k, .int .i64 c.g, .int .i64 c.t, .int .i64 c.v, .int .i64 c.f, .int .i64 c.p.log.base, .int .i64 c.p.log.term, .slice ac.e c.p.log.es.length ac.ce, .slice ac.o c.p.cf.old.length ac.co, .slice ac.n c.p.cf.new.length ac.cn, .slice ac.l c.p.cf.lrn.length ac.cl, .slice ac.s c.p.sn.length ac.cs, .int .i64 c.a.x, .int .i64 c.a.p, .int .i64 c.a.r, .int .i64 c.a.b, .int .i64 c.a.v] 36)) (.cells #[.slice none 0 0, .slice none 0 0] 25)
    rw [World.size_alloc, World.size_alloc] at this
    exact this
section
variable {w W W' : World} {v1 v2 : Value} {c : Ch} {ac : Ad}
theorem Ap.grow (h : Ap w v1 v2 c ac W) (hb : Below W.heap.size W W') : Ap w v1 v2 c ac W' :=
  ⟨h.bel.trans (hb.mono h.bel.size), (hb.block _ (row_lt h.r2)).trans h.r2, (hb.block _ (row_lt h.r3)).trans h.r3, (hb.block _ (row_lt h.r4)).trans h.r4⟩
theorem Ap.turned {b : Nat} (h : Ap w v1 v2 c ac W) (hb : w.heap.size + 1 + 1 < b) (hT : Turned (fun k => k = b) W W') : Ap w v1 v2 c ac W' :=
  ⟨h.bel.trans (hT.below h.bel.size (fun k hk => by omega)), (hT.block _ (row_lt h.r2) (by omega)).trans h.r2, (hT.block _ (row_lt h.r3) (by omega)).trans h.r3, (hT.block _ (row_lt h.r4) (by omega)).trans h.r4⟩
theorem Ap.set0 (h : Ap w v1 v2 c ac W) (v : Value) : Ap w v v2 c ac (W.setCell ⟨w.heap.size, 0, none⟩ v) := by
  have hT : Turned (fun k => k = w.heap.size) W (W.setCell ⟨w.heap.size, 0, none⟩ v) := Turned.one _ _ _ _
  exact ⟨h.bel.trans (hT.below h.bel.size (fun k hk => by omega)), row_set h.r2 0 v, (hT.block _ (row_lt h.r3) (by omega)).trans h.r3, (hT.block _ (row_lt h.r4) (by omega)).trans h.r4⟩
theorem Ap.set1 (h : Ap w v1 v2 c ac W) (v : Value) : Ap w v1 v c ac (W.setCell ⟨w.heap.size, 1, none⟩ v) := by
  have hT : Turned (fun k => k = w.heap.size) W (W.setCell ⟨w.heap.size, 1, none⟩ v) := Turned.one _ _ _ _
  exact ⟨h.bel.trans (hT.below h.bel.size (fun k hk => by omega)), row_set h.r2 1 v, (hT.block _ (row_lt h.r3) (by omega)).trans h.r3, (hT.block _ (row_lt h.r4) (by omega)).trans h.r4⟩
end
structure Mid (w w1 : World) (v1 v2 : Value) (c : Ch) (ac : Ad) (z : Hd) (az : Ad) (b8 : Nat) (W : World) : Prop where
  ap : Ap w v1 v2 c ac W
  r8 : W.heap[b8]? = some (.cells #[.int .i64 z.g, .int .i64 z.t, .int .i64 z.v, .int .i64 z.p.log.base, .int .i64 z.p.log.term, .slice az.e z.p.log.es.length az.ce, .slice az.o z.p.cf.old.length az.co, .slice az.n z.p.cf.new.length az.cn, .slice az.l z.p.cf.lrn.length az.cl, .slice az.s z.p.sn.length az.cs] 59 (0, 0))
  le : w1.heap.size ≤ b8
  st : ∀ W', Turned (fun k => w.heap.size ≤ k ∧ k < w1.heap.size) W W' → IsPt W' W'.heap.size z.p az
def ToldA (w : World) (r : Im × Int) (e : Ending) (w' : World) : Prop := ∃ (i : Ia) (nh nv : Nat) (er : Int), e = .returned (.tuple #[.agg #[.slice i.h nh i.ch, .slice i.v nv i.cv], .int .i64 er]) ∧ er = r.2 ∧ (∃ Q L, (nh = Q.length ∧ nv = L.length) ∧ OwnIm w' w.heap.size w'.heap.size i Q L ∧ (⟨Q.map (·.h), L⟩ : Im) = r.1) ∧ Below w.heap.size w w'
theorem toldA_none {w W : World} (er : Int) (hb : Below w.heap.size w W) {r : Im × Int} (hr : r = (⟨[], []⟩, er)) : ToldA w r (.returned (.tuple #[.agg #[.slice none 0 0, .slice none 0 0], .int .i64 er])) W := by
  subst hr
  exact ⟨⟨none, 0, none, 0⟩, 0, 0, er, rfl, rfl, ⟨[], [], ⟨rfl, rfl⟩, OwnIm.nil _ hb.size, rfl⟩, hb⟩
set_option maxHeartbeats 6400000 in
theorem apply0_any (i : Ia) (nh nv : Nat) (x : Im) (c : Ch) (ac : Ad) (hk : ¬ (c.k = 1 ∨ c.k = 2 ∨ c.k = 3)) (hk4 : c.k ≠ 4) (w : World) :
    Calls Try.prog 10 #[.agg #[.slice i.h nh i.ch, .slice i.v nv i.cv], .agg #[.int .i64 c.k, .int .i64 c.g, .int .i64 c.t, .int .i64 c.v, .int .i64 c.f, .int .i64 c.p.log.base, .int .i64 c.p.log.term, .slice ac.e c.p.log.es.length ac.ce, .slice ac.o c.p.cf.old.length ac.co, .slice ac.n c.p.cf.new.length ac.cn, .slice ac.l c.p.cf.lrn.length ac.cl, .slice ac.s c.p.sn.length ac.cs, .int .i64 c.a.x, .int .i64 c.a.p, .int .i64 c.a.r, .int .i64 c.a.b, .int .i64 c.a.v]] w fun e w' => ToldA w (apply x c) e w' := by
  obtain ⟨wA, hwA⟩ : ∃ wA, wA = (((w.alloc (.cells #[.slice i.h nh i.ch, .slice i.v nv i.cv] 25)).alloc (.cells #[.int .i64 c.k, .int .i64 c.g, .int .i64 c.t, .int .i64 c.v, .int .i64 c.f, .int .i64 c.p.log.base, .int .i64 c.p.log.term, .slice ac.e c.p.log.es.length ac.ce, .slice ac.o c.p.cf.old.length ac.co, .slice ac.n c.p.cf.new.length ac.cn, .slice ac.l c.p.cf.lrn.length ac.cl, .slice ac.s c.p.sn.length ac.cs, .int .i64 c.a.x, .int .i64 c.a.p, .int .i64 c.a.r, .int .i64 c.a.b, .int .i64 c.a.v] 36)).alloc (.cells #[.slice none 0 0, .slice none 0 0] 25)) := ⟨_, rfl⟩
  have hg := ap_start w (.slice i.h nh i.ch) (.slice i.v nv i.cv) c ac
  rw [← hwA] at hg
  have HV : Hid (apply x c = (⟨[], []⟩, 13)) := hid (by unfold apply; rw [if_neg hk, if_neg hk4])
  obtain ⟨kd, hkd⟩ : ∃ kd, kd = c.k := ⟨_, rfl⟩
  have k0 : wA.cell? ⟨w.heap.size + 1, 0, none⟩ = some (.int .i64 c.k) := row_cell hg.r3 0
  have k1 : ¬ c.k = 1 := fun e => hk (.inl e)
  have k2 : ¬ c.k = 2 := fun e => hk (.inr (.inl e))
  have k3 : ¬ c.k = 3 := fun e => hk (.inr (.inr e))
  have hst := stSame info_image2 hg.r4 rfl (by simp [Value.oneCell'])
  rw [hwA] at k0 hst
  have HG := hid hg
  clear hg hk
  go_enter Try.func10, Try.ntmps10
  go_wp2_with fail
  rw [← hwA]
  refine bodyPost_ret (results_two rfl info_image2 Try.underlying25 rfl _ _ (w.heap.size + 1 + 1) _ _ _ rfl HG.out.r4 rfl) rfl ?_
  exact toldA_none 13 HG.out.bel HV.out
set_option maxHeartbeats 6400000 in
theorem apply4_any (i : Ia) (nh nv : Nat) (Q : List Hq) (L : List Vt) (c : Ch) (ac : Ad) (hk : c.k = 4) (hnh : nh = Q.length) (hnv : nv = L.length) (hlh : nh ≤ 40000) (hlv : nv ≤ 40000) (hav : asc ltV L = true) (hf : ∀ q ∈ Q, FewP q.h.p) (w : World) (hh : IsHds w w.heap.size i.h Q) (hv : IsVs w w.heap.size i.v L) (zh : i.h = none → i.ch = 0) (zv : i.v = none → i.cv = 0) (cv : nv ≤ i.cv ∧ i.cv ≤ maxLen) (hcv : okV c.a) :
    Calls Try.prog 10 #[.agg #[.slice i.h nh i.ch, .slice i.v nv i.cv], .agg #[.int .i64 c.k, .int .i64 c.g, .int .i64 c.t, .int .i64 c.v, .int .i64 c.f, .int .i64 c.p.log.base, .int .i64 c.p.log.term, .slice ac.e c.p.log.es.length ac.ce, .slice ac.o c.p.cf.old.length ac.co, .slice ac.n c.p.cf.new.length ac.cn, .slice ac.l c.p.cf.lrn.length ac.cl, .slice ac.s c.p.sn.length ac.cs, .int .i64 c.a.x, .int .i64 c.a.p, .int .i64 c.a.r, .int .i64 c.a.b, .int .i64 c.a.v]] w fun e w' => ToldA w (apply ⟨Q.map (·.h), L⟩ c) e w' := by
  obtain ⟨wA, hwA⟩ : ∃ wA, wA = (((w.alloc (.cells #[.slice i.h nh i.ch, .slice i.v nv i.cv] 25)).alloc (.cells #[.int .i64 c.k, .int .i64 c.g, .int .i64 c.t, .int .i64 c.v, .int .i64 c.f, .int .i64 c.p.log.base, .int .i64 c.p.log.term, .slice ac.e c.p.log.es.length ac.ce, .slice ac.o c.p.cf.old.length ac.co, .slice ac.n c.p.cf.new.length ac.cn, .slice ac.l c.p.cf.lrn.length ac.cl, .slice ac.s c.p.sn.length ac.cs, .int .i64 c.a.x, .int .i64 c.a.p, .int .i64 c.a.r, .int .i64 c.a.b, .int .i64 c.a.v] 36)).alloc (.cells #[.slice none 0 0, .slice none 0 0] 25)) := ⟨_, rfl⟩
  have hg := ap_start w (.slice i.h nh i.ch) (.slice i.v nv i.cv) c ac
  rw [← hwA] at hg
  have HV : Hid (apply ⟨Q.map (·.h), L⟩ c = (⟨Q.map (·.h), ins ltV L c.a⟩, 0)) := hid (by unfold apply; rw [if_neg (by rw [hk]; decide), if_pos hk])
  have k0 : wA.cell? ⟨w.heap.size + 1, 0, none⟩ = some (.int .i64 c.k) := row_cell hg.r3 0
  rw [hk] at k0
  have k1 : wA.cell? ⟨w.heap.size, 1, none⟩ = some (.slice i.v nv i.cv) := row_cell hg.r2 1
  have l1 : (ldX 34 (.pointer (some ⟨w.heap.size + 1, 12, none⟩))).run Try.prog wA = .ok (.agg #[.int .i64 c.a.x, .int .i64 c.a.p, .int .i64 c.a.r, .int .i64 c.a.b, .int .i64 c.a.v]) wA := ldV wA (w.heap.size + 1) 12 [.int .i64 c.a.x, .int .i64 c.a.p, .int .i64 c.a.r, .int .i64 c.a.b, .int .i64 c.a.v] rfl (fun j v hv => by
    rw [row_cell hg.r3 (12 + j)]
    rcases j with _ | _ | _ | _ | _ | j
    · simpa using hv
    · simpa using hv
    · simpa using hv
    · simpa using hv
    · simpa using hv
    · simp at hv)
  have HP := hid (placedV_any i.v i.cv L nv hnv.symm hlv cv zv c.a hav w.heap.size wA.heap.size wA hg.bel.size (Nat.le_refl _) (hv.below hg.bel) hcv)
  rw [hwA] at k0 k1 l1
  have HG := hid hg
  have HX := hid (And.intro hh (And.intro hnh (And.intro hlh (And.intro hf (And.intro zh hlv)))))
  clear hg hh hv hnh hnv hlh hlv hav hf zh zv cv hcv hk
  go_enter Try.func10, Try.ntmps10
  go_wp2_with fail
  rw [← hwA]
  clear hwA k0 k1 l1
  refine HP.out.mono ?_
  rintro e w1 ⟨A1, c1, m1, rfl, ⟨L', hL', ⟨hm, hmn⟩, hv1, hn1, hc1⟩, hb1⟩
  have hg1 := HG.out.grow hb1
  have hc10 : w1.cell? ⟨w.heap.size, 1, none⟩ = some (.slice i.v nv i.cv) := row_cell hg1.r2 1
  have f1 := row_free hg1.r2 1
  have hg2 := hg1.set1 (.slice A1 m1 c1)
  have hT2 : Turned (fun k => k = w.heap.size) w1 (w1.setCell ⟨w.heap.size, 1, none⟩ (.slice A1 m1 c1)) := Turned.one _ _ _ _
  have hv2 := hv1 _ (hT2.mono (fun k hk => ⟨by omega, by have := row_lt HG.out.r2; omega⟩))
  have HZ := hid (And.intro hL' (And.intro hm (And.intro hmn (And.intro hn1 hc1))))
  clear hb1 hg1 hT2 hv1 hL' hm hmn hn1 hc1
  go_wp2_with fail
  generalize w1.setCell ⟨w.heap.size, 1, none⟩ (.slice A1 m1 c1) = w2 at *
  have hld := ldRow info_image2 Try.underlying25 rfl hg2.r2 rfl
  have HO := hid (ownImage_any ⟨i.h, i.ch, A1, c1⟩ nh m1 Q L' HX.out.2.1 HZ.out.2.1 (by have := HX.out.2.2.1; omega) (by have := HZ.out.2.2.1; have := HX.out.2.2.2.2.2; omega) HX.out.2.2.2.1 w2 ((HX.out.1.below hg2.bel).more hg2.bel.size) hv2 HX.out.2.2.2.2.1 HZ.out.2.2.2.1)
  have HG2 := hid hg2
  clear hg2 hv2 hc10 f1
  go_wp2_with fail
  refine HO.out.mono ?_
  rintro e w3 ⟨j, rfl, ⟨Q', hQ', ho⟩, hb3⟩
  have hg3 := HG2.out.grow hb3
  have hst := stRow info_image2 (cs' := #[.slice j.h nh j.ch, .slice j.v m1 j.cv]) hg3.r4 rfl rfl (by simp [Value.oneCell'])
  have r5 := setRow_heap w3 (w.heap.size + 1 + 1) _ #[.slice j.h nh j.ch, .slice j.v m1 j.cv] _ _ hg3.r4
  have tT := row_turned w3 (w.heap.size + 1 + 1) #[.slice j.h nh j.ch, .slice j.v m1 j.cv]
  generalize w3.setRow (w.heap.size + 1 + 1) #[.slice j.h nh j.ch, .slice j.v m1 j.cv] = wC at *
  have HF : Hid (wC.heap[w.heap.size + 1 + 1]? = some (.cells #[.slice j.h nh j.ch, .slice j.v m1 j.cv] 25 (0, 0)) ∧ (∃ Q1 L1, (nh = Q1.length ∧ m1 = L1.length) ∧ OwnIm wC w.heap.size wC.heap.size j Q1 L1 ∧ (⟨Q1.map (·.h), L1⟩ : Im) = (apply ⟨Q.map (·.h), L⟩ c).1) ∧ Below w.heap.size w wC) := hid (by
    have z4 := row_lt HG2.out.r4
    have z3 := hb3.size
    have zb := HG2.out.bel.size
    refine ⟨r5, ⟨Q', L', ⟨?_, HZ.out.2.1⟩, (ho.keep tT (fun k hk hB => by have := hB.1; omega)).wide zb tT.size, ?_⟩, hg3.bel.trans (tT.below hg3.bel.size (fun k hk => by omega))⟩
    · have := congrArg List.length hQ'
      rw [List.length_map, List.length_map] at this
      rw [this]; exact HX.out.2.1
    · rw [HV.out, hQ', HZ.out.1])
  clear hg3 r5 tT ho hb3
  go_wp2_with fail
  refine bodyPost_ret (results_two rfl info_image2 Try.underlying25 rfl _ _ (w.heap.size + 1 + 1) _ _ _ rfl HF.out.1 rfl) rfl ?_
  exact ⟨j, nh, m1, 0, rfl, by rw [HV.out], HF.out.2⟩
set_option maxHeartbeats 6400000 in
theorem apply1_any (i : Ia) (nh nv : Nat) (Q : List Hq) (L : List Vt) (c : Ch) (ac : Ad) (hk : c.k = 1) (hnh : nh = Q.length) (hnv : nv = L.length) (hlh : nh ≤ 40000) (hlv : nv ≤ 40000) (hah : asc ltH (Q.map (·.h)) = true) (hf : ∀ q ∈ Q, FewP q.h.p ∧ Rl.Ok q.h.p.log ∧ Rl.Few q.h.p.log.es) (hfy : ∀ q ∈ Q, ∀ y, chgd q.h c = some y → FewP y.p) (hcl : c.p.log.es.length ≤ 20000) (w : World) (hh : IsHds w w.heap.size i.h Q) (hv : IsVs w w.heap.size i.v L) (hc : IsPt w w.heap.size c.p ac) (zh : i.h = none → i.ch = 0) (zv : i.v = none → i.cv = 0) (ch : nh ≤ i.ch ∧ i.ch ≤ maxLen) (hnc : (InInt c.k ∧ InInt c.g ∧ InInt c.t ∧ InInt c.v ∧ InInt c.f) ∧ okV c.a) :
    Calls Try.prog 10 #[.agg #[.slice i.h nh i.ch, .slice i.v nv i.cv], .agg #[.int .i64 c.k, .int .i64 c.g, .int .i64 c.t, .int .i64 c.v, .int .i64 c.f, .int .i64 c.p.log.base, .int .i64 c.p.log.term, .slice ac.e c.p.log.es.length ac.ce, .slice ac.o c.p.cf.old.length ac.co, .slice ac.n c.p.cf.new.length ac.cn, .slice ac.l c.p.cf.lrn.length ac.cl, .slice ac.s c.p.sn.length ac.cs, .int .i64 c.a.x, .int .i64 c.a.p, .int .i64 c.a.r, .int .i64 c.a.b, .int .i64 c.a.v]] w fun e w' => ToldA w (apply ⟨Q.map (·.h), L⟩ c) e w' := by
  obtain ⟨wA, hwA⟩ : ∃ wA, wA = (((w.alloc (.cells #[.slice i.h nh i.ch, .slice i.v nv i.cv] 25)).alloc (.cells #[.int .i64 c.k, .int .i64 c.g, .int .i64 c.t, .int .i64 c.v, .int .i64 c.f, .int .i64 c.p.log.base, .int .i64 c.p.log.term, .slice ac.e c.p.log.es.length ac.ce, .slice ac.o c.p.cf.old.length ac.co, .slice ac.n c.p.cf.new.length ac.cn, .slice ac.l c.p.cf.lrn.length ac.cl, .slice ac.s c.p.sn.length ac.cs, .int .i64 c.a.x, .int .i64 c.a.p, .int .i64 c.a.r, .int .i64 c.a.b, .int .i64 c.a.v] 36)).alloc (.cells #[.slice none 0 0, .slice none 0 0] 25)) := ⟨_, rfl⟩
  have hg := ap_start w (.slice i.h nh i.ch) (.slice i.v nv i.cv) c ac
  rw [← hwA] at hg
  have hk3 : c.k = 1 ∨ c.k = 2 ∨ c.k = 3 := by omega
  have k0 : wA.cell? ⟨w.heap.size + 1, 0, none⟩ = some (.int .i64 c.k) := row_cell hg.r3 0
  rw [hk] at k0
  have k1 : wA.cell? ⟨w.heap.size + 1, 1, none⟩ = some (.int .i64 c.g) := row_cell hg.r3 1
  have k2 : wA.cell? ⟨w.heap.size, 0, none⟩ = some (.slice i.h nh i.ch) := row_cell hg.r2 0
  have HP := hid (bsH_any w.heap.size i.h i.ch Q nh hnh.symm (by omega) ⟨c.g, 0, 0, P0⟩ A0 hah wA (hh.below hg.bel) hg.bel.size)
  rw [hwA] at k0 k1 k2
  have HG := hid hg
  have HX := hid (And.intro hh (And.intro hnh (And.intro hlh (And.intro hf (And.intro zh hlv)))))
  have HY := hid (And.intro hv (And.intro hnv (And.intro zv (And.intro ch (And.intro hah (And.intro hc hnc))))))
  have HK := hid (And.intro hk3 (And.intro hcl hfy))
  have hch := ch.1
  clear hg hh hv hnh hnv hlh hlv hah hf zh zv ch hc hnc hk3 hcl hfy hk
  go_enter Try.func10, Try.ntmps10
  go_wp2_with fail
  rw [← hwA]
  clear hwA k0 k1 k2
  refine HP.out.mono ?_
  rintro e w1 ⟨k, f, rfl, hat, hf, hb1⟩
  have hg1 := HG.out.grow hb1
  have k2 : w1.cell? ⟨w.heap.size, 0, none⟩ = some (.slice i.h nh i.ch) := row_cell hg1.r2 0
  rcases f with _ | _
  · have HV : Hid (apply ⟨Q.map (·.h), L⟩ c = (⟨[], []⟩, 6)) := hid (by
      unfold apply
      rw [if_pos HK.out.1, find_no HY.out.2.2.2.2.1 hat (fun h => by have := hf.2 h; cases this)])
    have hst := stSame info_image2 hg1.r4 rfl (by simp [Value.oneCell'])
    have HG1 := hid hg1
    clear hg1 hb1 hat hf
    go_wp2_with fail
    refine bodyPost_ret (results_two rfl info_image2 Try.underlying25 rfl _ _ (w.heap.size + 1 + 1) _ _ _ rfl HG1.out.r4 rfl) rfl ?_
    exact toldA_none 6 HG1.out.bel HV.out
  · obtain ⟨hkl, hkg⟩ := hf.1 rfl
    have HFI := hid (find_yes hat hkl hkg)
    obtain ⟨b, off, hA, hbb, hcs⟩ := (HX.out.1.below hg1.bel).row.at_ k hkl
    obtain ⟨q, hq⟩ : ∃ q, q = Q[k] := ⟨_, rfl⟩
    have hr0 := hcs k hkl
    rw [← hq] at hr0 HFI
    have hqm : q ∈ Q := by rw [hq]; exact List.getElem_mem hkl
    obtain ⟨y, ay⟩ := q
    have hyg : y.g = c.g := by rw [← hkg, ← hq]
    have hbw1 : b < w1.heap.size := by have := hg1.bel.size; omega
    have LD : Hid (∀ W, Below w1.heap.size w1 W → (ldX 59 (.pointer (some ⟨b, off + k * 10, none⟩))).run Try.prog W = .ok (.agg #[.int .i64 y.g, .int .i64 y.t, .int .i64 y.v, .int .i64 y.p.log.base, .int .i64 y.p.log.term, .slice ay.e y.p.log.es.length ay.ce, .slice ay.o y.p.cf.old.length ay.co, .slice ay.n y.p.cf.new.length ay.cn, .slice ay.l y.p.cf.lrn.length ay.cl, .slice ay.s y.p.sn.length ay.cs]) W ∧ (ldX 36 (.pointer (some ⟨w.heap.size + 1, 0, none⟩))).run Try.prog W = .ok (.agg #[.int .i64 c.k, .int .i64 c.g, .int .i64 c.t, .int .i64 c.v, .int .i64 c.f, .int .i64 c.p.log.base, .int .i64 c.p.log.term, .slice ac.e c.p.log.es.length ac.ce, .slice ac.o c.p.cf.old.length ac.co, .slice ac.n c.p.cf.new.length ac.cn, .slice ac.l c.p.cf.lrn.length ac.cl, .slice ac.s c.p.sn.length ac.cs, .int .i64 c.a.x, .int .i64 c.a.p, .int .i64 c.a.r, .int .i64 c.a.b, .int .i64 c.a.v]) W ∧ W.cell? ⟨w.heap.size, 0, none⟩ = some (.slice i.h nh i.ch)) := hid (fun W hb =>
      ⟨ldH W b (off + k * 10) (cellsH ⟨y, ay⟩) rfl (fun j v hv => (hb.cell (p := ⟨b, off + k * 10 + j, none⟩) hbw1).trans (hr0 j v hv)), ldRow info_change Try.underlying36 rfl ((hb.block _ (row_lt hg1.r3)).trans hg1.r3) rfl, row_cell ((hb.block _ (row_lt hg1.r2)).trans hg1.r2) 0⟩)
    rw [hA] at LD
    obtain ⟨l0, l1, l2⟩ := LD.out w1 (Below.refl _ _)
    obtain ⟨m0, m1, m2⟩ := LD.out w1.drew (Below.refl _ _).drew
    have b1 : (k : Int) < (nh : Int) := by have := HX.out.2.1; omega
    have b0 : (0 : Int) ≤ (k : Int) := by omega
    have HQ := hid (And.intro hqm hyg)
    have CH : Hid (∀ W, Below w1.heap.size w1 W → Calls Try.prog 30 #[.agg #[.int .i64 y.g, .int .i64 y.t, .int .i64 y.v, .int .i64 y.p.log.base, .int .i64 y.p.log.term, .slice ay.e y.p.log.es.length ay.ce, .slice ay.o y.p.cf.old.length ay.co, .slice ay.n y.p.cf.new.length ay.cn, .slice ay.l y.p.cf.lrn.length ay.cl, .slice ay.s y.p.sn.length ay.cs], .agg #[.int .i64 c.k, .int .i64 c.g, .int .i64 c.t, .int .i64 c.v, .int .i64 c.f, .int .i64 c.p.log.base, .int .i64 c.p.log.term, .slice ac.e c.p.log.es.length ac.ce, .slice ac.o c.p.cf.old.length ac.co, .slice ac.n c.p.cf.new.length ac.cn, .slice ac.l c.p.cf.lrn.length ac.cl, .slice ac.s c.p.sn.length ac.cs, .int .i64 c.a.x, .int .i64 c.a.p, .int .i64 c.a.r, .int .i64 c.a.b, .int .i64 c.a.v]] W fun e w' => Told13 w.heap.size W (chgd y c) e w') := hid (fun W hb =>
      changed_any y ay c ac HK.out.1 (HX.out.2.2.2.1 _ hqm).2.1 (HX.out.2.2.2.1 _ hqm).2.2 HK.out.2.1 w.heap.size W (Nat.le_trans hg1.bel.size hb.size) ((HX.out.1.pt _ hqm).below (hg1.bel.trans (hb.mono hg1.bel.size))) (HY.out.2.2.2.2.2.1.below (hg1.bel.trans (hb.mono hg1.bel.size))) (HX.out.1.num _ hqm) HY.out.2.2.2.2.2.2)
    have HG1 := hid hg1
    rw [hA] at HG1
    clear hat hf hb1 hg1 hcs hr0 hq hqm hkl hkg hbb hyg hbw1
    rw [hA] at k2
    go_wp2_with fail
    go_region_held3 (fun W => (ldX 59 (.pointer (some ⟨b, off + k * 10, none⟩))).run Try.prog W = .ok (.agg #[.int .i64 y.g, .int .i64 y.t, .int .i64 y.v, .int .i64 y.p.log.base, .int .i64 y.p.log.term, .slice ay.e y.p.log.es.length ay.ce, .slice ay.o y.p.cf.old.length ay.co, .slice ay.n y.p.cf.new.length ay.cn, .slice ay.l y.p.cf.lrn.length ay.cl, .slice ay.s y.p.sn.length ay.cs]) W ∧ (ldX 36 (.pointer (some ⟨w.heap.size + 1, 0, none⟩))).run Try.prog W = .ok (.agg #[.int .i64 c.k, .int .i64 c.g, .int .i64 c.t, .int .i64 c.v, .int .i64 c.f, .int .i64 c.p.log.base, .int .i64 c.p.log.term, .slice ac.e c.p.log.es.length ac.ce, .slice ac.o c.p.cf.old.length ac.co, .slice ac.n c.p.cf.new.length ac.cn, .slice ac.l c.p.cf.lrn.length ac.cl, .slice ac.s c.p.sn.length ac.cs, .int .i64 c.a.x, .int .i64 c.a.p, .int .i64 c.a.r, .int .i64 c.a.b, .int .i64 c.a.v]) W ∧ W.cell? ⟨w.heap.size, 0, none⟩ = some (.slice (some ⟨b, off, none⟩) nh i.ch))
      (first | with_reducible exact ⟨l0, l1, l2⟩ | with_reducible exact ⟨m0, m1, m2⟩ | with_reducible exact e3 | with_reducible exact e4 | with_reducible exact LD.out _ (HB3.out.alloc HB3.out.size _) | with_reducible exact LD.out _ (((Below.refl _ w1).alloc (Nat.le_refl _) _).drew) | fail)
      (first
        | (go_at_call 30; refine (CH.out _ (Below.refl _ _).drew).mono ?_; rintro e w3 ⟨z, az, n, rfl, hn, hst, hnum, hb3⟩; have HB3 : Hid (Below w1.heap.size w1 w3) := hid ((Below.refl _ w1).drew.trans hb3); have e3 := LD.out w3 HB3.out; have hsn := stNew w3 59 10 info_hard #[.int .i64 0, .int .i64 0, .int .i64 0, .int .i64 0, .int .i64 0, .slice none 0 0, .slice none 0 0, .slice none 0 0, .slice none 0 0, .slice none 0 0] #[.int .i64 z.g, .int .i64 z.t, .int .i64 z.v, .int .i64 z.p.log.base, .int .i64 z.p.log.term, .slice az.e z.p.log.es.length az.ce, .slice az.o z.p.cf.old.length az.co, .slice az.n z.p.cf.new.length az.cn, .slice az.l z.p.cf.lrn.length az.cl, .slice az.s z.p.sn.length az.cs] rfl rfl (by simp [Value.oneCell']))
        | (go_at_call 30; refine (CH.out _ (((Below.refl _ w1).alloc (Nat.le_refl _) _).drew)).mono ?_; rintro e w3 ⟨z, az, n, rfl, hn, hst, hnum, hb3⟩; have HB3 : Hid (Below w1.heap.size w1 w3) := hid ((((Below.refl _ w1).alloc (Nat.le_refl _) _).drew).trans (hb3.mono (by simp))); have e3 := LD.out w3 HB3.out; have hr8 : w3.heap[w1.heap.size]? = some (.cells #[.int .i64 0, .int .i64 0, .int .i64 0, .int .i64 0, .int .i64 0, .slice none 0 0, .slice none 0 0, .slice none 0 0, .slice none 0 0, .slice none 0 0] 59 (0, 0)) := (hb3.block _ (by simp)).trans (heap_alloc_new w1 _); have hst8 := stRow info_hard (cs' := #[.int .i64 z.g, .int .i64 z.t, .int .i64 z.v, .int .i64 z.p.log.base, .int .i64 z.p.log.term, .slice az.e z.p.log.es.length az.ce, .slice az.o z.p.cf.old.length az.co, .slice az.n z.p.cf.new.length az.cn, .slice az.l z.p.cf.lrn.length az.cl, .slice az.s z.p.sn.length az.cs]) hr8 rfl rfl (by simp [Value.oneCell']); have e4 := LD.out (w3.setRow w1.heap.size #[.int .i64 z.g, .int .i64 z.t, .int .i64 z.v, .int .i64 z.p.log.base, .int .i64 z.p.log.term, .slice az.e z.p.log.es.length az.ce, .slice az.o z.p.cf.old.length az.co, .slice az.n z.p.cf.new.length az.cn, .slice az.l z.p.cf.lrn.length az.cl, .slice az.s z.p.sn.length az.cs]) (HB3.out.trans ((row_turned w3 w1.heap.size #[.int .i64 z.g, .int .i64 z.t, .int .i64 z.v, .int .i64 z.p.log.base, .int .i64 z.p.log.term, .slice az.e z.p.log.es.length az.ce, .slice az.o z.p.cf.old.length az.co, .slice az.n z.p.cf.new.length az.cn, .slice az.l z.p.cf.lrn.length az.cl, .slice az.s z.p.sn.length az.cs]).below HB3.out.size (fun k hk => by omega))); have HR8 := hid (setRow_heap w3 w1.heap.size _ #[.int .i64 z.g, .int .i64 z.t, .int .i64 z.v, .int .i64 z.p.log.base, .int .i64 z.p.log.term, .slice az.e z.p.log.es.length az.ce, .slice az.o z.p.cf.old.length az.co, .slice az.n z.p.cf.new.length az.cn, .slice az.l z.p.cf.lrn.length az.cl, .slice az.s z.p.sn.length az.cs] _ _ hr8); clear hr8)
        | fail)
    all_goals
      clear l0 l1 l2 m0 m1 m2 e3
      first
        | (have HM : Hid (Mid w w1 (.slice (some ⟨b, off, none⟩) nh i.ch) (.slice i.v nv i.cv) c ac z az w3.heap.size (w3.alloc (.cells #[.int .i64 z.g, .int .i64 z.t, .int .i64 z.v, .int .i64 z.p.log.base, .int .i64 z.p.log.term, .slice az.e z.p.log.es.length az.ce, .slice az.o z.p.cf.old.length az.co, .slice az.n z.p.cf.new.length az.cn, .slice az.l z.p.cf.lrn.length az.cl, .slice az.s z.p.sn.length az.cs] 59))) := hid ⟨(HG1.out.grow HB3.out).grow ((Below.refl _ w3).alloc (Nat.le_refl _) _), heap_alloc_new w3 _, HB3.out.size, fun W' hT => hst W' ((Turned.ofBelow _ ((Below.refl _ w3).alloc (Nat.le_refl _) _)).trans hT)⟩
           generalize w3.alloc (.cells #[.int .i64 z.g, .int .i64 z.t, .int .i64 z.v, .int .i64 z.p.log.base, .int .i64 z.p.log.term, .slice az.e z.p.log.es.length az.ce, .slice az.o z.p.cf.old.length az.co, .slice az.n z.p.cf.new.length az.cn, .slice az.l z.p.cf.lrn.length az.cl, .slice az.s z.p.sn.length az.cs] 59) = w4 at *
           generalize w3.heap.size = b8 at *)
        | (have HM : Hid (Mid w w1 (.slice (some ⟨b, off, none⟩) nh i.ch) (.slice i.v nv i.cv) c ac z az w1.heap.size (w3.setRow w1.heap.size #[.int .i64 z.g, .int .i64 z.t, .int .i64 z.v, .int .i64 z.p.log.base, .int .i64 z.p.log.term, .slice az.e z.p.log.es.length az.ce, .slice az.o z.p.cf.old.length az.co, .slice az.n z.p.cf.new.length az.cn, .slice az.l z.p.cf.lrn.length az.cl, .slice az.s z.p.sn.length az.cs])) := hid ⟨(HG1.out.grow HB3.out).turned (row_lt HG1.out.r4) (row_turned w3 w1.heap.size #[.int .i64 z.g, .int .i64 z.t, .int .i64 z.v, .int .i64 z.p.log.base, .int .i64 z.p.log.term, .slice az.e z.p.log.es.length az.ce, .slice az.o z.p.cf.old.length az.co, .slice az.n z.p.cf.new.length az.cn, .slice az.l z.p.cf.lrn.length az.cl, .slice az.s z.p.sn.length az.cs]), HR8.out, Nat.le_refl _, fun W' hT => hst W' (((row_turned w3 w1.heap.size #[.int .i64 z.g, .int .i64 z.t, .int .i64 z.v, .int .i64 z.p.log.base, .int .i64 z.p.log.term, .slice az.e z.p.log.es.length az.ce, .slice az.o z.p.cf.old.length az.co, .slice az.n z.p.cf.new.length az.cn, .slice az.l z.p.cf.lrn.length az.cl, .slice az.s z.p.sn.length az.cs]).mono (fun k hk => by subst hk; exact ⟨HG1.out.bel.size, by simp⟩)).trans (hT.mono (fun k hk => ⟨hk.1, by simp; omega⟩)))⟩
           generalize w3.setRow w1.heap.size #[.int .i64 z.g, .int .i64 z.t, .int .i64 z.v, .int .i64 z.p.log.base, .int .i64 z.p.log.term, .slice az.e z.p.log.es.length az.ce, .slice az.o z.p.cf.old.length az.co, .slice az.n z.p.cf.new.length az.cn, .slice az.l z.p.cf.lrn.length az.cl, .slice az.s z.p.sn.length az.cs] = w4 at *
           generalize hb8 : w1.heap.size = b8 at *)
      have hm := HM.out
      have k20 : w4.cell? ⟨w.heap.size, 0, none⟩ = some (.slice (some ⟨b, off, none⟩) nh i.ch) := row_cell hm.ap.r2 0
      have f20 := row_free hm.ap.r2 0
      have l8 := ldRow info_hard Try.underlying59 rfl hm.r8 rfl
      have hz1 : w1.heap.size ≤ w4.heap.size := Nat.le_trans hm.le (Nat.le_of_lt (row_lt hm.r8))
      obtain ⟨ro, hc9⟩ : ∃ ro, chgd y c = ro := ⟨_, rfl⟩
      rw [hc9] at hn
      cases ro with
      | none =>
        obtain rfl : n = 3 := hn
        have HV : Hid (apply ⟨Q.map (·.h), L⟩ c = (⟨[], []⟩, 3)) := hid (by
          unfold apply
          rw [if_pos HK.out.1, HFI.out]
          show (match chgd y c with | none => _ | some y => _) = _
          rw [hc9])
        have hst4 := stSame info_image2 hm.ap.r4 rfl (by simp [Value.oneCell'])
        clear hm hc9 hst hnum
        go_wp2_with fail
        refine bodyPost_ret (results_two rfl info_image2 Try.underlying25 rfl _ _ (w.heap.size + 1 + 1) _ _ _ rfl HM.out.ap.r4 rfl) rfl ?_
        exact toldA_none 3 HM.out.ap.bel HV.out
      | some z' =>
        have hn1 : z = z' := hn.1
        have hn2 : n = 0 := hn.2
        subst hn1
        subst hn2
        clear hn
        have HV : Hid (apply ⟨Q.map (·.h), L⟩ c = (⟨ins ltH (Q.map (·.h)) z, L⟩, 0)) := hid (by
          unfold apply
          rw [if_pos HK.out.1, HFI.out]
          show (match chgd y c with | none => _ | some y => _) = _
          rw [hc9])
        have HFY := hid (HK.out.2.2 _ HQ.out.1 z hc9)
        have HPL := hid (placedH_any (some ⟨b, off, none⟩) i.ch Q nh HX.out.2.1.symm HX.out.2.2.1 HY.out.2.2.2.1 (fun e => by cases e) z az HY.out.2.2.2.2.1 w.heap.size w1.heap.size w4 hm.ap.bel.size hz1 (by rw [← hA]; exact HX.out.1.below hm.ap.bel) hm.st hnum)
        clear hm hc9 hst hnum hz1
        go_wp2_with fail
        refine HPL.out.mono ?_
        rintro e w5 ⟨A1, c1, m1, rfl, ⟨Q', hQ', ⟨hm, hmn⟩, hs5, hn1, hc1⟩, hb5⟩
        have hg5 := HM.out.ap.grow hb5
        have k50 : w5.cell? ⟨w.heap.size, 0, none⟩ = some (.slice (some ⟨b, off, none⟩) nh i.ch) := row_cell hg5.r2 0
        have f50 := row_free hg5.r2 0
        have hg6 := hg5.set0 (.slice A1 m1 c1)
        have hT6 : Turned (fun k => k = w.heap.size) w5 (w5.setCell ⟨w.heap.size, 0, none⟩ (.slice A1 m1 c1)) := Turned.one _ _ _ _
        have hs6 := hs5 _ (hT6.mono (fun k hk => ⟨by omega, by have := row_lt HG1.out.r2; omega⟩))
        have HZ := hid (And.intro hQ' (And.intro hm (And.intro hmn (And.intro hn1 hc1))))
        clear hb5 hg5 hT6 hs5 hQ' hm hmn hn1 hc1 k20 f20 l8
        go_wp2_with fail
        generalize w5.setCell ⟨w.heap.size, 0, none⟩ (.slice A1 m1 c1) = w6 at *
        have hld := ldRow info_image2 Try.underlying25 rfl hg6.r2 rfl
        have HO := hid (ownImage_any ⟨A1, c1, i.v, i.cv⟩ m1 nv Q' L HZ.out.2.1 HY.out.2.1 (by have := HZ.out.2.2.1; have := HX.out.2.2.1; omega) (by have := HX.out.2.2.2.2.2; omega) (fun q hq => by
          have hq' : q.h ∈ ins ltH (Q.map (·.h)) z := by rw [← HZ.out.1]; exact List.mem_map.2 ⟨q, hq, rfl⟩
          rcases mem_ins hq' with h | h
          · rw [h]; exact HFY.out
          · obtain ⟨q', hq', e⟩ := List.mem_map.1 h
            rw [← e]; exact (HX.out.2.2.2.1 _ hq').1) w6 hs6 ((HY.out.1.below hg6.bel).more hg6.bel.size) HZ.out.2.2.2.1 HY.out.2.2.1)
        have HG6 := hid hg6
        clear hg6 hs6 k50 f50
        go_wp2_with fail
        refine HO.out.mono ?_
        rintro e w7 ⟨j, rfl, ⟨Q7, hQ7, ho⟩, hb7⟩
        have hg7 := HG6.out.grow hb7
        have hst7 := stRow info_image2 (cs' := #[.slice j.h m1 j.ch, .slice j.v nv j.cv]) hg7.r4 rfl rfl (by simp [Value.oneCell'])
        have r5 := setRow_heap w7 (w.heap.size + 1 + 1) _ #[.slice j.h m1 j.ch, .slice j.v nv j.cv] _ _ hg7.r4
        have tT := row_turned w7 (w.heap.size + 1 + 1) #[.slice j.h m1 j.ch, .slice j.v nv j.cv]
        generalize w7.setRow (w.heap.size + 1 + 1) #[.slice j.h m1 j.ch, .slice j.v nv j.cv] = wC at *
        have HF : Hid (wC.heap[w.heap.size + 1 + 1]? = some (.cells #[.slice j.h m1 j.ch, .slice j.v nv j.cv] 25 (0, 0)) ∧ (∃ Q1 L1, (m1 = Q1.length ∧ nv = L1.length) ∧ OwnIm wC w.heap.size wC.heap.size j Q1 L1 ∧ (⟨Q1.map (·.h), L1⟩ : Im) = (apply ⟨Q.map (·.h), L⟩ c).1) ∧ Below w.heap.size w wC) := hid (by
          have z4 := row_lt HG6.out.r4
          have z3 := hb7.size
          have zb := HG6.out.bel.size
          refine ⟨r5, ⟨Q7, L, ⟨?_, HY.out.2.1⟩, (ho.keep tT (fun k hk hB => by have := hB.1; omega)).wide zb tT.size, ?_⟩, hg7.bel.trans (tT.below hg7.bel.size (fun k hk => by omega))⟩
          · have := congrArg List.length hQ7
            rw [List.length_map, List.length_map] at this
            rw [this]; exact HZ.out.2.1
          · rw [HV.out, hQ7, HZ.out.1])
        clear hg7 r5 tT ho hb7
        go_wp2_with fail
        refine bodyPost_ret (results_two rfl info_image2 Try.underlying25 rfl _ _ (w.heap.size + 1 + 1) _ _ _ rfl HF.out.1 rfl) rfl ?_
        exact ⟨j, m1, nv, 0, rfl, by rw [HV.out], HF.out.2⟩
end Go.Proofs.Ytaeoccpjdjafnaa.Im
