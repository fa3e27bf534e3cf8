/- The mathematics of layer 10: majorities, what enough nodes have reached, rising lists. -/
import Derived.Test.YtblhfbijffaacaaGrown
namespace Go.Proofs.Ytblhfbijffaacaa
namespace Qu

/-- members -/
structure Cf where
  old : List Int
  new : List Int
  lrn : List Int
deriving DecidableEq

/-- more than half of a list's elements agree -/
def maj (l : List Int) (p : Int → Bool) : Bool := decide (l.length / 2 < l.countP p)
/-- those that agree are enough -/
def quo (c : Cf) (p : Int → Bool) : Bool := maj c.old p && (c.new.isEmpty || maj c.new p)
def won (c : Cf) (yes : List Int) : Bool := quo c (fun x => decide (x ∈ yes))

theorem count_mono {p q : Int → Bool} (h : ∀ x, p x = true → q x = true) : ∀ l : List Int, l.countP p ≤ l.countP q
  | [] => by simp
  | x :: l => by
    have := count_mono h l
    rw [List.countP_cons, List.countP_cons]
    by_cases hp : p x = true
    · rw [hp, h x hp]; simp; omega
    · rw [Bool.not_eq_true] at hp; rw [hp]; simp; omega
theorem maj_mono {p q : Int → Bool} (h : ∀ x, p x = true → q x = true) {l : List Int} (hm : maj l p = true) : maj l q = true := by
  have h1 := of_decide_eq_true hm
  have h2 := count_mono h l
  exact decide_eq_true (by omega)
theorem quo_mono {p q : Int → Bool} (h : ∀ x, p x = true → q x = true) {c : Cf} (hm : quo c p = true) : quo c q = true := by
  unfold quo at hm ⊢
  rw [Bool.and_eq_true, Bool.or_eq_true] at hm ⊢
  exact ⟨maj_mono h hm.1, hm.2.imp id (maj_mono h)⟩
theorem quo_congr {p q : Int → Bool} (h : ∀ x, p x = q x) (c : Cf) : quo c p = quo c q := by
  rw [show p = q from funext h]
theorem won_congr {a b : List Int} (h : ∀ x, x ∈ a ↔ x ∈ b) (c : Cf) : won c a = won c b :=
  quo_congr (fun x => decide_eq_decide.2 (h x)) c
theorem won_mono {a b : List Int} (h : ∀ x, x ∈ a → x ∈ b) {c : Cf} (hm : won c a = true) : won c b = true :=
  quo_mono (fun x hx => decide_eq_true (h x (of_decide_eq_true hx))) hm
theorem maj_none (l : List Int) : maj l (fun _ => false) = false := by
  unfold maj; simp
theorem quo_none (c : Cf) : quo c (fun _ => false) = false := by unfold quo; rw [maj_none]; rfl
theorem won_nil (c : Cf) : won c [] = false := by
  unfold won
  rw [← quo_none c]
  exact quo_congr (fun x => by simp) c
theorem count_both {p q : Int → Bool} : ∀ l : List Int, (∀ x ∈ l, ¬ (p x = true ∧ q x = true)) → l.countP p + l.countP q ≤ l.length
  | [], _ => by simp
  | x :: l, h => by
    have h1 := count_both l (fun y hy => h y (List.mem_cons_of_mem _ hy))
    have h2 := h x (List.mem_cons_self)
    rw [List.countP_cons, List.countP_cons, List.length_cons]
    cases hp : p x <;> cases hq : q x <;> simp_all <;> omega
theorem maj_meet {p q : Int → Bool} {l : List Int} (hp : maj l p = true) (hq : maj l q = true) : ∃ x ∈ l, p x = true ∧ q x = true := by
  have h1 := of_decide_eq_true hp
  have h2 := of_decide_eq_true hq
  by_cases h : ∃ x ∈ l, p x = true ∧ q x = true
  · exact h
  · have h3 := count_both (p := p) (q := q) l (fun x hx hh => h ⟨x, hx, hh⟩)
    omega
theorem won_old {c : Cf} {a : List Int} (h : won c a = true) : maj c.old (fun x => decide (x ∈ a)) = true := by
  unfold won quo at h; rw [Bool.and_eq_true] at h; exact h.1
theorem won_new {c : Cf} {a : List Int} (h : won c a = true) (hn : c.new ≠ []) : maj c.new (fun x => decide (x ∈ a)) = true := by
  unfold won quo at h
  rw [Bool.and_eq_true, Bool.or_eq_true] at h
  rcases h.2 with h | h
  · exact absurd (List.isEmpty_iff.1 h) hn
  · exact h
theorem maj_all {l : List Int} {p : Int → Bool} (hl : l ≠ []) (h : ∀ x ∈ l, p x = true) : maj l p = true := by
  unfold maj
  rw [List.countP_eq_length.2 h]
  have : 0 < l.length := List.length_pos_iff.2 hl
  exact decide_eq_true (by omega)
theorem won_all {c : Cf} {a : List Int} (ho : c.old ≠ []) (h : ∀ x, x ∈ a ↔ x ∈ c.old ∨ x ∈ c.new) : won c a = true := by
  unfold won quo
  rw [Bool.and_eq_true, Bool.or_eq_true]
  refine ⟨maj_all ho fun x hx => decide_eq_true ((h x).2 (.inl hx)), ?_⟩
  by_cases hn : c.new = []
  · exact .inl (List.isEmpty_iff.2 hn)
  · exact .inr (maj_all hn fun x hx => decide_eq_true ((h x).2 (.inr hx)))

/-- a rising list of nodes -/
def node (l : List Int) : Bool := decide (l.Pairwise (· < ·) ∧ ∀ x ∈ l, 1 ≤ x ∧ x ≤ 7)
def ok (c : Cf) : Bool := !c.old.isEmpty && node c.old && node c.new && node c.lrn && decide (∀ x ∈ c.lrn, ¬ (x ∈ c.old ∨ x ∈ c.new))
def err (c : Cf) : Int := if ok c then 0 else 29
theorem err_ok {c : Cf} : err c = 0 ↔ ok c = true := by
  unfold err; cases ok c <;> simp
theorem ok_old {c : Cf} (h : ok c = true) : c.old ≠ [] := by
  unfold ok at h
  simp only [Bool.and_eq_true] at h
  intro e
  rw [e] at h
  simp at h
/-- what goes on behind a rising beginning -/
theorem node_snoc (l : List Int) (x : Int) : node (l ++ [x]) = (node l && (decide (1 ≤ x ∧ x ≤ 7) && decide (∀ y ∈ l, y < x))) := by
  unfold node
  rw [← Bool.decide_and, ← Bool.decide_and]
  refine decide_eq_decide.2 ?_
  rw [List.pairwise_append]
  constructor
  · rintro ⟨⟨h1, _, h3⟩, h4⟩
    exact ⟨⟨h1, fun y hy => h4 y (List.mem_append_left _ hy)⟩, h4 x (by simp), fun y hy => h3 y hy x (by simp)⟩
  · rintro ⟨⟨h1, h2⟩, h3, h4⟩
    refine ⟨⟨h1, by simp, fun a ha b hb => ?_⟩, fun y hy => ?_⟩
    · simp at hb; subst hb; exact h4 a ha
    · rcases List.mem_append.1 hy with hy | hy
      · exact h2 y hy
      · simp at hy; subst hy; exact h3
theorem node_step (l : List Int) (k : Nat) (h : k < l.length) : node (l.take (k + 1)) = (node (l.take k) && (decide (1 ≤ l[k] ∧ l[k] ≤ 7) && decide (∀ y ∈ l.take k, y < l[k]))) := by
  rw [List.take_succ_eq_append_getElem h, node_snoc]
theorem node_false {l : List Int} {k : Nat} (h : node (l.take k) = false) : node l = false := by
  unfold node at h ⊢
  rw [decide_eq_false_iff_not] at h ⊢
  intro h1
  exact h ⟨h1.1.sublist (List.take_sublist _ _), fun x hx => h1.2 x (List.mem_of_mem_take hx)⟩
/-- the last of a beginning, 0 if there is none -/
def last (l : List Int) (k : Nat) : Int := (l.take k).getLast?.getD 0
theorem last_zero (l : List Int) : last l 0 = 0 := by simp [last]
theorem last_succ (l : List Int) (k : Nat) (h : k < l.length) : last l (k + 1) = l[k] := by
  unfold last; rw [List.take_succ_eq_append_getElem h, List.getLast?_append]; simp
theorem mem_last (l : List Int) (j : Nat) (h : j < l.length) : l[j] ∈ l.take (j + 1) := by
  rw [List.take_succ_eq_append_getElem h]; exact List.mem_append_right _ (List.mem_singleton_self _)
theorem last_pred (l : List Int) (k : Nat) (h : k < l.length) (h0 : 0 < k) : last l k = l[k - 1] := by
  obtain ⟨j, rfl⟩ : ∃ j, k = j + 1 := ⟨k - 1, by omega⟩
  rw [last_succ l j (by omega)]; rfl
theorem rise_last {l : List Int} {k : Nat} (hk : k ≤ l.length) (hn : node (l.take k) = true) (x : Int) (hx : 1 ≤ x) : (∀ y ∈ l.take k, y < x) ↔ last l k < x := by
  unfold node at hn
  have hn := of_decide_eq_true hn
  rcases Nat.eq_zero_or_pos k with rfl | h0
  · rw [last_zero]; simp; omega
  · obtain ⟨j, rfl⟩ : ∃ j, k = j + 1 := ⟨k - 1, by omega⟩
    rw [last_succ l j (by omega)]
    rw [List.take_succ_eq_append_getElem (by omega)] at hn ⊢
    have h3 := (List.pairwise_append.1 hn.1).2.2
    constructor
    · intro h; exact h _ (List.mem_append_right _ (List.mem_singleton_self _))
    · intro h y hy
      rcases List.mem_append.1 hy with hy | hy
      · have := h3 y hy l[j] (by simp); omega
      · simp at hy; omega
theorem node_step_last {l : List Int} {k : Nat} (h : k < l.length) (hn : node (l.take k) = true) : node (l.take (k + 1)) = decide (last l k < l[k] ∧ 1 ≤ l[k] ∧ l[k] ≤ 7) := by
  rw [node_step l k h, hn, Bool.true_and, ← Bool.decide_and]
  refine decide_eq_decide.2 ?_
  constructor
  · rintro ⟨h1, h2⟩; exact ⟨(rise_last (by omega) hn _ h1.1).1 h2, h1⟩
  · rintro ⟨h1, h2⟩; exact ⟨h2, (rise_last (by omega) hn _ h2.1).2 h1⟩
theorem last_nonneg {l : List Int} {k : Nat} (hk : k ≤ l.length) (hn : node (l.take k) = true) : 0 ≤ last l k := by
  rcases Nat.eq_zero_or_pos k with rfl | h0
  · rw [last_zero]; omega
  · obtain ⟨j, rfl⟩ : ∃ j, k = j + 1 := ⟨k - 1, by omega⟩
    rw [last_succ l j (by omega)]
    have hn := of_decide_eq_true hn
    have := hn.2 l[j] (mem_last l j (by omega))
    omega

/-- r is the rising list of l's numbers -/
def Uni (r l : List Int) : Prop := r.Pairwise (· < ·) ∧ ∀ x, x ∈ r ↔ x ∈ l
theorem uni_eq : ∀ {r s : List Int}, r.Pairwise (· < ·) → s.Pairwise (· < ·) → (∀ x, x ∈ r ↔ x ∈ s) → r = s
  | [], [], _, _, _ => rfl
  | [], b :: s, _, _, h => by have := (h b).2 (by simp); simp at this
  | a :: r, [], _, _, h => by have := (h a).1 (by simp); simp at this
  | a :: r, b :: s, h1, h2, h => by
    obtain ⟨a1, a2⟩ := List.pairwise_cons.1 h1
    obtain ⟨b1, b2⟩ := List.pairwise_cons.1 h2
    have hab : a = b := by
      rcases List.mem_cons.1 ((h a).1 (by simp)) with e | ha
      · exact e
      · rcases List.mem_cons.1 ((h b).2 (by simp)) with e | hb
        · exact e.symm
        · have := a1 b hb; have := b1 a ha; omega
    subst hab
    rw [uni_eq a2 b2 (fun x => ⟨fun hx => by
      rcases List.mem_cons.1 ((h x).1 (by simp [hx])) with e | hx'
      · have := a1 x hx; omega
      · exact hx', fun hx => by
      rcases List.mem_cons.1 ((h x).2 (by simp [hx])) with e | hx'
      · have := b1 x hx; omega
      · exact hx'⟩)]
theorem Uni.unique {r s l : List Int} (h1 : Uni r l) (h2 : Uni s l) : r = s := uni_eq h1.1 h2.1 (fun x => (h1.2 x).trans (h2.2 x).symm)
theorem length_le_of {r : List Int} (h : r.Pairwise (· < ·)) : ∀ l : List Int, (∀ x ∈ r, x ∈ l) → r.length ≤ l.length := by
  induction r with
  | nil => intro l _; simp
  | cons a r ih =>
    intro l hl
    obtain ⟨h1, h2⟩ := List.pairwise_cons.1 h
    have ha : a ∈ l := hl a (by simp)
    have := ih h2 (l.erase a) (fun x hx => (List.mem_erase_of_ne (by have := h1 x hx; omega)).2 (hl x (by simp [hx])))
    rw [List.length_erase_of_mem ha] at this
    have : 0 < l.length := List.length_pos_of_mem ha
    rw [List.length_cons]
    omega
theorem Uni.length_le {r l : List Int} (h : Uni r l) : r.length ≤ l.length := length_le_of h.1 l fun x hx => (h.2 x).1 hx
/-- the rising list of a list's numbers -/
def uni (l : List Int) : List Int := l.foldl (fun r x => if x ∈ r then r else (r.filter (· < x)) ++ x :: r.filter (x < ·)) []
theorem with_uni {r l : List Int} {x : Int} (h : Uni r l) : Uni (if x ∈ r then r else (r.filter (· < x)) ++ x :: r.filter (x < ·)) (l ++ [x]) := by
  by_cases hx : x ∈ r
  · rw [if_pos hx]
    refine ⟨h.1, fun y => ?_⟩
    rw [h.2 y, List.mem_append]
    constructor
    · exact .inl
    · rintro (h1 | h1)
      · exact h1
      · simp at h1; subst h1; exact (h.2 _).1 hx
  · rw [if_neg hx]
    refine ⟨?_, fun y => ?_⟩
    · rw [List.pairwise_append]
      refine ⟨h.1.filter _, ?_, ?_⟩
      · rw [List.pairwise_cons]
        exact ⟨fun y hy => by simpa using (List.mem_filter.1 hy).2, h.1.filter _⟩
      · intro a ha b hb
        have h1 : a < x := by simpa using (List.mem_filter.1 ha).2
        rcases List.mem_cons.1 hb with rfl | hb
        · exact h1
        · have h2 : x < b := by simpa using (List.mem_filter.1 hb).2
          omega
    · rw [List.mem_append, List.mem_cons, List.mem_filter, List.mem_filter, List.mem_append, ← h.2 y]
      simp only [decide_eq_true_eq, List.mem_singleton]
      constructor
      · rintro (h1 | h1 | h1)
        · exact .inl h1.1
        · exact .inr h1
        · exact .inl h1.1
      · rintro (h1 | h1)
        · have : y ≠ x := fun e => hx (e ▸ h1)
          by_cases h2 : y < x
          · exact .inl ⟨h1, h2⟩
          · exact .inr (.inr ⟨h1, by omega⟩)
        · exact .inr (.inl h1)
theorem uni_is (l : List Int) : Uni (uni l) l := by
  have : ∀ (m r0 l0 : List Int), Uni r0 l0 → Uni (m.foldl (fun r x => if x ∈ r then r else (r.filter (· < x)) ++ x :: r.filter (x < ·)) r0) (l0 ++ m) := by
    intro m
    induction m with
    | nil => intro r0 l0 h; simpa using h
    | cons x m ih =>
      intro r0 l0 h
      rw [List.foldl_cons]
      have := ih _ _ (with_uni (x := x) h)
      rwa [List.append_assoc] at this
  have := this l [] [] ⟨List.Pairwise.nil, fun x => Iff.rfl⟩
  simpa [uni] using this
theorem uni_mem {l : List Int} {x : Int} : x ∈ uni l ↔ x ∈ l := (uni_is l).2 x

/-! ### what enough have reached -/
/-- the greatest number above 0 that a node has reached, 0 if there is none -/
def great : List (Int × Int) → Int → Int
  | [], _ => 0
  | p :: ps, x => if p.1 = x then max p.2 (great ps x) else great ps x
theorem great_cons (p : Int × Int) (ps : List (Int × Int)) (x : Int) : great (p :: ps) x = if p.1 = x then max p.2 (great ps x) else great ps x := rfl
theorem great_nonneg (ps : List (Int × Int)) (x : Int) : 0 ≤ great ps x := by
  induction ps with
  | nil => simp [great]
  | cons p ps ih => unfold great; split <;> omega
theorem great_append (ps qs : List (Int × Int)) (x : Int) : great (ps ++ qs) x = max (great ps x) (great qs x) := by
  induction ps with
  | nil => have := great_nonneg qs x; simp [great]; omega
  | cons p ps ih =>
    rw [List.cons_append, great_cons, great_cons, ih]; split <;> omega
theorem great_snoc (ps : List (Int × Int)) (a b x : Int) : great (ps ++ [(a, b)]) x = if a = x ∧ great ps x < b then b else great ps x := by
  have h0 := great_nonneg ps x
  rw [great_append, great_cons]
  by_cases h : a = x
  · rw [if_pos h]
    show max (great ps x) (max b 0) = _
    by_cases h2 : great ps x < b
    · rw [if_pos ⟨h, h2⟩]; omega
    · rw [if_neg (fun e => h2 e.2)]; omega
  · rw [if_neg h, if_neg (fun e => h e.1)]
    show max (great ps x) 0 = _
    omega
/-- a node has reached a number or a greater one -/
def reach (ps : List (Int × Int)) (v x : Int) : Bool := ps.any fun p => decide (p.1 = x ∧ v ≤ p.2)
theorem great_ge {ps : List (Int × Int)} {v x : Int} (hv : 0 < v) : v ≤ great ps x ↔ reach ps v x = true := by
  induction ps with
  | nil => simp [great, reach]; omega
  | cons p ps ih =>
    unfold great
    unfold reach at ih ⊢
    rw [List.any_cons, Bool.or_eq_true, ← ih, decide_eq_true_iff]
    by_cases h : p.1 = x
    · rw [if_pos h]
      constructor
      · intro h1
        by_cases h2 : v ≤ p.2
        · exact .inl ⟨h, h2⟩
        · exact .inr (by omega)
      · rintro (h1 | h1) <;> omega
    · rw [if_neg h]
      constructor
      · exact .inr
      · rintro (h1 | h1)
        · exact absurd h1.1 h
        · exact h1
theorem great_mem {ps : List (Int × Int)} {x : Int} (h : 0 < great ps x) : ∃ p ∈ ps, p.1 = x ∧ p.2 = great ps x := by
  induction ps with
  | nil => simp [great] at h
  | cons p ps ih =>
    unfold great at h ⊢
    by_cases hx : p.1 = x
    · rw [if_pos hx] at h ⊢
      by_cases h2 : great ps x < p.2
      · exact ⟨p, by simp, hx, by omega⟩
      · have h3 : max p.2 (great ps x) = great ps x := by omega
        rw [h3] at h ⊢
        obtain ⟨q, hq, h4⟩ := ih h
        exact ⟨q, List.mem_cons_of_mem _ hq, h4⟩
    · rw [if_neg hx] at h ⊢
      obtain ⟨q, hq, h4⟩ := ih h
      exact ⟨q, List.mem_cons_of_mem _ hq, h4⟩
/-- what enough have reached -/
def Agr (c : Cf) (ps : List (Int × Int)) (r : Int) : Prop :=
  0 ≤ r ∧ (0 < r → quo c (reach ps r) = true ∧ ∃ p ∈ ps, p.2 = r) ∧ ∀ p ∈ ps, 0 < p.2 → quo c (reach ps p.2) = true → p.2 ≤ r
theorem Agr.le {c : Cf} {ps : List (Int × Int)} {r s : Int} (h1 : Agr c ps r) (h2 : Agr c ps s) : r ≤ s := by
  by_cases h : 0 < r
  · obtain ⟨hq, p, hp, e⟩ := h1.2.1 h
    subst e
    exact h2.2.2 p hp h hq
  · have := h2.1; omega
theorem Agr.unique {c : Cf} {ps : List (Int × Int)} {r s : Int} (h1 : Agr c ps r) (h2 : Agr c ps s) : r = s := by
  have := h1.le h2; have := h2.le h1; omega
/-- the least of some numbers -/
theorem least_of {P : Int × Int → Prop} [DecidablePred P] : ∀ {ps : List (Int × Int)}, (∃ p ∈ ps, P p) → ∃ p ∈ ps, P p ∧ ∀ q ∈ ps, P q → p.2 ≤ q.2
  | [], h => by obtain ⟨p, hp, _⟩ := h; simp at hp
  | a :: ps, h => by
    by_cases hr : ∃ p ∈ ps, P p
    · obtain ⟨p, hp, h1, h2⟩ := least_of hr
      by_cases ha : P a ∧ a.2 < p.2
      · refine ⟨a, by simp, ha.1, fun q hq hPq => ?_⟩
        rcases List.mem_cons.1 hq with rfl | hq
        · omega
        · have := h2 q hq hPq; omega
      · refine ⟨p, List.mem_cons_of_mem _ hp, h1, fun q hq hPq => ?_⟩
        rcases List.mem_cons.1 hq with rfl | hq
        · by_cases h3 : q.2 < p.2
          · exact absurd ⟨hPq, h3⟩ ha
          · omega
        · exact h2 q hq hPq
    · obtain ⟨p, hp, hPp⟩ := h
      rcases List.mem_cons.1 hp with rfl | hp
      · refine ⟨p, by simp, hPp, fun q hq hPq => ?_⟩
        rcases List.mem_cons.1 hq with rfl | hq
        · omega
        · exact absurd ⟨q, hq, hPq⟩ hr
      · exact absurd ⟨p, hp, hPp⟩ hr
theorem reach_none {ps : List (Int × Int)} {v : Int} (h : ∀ p ∈ ps, ¬ v ≤ p.2) (x : Int) : reach ps v x = false := by
  unfold reach
  rw [List.any_eq_false]
  intro p hp
  simp only [decide_eq_true_eq]
  exact fun e => h p hp e.2
/-- what enough have reached is not more than what is agreed -/
theorem Agr.ge {c : Cf} {ps : List (Int × Int)} {r v : Int} (h : Agr c ps r) (hv : 0 < v) (hq : quo c (reach ps v) = true) : v ≤ r := by
  by_cases he : ∃ p ∈ ps, v ≤ p.2
  · obtain ⟨p, hp, h1, h2⟩ := least_of (P := fun p => v ≤ p.2) he
    have : quo c (reach ps p.2) = true := by
      refine quo_mono (fun x hx => ?_) hq
      unfold reach at hx ⊢
      rw [List.any_eq_true] at hx ⊢
      obtain ⟨q, hq, h3⟩ := hx
      have h3 := of_decide_eq_true h3
      exact ⟨q, hq, decide_eq_true ⟨h3.1, h2 q hq h3.2⟩⟩
    have := h.2.2 p hp (by omega) this
    omega
  · rw [quo_congr (fun x => reach_none (fun p hp hle => he ⟨p, hp, hle⟩) x), quo_none] at hq
    cases hq
/-- out of a sorted list of the greatest numbers and the place from which on they are not enough -/
theorem agr_of {c : Cf} {ps : List (Int × Int)} {L : List Int} {n : Nat} (hs : L.Pairwise (· ≤ ·)) (hL : ∀ v, v ∈ L ↔ ∃ x, 0 < great ps x ∧ great ps x = v)
    (h1 : ∀ i (h : i < L.length), i < n → quo c (fun x => decide (L[i] ≤ great ps x)) = true) (h2 : ∀ i (h : i < L.length), n ≤ i → quo c (fun x => decide (L[i] ≤ great ps x)) = false) (hn : n ≤ L.length) :
    Agr c ps (if h : 0 < n then L[n - 1] else 0) := by
  have pos : ∀ i (h : i < L.length), 0 < L[i] := fun i h => by
    obtain ⟨x, h3, h4⟩ := (hL L[i]).1 (List.getElem_mem h); omega
  have same : ∀ i (h : i < L.length), quo c (fun x => decide (L[i] ≤ great ps x)) = quo c (reach ps L[i]) := fun i h =>
    quo_congr (fun x => by
      rw [Bool.eq_iff_iff, decide_eq_true_iff]
      exact great_ge (pos i h)) c
  have top : ∀ p ∈ ps, 0 < p.2 → quo c (reach ps p.2) = true → ∃ i, ∃ h : i < L.length, i < n ∧ p.2 ≤ L[i] := by
    intro p hp h0 hq
    -- the first place at which the numbers are not less
    have hg : p.2 ≤ great ps p.1 := (great_ge h0).2 (List.any_eq_true.2 ⟨p, hp, decide_eq_true ⟨rfl, by omega⟩⟩)
    obtain ⟨j, hj, ej⟩ := List.getElem_of_mem ((hL (great ps p.1)).2 ⟨p.1, by omega, rfl⟩)
    -- the least place m with p.2 ≤ L[m]
    have : ∃ m, ∃ hm : m < L.length, p.2 ≤ L[m] ∧ ∀ i (hi : i < m), L[i] < p.2 := by
      have key : ∀ m, (∃ hm : m < L.length, p.2 ≤ L[m]) → ∃ m, ∃ hm : m < L.length, p.2 ≤ L[m] ∧ ∀ i (hi : i < m), L[i] < p.2 := by
        intro m
        induction m using Nat.strongRecOn with
        | ind m ih =>
          rintro ⟨hm, hle⟩
          by_cases hx : ∃ i, ∃ hi : i < m, p.2 ≤ L[i]
          · obtain ⟨i, hi, h5⟩ := hx
            exact ih i hi ⟨by omega, h5⟩
          · refine ⟨m, hm, hle, fun i hi => ?_⟩
            by_cases h6 : L[i] < p.2
            · exact h6
            · exact absurd ⟨i, hi, by omega⟩ hx
      exact key j ⟨hj, by omega⟩
    obtain ⟨m, hm, hle, hlt⟩ := this
    refine ⟨m, hm, ?_, hle⟩
    by_cases hnm : m < n
    · exact hnm
    · have h7 := h2 m hm (by omega)
      rw [quo_congr (q := reach ps p.2)] at h7
      · rw [hq] at h7; cases h7
      · intro x
        rw [Bool.eq_iff_iff, decide_eq_true_iff, ← great_ge h0]
        constructor
        · intro h8; omega
        · intro h8
          obtain ⟨k, hk, ek⟩ := List.getElem_of_mem ((hL (great ps x)).2 ⟨x, by omega, rfl⟩)
          have hmk : m ≤ k := by
            by_cases h9 : m ≤ k
            · exact h9
            · have := hlt k (by omega); omega
          rcases Nat.lt_or_eq_of_le hmk with h10 | h10
          · have := (List.pairwise_iff_getElem.1 hs) m k hm hk h10; omega
          · subst h10; omega
  by_cases h0 : 0 < n
  · rw [dif_pos h0]
    have hlt : n - 1 < L.length := by omega
    refine ⟨by have := pos (n - 1) hlt; omega, fun _ => ⟨?_, ?_⟩, fun p hp hp0 hq => ?_⟩
    · rw [← same]; exact h1 _ hlt (by omega)
    · obtain ⟨x, h3, h4⟩ := (hL L[n - 1]).1 (List.getElem_mem hlt)
      obtain ⟨p, hp, _, h5⟩ := great_mem h3
      exact ⟨p, hp, by omega⟩
    · obtain ⟨i, hi, hin, hle⟩ := top p hp hp0 hq
      rcases Nat.lt_or_eq_of_le (show i ≤ n - 1 by omega) with h10 | h10
      · have := (List.pairwise_iff_getElem.1 hs) i (n - 1) hi hlt h10; omega
      · subst h10; exact hle
  · rw [dif_neg h0]
    refine ⟨by omega, fun h => absurd h (by omega), fun p hp hp0 hq => ?_⟩
    obtain ⟨i, hi, hin, _⟩ := top p hp hp0 hq
    omega
theorem won_reach (c : Cf) (ps : List (Int × Int)) (v : Int) (yes : List Int) (h : ∀ x, x ∈ yes ↔ reach ps v x = true) : won c yes = quo c (reach ps v) :=
  quo_congr (fun x => by rw [Bool.eq_iff_iff, decide_eq_true_iff]; exact h x) c
/-- with numbers that are not less, what is agreed does not fall -/
theorem Agr.rise {c : Cf} {ps qs : List (Int × Int)} {r s : Int} (h1 : Agr c ps r) (h2 : Agr c qs s) (h : ∀ v x, reach ps v x = true → reach qs v x = true) : r ≤ s := by
  by_cases h0 : 0 < r
  · exact h2.ge h0 (quo_mono (h r) (h1.2.1 h0).1)
  · have := h2.1; omega
end Qu
end Go.Proofs.Ytblhfbijffaacaa
