/- The document's disk: lists of sectors, in plain words and in memory. -/
import Derived.Test.YtbfbnpbonoapnaaRowL
namespace Go.Proofs.Ytbfbnpbonoapnaa
open Go.RowKit

namespace Sx
structure Sec where
  no : Nat
  b : List Nat
  torn : Bool
def one' (i : Nat) : Option (List Nat × Bool) → List Sec
  | some x => [⟨i, x.1, x.2⟩]
  | none => []
/-- the sectors from a on, n numbers, of which f has something -/
def secs (f : Nat → Option (List Nat × Bool)) : Nat → Nat → List Sec
  | _, 0 => []
  | a, n + 1 => one' a (f a) ++ secs f (a + 1) n
/-- put, from a place in the list on -/
def putGo (s : Sec) : Bool → List Sec → List Sec
  | laid, [] => if laid then [] else [s]
  | laid, x :: r => (if !laid && decide (s.no ≤ x.no) then [s] else []) ++ (if x.no = s.no then [] else [x]) ++ putGo s (laid || decide (s.no ≤ x.no)) r
theorem secs_no {f : Nat → Option (List Nat × Bool)} : ∀ (a n : Nat), ∀ p ∈ secs f a n, a ≤ p.no ∧ p.no < a + n ∧ f p.no = some (p.b, p.torn)
  | _, 0, p, h => by simp [secs] at h
  | a, n + 1, p, h => by
    unfold secs at h
    rcases List.mem_append.1 h with h | h
    · rcases hf : f a with _ | v
      · rw [hf] at h; simp [one'] at h
      · rw [hf] at h; simp [one'] at h; subst h; exact ⟨Nat.le_refl _, by simp, hf⟩
    · obtain ⟨h1, h2, h3⟩ := secs_no (a + 1) n p h
      exact ⟨by omega, by omega, h3⟩
theorem secs_cong {f g : Nat → Option (List Nat × Bool)} : ∀ (a n : Nat), (∀ i, a ≤ i → i < a + n → f i = g i) → secs f a n = secs g a n
  | _, 0, _ => rfl
  | a, n + 1, h => by
    unfold secs
    rw [h a (Nat.le_refl _) (by omega), secs_cong (a + 1) n (fun i h1 h2 => h i (by omega) (by omega))]
theorem putGo_true (s : Sec) : ∀ l : List Sec, (∀ p ∈ l, p.no ≠ s.no) → putGo s true l = l
  | [], _ => rfl
  | x :: r, h => by
    unfold putGo
    rw [if_neg (by simp), if_neg (h x (List.mem_cons_self)), Bool.true_or, putGo_true s r (fun p hp => h p (List.mem_cons_of_mem _ hp))]
    rfl
theorem putGo_false (s : Sec) : ∀ l m : List Sec, (∀ p ∈ l, p.no < s.no) → putGo s false (l ++ m) = l ++ putGo s false m
  | [], _, _ => rfl
  | x :: r, m, h => by
    have hx := h x (List.mem_cons_self)
    have h1 : decide (s.no ≤ x.no) = false := decide_eq_false (by omega)
    rw [List.cons_append]
    conv => lhs; unfold putGo
    rw [h1, if_neg (by simp), if_neg (by omega)]
    simp only [Bool.or_false, List.nil_append, List.cons_append]
    rw [putGo_false s r m (fun p hp => h p (List.mem_cons_of_mem _ hp))]
theorem put_secs (f : Nat → Option (List Nat × Bool)) (s : Sec) : ∀ (a n : Nat), a ≤ s.no → s.no < a + n → putGo s false (secs f a n) = secs (upd f s.no (some (s.b, s.torn))) a n
  | a, 0, h1, h2 => by omega
  | a, n + 1, h1, h2 => by
    unfold secs
    by_cases hk : s.no = a
    · have h3 : secs (upd f s.no (some (s.b, s.torn))) (a + 1) n = secs f (a + 1) n := secs_cong _ _ (fun i h _ => upd_other _ _ _ _ (by omega))
      have h4 : ∀ p ∈ secs f (a + 1) n, p.no ≠ s.no := fun p hp => by have := (secs_no (a + 1) n p hp).1; omega
      rw [h3, ← hk, upd_same]
      have h6 : ∀ m, (∀ p ∈ m, p.no ≠ s.no ∧ s.no ≤ p.no) → putGo s false m = s :: m := by
        intro m hm
        cases m with
        | nil => rfl
        | cons x r =>
          have := hm x (List.mem_cons_self)
          unfold putGo
          rw [if_pos (by simp; omega), if_neg this.1, Bool.false_or, decide_eq_true this.2, putGo_true s r (fun p hp => (hm p (List.mem_cons_of_mem _ hp)).1)]
          rfl
      have h7 : ∀ p ∈ secs f (a + 1) n, p.no ≠ s.no ∧ s.no ≤ p.no := fun p hp => by have := (secs_no (a + 1) n p hp).1; omega
      rw [← hk] at h7
      rcases hf : f s.no with _ | v
      · show putGo s false ([] ++ secs f (s.no + 1) n) = _
        rw [List.nil_append, h6 _ h7]
        rfl
      · show putGo s false (⟨s.no, v.1, v.2⟩ :: secs f (s.no + 1) n) = _
        unfold putGo
        rw [if_pos (by simp), if_pos rfl, Bool.false_or, decide_eq_true (Nat.le_refl _), putGo_true s _ (fun p hp => (h7 p hp).1)]
        rfl
    · rw [upd_other _ _ _ _ (fun e => hk e.symm), ← put_secs f s (a + 1) n (by omega) (by omega)]
      refine putGo_false s _ _ (fun p hp => ?_)
      rcases hf : f a with _ | v
      · rw [hf] at hp; simp [one'] at hp
      · rw [hf] at hp; simp [one'] at hp; subst hp; show a < s.no; omega
theorem secs_none (a n : Nat) : secs (fun _ => none) a n = [] := by
  induction n generalizing a with
  | zero => rfl
  | succ n ih => unfold secs; rw [ih]; rfl
theorem secs_length_le (f : Nat → Option (List Nat × Bool)) : ∀ a n, (secs f a n).length ≤ n
  | _, 0 => Nat.le_refl _
  | a, n + 1 => by
    unfold secs
    rw [List.length_append]
    have := secs_length_le f (a + 1) n
    have : (one' a (f a)).length ≤ 1 := by rcases f a with _ | v <;> simp [one']
    omega
/-- the numbers of the list are those of which f has something -/
theorem secs_nos (f : Nat → Option (List Nat × Bool)) : ∀ a n, (secs f a n).map (·.no) = (List.range' a n).filter fun i => (f i).isSome
  | _, 0 => rfl
  | a, n + 1 => by
    unfold secs
    rw [List.map_append, secs_nos f (a + 1) n, List.range'_succ, List.filter_cons]
    rcases hf : f a with _ | v
    · simp [one']
    · simp [one']
end Sx

theorem info_sec : (Try.prog.info? 71).map (fun i => (i.zero, i.size, i.bytes)) = some (some (.agg #[.int .i64 0, .slice none 0 0, .bool false]), 3, 40) := by kernel_rfl

/-- A list of sectors of the call's own; neither it nor its bytes lie in a block of Z. -/
structure SecsAt (w : World) (Z : Nat → Prop) (v : Value) (L : List Sx.Sec) : Prop where
  row : ∃ vs, w.ownsRow 0 71 3 v L.length vs ∧ ∀ i (h : i < L.length), L[i].no ≤ 100000 ∧ L[i].b.length ≤ 64 ∧ ∃ A c, vs[i * 3]? = some (.int .i64 (L[i].no : Nat)) ∧ vs[i * 3 + 1]? = some (.slice A L[i].b.length c) ∧ vs[i * 3 + 2]? = some (.bool L[i].torn) ∧ OwnsZ w Z A c L[i].b
  off : ∀ k, v.ownBlock = some k → ¬ Z k
namespace SecsAt
variable {w w' : World} {Z Z' : Nat → Prop} {v : Value} {L : List Sx.Sec}
theorem nil (w : World) (Z : Nat → Prop) : SecsAt w Z (.slice none 0 0) [] := ⟨⟨[], World.ownsRow_nil _ _ _ _, fun i h => by simp at h⟩, fun k h => by cases h⟩
theorem keep (h : SecsAt w Z v L) (ht : Turned Z w w') : SecsAt w' Z v L := by
  obtain ⟨vs, h1, h2⟩ := h.row
  refine ⟨⟨vs, ownsRow_turned h1 ht h.off, fun i hi => ?_⟩, h.off⟩
  obtain ⟨h3, h4, A, c, h5, h6, h7, h8⟩ := h2 i hi
  exact ⟨h3, h4, A, c, h5, h6, h7, h8.keep ht⟩
theorem mono (h : SecsAt w Z v L) (hz : ∀ k, Z' k → Z k) : SecsAt w Z' v L := by
  obtain ⟨vs, h1, h2⟩ := h.row
  refine ⟨⟨vs, h1, fun i hi => ?_⟩, fun k hk e => h.off k hk (hz k e)⟩
  obtain ⟨h3, h4, A, c, h5, h6, h7, h8⟩ := h2 i hi
  exact ⟨h3, h4, A, c, h5, h6, h7, h8.mono hz⟩
theorem slice (h : SecsAt w Z v L) : ∃ A c, v = .slice A L.length c := by
  obtain ⟨vs, h1, _⟩ := h.row
  exact own_slice h1
theorem below (h : SecsAt w Z v L) (hb : Below w.heap.size w w') : SecsAt w' Z v L := h.keep (Turned.ofBelow _ hb)
theorem drewN (h : SecsAt w Z v L) (n : Nat) : SecsAt (w.drewN n) Z v L := h.below (below_drewN (Below.refl _ _) n)
theorem drew (h : SecsAt w Z v L) : SecsAt w.drew Z v L := h.below (Below.refl _ _).drew
theorem shun (h : SecsAt w Z v L) : SecsAt w (fun k => Z k ∨ w.heap.size ≤ k) v L := by
  obtain ⟨vs, h1, h2⟩ := h.row
  refine ⟨⟨vs, h1, fun i hi => ?_⟩, fun k hk e => e.elim (h.off k hk) (fun e => by have := (h1.lt k hk).2; omega)⟩
  obtain ⟨h3, h4, A, c, h5, h6, h7, h8⟩ := h2 i hi
  exact ⟨h3, h4, A, c, h5, h6, h7, h8.shun⟩
/-- a block of another kind is none of its own -/
theorem shunTag (h : SecsAt w Z v L) {g : Nat} {o : Obj} (hg : w.heap[g]? = some o) (ho : ∀ cur, o ≠ .cells cur 71 (0, 0)) (ho' : ∀ cur, o ≠ .cells cur 5 (0, 0)) : SecsAt w (fun k => Z k ∨ k = g) v L := by
  obtain ⟨vs, h1, h2⟩ := h.row
  refine ⟨⟨vs, h1, fun i hi => ?_⟩, fun k hk e => e.elim (h.off k hk) (fun e => ?_)⟩
  · obtain ⟨h3, h4, A, c, h5, h6, h7, h8⟩ := h2 i hi
    exact ⟨h3, h4, A, c, h5, h6, h7, h8.shunTag hg ho'⟩
  · subst e
    rcases h1.2 with ⟨h0, _⟩ | ⟨g', cap, cur, hv, _, hh, _⟩
    · rw [h0] at hk; cases hk
    · rw [hv] at hk
      have hg' : g' = k := by simpa [Value.ownBlock] using hk
      subst hg'
      rw [hh] at hg
      exact ho cur (Option.some.inj hg).symm
/-- one of them, read -/
theorem at_ {A : Option Addr} {n c : Nat} (h : SecsAt w Z (.slice A n c) L) (i : Nat) (hi : i < L.length) : ∃ g A' c', A = some ⟨g, 0, none⟩ ∧ n = L.length ∧ w.cell? ⟨g, i * 3, none⟩ = some (.int .i64 (L[i].no : Nat)) ∧ w.cell? ⟨g, i * 3 + 1, none⟩ = some (.slice A' L[i].b.length c') ∧ w.cell? ⟨g, i * 3 + 2, none⟩ = some (.bool L[i].torn) ∧
    OwnsZ w Z A' c' L[i].b ∧ L[i].no ≤ 100000 ∧ L[i].b.length ≤ 64 := by
  obtain ⟨vs, h1, h2⟩ := h.row
  rcases h1.2 with ⟨_, h0⟩ | ⟨g, cap, cur, hv, _, hh, _, _, _, htake⟩
  · omega
  · have hA : A = some ⟨g, 0, none⟩ := by injection hv
    have hnn : n = L.length := by injection hv
    subst hA
    subst hnn
    obtain ⟨h3, h4, A', c', h5, h6, h7, h8⟩ := h2 i hi
    refine ⟨g, A', c', rfl, rfl, ?_, ?_, ?_, h8, h3, h4⟩
    · rw [h1.cellAt (i * 3) (by omega)]; exact h5
    · rw [h1.cellAt (i * 3 + 1) (by omega)]; exact h6
    · rw [h1.cellAt (i * 3 + 2) (by omega)]; exact h7
end SecsAt

set_option maxRecDepth 100000 in
/-- append of one more sector, that the walk has just laid into a block of its own -/
theorem wpList_append_sec {w : World} {ops : Array Oper} {rest : List Oper} {o : Oper} {a : Act} {Q : Exit → Act → World → Prop} (hgd : o.guard = none) (s x : Operand)
    (ho : o.op = .call { callee := .builtin .append, args := #[s, x], argTypes := #[64, 64] })
    (Z : Nat → Prop) (hZ : ∀ k, Z k → k < w.heap.size) (v : Value) (L : List Sx.Sec) (hs : a.eval s = v) (h : SecsAt w Z v L)
    (g : Nat) (c' : Nat) (A : Option Addr) (c : Nat) (y : Sx.Sec) (hy : y.no ≤ 100000) (hyl : y.b.length ≤ 64) (hx : a.eval x = .slice (some ⟨g, 0, none⟩) 1 c')
    (h0 : w.cell? ⟨g, 0, none⟩ = some (.int .i64 (y.no : Nat))) (h1 : w.cell? ⟨g, 1, none⟩ = some (.slice A y.b.length c)) (h2 : w.cell? ⟨g, 2, none⟩ = some (.bool y.torn)) (hA : OwnsZ w Z A c y.b)
    (M : List Sx.Sec) (hM : L ++ [y] = M) (hn : L.length + 1 ≤ 100000)
    (hK : ∀ v' w', SecsAt w' Z v' M → w.grownBy w' v.ownBlock → (v'.ownBlock = v.ownBlock ∨ v'.ownBlock = some w.heap.size) → wpList Try.prog ops Q rest (a.put o.dst v') w') :
    wpList Try.prog ops Q (o :: rest) a w := by
  subst hM
  obtain ⟨i0, hi, hz0, hz1, hz2⟩ := info_parts info_sec
  obtain ⟨vs, r1, r2⟩ := h.row
  refine wpList_append_own_at w hgd s x 64 ho 0 71 i0 (.agg #[.int .i64 0, .slice none 0 0, .bool false]) 3 40 Try.underlying64 hi hz0 hz1 hz2 rfl (by decide) v L.length vs hs r1 ⟨g, 0, none⟩ 1 c' [.int .i64 (y.no : Nat), .slice A y.b.length c, .bool y.torn] hx rfl ?_ ?_ (by unfold maxLen; omega) (by omega) (Nat.zero_le _) ?_
  · intro j u hj
    rw [add_off, Nat.zero_add]
    match j, hj with
    | 0, hj => simp at hj; subst hj; exact h0
    | 1, hj => simp at hj; subst hj; exact h1
    | 2, hj => simp at hj; subst hj; exact h2
  · intro u hu; simp at hu; rcases hu with rfl | rfl | rfl <;> rfl
  · intro v' w' h3 h4 _ h5
    have ht : Turned (fun k => v.ownBlock = some k) w w' := Turned.ofGrown h4 (fun k e => e)
    have hel : ∀ A c l, OwnsZ w Z A c l → OwnsZ w' Z A c l := fun A c l hA => by
      rcases hb : v.ownBlock with _ | g
      · exact ((OwnsZ.mono (Z' := fun _ => False) hA (fun _ h => h.elim)).keep (ht.mono (fun k e => by rw [hb] at e; cases e))).own |> fun ho => ⟨ho, hA.off⟩
      · rcases r1.2 with ⟨rfl, _⟩ | ⟨g', cap, cur, rfl, _, hh, _⟩
        · cases hb
        · have hg : g' = g := by simpa [Value.ownBlock] using hb
          subst hg
          refine (((hA.shunTag hh ?_).keep (ht.mono (fun k e => ?_))).mono (fun _ h => .inl h))
          · intro cur e
            have h6 := (Obj.cells.inj e).2.1
            revert h6; decide
          · have e := hb.symm.trans e
            injection e with e
            exact .inr e.symm
    refine hK v' w' ⟨⟨vs ++ [.int .i64 (y.no : Nat), .slice A y.b.length c, .bool y.torn], by rw [List.length_append]; exact h3, fun i hi => ?_⟩, ?_⟩ h4 h5
    · have hvl : vs.length = L.length * 3 := r1.1
      by_cases hlt : i < L.length
      · obtain ⟨e1, e2, A', c'', e3, e4, e5, e6⟩ := r2 i hlt
        rw [List.getElem_append_left hlt]
        exact ⟨e1, e2, A', c'', by rw [List.getElem?_append_left (by omega)]; exact e3, by rw [List.getElem?_append_left (by omega)]; exact e4, by rw [List.getElem?_append_left (by omega)]; exact e5, hel _ _ _ e6⟩
      · have : i = L.length := by rw [List.length_append] at hi; simp at hi; omega
        subst this
        rw [List.getElem_append_right (Nat.le_refl _)]
        simp only [Nat.sub_self, List.getElem_cons_zero]
        refine ⟨hy, hyl, A, c, ?_, ?_, ?_, hel _ _ _ hA⟩
        · rw [List.getElem?_append_right (by omega), hvl, Nat.sub_self]; rfl
        · rw [List.getElem?_append_right (by omega), hvl, show L.length * 3 + 1 - L.length * 3 = 1 by omega]; rfl
        · rw [List.getElem?_append_right (by omega), hvl, show L.length * 3 + 2 - L.length * 3 = 2 by omega]; rfl
    · intro k hk e
      rcases h5 with h5 | h5
      · exact h.off k (by rw [← h5]; exact hk) e
      · rw [h5] at hk
        injection hk with hk
        have := hZ k e
        omega
end Go.Proofs.Ytbfbnpbonoapnaa
