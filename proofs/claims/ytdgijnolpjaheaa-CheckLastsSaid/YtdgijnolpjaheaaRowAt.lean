/- What the walks say of memory: lists of bytes' slices. -/
import Derived.Test.YtdgijnolpjaheaaDisk
import Derived.BigQuiet
import Derived.Deep.QuietTactic
namespace Go.Proofs.Ytdgijnolpjaheaa
open Go.RowKit

theorem info_bytes : (Try.prog.info? 32).map (fun i => (i.zero, i.size, i.bytes)) = some (some (.slice none 0 0), 1, 24) := by kernel_rfl

/-- A list of bytes' slices of the call's own; neither it nor its bytes lie in a block of Z. -/
structure RowsAt (w : World) (Z : Nat → Prop) (v : Value) (L : List (List Nat)) : Prop where
  row : ∃ vs, w.ownsRow 0 32 1 v L.length vs ∧ ∀ i (h : i < L.length), L[i].length ≤ 100000 ∧ ∃ A c, vs[i]? = some (.slice A L[i].length c) ∧ OwnsZ w Z A c L[i]
  off : ∀ k, v.ownBlock = some k → ¬ Z k
/-- .. read -/
def IsRows (w : World) (A : Option Addr) (L : List (List Nat)) : Prop :=
  ∀ k, k < L.length → ∃ b off, A = some ⟨b, off, none⟩ ∧ ∀ i (h : i < L.length), L[i].length ≤ 100000 ∧ ∃ A' c', w.cell? ⟨b, off + i, none⟩ = some (.slice A' L[i].length c') ∧ IsBytes w w.heap.size A' L[i]

namespace RowsAt
variable {w w' : World} {Z Z' : Nat → Prop} {v : Value} {L : List (List Nat)}
theorem nil (w : World) (Z : Nat → Prop) : RowsAt w Z (.slice none 0 0) [] := ⟨⟨[], World.ownsRow_nil _ _ _ _, fun i h => by simp at h⟩, fun k h => by cases h⟩
theorem keep (h : RowsAt w Z v L) (ht : Turned Z w w') : RowsAt w' Z v L := by
  obtain ⟨vs, h1, h2⟩ := h.row
  refine ⟨⟨vs, ownsRow_turned h1 ht h.off, fun i hi => ?_⟩, h.off⟩
  obtain ⟨h3, A, c, h4, h5⟩ := h2 i hi
  exact ⟨h3, A, c, h4, h5.keep ht⟩
theorem mono (h : RowsAt w Z v L) (hz : ∀ k, Z' k → Z k) : RowsAt w Z' v L := by
  obtain ⟨vs, h1, h2⟩ := h.row
  refine ⟨⟨vs, h1, fun i hi => ?_⟩, fun k hk e => h.off k hk (hz k e)⟩
  obtain ⟨h3, A, c, h4, h5⟩ := h2 i hi
  exact ⟨h3, A, c, h4, h5.mono hz⟩
theorem slice (h : RowsAt w Z v L) : ∃ A c, v = .slice A L.length c := by
  obtain ⟨vs, h1, _⟩ := h.row
  exact own_slice h1
theorem below (h : RowsAt w Z v L) (hb : Below w.heap.size w w') : RowsAt w' Z v L := h.keep (Turned.ofBelow _ hb)
theorem drewN (h : RowsAt w Z v L) (n : Nat) : RowsAt (w.drewN n) Z v L := h.below (below_drewN (Below.refl _ _) n)
theorem reads {A : Option Addr} {n c : Nat} (h : RowsAt w Z (.slice A n c) L) : IsRows w A L := by
  intro k hk
  obtain ⟨vs, h1, h2⟩ := h.row
  rcases h1.2 with ⟨_, h0⟩ | ⟨g, cap, cur, hv, _, hh, _, _, _, htake⟩
  · omega
  · have hA : A = some ⟨g, 0, none⟩ := by injection hv
    have hnn : n = L.length := by injection hv
    subst hA
    subst hnn
    refine ⟨g, 0, rfl, fun i hi => ?_⟩
    obtain ⟨h3, A', c', h4, h5⟩ := h2 i hi
    refine ⟨h3, A', c', ?_, h5.reads⟩
    rw [h1.cellAt (0 + i) (by omega), Nat.zero_add]
    exact h4
end RowsAt
theorem IsRows.below {w w' : World} {A : Option Addr} {L : List (List Nat)} (h : IsRows w A L) (hb : Below w.heap.size w w') : IsRows w' A L := by
  intro k hk
  obtain ⟨b, off, hA, hc⟩ := h k hk
  refine ⟨b, off, hA, fun i hi => ?_⟩
  obtain ⟨h1, A', c', h2, h3⟩ := hc i hi
  exact ⟨h1, A', c', (hb.cell (World.block_lt_of_cell? _ _ h2)).trans h2, (h3.below hb).more hb.size⟩
theorem IsRows.drewN {w : World} {A : Option Addr} {L : List (List Nat)} (h : IsRows w A L) (n : Nat) : IsRows (w.drewN n) A L := h.below (below_drewN (Below.refl _ _) n)

/-- append of one more slice of bytes, that the walk has just laid into a block of its own -/
theorem wpList_append_row {w : World} {ops : Array Oper} {rest : List Oper} {o : Oper} {a : Act} {Q : Exit → Act → World → Prop} (hgd : o.guard = none) (s x : Operand)
    (ho : o.op = .call { callee := .builtin .append, args := #[s, x], argTypes := #[22, 22] })
    (Z : Nat → Prop) (hZ : ∀ k, Z k → k < w.heap.size) (v : Value) (L : List (List Nat)) (hs : a.eval s = v) (h : RowsAt w Z v L)
    (ad : Addr) (c' : Nat) (A : Option Addr) (c : Nat) (l : List Nat) (n : Nat) (hln : l.length = n) (hx : a.eval x = .slice (some ad) 1 c') (hc : w.cell? ad = some (.slice A n c)) (hA : OwnsZ w Z A c l) (hl : n ≤ 100000)
    (M : List (List Nat)) (hM : L ++ [l] = M) (m : Nat) (hm : L.length = m) (hn : m + 1 ≤ 100000)
    (hK : ∀ A2 c2 w', RowsAt w' Z (.slice A2 (m + 1) c2) M → Turned (fun k => ¬ Z k) w w' → wpList Try.prog ops Q rest (a.put o.dst (.slice A2 (m + 1) c2)) w') :
    wpList Try.prog ops Q (o :: rest) a w := by
  subst hln
  subst hM
  subst hm
  obtain ⟨i0, hi, hz0, hz1, hz2⟩ := info_parts info_bytes
  obtain ⟨vs, h1, h2⟩ := h.row
  refine wpList_append_own_at w hgd s x 22 ho 0 32 i0 (.slice none 0 0) 1 24 Try.underlying22 hi hz0 hz1 hz2 rfl (by decide) v L.length vs hs h1 ad 1 c' [.slice A l.length c] hx rfl ?_ ?_ (by unfold maxLen; omega) (by omega) (Nat.zero_le _) ?_
  · intro j u hj
    match j, hj with
    | 0, hj => simp at hj; subst hj; simpa [Addr.add] using hc
  · intro u hu; simp at hu; subst hu; rfl
  · intro v' w' h3 h4 _ h5
    obtain ⟨A2, c2, rfl⟩ := own_slice h3
    have ht : Turned (fun k => v.ownBlock = some k) w w' := Turned.ofGrown h4 (fun k e => e)
    have hel : ∀ A c l, OwnsZ w Z A c l → OwnsZ w' Z A c l := fun A c l hA => by
      rcases hb : v.ownBlock with _ | g
      · exact ((OwnsZ.mono (Z' := fun _ => False) hA (fun _ h => h.elim)).keep (ht.mono (fun k e => by rw [hb] at e; cases e))).own |> fun ho => ⟨ho, hA.off⟩
      · rcases h1.2 with ⟨rfl, _⟩ | ⟨g', cap, cur, rfl, _, hh, _⟩
        · cases hb
        · have hg : g' = g := by simpa [Value.ownBlock] using hb
          subst hg
          refine (((hA.shunTag hh ?_).keep (ht.mono (fun k e => ?_))).mono (fun _ h => .inl h))
          · intro cur e
            have h6 := (Obj.cells.inj e).2.1
            revert h6; decide
          · have e := hb.symm.trans e
            injection e with e
            exact .inr e.symm
    refine hK A2 c2 w' ⟨⟨vs ++ [.slice A l.length c], by rw [List.length_append]; exact h3, fun i hi => ?_⟩, ?_⟩ (ht.mono (fun k e => h.off k e))
    · have hvl : vs.length = L.length := by have := h1.1; omega
      by_cases hlt : i < L.length
      · obtain ⟨h6, A', c'', h7, h8⟩ := h2 i hlt
        rw [List.getElem_append_left hlt]
        exact ⟨h6, A', c'', by rw [List.getElem?_append_left (by omega)]; exact h7, hel _ _ _ h8⟩
      · have : i = L.length := by rw [List.length_append] at hi; simp at hi; omega
        subst this
        rw [List.getElem_append_right (Nat.le_refl _)]
        simp only [Nat.sub_self, List.getElem_cons_zero]
        exact ⟨hl, A, c, by rw [List.getElem?_append_right (by omega), hvl]; simp, hel _ _ _ hA⟩
    · intro k hk e
      rcases h5 with h5 | h5
      · exact h.off k (by rw [← h5]; exact hk) e
      · rw [h5] at hk
        injection hk with hk
        have := hZ k e
        omega

end Go.Proofs.Ytdgijnolpjaheaa
