/- What the walks say of memory: a list of bytes' slices that the call has made, of bytes that came in or that it has made, too. -/
import Derived.Test.YtomnbaeokmpobaaRowL
namespace Go.Proofs.Ytomnbaeokmpobaa
open Go.RowKit

/-- bytes that lie below B0, or that the call has made from B1 on -/
def Elm (w : World) (B0 B1 : Nat) (A : Option Addr) (c : Nat) (l : List Nat) : Prop :=
  (A = none → c = 0) ∧ l.length ≤ 100000 ∧ (IsBytes w B0 A l ∨ OwnsZ w (fun k => k < B1) A c l)
structure RowsB (w : World) (B0 B1 : Nat) (v : Value) (L : List (List Nat)) : Prop where
  row : ∃ vs, w.ownsRow B1 43 1 v L.length vs ∧ ∀ i (h : i < L.length), ∃ A c, vs[i]? = some (.slice A L[i].length c) ∧ Elm w B0 B1 A c L[i]

theorem Elm.keep {w w' : World} {B0 B1 : Nat} {A : Option Addr} {c : Nat} {l : List Nat} {T : Nat → Prop} (h : Elm w B0 B1 A c l) (ht : Turned T w w') (hT : ∀ k, T k → B0 ≤ k ∧ k < B1) (hB : B0 ≤ w.heap.size) : Elm w' B0 B1 A c l := by
  refine ⟨h.1, h.2.1, ?_⟩
  rcases h.2.2 with h1 | h1
  · exact .inl (h1.keep (fun p hp => ht.cell (by omega) (fun e => by have := hT _ e; omega)))
  · exact .inr (h1.keep (ht.mono (fun k e => (hT k e).2)))
theorem Elm.mono {w : World} {B0 B1 B1' : Nat} {A : Option Addr} {c : Nat} {l : List Nat} (h : Elm w B0 B1 A c l) (hB : B1' ≤ B1) : Elm w B0 B1' A c l :=
  ⟨h.1, h.2.1, h.2.2.imp id (fun h => h.mono (fun k hk => by omega))⟩
theorem Elm.reads {w : World} {B0 B1 : Nat} {A : Option Addr} {c : Nat} {l : List Nat} (h : Elm w B0 B1 A c l) (hB : B0 ≤ w.heap.size) : IsBytes w w.heap.size A l := h.2.2.elim (fun h => h.more hB) (fun h => h.reads)
namespace RowsB
variable {w w' : World} {B0 B1 : Nat} {v : Value} {L : List (List Nat)}
theorem nil (w : World) (B0 B1 : Nat) : RowsB w B0 B1 (.slice none 0 0) [] := ⟨⟨[], World.ownsRow_nil _ _ _ _, fun i h => by simp at h⟩⟩
theorem keep {T : Nat → Prop} (h : RowsB w B0 B1 v L) (ht : Turned T w w') (hT : ∀ k, T k → B0 ≤ k ∧ k < B1) (hB : B0 ≤ w.heap.size) : RowsB w' B0 B1 v L := by
  obtain ⟨vs, h1, h2⟩ := h.row
  refine ⟨⟨vs, ownsRow_turned h1 ht (fun k hk e => by have := (h1.lt k hk).1; have := hT k e; omega), fun i hi => ?_⟩⟩
  obtain ⟨A, c, h3, h4⟩ := h2 i hi
  exact ⟨A, c, h3, h4.keep ht hT hB⟩
theorem below (h : RowsB w B0 B1 v L) (hb : Below w.heap.size w w') (hB : B0 ≤ w.heap.size) : RowsB w' B0 B1 v L := h.keep (T := fun _ => False) (Turned.ofBelow _ hb) (fun _ h => h.elim) hB
theorem mono {B1' : Nat} (h : RowsB w B0 B1 v L) (hB : B1' ≤ B1) : RowsB w B0 B1' v L := by
  obtain ⟨vs, h1, h2⟩ := h.row
  refine ⟨⟨vs, ⟨h1.1, ?_⟩, fun i hi => ?_⟩⟩
  · rcases h1.2 with h0 | ⟨g, cap, cur, h3, h4, h5⟩
    · exact .inl h0
    · exact .inr ⟨g, cap, cur, h3, by omega, h5⟩
  · obtain ⟨A, c, h3, h4⟩ := h2 i hi
    exact ⟨A, c, h3, h4.mono hB⟩
theorem slice (h : RowsB w B0 B1 v L) : ∃ A c, v = .slice A L.length c := by
  obtain ⟨vs, h1, _⟩ := h.row
  exact own_slice h1
theorem reads {A : Option Addr} {n c : Nat} (h : RowsB w B0 B1 (.slice A n c) L) (hB : B0 ≤ w.heap.size) : IsRows w A L := by
  intro k hk
  obtain ⟨vs, h1, h2⟩ := h.row
  rcases h1.2 with ⟨_, h0⟩ | ⟨g, cap, cur, hv, _, hh, _, _, _, htake⟩
  · omega
  · have hA : A = some ⟨g, 0, none⟩ := by injection hv
    have hnn : n = L.length := by injection hv
    subst hA
    subst hnn
    refine ⟨g, 0, rfl, fun i hi => ?_⟩
    obtain ⟨A', c', h4, h5⟩ := h2 i hi
    refine ⟨h5.2.1, A', c', ?_, h5.reads hB⟩
    rw [h1.cellAt (0 + i) (by omega), Nat.zero_add]
    exact h4
end RowsB
/-- one row of the call's own, of bytes' slices, from B1 on, may have turned -/
def RowGrown (B1 : Nat) (w w' : World) : Prop := ∃ row, w.grownBy w' row ∧ ∀ g, row = some g → B1 ≤ g ∧ ∃ cs, w.heap[g]? = some (.cells cs 43 (0, 0))
theorem RowGrown.below {B1 : Nat} {w w' : World} (h : RowGrown B1 w w') (hB : B1 ≤ w.heap.size) : Below B1 w w' := by
  obtain ⟨row, h1, h2⟩ := h
  exact below_grown h1 hB (fun k e => (h2 k e).1)
theorem DiskAt.rowGrown {w w' : World} {Z : Nat → Prop} {d : Dk} {s : Sx.St} {B1 : Nat} (h : DiskAt w Z d s) (hd : ∀ k, d.has k → k < B1) (hr : RowGrown B1 w w') : DiskAt w' Z d s := by
  obtain ⟨row, h1, h2⟩ := hr
  rcases row with _ | g
  · exact h.keep (Turned.ofGrown h1 (fun k e => by cases e))
  · obtain ⟨h3, cs, h4⟩ := h2 g rfl
    refine h.imp (fun k hk => h1.block k (h.lt k hk) (fun e => by injection e with e; have := hd k hk; omega)) h.off (fun A c l hA => ((hA.shunTag h4 (fun cur e => ?_)).keep (w' := w') (Turned.ofGrown h1 (fun k e => by injection e with e; exact .inr e.symm))).mono (fun _ h => .inl h))
    have h6 := (Obj.cells.inj e).2.1
    revert h6; decide
/-- append of one more slice of bytes, that the walk has just laid into a block of its own -/
theorem wpList_append_rowB {w : World} {ops : Array Oper} {rest : List Oper} {o : Oper} {a : Act} {Q : Exit → Act → World → Prop} (hgd : o.guard = none) (s x : Operand)
    (ho : o.op = .call { callee := .builtin .append, args := #[s, x], argTypes := #[27, 27] })
    (B0 B1 : Nat) (hB : B0 ≤ B1 ∧ B1 ≤ w.heap.size) (v : Value) (L : List (List Nat)) (hs : a.eval s = v) (h : RowsB w B0 B1 v L)
    (ad : Addr) (c' : Nat) (A : Option Addr) (c : Nat) (l : List Nat) (n : Nat) (hln : l.length = n) (hx : a.eval x = .slice (some ad) 1 c') (hc : w.cell? ad = some (.slice A n c)) (hA : Elm w B0 B1 A c l)
    (M : List (List Nat)) (hM : L ++ [l] = M) (m : Nat) (hm : L.length = m) (hn : m + 1 ≤ 100000)
    (hK : ∀ A2 c2 w', RowsB w' B0 B1 (.slice A2 (m + 1) c2) M → RowGrown B1 w w' → wpList Try.prog ops Q rest (a.put o.dst (.slice A2 (m + 1) c2)) w') :
    wpList Try.prog ops Q (o :: rest) a w := by
  subst hln
  subst hM
  subst hm
  obtain ⟨i0, hi, hz0, hz1, hz2⟩ := info_parts info_bytes
  obtain ⟨vs, h1, h2⟩ := h.row
  refine wpList_append_own_at w hgd s x 27 ho B1 43 i0 (.slice none 0 0) 1 24 Try.underlying27 hi hz0 hz1 hz2 rfl (by decide) v L.length vs hs h1 ad 1 c' [.slice A l.length c] hx rfl ?_ ?_ (by unfold maxLen; omega) (by omega) hB.2 ?_
  · intro j u hj
    match j, hj with
    | 0, hj => simp at hj; subst hj; simpa [Addr.add] using hc
  · intro u hu; simp at hu; subst hu; rfl
  · intro v' w' h3 h4 _ h5
    obtain ⟨A2, c2, rfl⟩ := own_slice h3
    have ht : Turned (fun k => v.ownBlock = some k) w w' := Turned.ofGrown h4 (fun k e => e)
    have hb : Below B1 w w' := below_grown h4 hB.2 (fun k e => (h1.lt k e).1)
    have hel : ∀ A c l, Elm w B0 B1 A c l → Elm w' B0 B1 A c l := fun A c l hA => by
      refine ⟨hA.1, hA.2.1, ?_⟩
      rcases hA.2.2 with h6 | h6
      · exact .inl (h6.below (hb.mono hB.1))
      · right
        rcases hbk : v.ownBlock with _ | g
        · exact h6.keep (ht.mono (fun k e => by rw [hbk] at e; cases e))
        · rcases h1.2 with ⟨rfl, _⟩ | ⟨g', cap, cur, rfl, _, hh, _⟩
          · cases hbk
          · have hg : g' = g := by simpa [Value.ownBlock] using hbk
            subst hg
            refine (((h6.shunTag hh ?_).keep (ht.mono (fun k e => ?_))).mono (fun _ h => .inl h))
            · intro cur e
              have h6 := (Obj.cells.inj e).2.1
              revert h6; decide
            · have e := hbk.symm.trans e
              injection e with e
              exact .inr e.symm
    refine hK A2 c2 w' ⟨⟨vs ++ [.slice A l.length c], by rw [List.length_append]; exact h3, fun i hi => ?_⟩⟩ ⟨_, h4, fun g hg => ⟨(h1.lt g hg).1, by
      rcases h1.2 with ⟨rfl, _⟩ | ⟨g', cap, cur, rfl, _, hh, _⟩
      · cases hg
      · have hgg : g' = g := by simpa [Value.ownBlock] using hg
        subst hgg
        exact ⟨cur, hh⟩⟩⟩
    have hvl : vs.length = L.length := by have := h1.1; omega
    by_cases hlt : i < L.length
    · obtain ⟨A', c'', h7, h8⟩ := h2 i hlt
      rw [List.getElem_append_left hlt]
      exact ⟨A', c'', by rw [List.getElem?_append_left (by omega)]; exact h7, hel _ _ _ h8⟩
    · have : i = L.length := by rw [List.length_append] at hi; simp at hi; omega
      subst this
      rw [List.getElem_append_right (Nat.le_refl _)]
      simp only [Nat.sub_self, List.getElem_cons_zero]
      exact ⟨A, c, by rw [List.getElem?_append_right (by omega), hvl]; simp, hel _ _ _ hA⟩
end Go.Proofs.Ytomnbaeokmpobaa
