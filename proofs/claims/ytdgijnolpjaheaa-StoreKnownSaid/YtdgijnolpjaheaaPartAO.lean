/- Texts of the proof, one behind the other: RowsB, StF, StK, Make, StKn. -/
import Derived.Test.YtdgijnolpjaheaaPartAF
import Derived.Test.YtdgijnolpjaheaaPartAN
import Derived.Test.YtdgijnolpjaheaaPartAK
import Derived.Lib.SlBytesConst
import Derived.Test.YtdgijnolpjaheaaPartAB
import Derived.OwnWalk
import Derived.Deep.Slices
namespace Go.Proofs.Ytdgijnolpjaheaa
open Go.RowKit

/-- bytes that lie below B0, or that the call has made from B1 on -/
def Elm (w : World) (B0 B1 : Nat) (A : Option Addr) (c : Nat) (l : List Nat) : Prop :=
  (A = none → c = 0) ∧ l.length ≤ 100000 ∧ (IsBytes w B0 A l ∨ OwnsZ w (fun k => k < B1) A c l)
structure RowsB (w : World) (B0 B1 : Nat) (v : Value) (L : List (List Nat)) : Prop where
  row : ∃ vs, w.ownsRow B1 32 1 v L.length vs ∧ ∀ i (h : i < L.length), ∃ A c, vs[i]? = some (.slice A L[i].length c) ∧ Elm w B0 B1 A c L[i]

theorem Elm.keep {w w' : World} {B0 B1 : Nat} {A : Option Addr} {c : Nat} {l : List Nat} {T : Nat → Prop} (h : Elm w B0 B1 A c l) (ht : Turned T w w') (hT : ∀ k, T k → B0 ≤ k ∧ k < B1) (hB : B0 ≤ w.heap.size) : Elm w' B0 B1 A c l := by
  refine ⟨h.1, h.2.1, ?_⟩
  rcases h.2.2 with h1 | h1
  · exact .inl (h1.keep (fun p hp => ht.cell (by omega) (fun e => by have := hT _ e; omega)))
  · exact .inr (h1.keep (ht.mono (fun k e => (hT k e).2)))
theorem Elm.mono {w : World} {B0 B1 B1' : Nat} {A : Option Addr} {c : Nat} {l : List Nat} (h : Elm w B0 B1 A c l) (hB : B1' ≤ B1) : Elm w B0 B1' A c l :=
  ⟨h.1, h.2.1, h.2.2.imp id (fun h => h.mono (fun k hk => by omega))⟩
theorem Elm.reads {w : World} {B0 B1 : Nat} {A : Option Addr} {c : Nat} {l : List Nat} (h : Elm w B0 B1 A c l) (hB : B0 ≤ w.heap.size) : IsBytes w w.heap.size A l := h.2.2.elim (fun h => h.more hB) (fun h => h.reads)
namespace RowsB
variable {w w' : World} {B0 B1 : Nat} {v : Value} {L : List (List Nat)}
theorem nil (w : World) (B0 B1 : Nat) : RowsB w B0 B1 (.slice none 0 0) [] := ⟨⟨[], World.ownsRow_nil _ _ _ _, fun i h => by simp at h⟩⟩
theorem keep {T : Nat → Prop} (h : RowsB w B0 B1 v L) (ht : Turned T w w') (hT : ∀ k, T k → B0 ≤ k ∧ k < B1) (hB : B0 ≤ w.heap.size) : RowsB w' B0 B1 v L := by
  obtain ⟨vs, h1, h2⟩ := h.row
  refine ⟨⟨vs, ownsRow_turned h1 ht (fun k hk e => by have := (h1.lt k hk).1; have := hT k e; omega), fun i hi => ?_⟩⟩
  obtain ⟨A, c, h3, h4⟩ := h2 i hi
  exact ⟨A, c, h3, h4.keep ht hT hB⟩
theorem below (h : RowsB w B0 B1 v L) (hb : Below w.heap.size w w') (hB : B0 ≤ w.heap.size) : RowsB w' B0 B1 v L := h.keep (T := fun _ => False) (Turned.ofBelow _ hb) (fun _ h => h.elim) hB
theorem mono {B1' : Nat} (h : RowsB w B0 B1 v L) (hB : B1' ≤ B1) : RowsB w B0 B1' v L := by
  obtain ⟨vs, h1, h2⟩ := h.row
  refine ⟨⟨vs, ⟨h1.1, ?_⟩, fun i hi => ?_⟩⟩
  · rcases h1.2 with h0 | ⟨g, cap, cur, h3, h4, h5⟩
    · exact .inl h0
    · exact .inr ⟨g, cap, cur, h3, by omega, h5⟩
  · obtain ⟨A, c, h3, h4⟩ := h2 i hi
    exact ⟨A, c, h3, h4.mono hB⟩
theorem slice (h : RowsB w B0 B1 v L) : ∃ A c, v = .slice A L.length c := by
  obtain ⟨vs, h1, _⟩ := h.row
  exact own_slice h1
theorem reads {A : Option Addr} {n c : Nat} (h : RowsB w B0 B1 (.slice A n c) L) (hB : B0 ≤ w.heap.size) : IsRows w A L := by
  intro k hk
  obtain ⟨vs, h1, h2⟩ := h.row
  rcases h1.2 with ⟨_, h0⟩ | ⟨g, cap, cur, hv, _, hh, _, _, _, htake⟩
  · omega
  · have hA : A = some ⟨g, 0, none⟩ := by injection hv
    have hnn : n = L.length := by injection hv
    subst hA
    subst hnn
    refine ⟨g, 0, rfl, fun i hi => ?_⟩
    obtain ⟨A', c', h4, h5⟩ := h2 i hi
    refine ⟨h5.2.1, A', c', ?_, h5.reads hB⟩
    rw [h1.cellAt (0 + i) (by omega), Nat.zero_add]
    exact h4
end RowsB
/-- one row of the call's own, of bytes' slices, from B1 on, may have turned -/
def RowGrown (B1 : Nat) (w w' : World) : Prop := ∃ row, w.grownBy w' row ∧ ∀ g, row = some g → B1 ≤ g ∧ ∃ cs, w.heap[g]? = some (.cells cs 32 (0, 0))
theorem RowGrown.below {B1 : Nat} {w w' : World} (h : RowGrown B1 w w') (hB : B1 ≤ w.heap.size) : Below B1 w w' := by
  obtain ⟨row, h1, h2⟩ := h
  exact below_grown h1 hB (fun k e => (h2 k e).1)
theorem DiskAt.rowGrown {w w' : World} {Z : Nat → Prop} {d : Dk} {s : Sx.St} {B1 : Nat} (h : DiskAt w Z d s) (hd : ∀ k, d.has k → k < B1) (hr : RowGrown B1 w w') : DiskAt w' Z d s := by
  obtain ⟨row, h1, h2⟩ := hr
  rcases row with _ | g
  · exact h.keep (Turned.ofGrown h1 (fun k e => by cases e))
  · obtain ⟨h3, cs, h4⟩ := h2 g rfl
    refine h.imp (fun k hk => h1.block k (h.lt k hk) (fun e => by injection e with e; have := hd k hk; omega)) h.off (fun A c l hA => ((hA.shunTag h4 (fun cur e => ?_)).keep (w' := w') (Turned.ofGrown h1 (fun k e => by injection e with e; exact .inr e.symm))).mono (fun _ h => .inl h))
    have h6 := (Obj.cells.inj e).2.1
    revert h6; decide
/-- append of one more slice of bytes, that the walk has just laid into a block of its own -/
theorem wpList_append_rowB {w : World} {ops : Array Oper} {rest : List Oper} {o : Oper} {a : Act} {Q : Exit → Act → World → Prop} (hgd : o.guard = none) (s x : Operand)
    (ho : o.op = .call { callee := .builtin .append, args := #[s, x], argTypes := #[22, 22] })
    (B0 B1 : Nat) (hB : B0 ≤ B1 ∧ B1 ≤ w.heap.size) (v : Value) (L : List (List Nat)) (hs : a.eval s = v) (h : RowsB w B0 B1 v L)
    (ad : Addr) (c' : Nat) (A : Option Addr) (c : Nat) (l : List Nat) (n : Nat) (hln : l.length = n) (hx : a.eval x = .slice (some ad) 1 c') (hc : w.cell? ad = some (.slice A n c)) (hA : Elm w B0 B1 A c l)
    (M : List (List Nat)) (hM : L ++ [l] = M) (m : Nat) (hm : L.length = m) (hn : m + 1 ≤ 100000)
    (hK : ∀ A2 c2 w', RowsB w' B0 B1 (.slice A2 (m + 1) c2) M → RowGrown B1 w w' → wpList Try.prog ops Q rest (a.put o.dst (.slice A2 (m + 1) c2)) w') :
    wpList Try.prog ops Q (o :: rest) a w := by
  subst hln
  subst hM
  subst hm
  obtain ⟨i0, hi, hz0, hz1, hz2⟩ := info_parts info_bytes
  obtain ⟨vs, h1, h2⟩ := h.row
  refine wpList_append_own_at w hgd s x 22 ho B1 32 i0 (.slice none 0 0) 1 24 Try.underlying22 hi hz0 hz1 hz2 rfl (by decide) v L.length vs hs h1 ad 1 c' [.slice A l.length c] hx rfl ?_ ?_ (by unfold maxLen; omega) (by omega) hB.2 ?_
  · intro j u hj
    match j, hj with
    | 0, hj => simp at hj; subst hj; simpa [Addr.add] using hc
  · intro u hu; simp at hu; subst hu; rfl
  · intro v' w' h3 h4 _ h5
    obtain ⟨A2, c2, rfl⟩ := own_slice h3
    have ht : Turned (fun k => v.ownBlock = some k) w w' := Turned.ofGrown h4 (fun k e => e)
    have hb : Below B1 w w' := below_grown h4 hB.2 (fun k e => (h1.lt k e).1)
    have hel : ∀ A c l, Elm w B0 B1 A c l → Elm w' B0 B1 A c l := fun A c l hA => by
      refine ⟨hA.1, hA.2.1, ?_⟩
      rcases hA.2.2 with h6 | h6
      · exact .inl (h6.below (hb.mono hB.1))
      · right
        rcases hbk : v.ownBlock with _ | g
        · exact h6.keep (ht.mono (fun k e => by rw [hbk] at e; cases e))
        · rcases h1.2 with ⟨rfl, _⟩ | ⟨g', cap, cur, rfl, _, hh, _⟩
          · cases hbk
          · have hg : g' = g := by simpa [Value.ownBlock] using hbk
            subst hg
            refine (((h6.shunTag hh ?_).keep (ht.mono (fun k e => ?_))).mono (fun _ h => .inl h))
            · intro cur e
              have h6 := (Obj.cells.inj e).2.1
              revert h6; decide
            · have e := hbk.symm.trans e
              injection e with e
              exact .inr e.symm
    refine hK A2 c2 w' ⟨⟨vs ++ [.slice A l.length c], by rw [List.length_append]; exact h3, fun i hi => ?_⟩⟩ ⟨_, h4, fun g hg => ⟨(h1.lt g hg).1, by
      rcases h1.2 with ⟨rfl, _⟩ | ⟨g', cap, cur, rfl, _, hh, _⟩
      · cases hg
      · have hgg : g' = g := by simpa [Value.ownBlock] using hg
        subst hgg
        exact ⟨cur, hh⟩⟩⟩
    have hvl : vs.length = L.length := by have := h1.1; omega
    by_cases hlt : i < L.length
    · obtain ⟨A', c'', h7, h8⟩ := h2 i hlt
      rw [List.getElem_append_left hlt]
      exact ⟨A', c'', by rw [List.getElem?_append_left (by omega)]; exact h7, hel _ _ _ h8⟩
    · have : i = L.length := by rw [List.length_append] at hi; simp at hi; omega
      subst this
      rw [List.getElem_append_right (Nat.le_refl _)]
      simp only [Nat.sub_self, List.getElem_cons_zero]
      exact ⟨A, c, by rw [List.getElem?_append_right (by omega), hvl]; simp, hel _ _ _ hA⟩
end Go.Proofs.Ytdgijnolpjaheaa
namespace Go.Proofs.Ytdgijnolpjaheaa
open Go.RowKit

namespace T
theorem renew_ok (w0 : World) (d : Dk) (s : Sx.St) (g gj m n : Nat) (e st : Int) (p : List Nat) (L : List (List Nat)) (c' : Nat) (w : World) (h : SG w0 w d s g gj m n e st p L c') (hs : s.armed = false ∧ s.down = false) (hst : st ≠ 2) (hn1 : 1 ≤ n) (he : e + 1 ≤ 1099511627776)
    (A : Option Addr) (c : Nat) (q : List Nat) (k : Nat) (hk : q.length = k) (hk2 : k ≤ 140737488355328) (hl : Jo.secs k ≤ m) (hc : k ≤ c) (hcm : c ≤ maxLen) (hz : A = none → c = 0) (hq : IsBytes w w.heap.size A q) :
    Calls Try.prog 24 #[.pointer (some ⟨g, 0, none⟩), .slice A k c] w fun e' w' => e' = .returned (.int .i64 0) ∧ Hid (∃ s' gj', SG w0 w' d s' g gj' m n (e + 1) 1 q [] 0 ∧ s'.armed = false ∧ s'.down = false ∧ w.heap.size ≤ gj' ∧ Turned (fun b => d.has b ∨ b = g) w w') := by
  refine (renew_any w0 d s g gj m n e st p L c' w h hst hn1 he A c q k hk hk2 hc hcm hz hq).mono ?_
  rintro e' w' ⟨E, h1, ⟨h2, h3, h4⟩ | ⟨s', gj', h2, h3, h4, h5, h6, h7⟩ | ⟨s', h2, h3, h4, h5, h6, h7, h8⟩, ht⟩
  · rw [hk] at h2; omega
  · subst h3
    exact ⟨h1, s', gj', h4, h6.trans hs.1, h7, h5, ht⟩
  · exact absurd hs h3
theorem append_ok (w0 : World) (d : Dk) (s : Sx.St) (g gj m n : Nat) (e : Int) (p : List Nat) (L : List (List Nat)) (c' : Nat) (w : World) (h : SG w0 w d s g gj m n e 1 p L c') (hs : s.armed = false ∧ s.down = false)
    (A : Option Addr) (c : Nat) (q : List Nat) (k : Nat) (hk : q.length = k) (hk2 : k ≤ 32768) (hl : Jo.secs k ≤ n - Jo.total L) (hc : k ≤ c) (hcm : c ≤ maxLen) (hz : A = none → c = 0) (hq : IsBytes w w.heap.size A q) (hA : q ≠ [] → ∀ a, A = some a → ¬ d.has a.block) :
    Calls Try.prog 23 #[.pointer (some ⟨g, 0, none⟩), .slice A k c] w fun e' w' => e' = .returned (.int .i64 0) ∧ Hid (∃ s', SG w0 w' d s' g gj m n e 1 p (L ++ [q]) (L.length + 1) ∧ s'.armed = false ∧ s'.down = false ∧ Turned (fun b => d.has b ∨ b = g ∨ b = gj) w w') := by
  refine (append_any w0 d s g gj m n e p L c' w h A c q k hk hc hcm hz hq hA).mono ?_
  rintro e' w' ⟨E, h1, ⟨h2, h3, h4⟩ | ⟨h2, h3, h4, h5⟩ | ⟨s', h2, h3, h4, h5, h6, h7⟩ | ⟨s', h2, h3, h4, h5, h6, h7, h8, h9⟩, ht⟩
  · omega
  · rw [hk] at h3; omega
  · subst h4
    exact ⟨h1, s', h5, h6.trans hs.1, h7, ht⟩
  · exact absurd hs h4
theorem renew_no (w0 : World) (d : Dk) (s : Sx.St) (g gj m n : Nat) (e st : Int) (p : List Nat) (L : List (List Nat)) (c' : Nat) (w : World) (h : SG w0 w d s g gj m n e st p L c') (hst : st ≠ 2) (hn1 : 1 ≤ n) (he : e + 1 ≤ 1099511627776)
    (A : Option Addr) (c : Nat) (q : List Nat) (k : Nat) (hk : q.length = k) (hk2 : k ≤ 140737488355328) (hl : m < Jo.secs k) (hc : k ≤ c) (hcm : c ≤ maxLen) (hz : A = none → c = 0) (hq : IsBytes w w.heap.size A q) :
    Calls Try.prog 24 #[.pointer (some ⟨g, 0, none⟩), .slice A k c] w fun e' w' => e' = .returned (.int .i64 2) ∧ Hid (SG w0 w' d s g gj m n e st p L c' ∧ Turned (fun b => d.has b ∨ b = g) w w') := by
  refine (renew_any w0 d s g gj m n e st p L c' w h hst hn1 he A c q k hk hk2 hc hcm hz hq).mono ?_
  rintro e' w' ⟨E, h1, ⟨h2, h3, h4⟩ | ⟨s', gj', h2, h3, h4, h5, h6, h7⟩ | ⟨s', h2, h3, h4, h5, h6, h7, h8⟩, ht⟩
  · subst h3
    exact ⟨h1, h4, ht⟩
  · rw [hk] at h2; omega
  · rw [hk] at h2; omega
theorem renew_lit (w0 : World) (d : Dk) (s : Sx.St) (g gj m n : Nat) (e st e1 : Int) (p : List Nat) (L : List (List Nat)) (c' : Nat) (w : World) (h : SG w0 w d s g gj m n e st p L c') (hs : s.armed = false ∧ s.down = false) (hst : st ≠ 2) (hn1 : 1 ≤ n) (he : e + 1 ≤ 1099511627776) (he1 : e + 1 = e1)
    (q : List Nat) (k : Nat) (hk : q.length = k) (fr : Nat × Nat) (cs : Array Value) (hcs : cs = (bytes q).toArray) (hq : ∀ x ∈ q, x < 256) (hk2 : k ≤ 140737488355328) (hl : Jo.secs k ≤ m) :
    Calls Try.prog 24 #[.pointer (some ⟨g, 0, none⟩), .slice (some ⟨w.heap.size, 0, none⟩) k k] (w.alloc (.cells cs 5 fr)) fun e' w' => e' = .returned (.int .i64 0) ∧ Hid (∃ s' gj', SG w0 w' d s' g gj' m n e1 1 q [] 0 ∧ s'.armed = false ∧ s'.down = false) := by
  subst hcs
  subst he1
  have hb : Below w.heap.size w (w.alloc (.cells (bytes q).toArray 5 fr)) := (Below.refl _ _).alloc (Nat.le_refl _) _
  refine (renew_ok w0 d s g gj m n e st p L c' _ (h.below hb) hs hst hn1 he (some ⟨w.heap.size, 0, none⟩) k q k hk hk2 hl (Nat.le_refl _) (by unfold maxLen; omega) (fun h => by cases h) (by rw [World.size_alloc]; exact isBytes_new w q hq _ _)).mono ?_
  rintro e' w' ⟨h1, s', gj', h2, h3, h4, _⟩
  exact ⟨h1, s', gj', h2, h3, h4⟩
theorem append_lit (w0 : World) (d : Dk) (s : Sx.St) (g gj m n : Nat) (e : Int) (p : List Nat) (L : List (List Nat)) (c' : Nat) (w : World) (h : SG w0 w d s g gj m n e 1 p L c') (hs : s.armed = false ∧ s.down = false)
    (q : List Nat) (k : Nat) (hk : q.length = k) (fr : Nat × Nat) (cs : Array Value) (hcs : cs = (bytes q).toArray) (hq : ∀ x ∈ q, x < 256) (hk2 : k ≤ 32768) (hl : Jo.secs k ≤ n - Jo.total L) (M : List (List Nat)) (hM : L ++ [q] = M) (c2 : Nat) (hc2 : L.length + 1 = c2) :
    Calls Try.prog 23 #[.pointer (some ⟨g, 0, none⟩), .slice (some ⟨w.heap.size, 0, none⟩) k k] (w.alloc (.cells cs 5 fr)) fun e' w' => e' = .returned (.int .i64 0) ∧ Hid (∃ s', SG w0 w' d s' g gj m n e 1 p M c2 ∧ s'.armed = false ∧ s'.down = false) := by
  subst hcs
  subst hM
  subst hc2
  have hb : Below w.heap.size w (w.alloc (.cells (bytes q).toArray 5 fr)) := (Below.refl _ _).alloc (Nat.le_refl _) _
  refine (append_ok w0 d s g gj m n e p L c' _ (h.below hb) hs (some ⟨w.heap.size, 0, none⟩) k q k hk hk2 hl (Nat.le_refl _) (by unfold maxLen; omega) (fun h => by cases h) (by rw [World.size_alloc]; exact isBytes_new w q hq _ _)
    (fun _ a ha hd => by injection ha with ha; subst ha; have := h.disk.at_.lt _ hd; exact Nat.lt_irrefl _ this)).mono ?_
  rintro e' w' ⟨h1, s', h2, h3, h4, _⟩
  exact ⟨h1, s', h2, h3, h4⟩
theorem count_SG (w0 : World) (d : Dk) (s : Sx.St) (g gj m n : Nat) (e st : Int) (p : List Nat) (L : List (List Nat)) (c : Nat) (w : World) (h : SG w0 w d s g gj m n e st p L c) :
    Calls Try.prog 27 #[.pointer (some ⟨gj, 0, none⟩)] w fun e' w' => e' = .returned (.int .i64 (c : Int)) ∧ w' = w := by
  obtain ⟨ej, nx, rm, h1, _⟩ := h.jn
  exact J.count_any gj _ w h1
theorem epoch_SG (w0 : World) (d : Dk) (s : Sx.St) (g gj m n : Nat) (e st : Int) (p : List Nat) (L : List (List Nat)) (c : Nat) (w : World) (h : SG w0 w d s g gj m n e st p L c) :
    Calls Try.prog 26 #[.pointer (some ⟨g, 0, none⟩)] w fun e' w' => e' = .returned (.int .i64 e) ∧ w' = w :=
  epoch_any g _ w h.store
/-- rows that the text spells out: two of a byte each -/
theorem rows_lit (w : World) (A : Option Addr) (c : Nat) (fr fr' : Nat × Nat) (x y : Nat) (hx : x < 256) (hy : y < 256) (h : IsRows w A [[x], [y]]) :
    Calls Try.prog 44 #[.slice A 2 c, .slice (some ⟨w.heap.size + 1 + 1, 0, none⟩) 2 2] (((w.alloc (.cells #[.int .u8 x] 5 fr)).alloc (.cells #[.int .u8 y] 5 fr')).alloc (.cells #[.slice (some ⟨w.heap.size, 0, none⟩) 1 1, .slice (some ⟨w.heap.size + 1, 0, none⟩) 1 1] 32)) fun e w' => e = .returned (.bool true) ∧ Below w.heap.size w w' := by
  obtain ⟨w1, hw1⟩ : ∃ w1, w1 = w.alloc (.cells #[.int .u8 (x : Int)] 5 fr) := ⟨_, rfl⟩
  obtain ⟨w2, hw2⟩ : ∃ w2, w2 = w1.alloc (.cells #[.int .u8 (y : Int)] 5 fr') := ⟨_, rfl⟩
  obtain ⟨w3, hw3⟩ : ∃ w3, w3 = w2.alloc (.cells #[.slice (some ⟨w.heap.size, 0, none⟩) 1 1, .slice (some ⟨w.heap.size + 1, 0, none⟩) 1 1] 32) := ⟨_, rfl⟩
  rw [← hw1, ← hw2, ← hw3]
  have hs1 : w1.heap.size = w.heap.size + 1 := by rw [hw1]; simp
  have hs2 : w2.heap.size = w.heap.size + 1 + 1 := by rw [hw2]; simp [hs1]
  have hs3 : w3.heap.size = w.heap.size + 1 + 1 + 1 := by rw [hw3]; simp [hs2]
  have hx1 : w3.heap[w.heap.size]? = some (.cells #[.int .u8 (x : Int)] 5 fr) := by
    rw [hw3, Below.heap_alloc _ _ _ (by omega), hw2, Below.heap_alloc _ _ _ (by omega), hw1]; exact heap_alloc_new w _
  have hx2 : w3.heap[w.heap.size + 1]? = some (.cells #[.int .u8 (y : Int)] 5 fr') := by
    rw [hw3, Below.heap_alloc _ _ _ (by omega), hw2, ← hs1]; exact heap_alloc_new w1 _
  have hx3 : w3.heap[w.heap.size + 1 + 1]? = some (.cells #[.slice (some ⟨w.heap.size, 0, none⟩) 1 1, .slice (some ⟨w.heap.size + 1, 0, none⟩) 1 1] 32 (0, 0)) := by
    rw [hw3, ← hs2]; exact heap_alloc_new w2 _
  have hb : Below w.heap.size w w3 := by
    rw [hw3]; refine Below.alloc ?_ (by omega) _
    rw [hw2]; refine Below.alloc ?_ (by omega) _
    rw [hw1]; exact (Below.refl _ _).alloc (Nat.le_refl _) _
  have hl : IsRows w3 (some ⟨w.heap.size + 1 + 1, 0, none⟩) [[x], [y]] := by
    intro k _
    refine ⟨w.heap.size + 1 + 1, 0, rfl, fun i hi => ?_⟩
    match i, hi with
    | 0, _ =>
      refine ⟨by simp, some ⟨w.heap.size, 0, none⟩, 1, by simp [World.cell?, hx3], ⟨by simpa using hx, fun j hj => ⟨w.heap.size, 0, rfl, by omega, fun i hi => ?_⟩⟩⟩
      match i, hi with
      | 0, _ => simp [World.cell?, hx1]
    | 1, _ =>
      refine ⟨by simp, some ⟨w.heap.size + 1, 0, none⟩, 1, by simp [World.cell?, hx3], ⟨by simpa using hy, fun j hj => ⟨w.heap.size + 1, 0, rfl, by omega, fun i hi => ?_⟩⟩⟩
      match i, hi with
      | 0, _ => simp [World.cell?, hx2]
  refine (rows_same A _ c 2 [[x], [y]] [[x], [y]] 2 2 rfl rfl (by omega) w3 (h.below hb) hl).mono ?_
  rintro e w' ⟨h1, j, h2⟩
  exact ⟨by rw [h1]; simp, by rw [h2]; exact below_drewN hb j⟩
/-- bytes that the text spells out: one -/
theorem byte_lit (w : World) (A : Option Addr) (c : Nat) (fr : Nat × Nat) (x : Nat) (hx : x < 256) (h : IsBytes w w.heap.size A [x]) :
    Calls Try.prog 18 #[.slice A 1 c, .slice (some ⟨w.heap.size, 0, none⟩) 1 1] (w.alloc (.cells #[.int .u8 x] 5 fr)) fun e w' => e = .returned (.bool true) ∧ Below w.heap.size w w' := by
  have hb : Below w.heap.size w (w.alloc (.cells #[.int .u8 (x : Int)] 5 fr)) := (Below.refl _ _).alloc (Nat.le_refl _) _
  have h1 : IsBytes (w.alloc (.cells #[.int .u8 (x : Int)] 5 fr)) (w.heap.size + 1) (some ⟨w.heap.size, 0, none⟩) [x] := isBytes_new w [x] (by simpa using hx) _ _
  refine (same_T _ _ A _ c 1 [x] 1 rfl (by unfold maxLen; omega) _ (h.below hb) h1).mono ?_
  rintro e w' ⟨h2, j, h3⟩
  exact ⟨h2, by rw [h3]; exact below_drewN hb j⟩
end T
end Go.Proofs.Ytdgijnolpjaheaa
namespace Go.Proofs.Ytdgijnolpjaheaa
open Go.RowKit

namespace T
theorem sg_new (w w1 : World) (d : Dk) (N : Nat) (hD : DiskAt w1 (fun k => k < w.heap.size) d (Sx.new N)) (hb : Below w.heap.size w w1) : DM w w1 d (Sx.new N) := ⟨hD, hb⟩
set_option maxRecDepth 100000 in
set_option maxHeartbeats 2000000 in
theorem known_any (w : World) :
    Calls Try.prog 21 #[] w fun e w' => e = .returned (.bool true) ∧ Below w.heap.size w w' := by
  have HN := hid (new_any 12 (by omega) w)
  have kc := fun (w : World) (C : Array Value) (n c : Nat) => Lib.run_convert_bytes_const (P := Try.prog) w 32 5 C n c Try.underlying32 Try.underlying5
  go_enter Try.func21, Try.ntmps21
  go_wp2_with fail
  refine HN.out.mono ?_
  rintro e w1 ⟨d, rfl, hD, hb⟩
  have H1 := hid (sg_new w w1 d 12 hD hb)
  clear hD hb HN
  go_wp2_with fail
  refine (open_any w w1 d (Sx.new 12) 2 8 0 [] [] H1.out (Sto.held_new 12 2 8 (by omega) (by omega) (by omega)) (by omega) rfl 2 rfl).mono ?_
  rintro e w2 ⟨g, gj, A, c, A2, c2, rfl, h2⟩
  have H2 := hid h2.out.sg
  clear h2 H1
  go_wp2_with fail
  refine (epoch_SG w d _ g gj 2 8 0 0 [] [] 0 w2 H2.out).mono ?_
  rintro e w3 ⟨rfl, rfl⟩
  go_wp2_with fail
  have hbx : Below w3.heap.size w3 (w3.alloc (.cells #[.int .u8 1] 5)) := (Below.refl _ _).alloc (Nat.le_refl _) _
  have HX := hid (H2.out.below hbx)
  clear hbx H2
  refine (append_state w d _ g gj 2 8 0 [] [] 0 (some ⟨w3.heap.size, 0, none⟩) 1 1 _ HX.out).mono ?_
  rintro e w4 ⟨rfl, hw4⟩
  rw [← hw4] at HX
  clear hw4
  go_wp2_with fail
  refine (renew_lit w d _ g gj 2 8 0 0 1 [] [] 0 w4 HX.out ⟨rfl, rfl⟩ (by decide) (by omega) (by omega) (by omega) [97] 1 rfl _ #[.int .u8 97] rfl (by decide) (by omega) (by decide)).mono ?_
  rintro e w5 ⟨rfl, h5⟩
  obtain ⟨s5, gj5, h5a, h5b, h5c⟩ := h5.out
  have H5 := hid (And.intro h5a (And.intro h5b h5c))
  clear h5 h5a h5b h5c HX
  go_wp2_with fail
  refine (append_lit w d s5 g gj5 2 8 1 [97] [] 0 w5 H5.out.1 H5.out.2 [98] 1 rfl _ #[.int .u8 98] rfl (by decide) (by omega) (by decide) [[98]] rfl 1 rfl).mono ?_
  rintro e w6 ⟨rfl, h6⟩
  obtain ⟨s6, h6a, h6b, h6c⟩ := h6.out
  have H6 := hid (And.intro h6a (And.intro h6b h6c))
  clear h6 h6a h6b h6c H5
  go_wp2_with fail
  refine (append_lit w d s6 g gj5 2 8 1 [97] [[98]] 1 w6 H6.out.1 H6.out.2 [99] 1 rfl _ #[.int .u8 99] rfl (by decide) (by omega) (by decide) [[98], [99]] rfl 2 rfl).mono ?_
  rintro e w7 ⟨rfl, h7⟩
  obtain ⟨s7, h7a, h7b, h7c⟩ := h7.out
  have H7 := hid (And.intro h7a (And.intro h7b h7c))
  have k0 : w7.cell? ⟨g, 0, none⟩ = some (.pointer (some ⟨gj5, 0, none⟩)) := h7a.store.cells.1
  clear h7 h7a h7b h7c H6
  go_wp2_with fail
  refine (epoch_SG w d _ g gj5 2 8 1 1 [97] [[98], [99]] 2 w7 H7.out.1).mono ?_
  rintro e w8 ⟨rfl, rfl⟩
  go_wp2_with fail
  refine (count_SG w d _ g gj5 2 8 1 1 [97] [[98], [99]] 2 w8 H7.out.1).mono ?_
  rintro e w9 ⟨rfl, rfl⟩
  clear k0
  go_wp2_with fail
  refine (open_any w w9 d s7 2 8 1 [97] [[98], [99]] H7.out.1.disk H7.out.1.held (by omega) H7.out.2.2 2 rfl).mono ?_
  rintro e w10 ⟨g', gj', A', c', A2', c2', rfl, h10⟩
  have H10 := hid h10.out
  have k0 : w10.cell? ⟨g', 0, none⟩ = some (.pointer (some ⟨gj', 0, none⟩)) := h10.out.sg.store.cells.1
  clear h10 H7
  go_wp2_with fail
  refine (epoch_SG w d _ g' gj' 2 8 1 0 [97] [[98], [99]] 0 w10 H10.out.sg).mono ?_
  rintro e w11 ⟨rfl, rfl⟩
  go_wp2_with fail
  refine (count_SG w d _ g' gj' 2 8 1 0 [97] [[98], [99]] 0 w11 H10.out.sg).mono ?_
  rintro e w12 ⟨rfl, rfl⟩
  clear k0
  go_wp2_with fail
  refine (byte_lit w12 A' c' _ 97 (by omega) H10.out.check.reads).mono ?_
  rintro e w13 ⟨rfl, hb13⟩
  have H13 := hid (And.intro (H10.out.rows.reads.below hb13) (H10.out.sg.disk.bel.trans (hb13.mono H10.out.sg.disk.bel.size)))
  clear hb13 H10
  have kc2 := Lib.run_convert_bytes_const (P := Try.prog) (w13.alloc (.cells #[.int .u8 98] 5 (1, 2))) 32 5 #[.int .u8 99] 1 1 Try.underlying32 Try.underlying5
  simp only [World.size_alloc] at kc2
  go_wp2_with fail
  refine (rows_lit w13 A2' c2' _ _ 98 99 (by omega) (by omega) H13.out.1).mono ?_
  rintro e w14 ⟨rfl, hb14⟩
  have H14 := hid (H13.out.2.trans (hb14.mono H13.out.2.size))
  clear hb14 H13
  go_wp2
  go_ret
  exact ⟨rfl, H14.out⟩
end T
end Go.Proofs.Ytdgijnolpjaheaa
namespace Go.Proofs.Ytdgijnolpjaheaa
open Go.RowKit

theorem info_u8k : (Try.prog.info? 5).map (fun i => (i.zero, i.size, i.bytes)) = some (some (.int .u8 0), 1, 1) := by kernel_rfl
/-- a row of so many noughts -/
def zeros (n : Nat) : List Nat := List.replicate n 0
theorem zeros_length (n : Nat) : (zeros n).length = n := by simp [zeros]
theorem zeros_small (n : Nat) : ∀ x ∈ zeros n, x < 256 := by intro x hx; have := (List.mem_replicate.1 hx).2; omega
def zeroRow (n : Nat) : Array Value := (bytes (zeros n)).toArray
theorem make_any (n : Nat) (hn : n ≤ 65536) (W : World) : (Instr.makeSlice 32 (.int .i64 (n : Int)) (.int .i64 (n : Int))).run Try.prog W = .ok (.slice (some ⟨W.heap.size, 0, none⟩) n n) (W.alloc (.cells (zeroRow n) 5)) := by
  obtain ⟨i0, hi, hz0, hz1, hz2⟩ := info_parts info_u8k
  have h := run_make (P := Try.prog) W 32 5 i0 (.int .u8 0) Try.underlying32 hi hz0 .i64 .i64 n n (by omega) (by omega) (by rw [hz2]; omega) (by omega)
  rw [Int.toNat_natCast, hz1, Nat.mul_one] at h
  rw [h]
  have e : madeCells (Value.int .u8 0).cells n = zeroRow n := by
    apply Array.toList_inj.1
    rw [show (Value.int .u8 0).cells = #[Value.int .u8 0] from rfl, toList_madeCells_one]
    simp [zeroRow, zeros, bytes]
  rw [e]
end Go.Proofs.Ytdgijnolpjaheaa
namespace Go.Proofs.Ytdgijnolpjaheaa
open Go.RowKit

namespace Jo
theorem run_dead (s : Sx.St) (a : Nat) (b : List Nat) (T : List (List Nat)) (h1 : s.dead = true) (h2 : s.down = false) (ha : a < s.n) (hb : b.length ≤ 64) : (run s a (b :: T)).1 = 10 := by
  have h0 : (0 : Int) ≤ a ∧ (a : Int) < s.n := by omega
  have he : Sx.wrE s a b = 10 := by simp [Sx.wrE, h2, h0, Nat.not_lt.2 hb, Sx.spE, h1]
  simp only [run]
  rw [if_neg (by rw [he]; decide)]
  exact he
end Jo
namespace T
set_option maxRecDepth 100000 in
theorem open_wrong (Z : Nat → Prop) (d : Dk) (s : Sx.St) (sl : Int) (w : World) (h : DiskAt w Z d s) (hs : ¬ (1 ≤ sl ∧ 2 * sl + 1 ≤ s.n)) :
    Calls Try.prog 20 #[.pointer (some ⟨d.g, 0, none⟩), .int .i64 sl] w fun e' w' => e' = .returned (.tuple #[.pointer none, .slice none 0 0, .slice none 0 0, .int .i64 3]) ∧ w' = w := by
  have HV := hid (valid_any Z d s sl w h)
  rw [decide_eq_false hs] at HV
  clear h hs
  go_enter Try.func20, Try.ntmps20
  go_wp2_with fail
  refine HV.out.mono ?_
  rintro e1 w1 ⟨rfl, rfl⟩
  go_wp2
  go_returns
  exact ⟨rfl, rfl⟩
set_option maxRecDepth 100000 in
theorem open_down (Z : Nat → Prop) (d : Dk) (s : Sx.St) (sl : Int) (w : World) (h : DiskAt w Z d s) (hs : 1 ≤ sl ∧ 2 * sl + 1 ≤ s.n) (hd : s.down = true) :
    Calls Try.prog 20 #[.pointer (some ⟨d.g, 0, none⟩), .int .i64 sl] w fun e' w' => e' = .returned (.tuple #[.pointer none, .slice none 0 0, .slice none 0 0, .int .i64 10]) ∧ w' = w := by
  have HV := hid (valid_any Z d s sl w h)
  rw [decide_eq_true hs] at HV
  have HD := hid (down_any Z d s w h)
  rw [hd] at HD
  clear h hs hd
  go_enter Try.func20, Try.ntmps20
  go_wp2_with fail
  refine HV.out.mono ?_
  rintro e1 w1 ⟨rfl, rfl⟩
  go_wp2_with fail
  refine HD.out.mono ?_
  rintro e1 w1 ⟨rfl, rfl⟩
  go_wp2
  go_returns
  exact ⟨rfl, rfl⟩
set_option maxRecDepth 100000 in
set_option maxHeartbeats 2000000 in
/-- an Append of no bytes, where the next operation is not done -/
theorem append_cut (w0 : World) (d : Dk) (s : Sx.St) (g gj m n : Nat) (e : Int) (p : List Nat) (L : List (List Nat)) (c' : Nat) (w : World) (h : SG w0 w d s g gj m n e 1 p L c') (hdead : s.dead = true) (hup : s.down = false) (hro : 1 ≤ n - Jo.total L) :
    Calls Try.prog 23 #[.pointer (some ⟨g, 0, none⟩), .slice none 0 0] w fun e' w' => e' = .returned (.int .i64 10) ∧ Hid (∃ s', DM w0 w' d s' ∧ Dead w' g ∧ s'.down = true ∧ ∀ l, Sto.Held (Sx.crash s' l) m n e p L ∨ Sto.Held (Sx.crash s' l) m n e p (L ++ [[]])) := by
  obtain ⟨hgood, he1, hcl⟩ := h.ready rfl
  subst hcl
  obtain ⟨ej, nx, rm, hJ, hjn⟩ := h.jn
  obtain ⟨rfl, rfl, rfl⟩ := hjn rfl
  obtain ⟨c0, c1, c2, c3, c4⟩ := h.store.cells
  obtain ⟨z1, z2, z3, z4, z5⟩ := h.sizes
  have hfit := hgood.fit
  have hlt := Jo.len_total L
  have hne := h.off.2.2
  have hs0 : Jo.secs 0 = 1 := by decide
  have h10 : (Jo.run s (2 * m + Jo.total L) (Jo.secsOf ej (L.length + 1 : Nat) [])).1 = 10 := by
    have e1 : Jo.secsOf ej (L.length + 1 : Nat) [] = [Jo.sec ej (L.length + 1 : Nat) [] 0] := by
      unfold Jo.secsOf
      show (List.range (Jo.secs 0)).map _ = _
      rw [hs0]; rfl
    rw [e1]
    exact Jo.run_dead s _ _ [] hdead hup (by omega) (Jo.sec_length_le _ _ _ _)
  have h1 := J.append_goes (fun b => b < w0.heap.size) d s gj ej (2 * m + Jo.total L) (n - Jo.total L) L.length (by unfold InInt; omega) (by omega) (by omega) (by omega) w (fun b hb => Nat.lt_of_lt_of_le hb h.disk.bel.size) h.disk.at_ hJ none 0 [] 0 rfl (Nat.le_refl _) (Nat.zero_le _) (fun _ => rfl) (fun w' _ => IsBytes.nil) (by omega) (by rw [hs0]; exact hro)
  have hap := Sto.append h.held (q := []) (by omega) hgood (by simp) (by show Jo.secs 0 ≤ _; rw [hs0]; exact hro)
  rw [h10] at hap
  obtain ⟨s', hs'⟩ : ∃ s', s' = (Jo.run s (2 * m + Jo.total L) (Jo.secsOf ej (L.length + 1 : Nat) [])).2 := ⟨_, rfl⟩
  rw [← hs'] at hap
  have hb := hap.resolve_left (fun hh => by have := hh.1; omega)
  have HC : Hid (Calls Try.prog 47 #[.pointer (some ⟨gj, 0, none⟩), .slice none 0 0] w fun e' w' => e' = .returned (.int .i64 10) ∧ Hid (DiskAt w' (fun b => b < w0.heap.size) d s' ∧ Turned (fun b => d.has b ∨ b = gj) w w')) := hid (h1.mono fun e' w' R => ⟨by rw [R.ret, h10], hid ⟨by rw [hs']; exact R.disk, R.turned⟩⟩)
  have HX := hid h
  have HR := hid hb
  have HN : Hid (∀ w3, Turned (fun b => d.has b ∨ b = gj) w w3 → SAt w3 g ⟨some ⟨gj, 0, none⟩, d.g, (m : Nat), ej, 1⟩) := hid (fun w3 ht => h.store.keep ht (fun hh => hh.elim h.off.1 (fun hh => hne hh.symm)))
  clear h h1 hap hb hs' h10 hs0 hJ hgood hfit hlt hne c1 c2 c3 hjn hdead hup
  go_enter Try.func23, Try.ntmps23
  go_wp2_with fail
  refine HC.out.mono ?_
  rintro e3 w3 ⟨rfl, h3⟩
  have HP := hid (pass_any g _ 10 w3 (HN.out w3 h3.out.2))
  go_wp2_with fail
  refine HP.out.mono ?_
  rintro e4 w4 ⟨rfl, _, hw4⟩
  have hw4' := hid (hw4 (by simp))
  clear hw4
  go_wp2
  go_ret
  have hS3 := HN.out w3 h3.out.2
  have hS4 : SAt w4 g ⟨some ⟨gj, 0, none⟩, d.g, (m : Nat), ej, 2⟩ := by rw [hw4'.out]; exact hS3.set4 2
  have hD4 : DiskAt w4 (fun b => b < w0.heap.size) d s' := by rw [hw4'.out]; exact hS3.disk h3.out.1 4 _
  have hT4 : Turned (fun b => d.has b ∨ b = g ∨ b = gj) w w4 := by rw [hw4'.out]; exact (h3.out.2.mono (fun _ h => h.imp id .inr)).setCell g 4 _ (fun _ => .inr (.inl rfl))
  exact ⟨rfl, hid ⟨s', ⟨hD4, HX.out.bel hT4⟩, ⟨_, hS4, rfl⟩, HR.out.2.1, HR.out.2.2⟩⟩
end T
end Go.Proofs.Ytdgijnolpjaheaa
