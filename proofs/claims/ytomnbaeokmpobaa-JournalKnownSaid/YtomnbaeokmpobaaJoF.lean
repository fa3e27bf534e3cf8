/- The walk through Append: its rounds. -/
import Derived.Test.YtomnbaeokmpobaaJoE
import Derived.Test.YtomnbaeokmpobaaJoMath2
import Derived.Test.YtomnbaeokmpobaaRegIn
import Derived.Test.YtomnbaeokmpobaaDiskE
import Derived.Test.YtomnbaeokmpobaaDiskF
namespace Go.Proofs.Ytomnbaeokmpobaa
open Go.RowKit

attribute [local go_sem] Oper.semAt_some

theorem bytes_turned {w w' : World} {S : Nat → Prop} {A : Option Addr} {l : List Nat} (h : IsBytes w w.heap.size A l) (hA : l ≠ [] → ∀ a, A = some a → ¬ S a.block) (ht : Turned S w w') : IsBytes w' w'.heap.size A l := by
  refine ⟨h.small, fun k hk => ?_⟩
  obtain ⟨b, off, e, hb, hc⟩ := h.cells k hk
  refine ⟨b, off, e, Nat.lt_of_lt_of_le hb ht.size, fun i hi => ?_⟩
  rw [ht.cell (p := ⟨b, off + i, none⟩) hb (hA (by rintro rfl; simp at hk) ⟨b, off, none⟩ e)]
  exact hc i hi
/-- a block that is no cells turns -/
theorem OwnsZ.others {w w' : World} {Z : Nat → Prop} {A : Option Addr} {c : Nat} {l : List Nat} {row : Option Nat} (h : OwnsZ w Z A c l) (hg : w.grownBy w' row) (hr : ∀ r, row = some r → ∃ o : Obj, w.heap[r]? = some o ∧ o.isCells = false) : OwnsZ w' Z A c l := by
  refine ⟨⟨h.own.small, h.own.row.1, ?_⟩, h.off⟩
  rcases h.own.row.2 with h0 | ⟨g, cap, cur, h1, h2, h3, h4⟩
  · exact .inl h0
  · refine .inr ⟨g, cap, cur, h1, h2, ?_, h4⟩
    rw [hg.block g (Array.getElem?_eq_some_iff.1 h3).1 (fun e => by
      obtain ⟨o, ho, hc⟩ := hr g e.symm
      rw [h3] at ho; cases ho; cases hc)]
    exact h3
theorem DiskAt.others {w w' : World} {Z : Nat → Prop} {d : Dk} {s : Sx.St} {row : Option Nat} {B : Nat} (h : DiskAt w Z d s) (hd : ∀ k, d.has k → k < B) (hg : w.grownBy w' row) (hr : ∀ r, row = some r → B ≤ r ∧ ∃ o : Obj, w.heap[r]? = some o ∧ o.isCells = false) : DiskAt w' Z d s :=
  h.imp (fun k hk => hg.block k (h.lt k hk) (fun e => by have := (hr k e.symm).1; have := hd k hk; omega)) h.off (fun A c l hA => hA.others hg (fun r e => (hr r e).2))
theorem DiskAt.elsewhere {w w' : World} {Z : Nat → Prop} {d : Dk} {s : Sx.St} (h : DiskAt w Z d s) {g : Nat} {cs : Array Value} {t : TypeId} (hg : w.heap[g]? = some (.cells cs t (0, 0))) (ho : t ≠ 5) (hn : ¬ d.has g) (ht : Turned (fun k => k = g) w w') : DiskAt w' Z d s :=
  h.imp (fun k hk => ht.block k (h.lt k hk) (fun e => by subst e; exact hn hk)) h.off (fun A c l hA => ((hA.shunTag hg (fun cur e => ho (Obj.cells.inj e).2.1)).keep (w' := w') (ht.mono (fun _ h => .inr h))).mono (fun _ h => .inl h))
theorem Turned.others {a b c : World} {S : Nat → Prop} {row : Option Nat} {B : Nat} (h : Turned S a b) (hB : a.heap.size ≤ B) (hg : b.grownBy c row) (hr : ∀ r, row = some r → B ≤ r) : Turned S a c :=
  h.then_ (S' := fun k => row = some k) (Turned.ofGrown hg (fun k e => e)) (fun k hk e => by have := hr k e; omega)

theorem JAt.set2 {w : World} {g : Nat} {j : Jn} (h : JAt w g j) (v : Int) : JAt (w.setCell ⟨g, 2, none⟩ (.int .i64 v)) g { j with nx := v } := by
  have h' : w.heap[g]? = _ := h
  unfold JAt
  simp [World.setCell, Array.getElem?_modify, h']
theorem JAt.set3 {w : World} {g : Nat} {j : Jn} (h : JAt w g j) (v : Int) : JAt (w.setCell ⟨g, 3, none⟩ (.int .i64 v)) g { j with rm := v } := by
  have h' : w.heap[g]? = _ := h
  unfold JAt
  simp [World.setCell, Array.getElem?_modify, h']
theorem JAt.set4 {w : World} {g : Nat} {j : Jn} (h : JAt w g j) (v : Int) : JAt (w.setCell ⟨g, 4, none⟩ (.int .i64 v)) g { j with ct := v } := by
  have h' : w.heap[g]? = _ := h
  unfold JAt
  simp [World.setCell, Array.getElem?_modify, h']
theorem JAt.disk {w : World} {g : Nat} {j : Jn} (h : JAt w g j) {Z : Nat → Prop} {d : Dk} {s : Sx.St} (hd : DiskAt w Z d s) (k : Nat) (v : Value) : DiskAt (w.setCell ⟨g, k, none⟩ v) Z d s :=
  hd.elsewhere h (by decide) (h.not_disk hd) (Turned.one _ _ _ _)
theorem keepsFrom_turned {W W' : World} {B : Nat} (h : Turned (fun k => k < B) W W') : KeepsFrom B W W' :=
  ⟨h.size, fun k o hB hk _ => (h.block k (Array.getElem?_eq_some_iff.1 hk).1 (by omega)).trans hk⟩
namespace J
theorem piece_is {W : World} {B : Nat} {A : Option Addr} {l : List Nat} {n c : Nat} (h : IsBytes W B A l) (hn : l.length = n) (hz : A = none → c = 0) (i : Nat) :
    ∃ A', pieceV A n c i = .slice A' (min 40 (n - 40 * i)) (c - 40 * i) ∧ IsBytes W B A' (Jo.piece l i) ∧ (A' = none → c - 40 * i = 0) := by
  rcases A with _ | a
  · exact ⟨none, rfl, by rw [h.of_none]; unfold Jo.piece; simp; exact IsBytes.nil, fun _ => by rw [hz rfl]; omega⟩
  · refine ⟨some ⟨a.block, a.off + 40 * i, a.spot⟩, rfl, ?_, fun h => by cases h⟩
    rcases l with _ | ⟨x, l⟩
    · unfold Jo.piece; simp; exact IsBytes.nil
    · obtain ⟨b, off, e, _, _⟩ := h.cells 0 (by simp)
      injection e with e
      subst e
      exact (h.from (40 * i)).take 40

/-- what the variables of Append hold, amid the loop -/
structure Vs (w W : World) (d : Dk) (g : Nat) (nx rv : Int) : Prop where
  turned : Turned d.has w W
  jb : W.heap[w.heap.size]? = some (.cells #[.pointer (some ⟨g, 0, none⟩)] 40 (0, 0))
  rb : W.heap[w.heap.size + 1]? = some (.cells #[.int .i64 rv] 24 (0, 0))
  nb : W.heap[w.heap.size + 1 + 1]? = some (.cells #[.int .i64 nx] 3 (0, 0))
namespace Vs
variable {w W W' : World} {d : Dk} {g : Nat} {nx rv : Int}
theorem cells (h : Vs w W d g nx rv) : W.cell? ⟨w.heap.size, 0, none⟩ = some (.pointer (some ⟨g, 0, none⟩)) ∧ W.cell? ⟨w.heap.size + 1, 0, none⟩ = some (.int .i64 rv) ∧ W.frozen? ⟨w.heap.size + 1, 0, none⟩ = false ∧
    W.cell? ⟨w.heap.size + 1 + 1, 0, none⟩ = some (.int .i64 nx) ∧ W.frozen? ⟨w.heap.size + 1 + 1, 0, none⟩ = false := by
  simp [World.cell?, World.frozen?, h.jb, h.rb, h.nb]
theorem lt (h : Vs w W d g nx rv) : w.heap.size + 1 + 1 < W.heap.size := (Array.getElem?_eq_some_iff.1 h.nb).1
theorem others {row : Option Nat} {B : Nat} (h : Vs w W d g nx rv) (hB : w.heap.size + 1 + 1 < B) (hg : W.grownBy W' row) (hr : ∀ r, row = some r → B ≤ r) : Vs w W' d g nx rv := by
  have hk : ∀ k, k < B → k < W.heap.size → W'.heap[k]? = W.heap[k]? := fun k h1 h2 => hg.block k h2 (fun e => by have := hr k e.symm; omega)
  have hl := h.lt
  exact ⟨h.turned.others (by omega) hg hr, (hk _ (by omega) (by omega)).trans h.jb, (hk _ (by omega) (by omega)).trans h.rb, (hk _ (by omega) (by omega)).trans h.nb⟩
theorem below (h : Vs w W d g nx rv) (hb : Below W.heap.size W W') : Vs w W' d g nx rv := by
  have hl := h.lt
  exact ⟨h.turned.trans (Turned.ofBelow _ hb), (hb.block _ (by omega)).trans h.jb, (hb.block _ (by omega)).trans h.rb, (hb.block _ (by omega)).trans h.nb⟩
theorem disk (h : Vs w W d g nx rv) (hd : ∀ k, d.has k → k < w.heap.size) (ht : Turned d.has W W') : Vs w W' d g nx rv := by
  have hl := h.lt
  have hk : ∀ k, w.heap.size ≤ k → k < W.heap.size → W'.heap[k]? = W.heap[k]? := fun k h1 h2 => ht.block k h2 (fun e => by have := hd k e; omega)
  exact ⟨h.turned.trans ht, (hk _ (by omega) (by omega)).trans h.jb, (hk _ (by omega) (by omega)).trans h.rb, (hk _ (by omega) (by omega)).trans h.nb⟩
theorem next (h : Vs w W d g nx rv) (nx' : Int) : Vs w (W.setCell ⟨w.heap.size + 1 + 1, 0, none⟩ (.int .i64 nx')) d g nx' rv := by
  have hl := h.lt
  have hs := Below.heap_setCell W ⟨w.heap.size + 1 + 1, 0, none⟩ (.int .i64 nx')
  refine ⟨h.turned.setCell _ _ _ (fun e => by omega), (hs _ (by show w.heap.size ≠ _ + 1; omega)).trans h.jb, (hs _ (by show w.heap.size + 1 ≠ _ + 1 + 1; omega)).trans h.rb, ?_⟩
  simp [World.setCell, Array.getElem?_modify, h.nb]
theorem res (h : Vs w W d g nx rv) (rv' : Int) : Vs w (W.setCell ⟨w.heap.size + 1, 0, none⟩ (.int .i64 rv')) d g nx rv' := by
  have hl := h.lt
  have hs := Below.heap_setCell W ⟨w.heap.size + 1, 0, none⟩ (.int .i64 rv')
  refine ⟨h.turned.setCell _ _ _ (fun e => by omega), (hs _ (by show w.heap.size ≠ _ + 1; omega)).trans h.jb, ?_, (hs _ (by show w.heap.size + 1 + 1 ≠ w.heap.size + 1; omega)).trans h.nb⟩
  simp [World.setCell, Array.getElem?_modify, h.rb]
theorem jn (h : Vs w W d g nx rv) {j : Jn} (hj : JAt w g j) (hn : ¬ d.has g) : JAt W g j := hj.keep h.turned hn
end Vs
end J
end Go.Proofs.Ytomnbaeokmpobaa
