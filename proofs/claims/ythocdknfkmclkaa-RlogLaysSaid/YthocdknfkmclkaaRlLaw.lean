/- What the walks of layer 11's statements share. -/
import Derived.Test.YthocdknfkmclkaaRlKnown
import Derived.Test.YthocdknfkmclkaaRlKn
import Derived.Test.YthocdknfkmclkaaRlIn
import Derived.Test.YthocdknfkmclkaaRlB
namespace Go.Proofs.Ythocdknfkmclkaa
open Go.RowKit

/-- a contract said from a world on -/
theorem at_base {f : FuncId} {args : Array Value} {w0 : World} {v : Value} (h : ∀ w', Below w0.heap.size w0 w' → Calls Try.prog f args w' fun e w'' => e = .returned v ∧ Below w'.heap.size w' w'') :
    ∀ w', Below w0.heap.size w0 w' → Calls Try.prog f args w' fun e w'' => e = .returned v ∧ Below w0.heap.size w0 w'' :=
  fun w' hb => (h w' hb).mono fun _ _ ⟨h1, h2⟩ => ⟨h1, hb.trans (h2.mono hb.size)⟩
theorem bth {a b c : World} (h : Below a.heap.size a b) (h' : Below b.heap.size b c) : Below a.heap.size a c := h.trans (h'.mono h.size)
/-- three cells of a box -/
def Box (w : World) (b : Nat) (u0 u1 u2 : Value) : Prop := w.cell? ⟨b, 0, none⟩ = some u0 ∧ w.cell? ⟨b, 1, none⟩ = some u1 ∧ w.cell? ⟨b, 2, none⟩ = some u2
theorem box_new (w w' : World) (u0 u1 u2 : Value) (t : TypeId) (hb : Below (w.heap.size + 1) (w.alloc (.cells #[u0, u1, u2] t)) w') : Box w' w.heap.size u0 u1 u2 := by
  have h := heap_alloc_new w (.cells #[u0, u1, u2] t)
  refine ⟨?_, ?_, ?_⟩
  · rw [hb.cell (by show w.heap.size < _; omega)]; exact cell_of_row _ w.heap.size 0 _ t (0, 0) h
  · rw [hb.cell (by show w.heap.size < _; omega)]; exact cell_of_row _ w.heap.size 1 _ t (0, 0) h
  · rw [hb.cell (by show w.heap.size < _; omega)]; exact cell_of_row _ w.heap.size 2 _ t (0, 0) h
theorem Box.below {w w' : World} {b : Nat} {u0 u1 u2 : Value} (h : Box w b u0 u1 u2) (hb : Below w.heap.size w w') : Box w' b u0 u1 u2 := by
  have hlt : b < w.heap.size := World.block_lt_of_cell? _ _ h.1
  exact ⟨by rw [hb.cell hlt]; exact h.1, by rw [hb.cell hlt]; exact h.2.1, by rw [hb.cell hlt]; exact h.2.2⟩
theorem Box.lt {w : World} {b : Nat} {u0 u1 u2 : Value} (h : Box w b u0 u1 u2) : b < w.heap.size := World.block_lt_of_cell? _ _ h.1

theorem slice_len (g : Rl.Lg) (i n : Int) (h : g.es.length ≤ 2000) : (g.slice i n).length ≤ 100000 := by
  unfold Rl.Lg.slice
  split
  · rw [List.length_take, List.length_drop]; omega
  · simp
theorem appE_len (g : Rl.Lg) (i : Int) (M : List Rl.En) : (g.appE i M).length ≤ g.es.length + M.length := by
  unfold Rl.Lg.appE
  split
  · rw [List.length_append, List.length_take, List.length_drop]; omega
  · omega
theorem cut_len (g : Rl.Lg) (i : Int) : (g.cut i).es.length ≤ g.es.length := by
  unfold Rl.Lg.cut
  split
  · rw [List.length_drop]; omega
  · simp
namespace Rl
/-- whether one log's last entry is newer than another log -/
theorem newer_refl (a : Lg) : a.newer a.last a.lastT = true := by unfold Lg.newer; simp
theorem newer_total (a b : Lg) : a.newer b.last b.lastT = true ∨ b.newer a.last a.lastT = true := by
  unfold Lg.newer
  rw [Bool.or_eq_true, Bool.and_eq_true, Bool.or_eq_true, Bool.and_eq_true]
  simp only [decide_eq_true_iff]
  omega
theorem newer_both {a b : Lg} (h : a.newer b.last b.lastT = true) (h' : b.newer a.last a.lastT = true) : a.last = b.last ∧ a.lastT = b.lastT := by
  unfold Lg.newer at h h'
  rw [Bool.or_eq_true, Bool.and_eq_true] at h h'
  simp only [decide_eq_true_iff] at h h'
  omega
theorem newer_trans {a b c : Lg} (h : a.newer b.last b.lastT = true) (h' : b.newer c.last c.lastT = true) : a.newer c.last c.lastT = true := by
  unfold Lg.newer at h h' ⊢
  rw [Bool.or_eq_true, Bool.and_eq_true] at h h' ⊢
  simp only [decide_eq_true_iff] at h h' ⊢
  omega
end Rl
end Go.Proofs.Ythocdknfkmclkaa
