/- What the walks of layer 11's statements share. -/
import Derived.Test.YthocdknfkmclkaaRlKnown
import Derived.Test.YthocdknfkmclkaaRlKn
import Derived.Test.YthocdknfkmclkaaRlIn
import Derived.Test.YthocdknfkmclkaaRlB
namespace Go.Proofs.Ythocdknfkmclkaa
open Go.RowKit

/-- a contract said from a world on -/
theorem at_base {f : FuncId} {args : Array Value} {w0 : World} {v : Value} (h : ∀ w', Below w0.heap.size w0 w' → Calls Try.prog f args w' fun e w'' => e = .returned v ∧ Below w'.heap.size w' w'') :
    ∀ w', Below w0.heap.size w0 w' → Calls Try.prog f args w' fun e w'' => e = .returned v ∧ Below w0.heap.size w0 w'' :=
  fun w' hb => (h w' hb).mono fun _ _ ⟨h1, h2⟩ => ⟨h1, hb.trans (h2.mono hb.size)⟩
theorem bth {a b c : World} (h : Below a.heap.size a b) (h' : Below b.heap.size b c) : Below a.heap.size a c := h.trans (h'.mono h.size)
/-- three cells of a box -/
def Box (w : World) (b : Nat) (u0 u1 u2 : Value) : Prop := w.cell? ⟨b, 0, none⟩ = some u0 ∧ w.cell? ⟨b, 1, none⟩ = some u1 ∧ w.cell? ⟨b, 2, none⟩ = some u2
theorem box_new (w w' : World) (u0 u1 u2 : Value) (t : TypeId) (hb : Below (w.heap.size + 1) (w.alloc (.cells #[u0, u1, u2] t)) w') : Box w' w.heap.size u0 u1 u2 := by
  have h := heap_alloc_new w (.cells #[u0, u1, u2] t)
  refine ⟨?_, ?_, ?_⟩
  · rw [hb.cell (by show w.heap.size < _; omega)]; exact cell_of_row _ w.heap.size 0 _ t (0, 0) h
  · rw [hb.cell (by show w.heap.size < _; omega)]; exact cell_of_row _ w.heap.size 1 _ t (0, 0) h
  · rw [hb.cell (by show w.heap.size < _; omega)]; exact cell_of_row _ w.heap.size 2 _ t (0, 0) h
theorem Box.below {w w' : World} {b : Nat} {u0 u1 u2 : Value} (h : Box w b u0 u1 u2) (hb : Below w.heap.size w w') : Box w' b u0 u1 u2 := by
  have hlt : b < w.heap.size := World.block_lt_of_cell? _ _ h.1
  exact ⟨by rw [hb.cell hlt]; exact h.1, by rw [hb.cell hlt]; exact h.2.1, by rw [hb.cell hlt]; exact h.2.2⟩
theorem Box.lt {w : World} {b : Nat} {u0 u1 u2 : Value} (h : Box w b u0 u1 u2) : b < w.heap.size := World.block_lt_of_cell? _ _ h.1

theorem slice_len (g : Rl.Lg) (i n : Int) (h : g.es.length ≤ 2000) : (g.slice i n).length ≤ 100000 := by
  unfold Rl.Lg.slice
  split
  · rw [List.length_take, List.length_drop]; omega
  · simp
theorem appE_len (g : Rl.Lg) (i : Int) (M : List Rl.En) : (g.appE i M).length ≤ g.es.length + M.length := by
  unfold Rl.Lg.appE
  split
  · rw [List.length_append, List.length_take, List.length_drop]; omega
  · omega
theorem cut_len (g : Rl.Lg) (i : Int) : (g.cut i).es.length ≤ g.es.length := by
  unfold Rl.Lg.cut
  split
  · rw [List.length_drop]; omega
  · simp
namespace Rl
/-- whether one log's last entry is newer than another log -/
theorem newer_refl (a : Lg) : a.newer a.last a.lastT = true := by unfold Lg.newer; simp
theorem newer_total (a b : Lg) : a.newer b.last b.lastT = true ∨ b.newer a.last a.lastT = true := by
  unfold Lg.newer
  rw [Bool.or_eq_true, Bool.and_eq_true, Bool.or_eq_true, Bool.and_eq_true]
  simp only [decide_eq_true_iff]
  omega
theorem newer_both {a b : Lg} (h : a.newer b.last b.lastT = true) (h' : b.newer a.last a.lastT = true) : a.last = b.last ∧ a.lastT = b.lastT := by
  unfold Lg.newer at h h'
  rw [Bool.or_eq_true, Bool.and_eq_true] at h h'
  simp only [decide_eq_true_iff] at h h'
  omega
theorem newer_trans {a b c : Lg} (h : a.newer b.last b.lastT = true) (h' : b.newer c.last c.lastT = true) : a.newer c.last c.lastT = true := by
  unfold Lg.newer at h h' ⊢
  rw [Bool.or_eq_true, Bool.and_eq_true] at h h' ⊢
  simp only [decide_eq_true_iff] at h h' ⊢
  omega
end Rl
namespace Rl
/-- the log behind a place -/
def Lg.from_ (g : Lg) (p : Nat) : Lg := ⟨g.base + (p : Nat), g.at_ p, g.es.drop p⟩
theorem from_at (g : Lg) (p j : Nat) (h : p + j ≤ g.es.length) : (g.from_ p).at_ j = g.at_ (p + j) := by
  rcases j with _ | j
  · rfl
  · rw [Lg.at_succ _ j (by show j < (g.es.drop p).length; rw [List.length_drop]; omega), show p + (j + 1) = p + j + 1 by omega, Lg.at_succ g (p + j) (by omega)]
    show ((g.es.drop p)[j]'_).t = _
    rw [List.getElem_drop]
theorem from_last (g : Lg) (p : Nat) (h : p ≤ g.es.length) : (g.from_ p).last = g.last := by
  unfold Lg.last Lg.from_
  show g.base + (p : Nat) + ((g.es.drop p).length : Nat) = _
  rw [List.length_drop]; omega
theorem from_lastT (g : Lg) (p : Nat) (h : p ≤ g.es.length) : (g.from_ p).lastT = g.lastT := by
  unfold Lg.lastT
  have e : (g.from_ p).es.length = g.es.length - p := by show (g.es.drop p).length = _; rw [List.length_drop]
  rw [e, from_at g p _ (by omega)]
  congr 1
  omega
theorem from_slice (g : Lg) (p j : Nat) (hp : p ≤ g.es.length) (m : Int) : (g.from_ p).slice (g.base + (p : Nat) + (j : Nat) + 1) m = g.slice (g.base + (p : Nat) + (j : Nat) + 1) m := by
  unfold Lg.slice
  have h1 : (g.from_ p).has (g.base + (p : Nat) + (j : Nat) + 1) = g.has (g.base + (p : Nat) + (j : Nat) + 1) := by
    rw [Bool.eq_iff_iff, Lg.has_iff, Lg.has_iff]
    show (g.base + (p : Nat) ≤ _ ∧ _ ≤ g.base + (p : Nat) + ((g.es.drop p).length : Nat)) ↔ _
    rw [List.length_drop]; omega
  have h2 : (g.from_ p).pl (g.base + (p : Nat) + (j : Nat) + 1) - 1 = j := by
    unfold Lg.pl
    show (g.base + (p : Nat) + (j : Nat) + 1 - (g.base + (p : Nat))).toNat - 1 = j
    omega
  have h3 : g.pl (g.base + (p : Nat) + (j : Nat) + 1) - 1 = p + j := by unfold Lg.pl; omega
  have e1 : (g.from_ p).base = g.base + (p : Nat) := rfl
  have e2 : (g.from_ p).es = g.es.drop p := rfl
  rw [h1, h2, h3, e1, e2, List.drop_drop]
  by_cases hh : g.has (g.base + (p : Nat) + (j : Nat) + 1) = true
  · rw [if_pos ⟨hh, by omega⟩, if_pos ⟨hh, by omega⟩]
  · rw [if_neg (fun h => hh h.1), if_neg (fun h => hh h.1)]
theorem from_out (g : Lg) (p : Nat) : (g.from_ p).has (g.base + (p : Nat) - 1) = false := Lg.has_not.2 (by
  show ¬ (g.base + (p : Nat) ≤ _ ∧ _)
  omega)
end Rl
theorem fits_from {g : Rl.Lg} (h : fits g = true) (p : Nat) (hp : p ≤ g.es.length) : Rl.Ok (g.from_ p) ∧ Rl.Few (g.from_ p).es ∧ 0 ≤ g.base ∧ g.base ≤ 1099511627776 := by
  have h0 := fits_ok h
  unfold fits at h
  simp only [Bool.and_eq_true, decide_eq_true_iff, Bool.not_eq_true'] at h
  obtain ⟨⟨⟨⟨b0, b1⟩, _⟩, _⟩, _⟩ := h
  refine ⟨⟨⟨?_, ?_⟩, trivial, ?_⟩, fun e he => h0.2.1 e (List.mem_of_mem_drop he), b0, b1⟩
  · show 0 ≤ g.base + (p : Nat); omega
  · show g.base + (p : Nat) ≤ _; have := h0.2.2; omega
  · show (g.es.drop p).length ≤ _; rw [List.length_drop]; have := h0.2.2; omega
end Go.Proofs.Ythocdknfkmclkaa
