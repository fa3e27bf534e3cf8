/- What layer 10's closed statement asks of: thirteen members, laid in memory. -/
import Derived.Test.YtblhfbijffaacaaLawKit10
namespace Go.Proofs.Ytblhfbijffaacaa
open Go.RowKit

/-- blocks that are made one after the other -/
theorem allocs10_at : ∀ (os : List Obj) (w : World), (∀ k, (os.foldl World.alloc w).heap[w.heap.size + k]? = os[k]?) ∧ Below w.heap.size w (os.foldl World.alloc w)
  | [], w => ⟨fun k => by simp, Below.refl _ _⟩
  | o :: os, w => by
    obtain ⟨h1, h2⟩ := allocs10_at os (w.alloc o)
    rw [World.size_alloc] at h1 h2
    refine ⟨fun k => ?_, ((Below.refl _ _).alloc (Nat.le_refl _) o).trans (h2.mono (by omega))⟩
    rcases k with _ | k
    · have h3 := h2.block w.heap.size (by omega)
      exact h3.trans (heap_alloc_new w o)
    · have h3 := h1 k
      rw [show w.heap.size + 1 + k = w.heap.size + (k + 1) from by omega] at h3
      exact h3
def confObjs (B : Nat) : List Obj := [.cells #[.int .i64 1, .int .i64 2, .int .i64 3] 3, .cells #[.int .i64 1, .int .i64 2, .int .i64 3] 3, .cells #[.int .i64 3, .int .i64 4] 3, .cells #[.int .i64 1, .int .i64 2, .int .i64 3, .int .i64 4] 3, .cells #[.int .i64 2, .int .i64 1] 3, .cells #[.int .i64 8] 3, .cells #[.int .i64 0] 3, .cells #[.int .i64 1] 3, .cells #[.int .i64 1] 3, .cells #[.int .i64 1] 3, .cells #[.int .i64 2] 3, .cells #[.int .i64 2] 3, .cells #[.int .i64 7] 3, .cells #[.int .i64 1, .int .i64 1] 3, .cells #[.int .i64 1] 3, .cells #[.int .i64 1, .int .i64 2, .int .i64 3, .int .i64 4, .int .i64 5, .int .i64 6, .int .i64 7] 3, .cells #[] 3, .cells #[.int .i64 3, .int .i64 3, .int .i64 3, .int .i64 1] 3, .cells #[.slice none 0 0, .slice none 0 0, .slice none 0 0, .slice (some ⟨B, 0, none⟩) 3 3, .slice none 0 0, .slice none 0 0, .slice (some ⟨B + 1, 0, none⟩) 3 3, .slice (some ⟨B + 1 + 1, 0, none⟩) 2 2, .slice none 0 0, .slice (some ⟨B + 1 + 1 + 1, 0, none⟩) 4 4, .slice none 0 0, .slice none 0 0, .slice (some ⟨B + 1 + 1 + 1 + 1, 0, none⟩) 2 2, .slice none 0 0, .slice none 0 0, .slice (some ⟨B + 1 + 1 + 1 + 1 + 1, 0, none⟩) 1 1, .slice none 0 0, .slice none 0 0, .slice (some ⟨B + 1 + 1 + 1 + 1 + 1 + 1, 0, none⟩) 1 1, .slice none 0 0, .slice none 0 0, .slice (some ⟨B + 1 + 1 + 1 + 1 + 1 + 1 + 1, 0, none⟩) 1 1, .slice none 0 0, .slice (some ⟨B + 1 + 1 + 1 + 1 + 1 + 1 + 1 + 1, 0, none⟩) 1 1, .slice (some ⟨B + 1 + 1 + 1 + 1 + 1 + 1 + 1 + 1 + 1, 0, none⟩) 1 1, .slice (some ⟨B + 1 + 1 + 1 + 1 + 1 + 1 + 1 + 1 + 1 + 1, 0, none⟩) 1 1, .slice (some ⟨B + 1 + 1 + 1 + 1 + 1 + 1 + 1 + 1 + 1 + 1 + 1, 0, none⟩) 1 1, .slice (some ⟨B + 1 + 1 + 1 + 1 + 1 + 1 + 1 + 1 + 1 + 1 + 1 + 1, 0, none⟩) 1 1, .slice (some ⟨B + 1 + 1 + 1 + 1 + 1 + 1 + 1 + 1 + 1 + 1 + 1 + 1 + 1, 0, none⟩) 2 2, .slice none 0 0, .slice none 0 0, .slice (some ⟨B + 1 + 1 + 1 + 1 + 1 + 1 + 1 + 1 + 1 + 1 + 1 + 1 + 1 + 1, 0, none⟩) 1 1, .slice none 0 0, .slice (some ⟨B + 1 + 1 + 1 + 1 + 1 + 1 + 1 + 1 + 1 + 1 + 1 + 1 + 1 + 1 + 1, 0, none⟩) 7 7, .slice none 0 0, .slice (some ⟨B + 1 + 1 + 1 + 1 + 1 + 1 + 1 + 1 + 1 + 1 + 1 + 1 + 1 + 1 + 1 + 1, 0, none⟩) 0 0, .slice (some ⟨B + 1 + 1 + 1 + 1 + 1 + 1 + 1 + 1 + 1 + 1 + 1 + 1 + 1 + 1 + 1 + 1 + 1, 0, none⟩) 4 4, .slice none 0 0, .slice none 0 0] 24]
/-- a slice in w that holds l -/
def SL (w : World) (v : Value) (l : List Int) : Prop := ∃ a k, v = .slice a l.length k ∧ IsInts w w.heap.size a l ∧ (a = none → k = 0) ∧ (l.length ≤ k ∧ k ≤ maxLen)
theorem SL.nil {w : World} : SL w (.slice none 0 0) [] := ⟨none, 0, rfl, IsInts.nil, fun _ => rfl, Nat.le_refl _, Nat.zero_le _⟩
theorem SL.lit {w : World} {b : Nat} {l : List Int} {t : TypeId} (h : w.heap[b]? = some (.cells (ints l).toArray t (0, 0))) (hs : ∀ x ∈ l, InInt x) (hl : l.length ≤ 7) : SL w (.slice (some ⟨b, 0, none⟩) l.length l.length) l := by
  refine ⟨some ⟨b, 0, none⟩, l.length, rfl, ⟨hs, fun k hk => ⟨b, 0, rfl, (Array.getElem?_eq_some_iff.1 h).1, fun i hi => ?_⟩⟩, (fun h => by cases h), Nat.le_refl _, by unfold maxLen; omega⟩
  have := cell_of_row w b i _ _ _ h
  rw [Nat.zero_add]
  simpa [ints, List.getElem?_eq_getElem hi] using this
/-- what lies there -/
def ConfAt (w : World) (b k : Nat) (c : Qu.Cf) (a0 a1 a2 : Option Addr) (k0 k1 k2 : Nat) : Prop :=
  (w.cell? ⟨b, k * 3, none⟩ = some (.slice a0 c.old.length k0) ∧ w.cell? ⟨b, k * 3 + 1, none⟩ = some (.slice a1 c.new.length k1) ∧ w.cell? ⟨b, k * 3 + 2, none⟩ = some (.slice a2 c.lrn.length k2)) ∧ CIs w w.heap.size c a0 a1 a2 k0 k1 k2
instance (x : Int) : Decidable (InInt x) := inferInstanceAs (Decidable (_ ∧ _))
theorem confRow (w : World) (B : Nat) (hl : ∀ j (l : List Int), (confObjs B)[j]? = some (.cells (ints l).toArray 3) → (∀ x ∈ l, InInt x) → l.length ≤ 7 → SL w (.slice (some ⟨B + j, 0, none⟩) l.length l.length) l) :
    ∃ vs, (confObjs B)[18]? = some (.cells vs 24) ∧ ∀ k, k < 13 → ∃ (c : Qu.Cf) (v0 v1 v2 : Value), (vs[k * 3]? = some v0 ∧ vs[k * 3 + 1]? = some v1 ∧ vs[k * 3 + 2]? = some v2) ∧ SL w v0 c.old ∧ SL w v1 c.new ∧ SL w v2 c.lrn :=
  ⟨_, rfl, fun
  | 0, _ => ⟨⟨[], [], []⟩, _, _, _, ⟨rfl, rfl, rfl⟩, SL.nil, SL.nil, SL.nil⟩
  | 1, _ => ⟨⟨[1, 2, 3], [], []⟩, _, _, _, ⟨rfl, rfl, rfl⟩, (hl 0 [1, 2, 3] rfl (by decide) (by decide)), SL.nil, SL.nil⟩
  | 2, _ => ⟨⟨[1, 2, 3], [3, 4], []⟩, _, _, _, ⟨rfl, rfl, rfl⟩, (hl 1 [1, 2, 3] rfl (by decide) (by decide)), (hl 2 [3, 4] rfl (by decide) (by decide)), SL.nil⟩
  | 3, _ => ⟨⟨[1, 2, 3, 4], [], []⟩, _, _, _, ⟨rfl, rfl, rfl⟩, (hl 3 [1, 2, 3, 4] rfl (by decide) (by decide)), SL.nil, SL.nil⟩
  | 4, _ => ⟨⟨[2, 1], [], []⟩, _, _, _, ⟨rfl, rfl, rfl⟩, (hl 4 [2, 1] rfl (by decide) (by decide)), SL.nil, SL.nil⟩
  | 5, _ => ⟨⟨[8], [], []⟩, _, _, _, ⟨rfl, rfl, rfl⟩, (hl 5 [8] rfl (by decide) (by decide)), SL.nil, SL.nil⟩
  | 6, _ => ⟨⟨[0], [], []⟩, _, _, _, ⟨rfl, rfl, rfl⟩, (hl 6 [0] rfl (by decide) (by decide)), SL.nil, SL.nil⟩
  | 7, _ => ⟨⟨[1], [], [1]⟩, _, _, _, ⟨rfl, rfl, rfl⟩, (hl 7 [1] rfl (by decide) (by decide)), SL.nil, (hl 8 [1] rfl (by decide) (by decide))⟩
  | 8, _ => ⟨⟨[1], [2], [2]⟩, _, _, _, ⟨rfl, rfl, rfl⟩, (hl 9 [1] rfl (by decide) (by decide)), (hl 10 [2] rfl (by decide) (by decide)), (hl 11 [2] rfl (by decide) (by decide))⟩
  | 9, _ => ⟨⟨[7], [1, 1], []⟩, _, _, _, ⟨rfl, rfl, rfl⟩, (hl 12 [7] rfl (by decide) (by decide)), (hl 13 [1, 1] rfl (by decide) (by decide)), SL.nil⟩
  | 10, _ => ⟨⟨[], [1], []⟩, _, _, _, ⟨rfl, rfl, rfl⟩, SL.nil, (hl 14 [1] rfl (by decide) (by decide)), SL.nil⟩
  | 11, _ => ⟨⟨[1, 2, 3, 4, 5, 6, 7], [], []⟩, _, _, _, ⟨rfl, rfl, rfl⟩, (hl 15 [1, 2, 3, 4, 5, 6, 7] rfl (by decide) (by decide)), SL.nil, (hl 16 [] rfl (by decide) (by decide))⟩
  | 12, _ => ⟨⟨[3, 3, 3, 1], [], []⟩, _, _, _, ⟨rfl, rfl, rfl⟩, (hl 17 [3, 3, 3, 1] rfl (by decide) (by decide)), SL.nil, SL.nil⟩
  | k + 13, h => by omega⟩
/-- where the members lie -/
theorem confs_at (w1 w2 : World) (h : w2 = (confObjs w1.heap.size).foldl World.alloc w1) : Below w1.heap.size w1 w2 ∧ w1.heap.size + 18 < w2.heap.size ∧ ∀ k, k < 13 → ∃ c a0 a1 a2 k0 k1 k2, ConfAt w2 (w1.heap.size + 18) k c a0 a1 a2 k0 k1 k2 := by
  obtain ⟨h1, h2⟩ := allocs10_at (confObjs w1.heap.size) w1
  rw [← h] at h1 h2
  obtain ⟨vs, h3, h4⟩ := confRow w2 w1.heap.size (fun j l hj hs hn => SL.lit ((h1 j).trans hj) hs hn)
  have h18 := h1 18
  rw [h3] at h18
  refine ⟨h2, (Array.getElem?_eq_some_iff.1 h18).1, fun k hk => ?_⟩
  obtain ⟨c, v0, v1, v2, ⟨e0, e1, e2⟩, ⟨a0, k0, rfl, i0, z0, n0⟩, ⟨a1, k1, rfl, i1, z1, n1⟩, ⟨a2, k2, rfl, i2, z2, n2⟩⟩ := h4 k hk
  exact ⟨c, a0, a1, a2, k0, k1, k2, ⟨(cell_of_row w2 _ _ _ _ _ h18).trans e0, (cell_of_row w2 _ _ _ _ _ h18).trans e1, (cell_of_row w2 _ _ _ _ _ h18).trans e2⟩, ⟨i0, i1, i2, z0, z1, z2, n0, n1, n2⟩⟩
end Go.Proofs.Ytblhfbijffaacaa
