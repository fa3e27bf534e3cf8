/- What the walks of layer 10's statements share: members in a box of the statement's own. -/
import Derived.Test.YtblhfbijffaacaaWorks10
import Derived.Test.YtblhfbijffaacaaLong10
import Derived.Test.YtblhfbijffaacaaKitConf
namespace Go.Proofs.Ytblhfbijffaacaa
open Go.RowKit

/-- members in a box -/
def CB (w : World) (b : Nat) (c : Qu.Cf) (a0 a1 a2 : Option Addr) (k0 k1 k2 : Nat) : Prop :=
  w.heap[b]? = some (.cells #[.slice a0 c.old.length k0, .slice a1 c.new.length k1, .slice a2 c.lrn.length k2] 24 (0, 0))
namespace CB
variable {w w' : World} {b : Nat} {c : Qu.Cf} {a0 a1 a2 : Option Addr} {k0 k1 k2 : Nat}
theorem c0 (h : CB w b c a0 a1 a2 k0 k1 k2) : w.cell? ⟨b, 0, none⟩ = some (.slice a0 c.old.length k0) := cell_of_row w b 0 _ _ _ h
theorem c1 (h : CB w b c a0 a1 a2 k0 k1 k2) : w.cell? ⟨b, 1, none⟩ = some (.slice a1 c.new.length k1) := cell_of_row w b 1 _ _ _ h
theorem c2 (h : CB w b c a0 a1 a2 k0 k1 k2) : w.cell? ⟨b, 2, none⟩ = some (.slice a2 c.lrn.length k2) := cell_of_row w b 2 _ _ _ h
theorem lt (h : CB w b c a0 a1 a2 k0 k1 k2) : b < w.heap.size := World.block_lt_of_cell? _ _ h.c0
theorem keep (h : CB w b c a0 a1 a2 k0 k1 k2) (hk : w'.heap[b]? = w.heap[b]?) : CB w' b c a0 a1 a2 k0 k1 k2 := hk.trans h
theorem below {B : Nat} (h : CB w b c a0 a1 a2 k0 k1 k2) (hb : Below B w w') (hlt : b < B) : CB w' b c a0 a1 a2 k0 k1 k2 := h.keep (hb.block b hlt)
theorem new (w : World) (c : Qu.Cf) (a0 a1 a2 : Option Addr) (k0 k1 k2 : Nat) : CB (w.alloc (.cells #[.slice a0 c.old.length k0, .slice a1 c.new.length k1, .slice a2 c.lrn.length k2] 24)) w.heap.size c a0 a1 a2 k0 k1 k2 := heap_alloc_new w _
end CB
theorem lent_takes {w : World} {B : Nat} {A : Option Addr} {l : List Int} (h : IsInts w B A (I.lent l)) : IsInts w B A l := by
  have := h.take l.length
  rwa [I.take_lent] at this
end Go.Proofs.Ytblhfbijffaacaa
