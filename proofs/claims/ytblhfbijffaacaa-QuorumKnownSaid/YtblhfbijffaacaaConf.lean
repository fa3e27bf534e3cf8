/- What the walks of layer 10 say of memory: members; functions that tell whether a node agrees. -/
import Derived.Test.YtblhfbijffaacaaRows
import Derived.Test.YtblhfbijffaacaaQuMath
import Derived.Test.YtblhfbijffaacaaKitPick
namespace Go.Proofs.Ytblhfbijffaacaa
open Go.RowKit

/-- members, in three slices -/
structure CIs (w : World) (B : Nat) (c : Qu.Cf) (a0 a1 a2 : Option Addr) (k0 k1 k2 : Nat) : Prop where
  o : IsInts w B a0 c.old
  n : IsInts w B a1 c.new
  l : IsInts w B a2 c.lrn
  zo : a0 = none → k0 = 0
  zn : a1 = none → k1 = 0
  zl : a2 = none → k2 = 0
  co : c.old.length ≤ k0 ∧ k0 ≤ maxLen
  cn : c.new.length ≤ k1 ∧ k1 ≤ maxLen
  cl : c.lrn.length ≤ k2 ∧ k2 ≤ maxLen
namespace CIs
variable {w w' : World} {B B' : Nat} {c : Qu.Cf} {a0 a1 a2 : Option Addr} {k0 k1 k2 : Nat}
theorem below (h : CIs w B c a0 a1 a2 k0 k1 k2) (hb : Below B w w') : CIs w' B c a0 a1 a2 k0 k1 k2 := ⟨h.o.below hb, h.n.below hb, h.l.below hb, h.zo, h.zn, h.zl, h.co, h.cn, h.cl⟩
theorem more (h : CIs w B c a0 a1 a2 k0 k1 k2) (hB : B ≤ B') : CIs w B' c a0 a1 a2 k0 k1 k2 := ⟨h.o.more hB, h.n.more hB, h.l.more hB, h.zo, h.zn, h.zl, h.co, h.cn, h.cl⟩
theorem drewN (h : CIs w B c a0 a1 a2 k0 k1 k2) (j : Nat) : CIs (w.drewN j) B c a0 a1 a2 k0 k1 k2 := ⟨h.o.drewN j, h.n.drewN j, h.l.drewN j, h.zo, h.zn, h.zl, h.co, h.cn, h.cl⟩
end CIs
/-- short members -/
def Short (c : Qu.Cf) : Prop := c.old.length ≤ 300 ∧ c.new.length ≤ 300 ∧ c.lrn.length ≤ 300

/-- a function value that tells, in every world that has come of w0, whether a node is one of p -/
def Tells (g : FuncId) (cb : Array Value) (p : Int → Bool) (w0 : World) : Prop :=
  ∀ x, InInt x → ∀ w, Below w0.heap.size w0 w → Calls Try.prog g (#[.int .i64 x] ++ cb) w fun e w' => e = .returned (.bool (p x)) ∧ Below w.heap.size w w'
theorem bthen {B : Nat} {a b c : World} (h : Below B a b) (h' : Below b.heap.size b c) (hB : B ≤ b.heap.size) : Below B a c := h.trans (h'.mono hB)
end Go.Proofs.Ytblhfbijffaacaa
