/-
  No cell of these rows narrows 'for every input' (looked for: loops, veiled, ifaces, maps, wideKeys, modest, calm, conditions, laid).
  DERIVED. THE GIVEN ROWS OF THIS SEAT. 6 by the template 'for every input the law returns true; each argument reads behind the call as it read before'; 0 by the template 'total and deterministic' (their statements: YthocdknfkmclkaaTotals.lean).
  GIVEN WITH THE SEED: the statements are not yours to turn. If you find one false, say at which input.
  Laid BY PROGRAM, IN A SANDBOX (cutbox-rows.mjs): the forced cells as the released guide's own fill.sh prints them over the translation 723c279b4cce5dad… (all of the seat's roots in one cut). By AI agents, Wed Nov 11 2026. No macro, syntax, notation, axiom, sorry.
-/
import Derived.Test.YthocdknfkmclkaaChecked
import GoSem.Claim
import GoSem.ClaimJoined
import GoSem.ClaimMapViews
import Derived.JoinedTies
import Derived.KernelRfl
namespace Go.Proofs.Ythocdknfkmclkaa
/- THE CELL 'sum', in the pinned program and in every row, IS THE sha256 OF THE DUMP (.gsa) THAT YthocdknfkmclkaaProg.lean LOADS. Nothing in Lean hashes anything: it is a label: what it is worth is what the hold of that sum in a sandbox is worth. -/
noncomputable def Try.pinned : Pinned := { name := "ythocdknfkmclkaa", sum := "723c279b4cce5dad71fad6aad97b873c43018074ea61028c6452215e1631cd28", checked := Try.checked }
namespace Rows
def none {H : Type} : Left H := { results := [], args := [] }

/-- 'glebelaw11.RlogAsks': WHATEVER THE INPUT: true; the input reads as it did. -/
def rlogAsksSpec : ChangeSpec := { name := "rlogAsks", fn := fun _ => fun
  | [d1, d2, d3] => { results := [.lit (.bool true)], args := [d1, d2, d3] }
  | _ => none }
def rlogAsksRow : OpenClaim := { program := "ythocdknfkmclkaa", sum := "723c279b4cce5dad71fad6aad97b873c43018074ea61028c6452215e1631cd28", func := "glebe/glebelaw11.RlogAsks", spec := "rlogAsks", apart := false }
def RlogAsksSaid : Prop := rlogAsksRow.holds Try.pinned (OpenSpec.ofChange rlogAsksSpec)

/-- ITS FALSE NEIGHBOUR: 'it returns false'. Refute it at one input. -/
def rlogAsksWrong : ChangeSpec := { name := "rlogAsks", fn := fun _ => fun
  | [d1, d2, d3] => { results := [.lit (.bool false)], args := [d1, d2, d3] }
  | _ => none }
def RlogAsksWrongFalsely : Prop := rlogAsksRow.holds Try.pinned (OpenSpec.ofChange rlogAsksWrong)

/-- 'glebelaw11.RlogLays': WHATEVER THE INPUT: true; the input reads as it did. -/
def rlogLaysSpec : ChangeSpec := { name := "rlogLays", fn := fun _ => fun
  | [d1, d2, d3] => { results := [.lit (.bool true)], args := [d1, d2, d3] }
  | _ => none }
def rlogLaysRow : OpenClaim := { program := "ythocdknfkmclkaa", sum := "723c279b4cce5dad71fad6aad97b873c43018074ea61028c6452215e1631cd28", func := "glebe/glebelaw11.RlogLays", spec := "rlogLays", apart := false }
def RlogLaysSaid : Prop := rlogLaysRow.holds Try.pinned (OpenSpec.ofChange rlogLaysSpec)

/-- ITS FALSE NEIGHBOUR: 'it returns false'. Refute it at one input. -/
def rlogLaysWrong : ChangeSpec := { name := "rlogLays", fn := fun _ => fun
  | [d1, d2, d3] => { results := [.lit (.bool false)], args := [d1, d2, d3] }
  | _ => none }
def RlogLaysWrongFalsely : Prop := rlogLaysRow.holds Try.pinned (OpenSpec.ofChange rlogLaysWrong)

/-- 'glebelaw11.RlogThere': WHATEVER THE INPUT: true; the input reads as it did. -/
def rlogThereSpec : ChangeSpec := { name := "rlogThere", fn := fun _ => fun
  | [d1, d2, d3] => { results := [.lit (.bool true)], args := [d1, d2, d3] }
  | _ => none }
def rlogThereRow : OpenClaim := { program := "ythocdknfkmclkaa", sum := "723c279b4cce5dad71fad6aad97b873c43018074ea61028c6452215e1631cd28", func := "glebe/glebelaw11.RlogThere", spec := "rlogThere", apart := false }
def RlogThereSaid : Prop := rlogThereRow.holds Try.pinned (OpenSpec.ofChange rlogThereSpec)

/-- ITS FALSE NEIGHBOUR: 'it returns false'. Refute it at one input. -/
def rlogThereWrong : ChangeSpec := { name := "rlogThere", fn := fun _ => fun
  | [d1, d2, d3] => { results := [.lit (.bool false)], args := [d1, d2, d3] }
  | _ => none }
def RlogThereWrongFalsely : Prop := rlogThereRow.holds Try.pinned (OpenSpec.ofChange rlogThereWrong)

/-- 'glebelaw11.RlogCut': WHATEVER THE INPUT: true; the input reads as it did. -/
def rlogCutSpec : ChangeSpec := { name := "rlogCut", fn := fun _ => fun
  | [d1, d2] => { results := [.lit (.bool true)], args := [d1, d2] }
  | _ => none }
def rlogCutRow : OpenClaim := { program := "ythocdknfkmclkaa", sum := "723c279b4cce5dad71fad6aad97b873c43018074ea61028c6452215e1631cd28", func := "glebe/glebelaw11.RlogCut", spec := "rlogCut", apart := false }
def RlogCutSaid : Prop := rlogCutRow.holds Try.pinned (OpenSpec.ofChange rlogCutSpec)

/-- ITS FALSE NEIGHBOUR: 'it returns false'. Refute it at one input. -/
def rlogCutWrong : ChangeSpec := { name := "rlogCut", fn := fun _ => fun
  | [d1, d2] => { results := [.lit (.bool false)], args := [d1, d2] }
  | _ => none }
def RlogCutWrongFalsely : Prop := rlogCutRow.holds Try.pinned (OpenSpec.ofChange rlogCutWrong)

/-- 'glebelaw11.RlogOrder': WHATEVER THE INPUT: true; the input reads as it did. -/
def rlogOrderSpec : ChangeSpec := { name := "rlogOrder", fn := fun _ => fun
  | [d1, d2, d3] => { results := [.lit (.bool true)], args := [d1, d2, d3] }
  | _ => none }
def rlogOrderRow : OpenClaim := { program := "ythocdknfkmclkaa", sum := "723c279b4cce5dad71fad6aad97b873c43018074ea61028c6452215e1631cd28", func := "glebe/glebelaw11.RlogOrder", spec := "rlogOrder", apart := false }
def RlogOrderSaid : Prop := rlogOrderRow.holds Try.pinned (OpenSpec.ofChange rlogOrderSpec)

/-- ITS FALSE NEIGHBOUR: 'it returns false'. Refute it at one input. -/
def rlogOrderWrong : ChangeSpec := { name := "rlogOrder", fn := fun _ => fun
  | [d1, d2, d3] => { results := [.lit (.bool false)], args := [d1, d2, d3] }
  | _ => none }
def RlogOrderWrongFalsely : Prop := rlogOrderRow.holds Try.pinned (OpenSpec.ofChange rlogOrderWrong)

/-- 'glebelaw11.RlogKnown': WHATEVER THE INPUT: true; the input reads as it did. -/
def rlogKnownSpec : ChangeSpec := { name := "rlogKnown", fn := fun _ => fun
  | [] => { results := [.lit (.bool true)], args := [] }
  | _ => none }
def rlogKnownRow : OpenClaim := { program := "ythocdknfkmclkaa", sum := "723c279b4cce5dad71fad6aad97b873c43018074ea61028c6452215e1631cd28", func := "glebe/glebelaw11.RlogKnown", spec := "rlogKnown", apart := false }
def RlogKnownSaid : Prop := rlogKnownRow.holds Try.pinned (OpenSpec.ofChange rlogKnownSpec)

/-- ITS FALSE NEIGHBOUR: 'it returns false'. Refute it at one input. -/
def rlogKnownWrong : ChangeSpec := { name := "rlogKnown", fn := fun _ => fun
  | [] => { results := [.lit (.bool false)], args := [] }
  | _ => none }
def RlogKnownWrongFalsely : Prop := rlogKnownRow.holds Try.pinned (OpenSpec.ofChange rlogKnownWrong)

/- THE SECOND FORM. 'bulk': how many values and letters a reading holds, each counted each time it is reached (what is shared counts as often as it is met; a slice's spare places count too). A statement '..UptoSaid' is the law's where the arguments, and the package variables that the reading takes, are together of bulk at most 1048576: NARROWER than '..Said'. Prove '..Said' where nothing that the law and all that it calls make is longer than what came in: it says more and counts as full. Else prove '..UptoSaid'. A law counts once. -/
mutual
def uptoBulk {H : Type} : DataW H → Nat
  | .lit (.string bytes) => bytes.length + 1
  | .lit _ => 1
  | .nil => 1
  | .ptr d => uptoBulk d + 1
  | .slice elems spare => uptoBulkAll elems + uptoBulkAll spare + 1
  | .agg parts => uptoBulkAll parts + 1
  | .iface _ d => uptoBulk d + 1
  | .map entries => uptoBulkEntries entries + 1
  | .held _ => 1
def uptoBulkAll {H : Type} : List (DataW H) → Nat
  | [] => 0
  | d :: r => uptoBulk d + uptoBulkAll r
def uptoBulkEntries {H : Type} : List (Lit × DataW H) → Nat
  | [] => 0
  | x :: r => uptoBulkEntry x + uptoBulkEntries r
def uptoBulkEntry {H : Type} : Lit × DataW H → Nat
  | (.string bytes, d) => bytes.length + uptoBulk d + 1
  | (_, d) => uptoBulk d + 1
 end
def uptoSmall : (H : Type) → List (DataW H) → Bool := fun _ ds => decide (uptoBulkAll ds ≤ 1048576)
def OpenSpec.upto (s : _root_.Go.ChangeSpec) : _root_.Go.OpenSpec := { _root_.Go.OpenSpec.ofChange s with cond := some uptoSmall }

/-- 'glebelaw11.RlogAsks', WHERE WHAT IT READS IS OF BULK AT MOST 1048576: true; the input reads as it did. -/
def rlogAsksUptoRow : OpenClaim := { program := "ythocdknfkmclkaa", sum := "723c279b4cce5dad71fad6aad97b873c43018074ea61028c6452215e1631cd28", func := "glebe/glebelaw11.RlogAsks", spec := "rlogAsks", apart := false, narrowed := true }
def RlogAsksUptoSaid : Prop := rlogAsksUptoRow.holds Try.pinned (OpenSpec.upto rlogAsksSpec)

/-- 'glebelaw11.RlogLays', WHERE WHAT IT READS IS OF BULK AT MOST 1048576: true; the input reads as it did. -/
def rlogLaysUptoRow : OpenClaim := { program := "ythocdknfkmclkaa", sum := "723c279b4cce5dad71fad6aad97b873c43018074ea61028c6452215e1631cd28", func := "glebe/glebelaw11.RlogLays", spec := "rlogLays", apart := false, narrowed := true }
def RlogLaysUptoSaid : Prop := rlogLaysUptoRow.holds Try.pinned (OpenSpec.upto rlogLaysSpec)

/-- 'glebelaw11.RlogThere', WHERE WHAT IT READS IS OF BULK AT MOST 1048576: true; the input reads as it did. -/
def rlogThereUptoRow : OpenClaim := { program := "ythocdknfkmclkaa", sum := "723c279b4cce5dad71fad6aad97b873c43018074ea61028c6452215e1631cd28", func := "glebe/glebelaw11.RlogThere", spec := "rlogThere", apart := false, narrowed := true }
def RlogThereUptoSaid : Prop := rlogThereUptoRow.holds Try.pinned (OpenSpec.upto rlogThereSpec)

/-- 'glebelaw11.RlogCut', WHERE WHAT IT READS IS OF BULK AT MOST 1048576: true; the input reads as it did. -/
def rlogCutUptoRow : OpenClaim := { program := "ythocdknfkmclkaa", sum := "723c279b4cce5dad71fad6aad97b873c43018074ea61028c6452215e1631cd28", func := "glebe/glebelaw11.RlogCut", spec := "rlogCut", apart := false, narrowed := true }
def RlogCutUptoSaid : Prop := rlogCutUptoRow.holds Try.pinned (OpenSpec.upto rlogCutSpec)

/-- 'glebelaw11.RlogOrder', WHERE WHAT IT READS IS OF BULK AT MOST 1048576: true; the input reads as it did. -/
def rlogOrderUptoRow : OpenClaim := { program := "ythocdknfkmclkaa", sum := "723c279b4cce5dad71fad6aad97b873c43018074ea61028c6452215e1631cd28", func := "glebe/glebelaw11.RlogOrder", spec := "rlogOrder", apart := false, narrowed := true }
def RlogOrderUptoSaid : Prop := rlogOrderUptoRow.holds Try.pinned (OpenSpec.upto rlogOrderSpec)

/-- 'glebelaw11.RlogKnown', WHERE WHAT IT READS IS OF BULK AT MOST 1048576: true; the input reads as it did. -/
def rlogKnownUptoRow : OpenClaim := { program := "ythocdknfkmclkaa", sum := "723c279b4cce5dad71fad6aad97b873c43018074ea61028c6452215e1631cd28", func := "glebe/glebelaw11.RlogKnown", spec := "rlogKnown", apart := false, narrowed := true }
def RlogKnownUptoSaid : Prop := rlogKnownUptoRow.holds Try.pinned (OpenSpec.upto rlogKnownSpec)

end Rows
end Go.Proofs.Ythocdknfkmclkaa
