/-
  No cell of these rows narrows 'for every input' (looked for: loops, veiled, ifaces, maps, wideKeys, modest, calm, conditions, laid).
  DERIVED. THE GIVEN ROWS OF THIS SEAT. 4 by the template 'for every input the law returns true; each argument reads behind the call as it read before'; 0 by the template 'total and deterministic' (their statements: YtkmbkihfdilmbaaTotals.lean).
  GIVEN WITH THE SEED: the statements are not yours to turn. If you find one false, say at which input.
  Laid BY PROGRAM, IN A SANDBOX (cutbox-rows.mjs): the forced cells as the released guide's own fill.sh prints them over the translation 821b6ecb53a45c01… (all of the seat's roots in one cut). By AI agents, Wed Nov 11 2026. No macro, syntax, notation, axiom, sorry.
-/
import Derived.Test.YtkmbkihfdilmbaaChecked
import GoSem.Claim
import GoSem.ClaimJoined
import GoSem.ClaimMapViews
import Derived.JoinedTies
import Derived.KernelRfl
namespace Go.Proofs.Ytkmbkihfdilmbaa
/- THE CELL 'sum', in the pinned program and in every row, IS THE sha256 OF THE DUMP (.gsa) THAT YtkmbkihfdilmbaaProg.lean LOADS. Nothing in Lean hashes anything: it is a label: what it is worth is what the hold of that sum in a sandbox is worth. -/
noncomputable def Try.pinned : Pinned := { name := "ytkmbkihfdilmbaa", sum := "821b6ecb53a45c0139eff1119d5edc4b653271e514367bd30942032af2483840", checked := Try.checked }
namespace Rows
def none {H : Type} : Left H := { results := [], args := [] }

/-- 'glebelaw14.VoteKnown': WHATEVER THE INPUT: true; the input reads as it did. -/
def voteKnownSpec : ChangeSpec := { name := "voteKnown", fn := fun _ => fun
  | [] => { results := [.lit (.bool true)], args := [] }
  | _ => none }
def voteKnownRow : OpenClaim := { program := "ytkmbkihfdilmbaa", sum := "821b6ecb53a45c0139eff1119d5edc4b653271e514367bd30942032af2483840", func := "glebe/glebelaw14.VoteKnown", spec := "voteKnown", recurses := true, apart := false }
def VoteKnownSaid : Prop := voteKnownRow.holds Try.pinned (OpenSpec.ofChange voteKnownSpec)

/-- ITS FALSE NEIGHBOUR: 'it returns false'. Refute it at one input. -/
def voteKnownWrong : ChangeSpec := { name := "voteKnown", fn := fun _ => fun
  | [] => { results := [.lit (.bool false)], args := [] }
  | _ => none }
def VoteKnownWrongFalsely : Prop := voteKnownRow.holds Try.pinned (OpenSpec.ofChange voteKnownWrong)

/-- 'glebelaw15.FlowHears': WHATEVER THE INPUT: true; the input reads as it did. -/
def flowHearsSpec : ChangeSpec := { name := "flowHears", fn := fun _ => fun
  | [d1, d2, d3] => { results := [.lit (.bool true)], args := [d1, d2, d3] }
  | _ => none }
def flowHearsRow : OpenClaim := { program := "ytkmbkihfdilmbaa", sum := "821b6ecb53a45c0139eff1119d5edc4b653271e514367bd30942032af2483840", func := "glebe/glebelaw15.FlowHears", spec := "flowHears", apart := false }
def FlowHearsSaid : Prop := flowHearsRow.holds Try.pinned (OpenSpec.ofChange flowHearsSpec)

/-- ITS FALSE NEIGHBOUR: 'it returns false'. Refute it at one input. -/
def flowHearsWrong : ChangeSpec := { name := "flowHears", fn := fun _ => fun
  | [d1, d2, d3] => { results := [.lit (.bool false)], args := [d1, d2, d3] }
  | _ => none }
def FlowHearsWrongFalsely : Prop := flowHearsRow.holds Try.pinned (OpenSpec.ofChange flowHearsWrong)

/-- 'glebelaw15.FlowSends': WHATEVER THE INPUT: true; the input reads as it did. -/
def flowSendsSpec : ChangeSpec := { name := "flowSends", fn := fun _ => fun
  | [d1, d2] => { results := [.lit (.bool true)], args := [d1, d2] }
  | _ => none }
def flowSendsRow : OpenClaim := { program := "ytkmbkihfdilmbaa", sum := "821b6ecb53a45c0139eff1119d5edc4b653271e514367bd30942032af2483840", func := "glebe/glebelaw15.FlowSends", spec := "flowSends", apart := false }
def FlowSendsSaid : Prop := flowSendsRow.holds Try.pinned (OpenSpec.ofChange flowSendsSpec)

/-- ITS FALSE NEIGHBOUR: 'it returns false'. Refute it at one input. -/
def flowSendsWrong : ChangeSpec := { name := "flowSends", fn := fun _ => fun
  | [d1, d2] => { results := [.lit (.bool false)], args := [d1, d2] }
  | _ => none }
def FlowSendsWrongFalsely : Prop := flowSendsRow.holds Try.pinned (OpenSpec.ofChange flowSendsWrong)

/-- 'glebelaw15.FlowKnown': WHATEVER THE INPUT: true; the input reads as it did. -/
def flowKnownSpec : ChangeSpec := { name := "flowKnown", fn := fun _ => fun
  | [] => { results := [.lit (.bool true)], args := [] }
  | _ => none }
def flowKnownRow : OpenClaim := { program := "ytkmbkihfdilmbaa", sum := "821b6ecb53a45c0139eff1119d5edc4b653271e514367bd30942032af2483840", func := "glebe/glebelaw15.FlowKnown", spec := "flowKnown", apart := false }
def FlowKnownSaid : Prop := flowKnownRow.holds Try.pinned (OpenSpec.ofChange flowKnownSpec)

/-- ITS FALSE NEIGHBOUR: 'it returns false'. Refute it at one input. -/
def flowKnownWrong : ChangeSpec := { name := "flowKnown", fn := fun _ => fun
  | [] => { results := [.lit (.bool false)], args := [] }
  | _ => none }
def FlowKnownWrongFalsely : Prop := flowKnownRow.holds Try.pinned (OpenSpec.ofChange flowKnownWrong)

/- THE SECOND FORM. 'bulk': how many values and letters a reading holds, each counted each time it is reached (what is shared counts as often as it is met; a slice's spare places count too). A statement '..UptoSaid' is the law's where the arguments, and the package variables that the reading takes, are together of bulk at most 1048576: NARROWER than '..Said'. Prove '..Said' where nothing that the law and all that it calls make is longer than what came in: it says more and counts as full. Else prove '..UptoSaid'. A law counts once. -/
mutual
def uptoBulk {H : Type} : DataW H → Nat
  | .lit (.string bytes) => bytes.length + 1
  | .lit _ => 1
  | .nil => 1
  | .ptr d => uptoBulk d + 1
  | .slice elems spare => uptoBulkAll elems + uptoBulkAll spare + 1
  | .agg parts => uptoBulkAll parts + 1
  | .iface _ d => uptoBulk d + 1
  | .map entries => uptoBulkEntries entries + 1
  | .held _ => 1
def uptoBulkAll {H : Type} : List (DataW H) → Nat
  | [] => 0
  | d :: r => uptoBulk d + uptoBulkAll r
def uptoBulkEntries {H : Type} : List (Lit × DataW H) → Nat
  | [] => 0
  | x :: r => uptoBulkEntry x + uptoBulkEntries r
def uptoBulkEntry {H : Type} : Lit × DataW H → Nat
  | (.string bytes, d) => bytes.length + uptoBulk d + 1
  | (_, d) => uptoBulk d + 1
 end
def uptoSmall : (H : Type) → List (DataW H) → Bool := fun _ ds => decide (uptoBulkAll ds ≤ 1048576)
def OpenSpec.upto (s : _root_.Go.ChangeSpec) : _root_.Go.OpenSpec := { _root_.Go.OpenSpec.ofChange s with cond := some uptoSmall }

/-- 'glebelaw14.VoteKnown', WHERE WHAT IT READS IS OF BULK AT MOST 1048576: true; the input reads as it did. -/
def voteKnownUptoRow : OpenClaim := { program := "ytkmbkihfdilmbaa", sum := "821b6ecb53a45c0139eff1119d5edc4b653271e514367bd30942032af2483840", func := "glebe/glebelaw14.VoteKnown", spec := "voteKnown", recurses := true, apart := false, narrowed := true }
def VoteKnownUptoSaid : Prop := voteKnownUptoRow.holds Try.pinned (OpenSpec.upto voteKnownSpec)

/-- 'glebelaw15.FlowHears', WHERE WHAT IT READS IS OF BULK AT MOST 1048576: true; the input reads as it did. -/
def flowHearsUptoRow : OpenClaim := { program := "ytkmbkihfdilmbaa", sum := "821b6ecb53a45c0139eff1119d5edc4b653271e514367bd30942032af2483840", func := "glebe/glebelaw15.FlowHears", spec := "flowHears", apart := false, narrowed := true }
def FlowHearsUptoSaid : Prop := flowHearsUptoRow.holds Try.pinned (OpenSpec.upto flowHearsSpec)

/-- 'glebelaw15.FlowSends', WHERE WHAT IT READS IS OF BULK AT MOST 1048576: true; the input reads as it did. -/
def flowSendsUptoRow : OpenClaim := { program := "ytkmbkihfdilmbaa", sum := "821b6ecb53a45c0139eff1119d5edc4b653271e514367bd30942032af2483840", func := "glebe/glebelaw15.FlowSends", spec := "flowSends", apart := false, narrowed := true }
def FlowSendsUptoSaid : Prop := flowSendsUptoRow.holds Try.pinned (OpenSpec.upto flowSendsSpec)

/-- 'glebelaw15.FlowKnown', WHERE WHAT IT READS IS OF BULK AT MOST 1048576: true; the input reads as it did. -/
def flowKnownUptoRow : OpenClaim := { program := "ytkmbkihfdilmbaa", sum := "821b6ecb53a45c0139eff1119d5edc4b653271e514367bd30942032af2483840", func := "glebe/glebelaw15.FlowKnown", spec := "flowKnown", apart := false, narrowed := true }
def FlowKnownUptoSaid : Prop := flowKnownUptoRow.holds Try.pinned (OpenSpec.upto flowKnownSpec)

end Rows
end Go.Proofs.Ytkmbkihfdilmbaa
