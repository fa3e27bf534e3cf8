/-
  No cell of these rows narrows 'for every input' (looked for: loops, veiled, ifaces, maps, wideKeys, modest, calm, conditions, laid).
  DERIVED. THE GIVEN ROWS OF THIS SEAT. 3 by the template 'for every input the law returns true; each argument reads behind the call as it read before'; 0 by the template 'total and deterministic' (their statements: YtfkjahpcpmcefaaTotals.lean).
  GIVEN WITH THE SEED: the statements are not yours to turn. If you find one false, say at which input.
  Laid BY PROGRAM, IN A SANDBOX (cutbox-rows.mjs): the forced cells as the released guide's own fill.sh prints them over the translation fc4368e8a9a54648… (all of the seat's roots in one cut). By AI agents, Wed Nov 11 2026. No macro, syntax, notation, axiom, sorry.
-/
import Derived.Test.YtfkjahpcpmcefaaChecked
import GoSem.Claim
import GoSem.ClaimJoined
import GoSem.ClaimMapViews
import Derived.JoinedTies
import Derived.KernelRfl
namespace Go.Proofs.Ytfkjahpcpmcefaa
/- THE CELL 'sum', in the pinned program and in every row, IS THE sha256 OF THE DUMP (.gsa) THAT YtfkjahpcpmcefaaProg.lean LOADS. Nothing in Lean hashes anything: it is a label: what it is worth is what the hold of that sum in a sandbox is worth. -/
noncomputable def Try.pinned : Pinned := { name := "ytfkjahpcpmcefaa", sum := "fc4368e8a9a54648e2d7e3a4f7d5f22c5d446d944289ed4fab67e1776be58bed", checked := Try.checked }
namespace Rows
def none {H : Type} : Left H := { results := [], args := [] }

/-- 'glebelaw16.ConfSteps': WHATEVER THE INPUT: true; the input reads as it did. -/
def confStepsSpec : ChangeSpec := { name := "confSteps", fn := fun _ => fun
  | [d1, d2, d3] => { results := [.lit (.bool true)], args := [d1, d2, d3] }
  | _ => none }
def confStepsRow : OpenClaim := { program := "ytfkjahpcpmcefaa", sum := "fc4368e8a9a54648e2d7e3a4f7d5f22c5d446d944289ed4fab67e1776be58bed", func := "glebe/glebelaw16.ConfSteps", spec := "confSteps", unfollowed := true, recurses := true, apart := false }
def ConfStepsSaid : Prop := confStepsRow.holds Try.pinned (OpenSpec.ofChange confStepsSpec)

/-- ITS FALSE NEIGHBOUR: 'it returns false'. Refute it at one input. -/
def confStepsWrong : ChangeSpec := { name := "confSteps", fn := fun _ => fun
  | [d1, d2, d3] => { results := [.lit (.bool false)], args := [d1, d2, d3] }
  | _ => none }
def ConfStepsWrongFalsely : Prop := confStepsRow.holds Try.pinned (OpenSpec.ofChange confStepsWrong)

/-- 'glebelaw16.ConfSafe': WHATEVER THE INPUT: true; the input reads as it did. -/
def confSafeSpec : ChangeSpec := { name := "confSafe", fn := fun _ => fun
  | [d1, d2, d3, d4, d5, d6] => { results := [.lit (.bool true)], args := [d1, d2, d3, d4, d5, d6] }
  | _ => none }
def confSafeRow : OpenClaim := { program := "ytfkjahpcpmcefaa", sum := "fc4368e8a9a54648e2d7e3a4f7d5f22c5d446d944289ed4fab67e1776be58bed", func := "glebe/glebelaw16.ConfSafe", spec := "confSafe", unfollowed := true, recurses := true, apart := false }
def ConfSafeSaid : Prop := confSafeRow.holds Try.pinned (OpenSpec.ofChange confSafeSpec)

/-- ITS FALSE NEIGHBOUR: 'it returns false'. Refute it at one input. -/
def confSafeWrong : ChangeSpec := { name := "confSafe", fn := fun _ => fun
  | [d1, d2, d3, d4, d5, d6] => { results := [.lit (.bool false)], args := [d1, d2, d3, d4, d5, d6] }
  | _ => none }
def ConfSafeWrongFalsely : Prop := confSafeRow.holds Try.pinned (OpenSpec.ofChange confSafeWrong)

/-- 'glebelaw16.ConfComes': WHATEVER THE INPUT: true; the input reads as it did. -/
def confComesSpec : ChangeSpec := { name := "confComes", fn := fun _ => fun
  | [d1, d2] => { results := [.lit (.bool true)], args := [d1, d2] }
  | _ => none }
def confComesRow : OpenClaim := { program := "ytfkjahpcpmcefaa", sum := "fc4368e8a9a54648e2d7e3a4f7d5f22c5d446d944289ed4fab67e1776be58bed", func := "glebe/glebelaw16.ConfComes", spec := "confComes", unfollowed := true, recurses := true, apart := false }
def ConfComesSaid : Prop := confComesRow.holds Try.pinned (OpenSpec.ofChange confComesSpec)

/-- ITS FALSE NEIGHBOUR: 'it returns false'. Refute it at one input. -/
def confComesWrong : ChangeSpec := { name := "confComes", fn := fun _ => fun
  | [d1, d2] => { results := [.lit (.bool false)], args := [d1, d2] }
  | _ => none }
def ConfComesWrongFalsely : Prop := confComesRow.holds Try.pinned (OpenSpec.ofChange confComesWrong)

/- THE SECOND FORM. 'bulk': how many values and letters a reading holds, each counted each time it is reached (what is shared counts as often as it is met; a slice's spare places count too). A statement '..UptoSaid' is the law's where the arguments, and the package variables that the reading takes, are together of bulk at most 1048576: NARROWER than '..Said'. Prove '..Said' where nothing that the law and all that it calls make is longer than what came in: it says more and counts as full. Else prove '..UptoSaid'. A law counts once. -/
mutual
def uptoBulk {H : Type} : DataW H → Nat
  | .lit (.string bytes) => bytes.length + 1
  | .lit _ => 1
  | .nil => 1
  | .ptr d => uptoBulk d + 1
  | .slice elems spare => uptoBulkAll elems + uptoBulkAll spare + 1
  | .agg parts => uptoBulkAll parts + 1
  | .iface _ d => uptoBulk d + 1
  | .map entries => uptoBulkEntries entries + 1
  | .held _ => 1
def uptoBulkAll {H : Type} : List (DataW H) → Nat
  | [] => 0
  | d :: r => uptoBulk d + uptoBulkAll r
def uptoBulkEntries {H : Type} : List (Lit × DataW H) → Nat
  | [] => 0
  | x :: r => uptoBulkEntry x + uptoBulkEntries r
def uptoBulkEntry {H : Type} : Lit × DataW H → Nat
  | (.string bytes, d) => bytes.length + uptoBulk d + 1
  | (_, d) => uptoBulk d + 1
 end
def uptoSmall : (H : Type) → List (DataW H) → Bool := fun _ ds => decide (uptoBulkAll ds ≤ 1048576)
def OpenSpec.upto (s : _root_.Go.ChangeSpec) : _root_.Go.OpenSpec := { _root_.Go.OpenSpec.ofChange s with cond := some uptoSmall }

/-- 'glebelaw16.ConfSteps', WHERE WHAT IT READS IS OF BULK AT MOST 1048576: true; the input reads as it did. -/
def confStepsUptoRow : OpenClaim := { program := "ytfkjahpcpmcefaa", sum := "fc4368e8a9a54648e2d7e3a4f7d5f22c5d446d944289ed4fab67e1776be58bed", func := "glebe/glebelaw16.ConfSteps", spec := "confSteps", unfollowed := true, recurses := true, apart := false, narrowed := true }
def ConfStepsUptoSaid : Prop := confStepsUptoRow.holds Try.pinned (OpenSpec.upto confStepsSpec)

/-- 'glebelaw16.ConfSafe', WHERE WHAT IT READS IS OF BULK AT MOST 1048576: true; the input reads as it did. -/
def confSafeUptoRow : OpenClaim := { program := "ytfkjahpcpmcefaa", sum := "fc4368e8a9a54648e2d7e3a4f7d5f22c5d446d944289ed4fab67e1776be58bed", func := "glebe/glebelaw16.ConfSafe", spec := "confSafe", unfollowed := true, recurses := true, apart := false, narrowed := true }
def ConfSafeUptoSaid : Prop := confSafeUptoRow.holds Try.pinned (OpenSpec.upto confSafeSpec)

/-- 'glebelaw16.ConfComes', WHERE WHAT IT READS IS OF BULK AT MOST 1048576: true; the input reads as it did. -/
def confComesUptoRow : OpenClaim := { program := "ytfkjahpcpmcefaa", sum := "fc4368e8a9a54648e2d7e3a4f7d5f22c5d446d944289ed4fab67e1776be58bed", func := "glebe/glebelaw16.ConfComes", spec := "confComes", unfollowed := true, recurses := true, apart := false, narrowed := true }
def ConfComesUptoSaid : Prop := confComesUptoRow.holds Try.pinned (OpenSpec.upto confComesSpec)

end Rows
end Go.Proofs.Ytfkjahpcpmcefaa
