/-
  NARROWER THAN 'FOR EVERY INPUT', by the rows' own cells (each row's printed sentence says how): MessageChecks: laid · MessagePuts: laid · MessageGets: laid · MessageBack: laid · MessageForms: laid · MessageTurned: laid · MessageKnown: laid · MessageUnlike: laid.
  DERIVED. THE GIVEN ROWS OF THIS SEAT. 8 by the template 'for every input the law returns true; each argument reads behind the call as it read before'; 0 by the template 'total and deterministic' (their statements: YtpigekbfngalbaaDoorTotals.lean).
  GIVEN WITH THE SEED: the statements are not yours to turn. If you find one false, say at which input.
  Laid BY PROGRAM, IN A SANDBOX (cutbox-rows.mjs): the forced cells as the released guide's own fill.sh prints them over the translation 423d372b9bbf6526… (all of the seat's roots in one cut). By AI agents, Wed Nov 11 2026. No macro, syntax, notation, axiom, sorry.
-/
import Derived.Test.YtpigekbfngalbaaDoorChecked
import GoSem.Claim
import GoSem.ClaimJoined
import GoSem.ClaimMapViews
import Derived.JoinedTies
import Derived.KernelRfl
namespace Go.Proofs.YtpigekbfngalbaaDoor
/- THE CELL 'sum', in the pinned program and in every row, IS THE sha256 OF THE DUMP (.gsa) THAT YtpigekbfngalbaaDoorProg.lean LOADS. Nothing in Lean hashes anything: it is a label: what it is worth is what the hold of that sum in a sandbox is worth. -/
noncomputable def Tryd.pinned : Pinned := { name := "ytpigekbfngalbaadoor", sum := "423d372b9bbf6526c30e0681e13163d792f6645434b13f7a81e002c5a2d695a7", checked := Tryd.checked }
namespace Rows
def none {H : Type} : Left H := { results := [], args := [] }

/- WHAT THE LISTED PACKAGE-LEVEL VARIABLES READ AS WHEN THE CALL BEGINS. Each datum BY PROGRAM (the guide's laid-datum.mjs) off the statement by which the dump's own 'gosem.cut.vars' lays the variable. In a bare row this is a premise. The card (YtpigekbfngalbaaDoorCards.lean) ties it to the program's text. -/
def laid_glebe_message_fieldsOf {H : Type} : DataW H := .agg [.lit (.string []), .lit (.string [103, 116, 105, 112]), .lit (.string [103, 116, 111]), .lit (.string [103, 116, 105, 112, 99, 114, 101]), .lit (.string [103, 116, 111, 105, 114]), .lit (.string [103, 116, 105, 112, 114, 100]), .lit (.string [103, 115, 100]), .lit (.string [103, 115, 111, 105, 100]), .lit (.string [120, 97, 98]), .lit (.string [120, 97, 98, 111, 105, 118]), .lit (.string [120, 97, 98, 118]), .lit (.string [120, 97, 98, 111, 105, 118])]

/-- 'glebelaw12.MessageChecks': WHATEVER THE INPUT: true; the input reads as it did. -/
def messageChecksSpec : ChangeSpec := { name := "messageChecks", fn := fun _ => fun
  | [d] => { results := [.lit (.bool true)], args := [d] }
  | _ => none }
def messageChecksRow : OpenClaim := { program := "ytpigekbfngalbaadoor", sum := "423d372b9bbf6526c30e0681e13163d792f6645434b13f7a81e002c5a2d695a7", func := "glebe/glebelaw12.MessageChecks", spec := "messageChecks", inPlace := ["internal/bytealg.IndexByteString", "internal/bytealg.IndexString"], named := ["glebe/message.fieldsOf", "internal/bytealg.MaxLen"], apart := false, laid := [("glebe/message.fieldsOf", laid_glebe_message_fieldsOf)] }
def MessageChecksSaid : Prop := messageChecksRow.holds Tryd.pinned (OpenSpec.ofChange messageChecksSpec)

/-- ITS FALSE NEIGHBOUR: 'it returns false'. Refute it at one input. -/
def messageChecksWrong : ChangeSpec := { name := "messageChecks", fn := fun _ => fun
  | [d] => { results := [.lit (.bool false)], args := [d] }
  | _ => none }
def MessageChecksWrongFalsely : Prop := messageChecksRow.holds Tryd.pinned (OpenSpec.ofChange messageChecksWrong)

/-- 'glebelaw12.MessagePuts': WHATEVER THE INPUT: true; the input reads as it did. -/
def messagePutsSpec : ChangeSpec := { name := "messagePuts", fn := fun _ => fun
  | [d] => { results := [.lit (.bool true)], args := [d] }
  | _ => none }
def messagePutsRow : OpenClaim := { program := "ytpigekbfngalbaadoor", sum := "423d372b9bbf6526c30e0681e13163d792f6645434b13f7a81e002c5a2d695a7", func := "glebe/glebelaw12.MessagePuts", spec := "messagePuts", inPlace := ["internal/bytealg.IndexByteString", "internal/bytealg.IndexString"], named := ["glebe/message.fieldsOf", "internal/bytealg.MaxLen"], apart := false, laid := [("glebe/message.fieldsOf", laid_glebe_message_fieldsOf)] }
def MessagePutsSaid : Prop := messagePutsRow.holds Tryd.pinned (OpenSpec.ofChange messagePutsSpec)

/-- ITS FALSE NEIGHBOUR: 'it returns false'. Refute it at one input. -/
def messagePutsWrong : ChangeSpec := { name := "messagePuts", fn := fun _ => fun
  | [d] => { results := [.lit (.bool false)], args := [d] }
  | _ => none }
def MessagePutsWrongFalsely : Prop := messagePutsRow.holds Tryd.pinned (OpenSpec.ofChange messagePutsWrong)

/-- 'glebelaw12.MessageGets': WHATEVER THE INPUT: true; the input reads as it did. -/
def messageGetsSpec : ChangeSpec := { name := "messageGets", fn := fun _ => fun
  | [d] => { results := [.lit (.bool true)], args := [d] }
  | _ => none }
def messageGetsRow : OpenClaim := { program := "ytpigekbfngalbaadoor", sum := "423d372b9bbf6526c30e0681e13163d792f6645434b13f7a81e002c5a2d695a7", func := "glebe/glebelaw12.MessageGets", spec := "messageGets", inPlace := ["internal/bytealg.IndexByteString", "internal/bytealg.IndexString"], named := ["glebe/message.fieldsOf", "internal/bytealg.MaxLen"], apart := false, laid := [("glebe/message.fieldsOf", laid_glebe_message_fieldsOf)] }
def MessageGetsSaid : Prop := messageGetsRow.holds Tryd.pinned (OpenSpec.ofChange messageGetsSpec)

/-- ITS FALSE NEIGHBOUR: 'it returns false'. Refute it at one input. -/
def messageGetsWrong : ChangeSpec := { name := "messageGets", fn := fun _ => fun
  | [d] => { results := [.lit (.bool false)], args := [d] }
  | _ => none }
def MessageGetsWrongFalsely : Prop := messageGetsRow.holds Tryd.pinned (OpenSpec.ofChange messageGetsWrong)

/-- 'glebelaw12.MessageBack': WHATEVER THE INPUT: true; the input reads as it did. -/
def messageBackSpec : ChangeSpec := { name := "messageBack", fn := fun _ => fun
  | [d] => { results := [.lit (.bool true)], args := [d] }
  | _ => none }
def messageBackRow : OpenClaim := { program := "ytpigekbfngalbaadoor", sum := "423d372b9bbf6526c30e0681e13163d792f6645434b13f7a81e002c5a2d695a7", func := "glebe/glebelaw12.MessageBack", spec := "messageBack", inPlace := ["internal/bytealg.IndexByteString", "internal/bytealg.IndexString"], named := ["glebe/message.fieldsOf", "internal/bytealg.MaxLen"], apart := false, laid := [("glebe/message.fieldsOf", laid_glebe_message_fieldsOf)] }
def MessageBackSaid : Prop := messageBackRow.holds Tryd.pinned (OpenSpec.ofChange messageBackSpec)

/-- ITS FALSE NEIGHBOUR: 'it returns false'. Refute it at one input. -/
def messageBackWrong : ChangeSpec := { name := "messageBack", fn := fun _ => fun
  | [d] => { results := [.lit (.bool false)], args := [d] }
  | _ => none }
def MessageBackWrongFalsely : Prop := messageBackRow.holds Tryd.pinned (OpenSpec.ofChange messageBackWrong)

/-- 'glebelaw12.MessageForms': WHATEVER THE INPUT: true; the input reads as it did. -/
def messageFormsSpec : ChangeSpec := { name := "messageForms", fn := fun _ => fun
  | [d] => { results := [.lit (.bool true)], args := [d] }
  | _ => none }
def messageFormsRow : OpenClaim := { program := "ytpigekbfngalbaadoor", sum := "423d372b9bbf6526c30e0681e13163d792f6645434b13f7a81e002c5a2d695a7", func := "glebe/glebelaw12.MessageForms", spec := "messageForms", inPlace := ["internal/bytealg.IndexByteString", "internal/bytealg.IndexString"], named := ["glebe/message.fieldsOf", "internal/bytealg.MaxLen"], apart := false, laid := [("glebe/message.fieldsOf", laid_glebe_message_fieldsOf)] }
def MessageFormsSaid : Prop := messageFormsRow.holds Tryd.pinned (OpenSpec.ofChange messageFormsSpec)

/-- ITS FALSE NEIGHBOUR: 'it returns false'. Refute it at one input. -/
def messageFormsWrong : ChangeSpec := { name := "messageForms", fn := fun _ => fun
  | [d] => { results := [.lit (.bool false)], args := [d] }
  | _ => none }
def MessageFormsWrongFalsely : Prop := messageFormsRow.holds Tryd.pinned (OpenSpec.ofChange messageFormsWrong)

/-- 'glebelaw12.MessageTurned': WHATEVER THE INPUT: true; the input reads as it did. -/
def messageTurnedSpec : ChangeSpec := { name := "messageTurned", fn := fun _ => fun
  | [d1, d2, d3, d4] => { results := [.lit (.bool true)], args := [d1, d2, d3, d4] }
  | _ => none }
def messageTurnedRow : OpenClaim := { program := "ytpigekbfngalbaadoor", sum := "423d372b9bbf6526c30e0681e13163d792f6645434b13f7a81e002c5a2d695a7", func := "glebe/glebelaw12.MessageTurned", spec := "messageTurned", inPlace := ["internal/bytealg.IndexByteString", "internal/bytealg.IndexString"], named := ["glebe/message.fieldsOf", "internal/bytealg.MaxLen"], apart := false, laid := [("glebe/message.fieldsOf", laid_glebe_message_fieldsOf)] }
def MessageTurnedSaid : Prop := messageTurnedRow.holds Tryd.pinned (OpenSpec.ofChange messageTurnedSpec)

/-- ITS FALSE NEIGHBOUR: 'it returns false'. Refute it at one input. -/
def messageTurnedWrong : ChangeSpec := { name := "messageTurned", fn := fun _ => fun
  | [d1, d2, d3, d4] => { results := [.lit (.bool false)], args := [d1, d2, d3, d4] }
  | _ => none }
def MessageTurnedWrongFalsely : Prop := messageTurnedRow.holds Tryd.pinned (OpenSpec.ofChange messageTurnedWrong)

/-- 'glebelaw12.MessageKnown': WHATEVER THE INPUT: true; the input reads as it did. -/
def messageKnownSpec : ChangeSpec := { name := "messageKnown", fn := fun _ => fun
  | [] => { results := [.lit (.bool true)], args := [] }
  | _ => none }
def messageKnownRow : OpenClaim := { program := "ytpigekbfngalbaadoor", sum := "423d372b9bbf6526c30e0681e13163d792f6645434b13f7a81e002c5a2d695a7", func := "glebe/glebelaw12.MessageKnown", spec := "messageKnown", inPlace := ["internal/bytealg.IndexByteString", "internal/bytealg.IndexString"], named := ["glebe/message.fieldsOf", "internal/bytealg.MaxLen"], apart := false, laid := [("glebe/message.fieldsOf", laid_glebe_message_fieldsOf)] }
def MessageKnownSaid : Prop := messageKnownRow.holds Tryd.pinned (OpenSpec.ofChange messageKnownSpec)

/-- ITS FALSE NEIGHBOUR: 'it returns false'. Refute it at one input. -/
def messageKnownWrong : ChangeSpec := { name := "messageKnown", fn := fun _ => fun
  | [] => { results := [.lit (.bool false)], args := [] }
  | _ => none }
def MessageKnownWrongFalsely : Prop := messageKnownRow.holds Tryd.pinned (OpenSpec.ofChange messageKnownWrong)

/-- 'glebelaw12.MessageUnlike': WHATEVER THE INPUT: true; the input reads as it did. -/
def messageUnlikeSpec : ChangeSpec := { name := "messageUnlike", fn := fun _ => fun
  | [d1, d2] => { results := [.lit (.bool true)], args := [d1, d2] }
  | _ => none }
def messageUnlikeRow : OpenClaim := { program := "ytpigekbfngalbaadoor", sum := "423d372b9bbf6526c30e0681e13163d792f6645434b13f7a81e002c5a2d695a7", func := "glebe/glebelaw12.MessageUnlike", spec := "messageUnlike", inPlace := ["internal/bytealg.IndexByteString", "internal/bytealg.IndexString"], named := ["glebe/message.fieldsOf", "internal/bytealg.MaxLen"], apart := false, laid := [("glebe/message.fieldsOf", laid_glebe_message_fieldsOf)] }
def MessageUnlikeSaid : Prop := messageUnlikeRow.holds Tryd.pinned (OpenSpec.ofChange messageUnlikeSpec)

/-- ITS FALSE NEIGHBOUR: 'it returns false'. Refute it at one input. -/
def messageUnlikeWrong : ChangeSpec := { name := "messageUnlike", fn := fun _ => fun
  | [d1, d2] => { results := [.lit (.bool false)], args := [d1, d2] }
  | _ => none }
def MessageUnlikeWrongFalsely : Prop := messageUnlikeRow.holds Tryd.pinned (OpenSpec.ofChange messageUnlikeWrong)

/- THE SECOND FORM. 'bulk': how many values and letters a reading holds, each counted each time it is reached (what is shared counts as often as it is met; a slice's spare places count too). A statement '..UptoSaid' is the law's where the arguments, and the package variables that the reading takes, are together of bulk at most 1048576: NARROWER than '..Said'. Prove '..Said' where nothing that the law and all that it calls make is longer than what came in: it says more and counts as full. Else prove '..UptoSaid'. A law counts once. -/
mutual
def uptoBulk {H : Type} : DataW H → Nat
  | .lit (.string bytes) => bytes.length + 1
  | .lit _ => 1
  | .nil => 1
  | .ptr d => uptoBulk d + 1
  | .slice elems spare => uptoBulkAll elems + uptoBulkAll spare + 1
  | .agg parts => uptoBulkAll parts + 1
  | .iface _ d => uptoBulk d + 1
  | .map entries => uptoBulkEntries entries + 1
  | .held _ => 1
def uptoBulkAll {H : Type} : List (DataW H) → Nat
  | [] => 0
  | d :: r => uptoBulk d + uptoBulkAll r
def uptoBulkEntries {H : Type} : List (Lit × DataW H) → Nat
  | [] => 0
  | x :: r => uptoBulkEntry x + uptoBulkEntries r
def uptoBulkEntry {H : Type} : Lit × DataW H → Nat
  | (.string bytes, d) => bytes.length + uptoBulk d + 1
  | (_, d) => uptoBulk d + 1
 end
def uptoSmall : (H : Type) → List (DataW H) → Bool := fun _ ds => decide (uptoBulkAll ds ≤ 1048576)
def OpenSpec.upto (s : _root_.Go.ChangeSpec) : _root_.Go.OpenSpec := { _root_.Go.OpenSpec.ofChange s with cond := some uptoSmall }

/-- 'glebelaw12.MessageChecks', WHERE WHAT IT READS IS OF BULK AT MOST 1048576: true; the input reads as it did. -/
def messageChecksUptoRow : OpenClaim := { program := "ytpigekbfngalbaadoor", sum := "423d372b9bbf6526c30e0681e13163d792f6645434b13f7a81e002c5a2d695a7", func := "glebe/glebelaw12.MessageChecks", spec := "messageChecks", inPlace := ["internal/bytealg.IndexByteString", "internal/bytealg.IndexString"], named := ["glebe/message.fieldsOf", "internal/bytealg.MaxLen"], apart := false, laid := [("glebe/message.fieldsOf", laid_glebe_message_fieldsOf)], narrowed := true }
def MessageChecksUptoSaid : Prop := messageChecksUptoRow.holds Tryd.pinned (OpenSpec.upto messageChecksSpec)

/-- 'glebelaw12.MessagePuts', WHERE WHAT IT READS IS OF BULK AT MOST 1048576: true; the input reads as it did. -/
def messagePutsUptoRow : OpenClaim := { program := "ytpigekbfngalbaadoor", sum := "423d372b9bbf6526c30e0681e13163d792f6645434b13f7a81e002c5a2d695a7", func := "glebe/glebelaw12.MessagePuts", spec := "messagePuts", inPlace := ["internal/bytealg.IndexByteString", "internal/bytealg.IndexString"], named := ["glebe/message.fieldsOf", "internal/bytealg.MaxLen"], apart := false, laid := [("glebe/message.fieldsOf", laid_glebe_message_fieldsOf)], narrowed := true }
def MessagePutsUptoSaid : Prop := messagePutsUptoRow.holds Tryd.pinned (OpenSpec.upto messagePutsSpec)

/-- 'glebelaw12.MessageGets', WHERE WHAT IT READS IS OF BULK AT MOST 1048576: true; the input reads as it did. -/
def messageGetsUptoRow : OpenClaim := { program := "ytpigekbfngalbaadoor", sum := "423d372b9bbf6526c30e0681e13163d792f6645434b13f7a81e002c5a2d695a7", func := "glebe/glebelaw12.MessageGets", spec := "messageGets", inPlace := ["internal/bytealg.IndexByteString", "internal/bytealg.IndexString"], named := ["glebe/message.fieldsOf", "internal/bytealg.MaxLen"], apart := false, laid := [("glebe/message.fieldsOf", laid_glebe_message_fieldsOf)], narrowed := true }
def MessageGetsUptoSaid : Prop := messageGetsUptoRow.holds Tryd.pinned (OpenSpec.upto messageGetsSpec)

/-- 'glebelaw12.MessageBack', WHERE WHAT IT READS IS OF BULK AT MOST 1048576: true; the input reads as it did. -/
def messageBackUptoRow : OpenClaim := { program := "ytpigekbfngalbaadoor", sum := "423d372b9bbf6526c30e0681e13163d792f6645434b13f7a81e002c5a2d695a7", func := "glebe/glebelaw12.MessageBack", spec := "messageBack", inPlace := ["internal/bytealg.IndexByteString", "internal/bytealg.IndexString"], named := ["glebe/message.fieldsOf", "internal/bytealg.MaxLen"], apart := false, laid := [("glebe/message.fieldsOf", laid_glebe_message_fieldsOf)], narrowed := true }
def MessageBackUptoSaid : Prop := messageBackUptoRow.holds Tryd.pinned (OpenSpec.upto messageBackSpec)

/-- 'glebelaw12.MessageForms', WHERE WHAT IT READS IS OF BULK AT MOST 1048576: true; the input reads as it did. -/
def messageFormsUptoRow : OpenClaim := { program := "ytpigekbfngalbaadoor", sum := "423d372b9bbf6526c30e0681e13163d792f6645434b13f7a81e002c5a2d695a7", func := "glebe/glebelaw12.MessageForms", spec := "messageForms", inPlace := ["internal/bytealg.IndexByteString", "internal/bytealg.IndexString"], named := ["glebe/message.fieldsOf", "internal/bytealg.MaxLen"], apart := false, laid := [("glebe/message.fieldsOf", laid_glebe_message_fieldsOf)], narrowed := true }
def MessageFormsUptoSaid : Prop := messageFormsUptoRow.holds Tryd.pinned (OpenSpec.upto messageFormsSpec)

/-- 'glebelaw12.MessageTurned', WHERE WHAT IT READS IS OF BULK AT MOST 1048576: true; the input reads as it did. -/
def messageTurnedUptoRow : OpenClaim := { program := "ytpigekbfngalbaadoor", sum := "423d372b9bbf6526c30e0681e13163d792f6645434b13f7a81e002c5a2d695a7", func := "glebe/glebelaw12.MessageTurned", spec := "messageTurned", inPlace := ["internal/bytealg.IndexByteString", "internal/bytealg.IndexString"], named := ["glebe/message.fieldsOf", "internal/bytealg.MaxLen"], apart := false, laid := [("glebe/message.fieldsOf", laid_glebe_message_fieldsOf)], narrowed := true }
def MessageTurnedUptoSaid : Prop := messageTurnedUptoRow.holds Tryd.pinned (OpenSpec.upto messageTurnedSpec)

/-- 'glebelaw12.MessageKnown', WHERE WHAT IT READS IS OF BULK AT MOST 1048576: true; the input reads as it did. -/
def messageKnownUptoRow : OpenClaim := { program := "ytpigekbfngalbaadoor", sum := "423d372b9bbf6526c30e0681e13163d792f6645434b13f7a81e002c5a2d695a7", func := "glebe/glebelaw12.MessageKnown", spec := "messageKnown", inPlace := ["internal/bytealg.IndexByteString", "internal/bytealg.IndexString"], named := ["glebe/message.fieldsOf", "internal/bytealg.MaxLen"], apart := false, laid := [("glebe/message.fieldsOf", laid_glebe_message_fieldsOf)], narrowed := true }
def MessageKnownUptoSaid : Prop := messageKnownUptoRow.holds Tryd.pinned (OpenSpec.upto messageKnownSpec)

/-- 'glebelaw12.MessageUnlike', WHERE WHAT IT READS IS OF BULK AT MOST 1048576: true; the input reads as it did. -/
def messageUnlikeUptoRow : OpenClaim := { program := "ytpigekbfngalbaadoor", sum := "423d372b9bbf6526c30e0681e13163d792f6645434b13f7a81e002c5a2d695a7", func := "glebe/glebelaw12.MessageUnlike", spec := "messageUnlike", inPlace := ["internal/bytealg.IndexByteString", "internal/bytealg.IndexString"], named := ["glebe/message.fieldsOf", "internal/bytealg.MaxLen"], apart := false, laid := [("glebe/message.fieldsOf", laid_glebe_message_fieldsOf)], narrowed := true }
def MessageUnlikeUptoSaid : Prop := messageUnlikeUptoRow.holds Tryd.pinned (OpenSpec.upto messageUnlikeSpec)

end Rows
end Go.Proofs.YtpigekbfngalbaaDoor
