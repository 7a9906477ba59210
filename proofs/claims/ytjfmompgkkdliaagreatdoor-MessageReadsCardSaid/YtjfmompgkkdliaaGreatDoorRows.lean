/-
  NARROWER THAN 'FOR EVERY INPUT', by the rows' own cells (each row's printed sentence says how): MessageWrites: laid · MessageDecodes: laid · MessageReads: laid · MessageMany: laid.
  DERIVED. THE GIVEN ROWS OF THIS SEAT. 4 by the template 'for every input the law returns true; each argument reads behind the call as it read before'; 0 by the template 'total and deterministic' (their statements: YtjfmompgkkdliaaGreatDoorTotals.lean).
  GIVEN WITH THE SEED: the statements are not yours to turn. If you find one false, say at which input.
  Laid BY PROGRAM, IN A SANDBOX (cutbox-rows.mjs): the forced cells as the released guide's own fill.sh prints them over the translation 19b42361140c0b12… (all of the seat's roots in one cut). By AI agents, Wed Nov 11 2026. No macro, syntax, notation, axiom, sorry.
-/
import Derived.Test.YtjfmompgkkdliaaGreatDoorChecked
import GoSem.Claim
import GoSem.ClaimJoined
import GoSem.ClaimMapViews
import Derived.JoinedTies
import Derived.KernelRfl
namespace Go.Proofs.YtjfmompgkkdliaaGreatDoor
/- THE CELL 'sum', in the pinned program and in every row, IS THE sha256 OF THE DUMP (.gsa) THAT YtjfmompgkkdliaaGreatDoorProg.lean LOADS. Nothing in Lean hashes anything: it is a label: what it is worth is what the hold of that sum in a sandbox is worth. -/
noncomputable def Tryz.pinned : Pinned := { name := "ytjfmompgkkdliaagreatdoor", sum := "19b42361140c0b1258131f26989bc33753c2df87652883f40a7851595a977ef8", checked := Tryz.checked }
namespace Rows
def none {H : Type} : Left H := { results := [], args := [] }

/- WHAT THE LISTED PACKAGE-LEVEL VARIABLES READ AS WHEN THE CALL BEGINS. Each datum BY PROGRAM (the guide's laid-datum.mjs) off the statement by which the dump's own 'gosem.cut.vars' lays the variable. In a bare row this is a premise. The card (YtjfmompgkkdliaaGreatDoorCards.lean) ties it to the program's text. -/
def laid_confluence_attr_shapes {H : Type} : DataW H := .agg [.agg [.lit (.int .i64 0), .lit (.int .i64 0)], .agg [.lit (.int .i64 64), .lit (.int .i64 1)], .agg [.lit (.int .i64 64), .lit (.int .i64 0)], .agg [.lit (.int .i64 64), .lit (.int .i64 4)], .agg [.lit (.int .i64 128), .lit (.int .i64 4)], .agg [.lit (.int .i64 64), .lit (.int .i64 4)], .agg [.lit (.int .i64 64), .lit (.int .i64 0)], .agg [.lit (.int .i64 192), .lit (.int .i64 8)], .agg [.lit (.int .i64 192), .lit (.int .i64 0)]]

/-- 'confluencelaw13.MessageWrites': WHATEVER THE INPUT: true; the input reads as it did. -/
def messageWritesSpec : ChangeSpec := { name := "messageWrites", fn := fun _ => fun
  | [d1, d2] => { results := [.lit (.bool true)], args := [d1, d2] }
  | _ => none }
def messageWritesRow : OpenClaim := { program := "ytjfmompgkkdliaagreatdoor", sum := "19b42361140c0b1258131f26989bc33753c2df87652883f40a7851595a977ef8", func := "confluence/confluencelaw13.MessageWrites", spec := "messageWrites", inPlace := ["internal/bytealg.MakeNoZero"], unfollowed := true, recurses := true, named := ["confluence/attr.shapes"], apart := false, laid := [("confluence/attr.shapes", laid_confluence_attr_shapes)] }
def MessageWritesSaid : Prop := messageWritesRow.holds Tryz.pinned (OpenSpec.ofChange messageWritesSpec)

/-- ITS FALSE NEIGHBOUR: 'it returns false'. Refute it at one input. -/
def messageWritesWrong : ChangeSpec := { name := "messageWrites", fn := fun _ => fun
  | [d1, d2] => { results := [.lit (.bool false)], args := [d1, d2] }
  | _ => none }
def MessageWritesWrongFalsely : Prop := messageWritesRow.holds Tryz.pinned (OpenSpec.ofChange messageWritesWrong)

/-- 'confluencelaw13.MessageDecodes': WHATEVER THE INPUT: true; the input reads as it did. -/
def messageDecodesSpec : ChangeSpec := { name := "messageDecodes", fn := fun _ => fun
  | [d1, d2] => { results := [.lit (.bool true)], args := [d1, d2] }
  | _ => none }
def messageDecodesRow : OpenClaim := { program := "ytjfmompgkkdliaagreatdoor", sum := "19b42361140c0b1258131f26989bc33753c2df87652883f40a7851595a977ef8", func := "confluence/confluencelaw13.MessageDecodes", spec := "messageDecodes", inPlace := ["internal/bytealg.MakeNoZero"], unfollowed := true, recurses := true, named := ["confluence/attr.shapes"], apart := false, laid := [("confluence/attr.shapes", laid_confluence_attr_shapes)] }
def MessageDecodesSaid : Prop := messageDecodesRow.holds Tryz.pinned (OpenSpec.ofChange messageDecodesSpec)

/-- ITS FALSE NEIGHBOUR: 'it returns false'. Refute it at one input. -/
def messageDecodesWrong : ChangeSpec := { name := "messageDecodes", fn := fun _ => fun
  | [d1, d2] => { results := [.lit (.bool false)], args := [d1, d2] }
  | _ => none }
def MessageDecodesWrongFalsely : Prop := messageDecodesRow.holds Tryz.pinned (OpenSpec.ofChange messageDecodesWrong)

/-- 'confluencelaw13.MessageReads': WHATEVER THE INPUT: true; the input reads as it did. -/
def messageReadsSpec : ChangeSpec := { name := "messageReads", fn := fun _ => fun
  | [d] => { results := [.lit (.bool true)], args := [d] }
  | _ => none }
def messageReadsRow : OpenClaim := { program := "ytjfmompgkkdliaagreatdoor", sum := "19b42361140c0b1258131f26989bc33753c2df87652883f40a7851595a977ef8", func := "confluence/confluencelaw13.MessageReads", spec := "messageReads", inPlace := ["internal/bytealg.MakeNoZero"], unfollowed := true, recurses := true, named := ["confluence/attr.shapes"], apart := false, laid := [("confluence/attr.shapes", laid_confluence_attr_shapes)] }
def MessageReadsSaid : Prop := messageReadsRow.holds Tryz.pinned (OpenSpec.ofChange messageReadsSpec)

/-- ITS FALSE NEIGHBOUR: 'it returns false'. Refute it at one input. -/
def messageReadsWrong : ChangeSpec := { name := "messageReads", fn := fun _ => fun
  | [d] => { results := [.lit (.bool false)], args := [d] }
  | _ => none }
def MessageReadsWrongFalsely : Prop := messageReadsRow.holds Tryz.pinned (OpenSpec.ofChange messageReadsWrong)

/-- 'confluencelaw13.MessageMany': WHATEVER THE INPUT: true; the input reads as it did. -/
def messageManySpec : ChangeSpec := { name := "messageMany", fn := fun _ => fun
  | [d] => { results := [.lit (.bool true)], args := [d] }
  | _ => none }
def messageManyRow : OpenClaim := { program := "ytjfmompgkkdliaagreatdoor", sum := "19b42361140c0b1258131f26989bc33753c2df87652883f40a7851595a977ef8", func := "confluence/confluencelaw13.MessageMany", spec := "messageMany", inPlace := ["internal/bytealg.MakeNoZero"], unfollowed := true, recurses := true, named := ["confluence/attr.shapes"], apart := false, laid := [("confluence/attr.shapes", laid_confluence_attr_shapes)] }
def MessageManySaid : Prop := messageManyRow.holds Tryz.pinned (OpenSpec.ofChange messageManySpec)

/-- ITS FALSE NEIGHBOUR: 'it returns false'. Refute it at one input. -/
def messageManyWrong : ChangeSpec := { name := "messageMany", fn := fun _ => fun
  | [d] => { results := [.lit (.bool false)], args := [d] }
  | _ => none }
def MessageManyWrongFalsely : Prop := messageManyRow.holds Tryz.pinned (OpenSpec.ofChange messageManyWrong)

/- THE SECOND FORM. 'bulk': how many values and letters a reading holds, each counted each time it is reached (what is shared counts as often as it is met; a slice's spare places count too). A statement '..UptoSaid' is the law's where the arguments, and the package variables that the reading takes, are together of bulk at most 1048576: NARROWER than '..Said'. Prove '..Said' where nothing that the law and all that it calls make is longer than what came in: it says more and counts as full. Else prove '..UptoSaid'. A law counts once. -/
mutual
def uptoBulk {H : Type} : DataW H → Nat
  | .lit (.string bytes) => bytes.length + 1
  | .lit _ => 1
  | .nil => 1
  | .ptr d => uptoBulk d + 1
  | .slice elems spare => uptoBulkAll elems + uptoBulkAll spare + 1
  | .agg parts => uptoBulkAll parts + 1
  | .iface _ d => uptoBulk d + 1
  | .map entries => uptoBulkEntries entries + 1
  | .held _ => 1
def uptoBulkAll {H : Type} : List (DataW H) → Nat
  | [] => 0
  | d :: r => uptoBulk d + uptoBulkAll r
def uptoBulkEntries {H : Type} : List (Lit × DataW H) → Nat
  | [] => 0
  | x :: r => uptoBulkEntry x + uptoBulkEntries r
def uptoBulkEntry {H : Type} : Lit × DataW H → Nat
  | (.string bytes, d) => bytes.length + uptoBulk d + 1
  | (_, d) => uptoBulk d + 1
 end
def uptoSmall : (H : Type) → List (DataW H) → Bool := fun _ ds => decide (uptoBulkAll ds ≤ 1048576)
def OpenSpec.upto (s : _root_.Go.ChangeSpec) : _root_.Go.OpenSpec := { _root_.Go.OpenSpec.ofChange s with cond := some uptoSmall }

/-- 'confluencelaw13.MessageWrites', WHERE WHAT IT READS IS OF BULK AT MOST 1048576: true; the input reads as it did. -/
def messageWritesUptoRow : OpenClaim := { program := "ytjfmompgkkdliaagreatdoor", sum := "19b42361140c0b1258131f26989bc33753c2df87652883f40a7851595a977ef8", func := "confluence/confluencelaw13.MessageWrites", spec := "messageWrites", inPlace := ["internal/bytealg.MakeNoZero"], unfollowed := true, recurses := true, named := ["confluence/attr.shapes"], apart := false, laid := [("confluence/attr.shapes", laid_confluence_attr_shapes)], narrowed := true }
def MessageWritesUptoSaid : Prop := messageWritesUptoRow.holds Tryz.pinned (OpenSpec.upto messageWritesSpec)

/-- 'confluencelaw13.MessageDecodes', WHERE WHAT IT READS IS OF BULK AT MOST 1048576: true; the input reads as it did. -/
def messageDecodesUptoRow : OpenClaim := { program := "ytjfmompgkkdliaagreatdoor", sum := "19b42361140c0b1258131f26989bc33753c2df87652883f40a7851595a977ef8", func := "confluence/confluencelaw13.MessageDecodes", spec := "messageDecodes", inPlace := ["internal/bytealg.MakeNoZero"], unfollowed := true, recurses := true, named := ["confluence/attr.shapes"], apart := false, laid := [("confluence/attr.shapes", laid_confluence_attr_shapes)], narrowed := true }
def MessageDecodesUptoSaid : Prop := messageDecodesUptoRow.holds Tryz.pinned (OpenSpec.upto messageDecodesSpec)

/-- 'confluencelaw13.MessageReads', WHERE WHAT IT READS IS OF BULK AT MOST 1048576: true; the input reads as it did. -/
def messageReadsUptoRow : OpenClaim := { program := "ytjfmompgkkdliaagreatdoor", sum := "19b42361140c0b1258131f26989bc33753c2df87652883f40a7851595a977ef8", func := "confluence/confluencelaw13.MessageReads", spec := "messageReads", inPlace := ["internal/bytealg.MakeNoZero"], unfollowed := true, recurses := true, named := ["confluence/attr.shapes"], apart := false, laid := [("confluence/attr.shapes", laid_confluence_attr_shapes)], narrowed := true }
def MessageReadsUptoSaid : Prop := messageReadsUptoRow.holds Tryz.pinned (OpenSpec.upto messageReadsSpec)

/-- 'confluencelaw13.MessageMany', WHERE WHAT IT READS IS OF BULK AT MOST 1048576: true; the input reads as it did. -/
def messageManyUptoRow : OpenClaim := { program := "ytjfmompgkkdliaagreatdoor", sum := "19b42361140c0b1258131f26989bc33753c2df87652883f40a7851595a977ef8", func := "confluence/confluencelaw13.MessageMany", spec := "messageMany", inPlace := ["internal/bytealg.MakeNoZero"], unfollowed := true, recurses := true, named := ["confluence/attr.shapes"], apart := false, laid := [("confluence/attr.shapes", laid_confluence_attr_shapes)], narrowed := true }
def MessageManyUptoSaid : Prop := messageManyUptoRow.holds Tryz.pinned (OpenSpec.upto messageManySpec)

end Rows
end Go.Proofs.YtjfmompgkkdliaaGreatDoor
