/-
  NARROWER THAN 'FOR EVERY INPUT', by the rows' own cells (each row's printed sentence says how): AttrForms: laid · AttrReads: laid · AttrPaths: laid.
  DERIVED. THE GIVEN ROWS OF THIS SEAT. 3 by the template 'for every input the law returns true; each argument reads behind the call as it read before'; 0 by the template 'total and deterministic' (their statements: YtanmepgplpijkaaDoorTotals.lean).
  GIVEN WITH THE SEED: the statements are not yours to turn. If you find one false, say at which input.
  Laid BY PROGRAM, IN A SANDBOX (cutbox-rows.mjs): the forced cells as the released guide's own fill.sh prints them over the translation ec1632dcabde1eb8… (all of the seat's roots in one cut). By AI agents, Wed Nov 11 2026. No macro, syntax, notation, axiom, sorry.
-/
import Derived.Test.YtanmepgplpijkaaDoorChecked
import GoSem.Claim
import GoSem.ClaimJoined
import GoSem.ClaimMapViews
import Derived.JoinedTies
import Derived.KernelRfl
namespace Go.Proofs.YtanmepgplpijkaaDoor
/- THE CELL 'sum', in the pinned program and in every row, IS THE sha256 OF THE DUMP (.gsa) THAT YtanmepgplpijkaaDoorProg.lean LOADS. Nothing in Lean hashes anything: it is a label: what it is worth is what the hold of that sum in a sandbox is worth. -/
noncomputable def Tryd.pinned : Pinned := { name := "ytanmepgplpijkaadoor", sum := "ec1632dcabde1eb89e31c4f0c9d32e47d444aba9f47cd5b190c51fa03c85aa8c", checked := Tryd.checked }
namespace Rows
def none {H : Type} : Left H := { results := [], args := [] }

/- WHAT THE LISTED PACKAGE-LEVEL VARIABLES READ AS WHEN THE CALL BEGINS. Each datum BY PROGRAM (the guide's laid-datum.mjs) off the statement by which the dump's own 'gosem.cut.vars' lays the variable. In a bare row this is a premise. The card (YtanmepgplpijkaaDoorCards.lean) ties it to the program's text. -/
def laid_confluence_attr_shapes {H : Type} : DataW H := .agg [.agg [.lit (.int .i64 0), .lit (.int .i64 0)], .agg [.lit (.int .i64 64), .lit (.int .i64 1)], .agg [.lit (.int .i64 64), .lit (.int .i64 0)], .agg [.lit (.int .i64 64), .lit (.int .i64 4)], .agg [.lit (.int .i64 128), .lit (.int .i64 4)], .agg [.lit (.int .i64 64), .lit (.int .i64 4)], .agg [.lit (.int .i64 64), .lit (.int .i64 0)], .agg [.lit (.int .i64 192), .lit (.int .i64 8)], .agg [.lit (.int .i64 192), .lit (.int .i64 0)]]

/-- 'confluencelaw08.AttrForms': WHATEVER THE INPUT: true; the input reads as it did. -/
def attrFormsSpec : ChangeSpec := { name := "attrForms", fn := fun _ => fun
  | [d1, d2, d3] => { results := [.lit (.bool true)], args := [d1, d2, d3] }
  | _ => none }
def attrFormsRow : OpenClaim := { program := "ytanmepgplpijkaadoor", sum := "ec1632dcabde1eb89e31c4f0c9d32e47d444aba9f47cd5b190c51fa03c85aa8c", func := "confluence/confluencelaw08.AttrForms", spec := "attrForms", unfollowed := true, recurses := true, named := ["confluence/attr.shapes"], apart := false, laid := [("confluence/attr.shapes", laid_confluence_attr_shapes)] }
def AttrFormsSaid : Prop := attrFormsRow.holds Tryd.pinned (OpenSpec.ofChange attrFormsSpec)

/-- ITS FALSE NEIGHBOUR: 'it returns false'. Refute it at one input. -/
def attrFormsWrong : ChangeSpec := { name := "attrForms", fn := fun _ => fun
  | [d1, d2, d3] => { results := [.lit (.bool false)], args := [d1, d2, d3] }
  | _ => none }
def AttrFormsWrongFalsely : Prop := attrFormsRow.holds Tryd.pinned (OpenSpec.ofChange attrFormsWrong)

/-- 'confluencelaw08.AttrReads': WHATEVER THE INPUT: true; the input reads as it did. -/
def attrReadsSpec : ChangeSpec := { name := "attrReads", fn := fun _ => fun
  | [d] => { results := [.lit (.bool true)], args := [d] }
  | _ => none }
def attrReadsRow : OpenClaim := { program := "ytanmepgplpijkaadoor", sum := "ec1632dcabde1eb89e31c4f0c9d32e47d444aba9f47cd5b190c51fa03c85aa8c", func := "confluence/confluencelaw08.AttrReads", spec := "attrReads", unfollowed := true, recurses := true, named := ["confluence/attr.shapes"], apart := false, laid := [("confluence/attr.shapes", laid_confluence_attr_shapes)] }
def AttrReadsSaid : Prop := attrReadsRow.holds Tryd.pinned (OpenSpec.ofChange attrReadsSpec)

/-- ITS FALSE NEIGHBOUR: 'it returns false'. Refute it at one input. -/
def attrReadsWrong : ChangeSpec := { name := "attrReads", fn := fun _ => fun
  | [d] => { results := [.lit (.bool false)], args := [d] }
  | _ => none }
def AttrReadsWrongFalsely : Prop := attrReadsRow.holds Tryd.pinned (OpenSpec.ofChange attrReadsWrong)

/-- 'confluencelaw08.AttrPaths': WHATEVER THE INPUT: true; the input reads as it did. -/
def attrPathsSpec : ChangeSpec := { name := "attrPaths", fn := fun _ => fun
  | [d] => { results := [.lit (.bool true)], args := [d] }
  | _ => none }
def attrPathsRow : OpenClaim := { program := "ytanmepgplpijkaadoor", sum := "ec1632dcabde1eb89e31c4f0c9d32e47d444aba9f47cd5b190c51fa03c85aa8c", func := "confluence/confluencelaw08.AttrPaths", spec := "attrPaths", unfollowed := true, recurses := true, named := ["confluence/attr.shapes"], apart := false, laid := [("confluence/attr.shapes", laid_confluence_attr_shapes)] }
def AttrPathsSaid : Prop := attrPathsRow.holds Tryd.pinned (OpenSpec.ofChange attrPathsSpec)

/-- ITS FALSE NEIGHBOUR: 'it returns false'. Refute it at one input. -/
def attrPathsWrong : ChangeSpec := { name := "attrPaths", fn := fun _ => fun
  | [d] => { results := [.lit (.bool false)], args := [d] }
  | _ => none }
def AttrPathsWrongFalsely : Prop := attrPathsRow.holds Tryd.pinned (OpenSpec.ofChange attrPathsWrong)

/- THE SECOND FORM. 'bulk': how many values and letters a reading holds, each counted each time it is reached (what is shared counts as often as it is met; a slice's spare places count too). A statement '..UptoSaid' is the law's where the arguments, and the package variables that the reading takes, are together of bulk at most 1048576: NARROWER than '..Said'. Prove '..Said' where nothing that the law and all that it calls make is longer than what came in: it says more and counts as full. Else prove '..UptoSaid'. A law counts once. -/
mutual
def uptoBulk {H : Type} : DataW H → Nat
  | .lit (.string bytes) => bytes.length + 1
  | .lit _ => 1
  | .nil => 1
  | .ptr d => uptoBulk d + 1
  | .slice elems spare => uptoBulkAll elems + uptoBulkAll spare + 1
  | .agg parts => uptoBulkAll parts + 1
  | .iface _ d => uptoBulk d + 1
  | .map entries => uptoBulkEntries entries + 1
  | .held _ => 1
def uptoBulkAll {H : Type} : List (DataW H) → Nat
  | [] => 0
  | d :: r => uptoBulk d + uptoBulkAll r
def uptoBulkEntries {H : Type} : List (Lit × DataW H) → Nat
  | [] => 0
  | x :: r => uptoBulkEntry x + uptoBulkEntries r
def uptoBulkEntry {H : Type} : Lit × DataW H → Nat
  | (.string bytes, d) => bytes.length + uptoBulk d + 1
  | (_, d) => uptoBulk d + 1
 end
def uptoSmall : (H : Type) → List (DataW H) → Bool := fun _ ds => decide (uptoBulkAll ds ≤ 1048576)
def OpenSpec.upto (s : _root_.Go.ChangeSpec) : _root_.Go.OpenSpec := { _root_.Go.OpenSpec.ofChange s with cond := some uptoSmall }

/-- 'confluencelaw08.AttrForms', WHERE WHAT IT READS IS OF BULK AT MOST 1048576: true; the input reads as it did. -/
def attrFormsUptoRow : OpenClaim := { program := "ytanmepgplpijkaadoor", sum := "ec1632dcabde1eb89e31c4f0c9d32e47d444aba9f47cd5b190c51fa03c85aa8c", func := "confluence/confluencelaw08.AttrForms", spec := "attrForms", unfollowed := true, recurses := true, named := ["confluence/attr.shapes"], apart := false, laid := [("confluence/attr.shapes", laid_confluence_attr_shapes)], narrowed := true }
def AttrFormsUptoSaid : Prop := attrFormsUptoRow.holds Tryd.pinned (OpenSpec.upto attrFormsSpec)

/-- 'confluencelaw08.AttrReads', WHERE WHAT IT READS IS OF BULK AT MOST 1048576: true; the input reads as it did. -/
def attrReadsUptoRow : OpenClaim := { program := "ytanmepgplpijkaadoor", sum := "ec1632dcabde1eb89e31c4f0c9d32e47d444aba9f47cd5b190c51fa03c85aa8c", func := "confluence/confluencelaw08.AttrReads", spec := "attrReads", unfollowed := true, recurses := true, named := ["confluence/attr.shapes"], apart := false, laid := [("confluence/attr.shapes", laid_confluence_attr_shapes)], narrowed := true }
def AttrReadsUptoSaid : Prop := attrReadsUptoRow.holds Tryd.pinned (OpenSpec.upto attrReadsSpec)

/-- 'confluencelaw08.AttrPaths', WHERE WHAT IT READS IS OF BULK AT MOST 1048576: true; the input reads as it did. -/
def attrPathsUptoRow : OpenClaim := { program := "ytanmepgplpijkaadoor", sum := "ec1632dcabde1eb89e31c4f0c9d32e47d444aba9f47cd5b190c51fa03c85aa8c", func := "confluence/confluencelaw08.AttrPaths", spec := "attrPaths", unfollowed := true, recurses := true, named := ["confluence/attr.shapes"], apart := false, laid := [("confluence/attr.shapes", laid_confluence_attr_shapes)], narrowed := true }
def AttrPathsUptoSaid : Prop := attrPathsUptoRow.holds Tryd.pinned (OpenSpec.upto attrPathsSpec)

end Rows
end Go.Proofs.YtanmepgplpijkaaDoor
