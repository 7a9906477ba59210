/-
  No cell of these rows narrows 'for every input' (looked for: loops, veiled, ifaces, maps, wideKeys, modest, calm, conditions, laid).
  DERIVED. THE GIVEN ROWS OF THIS SEAT. 4 by the template 'for every input the law returns true; each argument reads behind the call as it read before'; 0 by the template 'total and deterministic' (their statements: YtkkfnpacejdlnaaTotals.lean).
  GIVEN WITH THE SEED: the statements are not yours to turn. If you find one false, say at which input.
  Laid BY PROGRAM, IN A SANDBOX (cutbox-rows.mjs): the forced cells as the released guide's own fill.sh prints them over the translation 09743328dfeabe60… (all of the seat's roots in one cut). By AI agents, Wed Nov 11 2026. No macro, syntax, notation, axiom, sorry.
-/
import Derived.Test.YtkkfnpacejdlnaaChecked
import GoSem.Claim
import GoSem.ClaimJoined
import GoSem.ClaimMapViews
import Derived.JoinedTies
import Derived.KernelRfl
namespace Go.Proofs.Ytkkfnpacejdlnaa
/- THE CELL 'sum', in the pinned program and in every row, IS THE sha256 OF THE DUMP (.gsa) THAT YtkkfnpacejdlnaaProg.lean LOADS. Nothing in Lean hashes anything: it is a label: what it is worth is what the hold of that sum in a sandbox is worth. -/
noncomputable def Try.pinned : Pinned := { name := "ytkkfnpacejdlnaa", sum := "09743328dfeabe6035122d21543bddd639138c5c773c7c3958a3ec7c649c3f1d", checked := Try.checked }
namespace Rows
def none {H : Type} : Left H := { results := [], args := [] }

/-- 'confluencelaw09.OpenWrites': WHATEVER THE INPUT: true; the input reads as it did. -/
def openWritesSpec : ChangeSpec := { name := "openWrites", fn := fun _ => fun
  | [d] => { results := [.lit (.bool true)], args := [d] }
  | _ => none }
def openWritesRow : OpenClaim := { program := "ytkkfnpacejdlnaa", sum := "09743328dfeabe6035122d21543bddd639138c5c773c7c3958a3ec7c649c3f1d", func := "confluence/confluencelaw09.OpenWrites", spec := "openWrites", apart := false }
def OpenWritesSaid : Prop := openWritesRow.holds Try.pinned (OpenSpec.ofChange openWritesSpec)

/-- ITS FALSE NEIGHBOUR: 'it returns false'. Refute it at one input. -/
def openWritesWrong : ChangeSpec := { name := "openWrites", fn := fun _ => fun
  | [d] => { results := [.lit (.bool false)], args := [d] }
  | _ => none }
def OpenWritesWrongFalsely : Prop := openWritesRow.holds Try.pinned (OpenSpec.ofChange openWritesWrong)

/-- 'confluencelaw09.OpenReads': WHATEVER THE INPUT: true; the input reads as it did. -/
def openReadsSpec : ChangeSpec := { name := "openReads", fn := fun _ => fun
  | [d] => { results := [.lit (.bool true)], args := [d] }
  | _ => none }
def openReadsRow : OpenClaim := { program := "ytkkfnpacejdlnaa", sum := "09743328dfeabe6035122d21543bddd639138c5c773c7c3958a3ec7c649c3f1d", func := "confluence/confluencelaw09.OpenReads", spec := "openReads", apart := false }
def OpenReadsSaid : Prop := openReadsRow.holds Try.pinned (OpenSpec.ofChange openReadsSpec)

/-- ITS FALSE NEIGHBOUR: 'it returns false'. Refute it at one input. -/
def openReadsWrong : ChangeSpec := { name := "openReads", fn := fun _ => fun
  | [d] => { results := [.lit (.bool false)], args := [d] }
  | _ => none }
def OpenReadsWrongFalsely : Prop := openReadsRow.holds Try.pinned (OpenSpec.ofChange openReadsWrong)

/-- 'confluencelaw09.OpenJudges': WHATEVER THE INPUT: true; the input reads as it did. -/
def openJudgesSpec : ChangeSpec := { name := "openJudges", fn := fun _ => fun
  | [d1, d2, d3] => { results := [.lit (.bool true)], args := [d1, d2, d3] }
  | _ => none }
def openJudgesRow : OpenClaim := { program := "ytkkfnpacejdlnaa", sum := "09743328dfeabe6035122d21543bddd639138c5c773c7c3958a3ec7c649c3f1d", func := "confluence/confluencelaw09.OpenJudges", spec := "openJudges", apart := false }
def OpenJudgesSaid : Prop := openJudgesRow.holds Try.pinned (OpenSpec.ofChange openJudgesSpec)

/-- ITS FALSE NEIGHBOUR: 'it returns false'. Refute it at one input. -/
def openJudgesWrong : ChangeSpec := { name := "openJudges", fn := fun _ => fun
  | [d1, d2, d3] => { results := [.lit (.bool false)], args := [d1, d2, d3] }
  | _ => none }
def OpenJudgesWrongFalsely : Prop := openJudgesRow.holds Try.pinned (OpenSpec.ofChange openJudgesWrong)

/-- 'confluencelaw09.OpenTimes': WHATEVER THE INPUT: true; the input reads as it did. -/
def openTimesSpec : ChangeSpec := { name := "openTimes", fn := fun _ => fun
  | [d1, d2] => { results := [.lit (.bool true)], args := [d1, d2] }
  | _ => none }
def openTimesRow : OpenClaim := { program := "ytkkfnpacejdlnaa", sum := "09743328dfeabe6035122d21543bddd639138c5c773c7c3958a3ec7c649c3f1d", func := "confluence/confluencelaw09.OpenTimes", spec := "openTimes", apart := false }
def OpenTimesSaid : Prop := openTimesRow.holds Try.pinned (OpenSpec.ofChange openTimesSpec)

/-- ITS FALSE NEIGHBOUR: 'it returns false'. Refute it at one input. -/
def openTimesWrong : ChangeSpec := { name := "openTimes", fn := fun _ => fun
  | [d1, d2] => { results := [.lit (.bool false)], args := [d1, d2] }
  | _ => none }
def OpenTimesWrongFalsely : Prop := openTimesRow.holds Try.pinned (OpenSpec.ofChange openTimesWrong)

/- THE SECOND FORM. 'bulk': how many values and letters a reading holds, each counted each time it is reached (what is shared counts as often as it is met; a slice's spare places count too). A statement '..UptoSaid' is the law's where the arguments, and the package variables that the reading takes, are together of bulk at most 1048576: NARROWER than '..Said'. Prove '..Said' where nothing that the law and all that it calls make is longer than what came in: it says more and counts as full. Else prove '..UptoSaid'. A law counts once. -/
mutual
def uptoBulk {H : Type} : DataW H → Nat
  | .lit (.string bytes) => bytes.length + 1
  | .lit _ => 1
  | .nil => 1
  | .ptr d => uptoBulk d + 1
  | .slice elems spare => uptoBulkAll elems + uptoBulkAll spare + 1
  | .agg parts => uptoBulkAll parts + 1
  | .iface _ d => uptoBulk d + 1
  | .map entries => uptoBulkEntries entries + 1
  | .held _ => 1
def uptoBulkAll {H : Type} : List (DataW H) → Nat
  | [] => 0
  | d :: r => uptoBulk d + uptoBulkAll r
def uptoBulkEntries {H : Type} : List (Lit × DataW H) → Nat
  | [] => 0
  | x :: r => uptoBulkEntry x + uptoBulkEntries r
def uptoBulkEntry {H : Type} : Lit × DataW H → Nat
  | (.string bytes, d) => bytes.length + uptoBulk d + 1
  | (_, d) => uptoBulk d + 1
 end
def uptoSmall : (H : Type) → List (DataW H) → Bool := fun _ ds => decide (uptoBulkAll ds ≤ 1048576)
def OpenSpec.upto (s : _root_.Go.ChangeSpec) : _root_.Go.OpenSpec := { _root_.Go.OpenSpec.ofChange s with cond := some uptoSmall }

/-- 'confluencelaw09.OpenWrites', WHERE WHAT IT READS IS OF BULK AT MOST 1048576: true; the input reads as it did. -/
def openWritesUptoRow : OpenClaim := { program := "ytkkfnpacejdlnaa", sum := "09743328dfeabe6035122d21543bddd639138c5c773c7c3958a3ec7c649c3f1d", func := "confluence/confluencelaw09.OpenWrites", spec := "openWrites", apart := false, narrowed := true }
def OpenWritesUptoSaid : Prop := openWritesUptoRow.holds Try.pinned (OpenSpec.upto openWritesSpec)

/-- 'confluencelaw09.OpenReads', WHERE WHAT IT READS IS OF BULK AT MOST 1048576: true; the input reads as it did. -/
def openReadsUptoRow : OpenClaim := { program := "ytkkfnpacejdlnaa", sum := "09743328dfeabe6035122d21543bddd639138c5c773c7c3958a3ec7c649c3f1d", func := "confluence/confluencelaw09.OpenReads", spec := "openReads", apart := false, narrowed := true }
def OpenReadsUptoSaid : Prop := openReadsUptoRow.holds Try.pinned (OpenSpec.upto openReadsSpec)

/-- 'confluencelaw09.OpenJudges', WHERE WHAT IT READS IS OF BULK AT MOST 1048576: true; the input reads as it did. -/
def openJudgesUptoRow : OpenClaim := { program := "ytkkfnpacejdlnaa", sum := "09743328dfeabe6035122d21543bddd639138c5c773c7c3958a3ec7c649c3f1d", func := "confluence/confluencelaw09.OpenJudges", spec := "openJudges", apart := false, narrowed := true }
def OpenJudgesUptoSaid : Prop := openJudgesUptoRow.holds Try.pinned (OpenSpec.upto openJudgesSpec)

/-- 'confluencelaw09.OpenTimes', WHERE WHAT IT READS IS OF BULK AT MOST 1048576: true; the input reads as it did. -/
def openTimesUptoRow : OpenClaim := { program := "ytkkfnpacejdlnaa", sum := "09743328dfeabe6035122d21543bddd639138c5c773c7c3958a3ec7c649c3f1d", func := "confluence/confluencelaw09.OpenTimes", spec := "openTimes", apart := false, narrowed := true }
def OpenTimesUptoSaid : Prop := openTimesUptoRow.holds Try.pinned (OpenSpec.upto openTimesSpec)

end Rows
end Go.Proofs.Ytkkfnpacejdlnaa
