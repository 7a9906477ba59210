/-
  No cell of these rows narrows 'for every input' (looked for: loops, veiled, ifaces, maps, wideKeys, modest, calm, conditions, laid).
  DERIVED. THE GIVEN ROWS OF THIS SEAT. 5 by the template 'for every input the law returns true; each argument reads behind the call as it read before'; 0 by the template 'total and deterministic' (their statements: YtifaclbafmpiiaaTotals.lean).
  GIVEN WITH THE SEED: the statements are not yours to turn. If you find one false, say at which input.
  Laid BY PROGRAM, IN A SANDBOX (cutbox-rows.mjs): the forced cells as the released guide's own fill.sh prints them over the translation 5d9c8e219c2e4f92… (all of the seat's roots in one cut). By AI agents, Wed Nov 11 2026. No macro, syntax, notation, axiom, sorry.
-/
import Derived.Test.YtifaclbafmpiiaaChecked
import GoSem.Claim
import GoSem.ClaimJoined
import GoSem.ClaimMapViews
import Derived.JoinedTies
import Derived.KernelRfl
namespace Go.Proofs.Ytifaclbafmpiiaa
/- THE CELL 'sum', in the pinned program and in every row, IS THE sha256 OF THE DUMP (.gsa) THAT YtifaclbafmpiiaaProg.lean LOADS. Nothing in Lean hashes anything: it is a label: what it is worth is what the hold of that sum in a sandbox is worth. -/
noncomputable def Try.pinned : Pinned := { name := "ytifaclbafmpiiaa", sum := "5d9c8e219c2e4f92f6761acc05862f12f8ad28ea629d8e3c62a6be8cc7a42f63", checked := Try.checked }
namespace Rows
def none {H : Type} : Left H := { results := [], args := [] }

/-- 'confluencelaw05.TallyPlays': WHATEVER THE INPUT: true; the input reads as it did. -/
def tallyPlaysSpec : ChangeSpec := { name := "tallyPlays", fn := fun _ => fun
  | [d1, d2] => { results := [.lit (.bool true)], args := [d1, d2] }
  | _ => none }
def tallyPlaysRow : OpenClaim := { program := "ytifaclbafmpiiaa", sum := "5d9c8e219c2e4f92f6761acc05862f12f8ad28ea629d8e3c62a6be8cc7a42f63", func := "confluence/confluencelaw05.TallyPlays", spec := "tallyPlays", recurses := true, apart := false }
def TallyPlaysSaid : Prop := tallyPlaysRow.holds Try.pinned (OpenSpec.ofChange tallyPlaysSpec)

/-- ITS FALSE NEIGHBOUR: 'it returns false'. Refute it at one input. -/
def tallyPlaysWrong : ChangeSpec := { name := "tallyPlays", fn := fun _ => fun
  | [d1, d2] => { results := [.lit (.bool false)], args := [d1, d2] }
  | _ => none }
def TallyPlaysWrongFalsely : Prop := tallyPlaysRow.holds Try.pinned (OpenSpec.ofChange tallyPlaysWrong)

/-- 'confluencelaw05.TallyFar': WHATEVER THE INPUT: true; the input reads as it did. -/
def tallyFarSpec : ChangeSpec := { name := "tallyFar", fn := fun _ => fun
  | [d1, d2] => { results := [.lit (.bool true)], args := [d1, d2] }
  | _ => none }
def tallyFarRow : OpenClaim := { program := "ytifaclbafmpiiaa", sum := "5d9c8e219c2e4f92f6761acc05862f12f8ad28ea629d8e3c62a6be8cc7a42f63", func := "confluence/confluencelaw05.TallyFar", spec := "tallyFar", apart := false }
def TallyFarSaid : Prop := tallyFarRow.holds Try.pinned (OpenSpec.ofChange tallyFarSpec)

/-- ITS FALSE NEIGHBOUR: 'it returns false'. Refute it at one input. -/
def tallyFarWrong : ChangeSpec := { name := "tallyFar", fn := fun _ => fun
  | [d1, d2] => { results := [.lit (.bool false)], args := [d1, d2] }
  | _ => none }
def TallyFarWrongFalsely : Prop := tallyFarRow.holds Try.pinned (OpenSpec.ofChange tallyFarWrong)

/-- 'confluencelaw05.TallyTimes': WHATEVER THE INPUT: true; the input reads as it did. -/
def tallyTimesSpec : ChangeSpec := { name := "tallyTimes", fn := fun _ => fun
  | [d1, d2] => { results := [.lit (.bool true)], args := [d1, d2] }
  | _ => none }
def tallyTimesRow : OpenClaim := { program := "ytifaclbafmpiiaa", sum := "5d9c8e219c2e4f92f6761acc05862f12f8ad28ea629d8e3c62a6be8cc7a42f63", func := "confluence/confluencelaw05.TallyTimes", spec := "tallyTimes", apart := false }
def TallyTimesSaid : Prop := tallyTimesRow.holds Try.pinned (OpenSpec.ofChange tallyTimesSpec)

/-- ITS FALSE NEIGHBOUR: 'it returns false'. Refute it at one input. -/
def tallyTimesWrong : ChangeSpec := { name := "tallyTimes", fn := fun _ => fun
  | [d1, d2] => { results := [.lit (.bool false)], args := [d1, d2] }
  | _ => none }
def TallyTimesWrongFalsely : Prop := tallyTimesRow.holds Try.pinned (OpenSpec.ofChange tallyTimesWrong)

/-- 'confluencelaw05.TallyOrder': WHATEVER THE INPUT: true; the input reads as it did. -/
def tallyOrderSpec : ChangeSpec := { name := "tallyOrder", fn := fun _ => fun
  | [d] => { results := [.lit (.bool true)], args := [d] }
  | _ => none }
def tallyOrderRow : OpenClaim := { program := "ytifaclbafmpiiaa", sum := "5d9c8e219c2e4f92f6761acc05862f12f8ad28ea629d8e3c62a6be8cc7a42f63", func := "confluence/confluencelaw05.TallyOrder", spec := "tallyOrder", apart := false }
def TallyOrderSaid : Prop := tallyOrderRow.holds Try.pinned (OpenSpec.ofChange tallyOrderSpec)

/-- ITS FALSE NEIGHBOUR: 'it returns false'. Refute it at one input. -/
def tallyOrderWrong : ChangeSpec := { name := "tallyOrder", fn := fun _ => fun
  | [d] => { results := [.lit (.bool false)], args := [d] }
  | _ => none }
def TallyOrderWrongFalsely : Prop := tallyOrderRow.holds Try.pinned (OpenSpec.ofChange tallyOrderWrong)

/-- 'confluencelaw05.TallyNone': WHATEVER THE INPUT: true; the input reads as it did. -/
def tallyNoneSpec : ChangeSpec := { name := "tallyNone", fn := fun _ => fun
  | [d] => { results := [.lit (.bool true)], args := [d] }
  | _ => none }
def tallyNoneRow : OpenClaim := { program := "ytifaclbafmpiiaa", sum := "5d9c8e219c2e4f92f6761acc05862f12f8ad28ea629d8e3c62a6be8cc7a42f63", func := "confluence/confluencelaw05.TallyNone", spec := "tallyNone", recurses := true, apart := false }
def TallyNoneSaid : Prop := tallyNoneRow.holds Try.pinned (OpenSpec.ofChange tallyNoneSpec)

/-- ITS FALSE NEIGHBOUR: 'it returns false'. Refute it at one input. -/
def tallyNoneWrong : ChangeSpec := { name := "tallyNone", fn := fun _ => fun
  | [d] => { results := [.lit (.bool false)], args := [d] }
  | _ => none }
def TallyNoneWrongFalsely : Prop := tallyNoneRow.holds Try.pinned (OpenSpec.ofChange tallyNoneWrong)

/- THE SECOND FORM. 'bulk': how many values and letters a reading holds, each counted each time it is reached (what is shared counts as often as it is met; a slice's spare places count too). A statement '..UptoSaid' is the law's where the arguments, and the package variables that the reading takes, are together of bulk at most 1048576: NARROWER than '..Said'. Prove '..Said' where nothing that the law and all that it calls make is longer than what came in: it says more and counts as full. Else prove '..UptoSaid'. A law counts once. -/
mutual
def uptoBulk {H : Type} : DataW H → Nat
  | .lit (.string bytes) => bytes.length + 1
  | .lit _ => 1
  | .nil => 1
  | .ptr d => uptoBulk d + 1
  | .slice elems spare => uptoBulkAll elems + uptoBulkAll spare + 1
  | .agg parts => uptoBulkAll parts + 1
  | .iface _ d => uptoBulk d + 1
  | .map entries => uptoBulkEntries entries + 1
  | .held _ => 1
def uptoBulkAll {H : Type} : List (DataW H) → Nat
  | [] => 0
  | d :: r => uptoBulk d + uptoBulkAll r
def uptoBulkEntries {H : Type} : List (Lit × DataW H) → Nat
  | [] => 0
  | x :: r => uptoBulkEntry x + uptoBulkEntries r
def uptoBulkEntry {H : Type} : Lit × DataW H → Nat
  | (.string bytes, d) => bytes.length + uptoBulk d + 1
  | (_, d) => uptoBulk d + 1
 end
def uptoSmall : (H : Type) → List (DataW H) → Bool := fun _ ds => decide (uptoBulkAll ds ≤ 1048576)
def OpenSpec.upto (s : _root_.Go.ChangeSpec) : _root_.Go.OpenSpec := { _root_.Go.OpenSpec.ofChange s with cond := some uptoSmall }

/-- 'confluencelaw05.TallyPlays', WHERE WHAT IT READS IS OF BULK AT MOST 1048576: true; the input reads as it did. -/
def tallyPlaysUptoRow : OpenClaim := { program := "ytifaclbafmpiiaa", sum := "5d9c8e219c2e4f92f6761acc05862f12f8ad28ea629d8e3c62a6be8cc7a42f63", func := "confluence/confluencelaw05.TallyPlays", spec := "tallyPlays", recurses := true, apart := false, narrowed := true }
def TallyPlaysUptoSaid : Prop := tallyPlaysUptoRow.holds Try.pinned (OpenSpec.upto tallyPlaysSpec)

/-- 'confluencelaw05.TallyFar', WHERE WHAT IT READS IS OF BULK AT MOST 1048576: true; the input reads as it did. -/
def tallyFarUptoRow : OpenClaim := { program := "ytifaclbafmpiiaa", sum := "5d9c8e219c2e4f92f6761acc05862f12f8ad28ea629d8e3c62a6be8cc7a42f63", func := "confluence/confluencelaw05.TallyFar", spec := "tallyFar", apart := false, narrowed := true }
def TallyFarUptoSaid : Prop := tallyFarUptoRow.holds Try.pinned (OpenSpec.upto tallyFarSpec)

/-- 'confluencelaw05.TallyTimes', WHERE WHAT IT READS IS OF BULK AT MOST 1048576: true; the input reads as it did. -/
def tallyTimesUptoRow : OpenClaim := { program := "ytifaclbafmpiiaa", sum := "5d9c8e219c2e4f92f6761acc05862f12f8ad28ea629d8e3c62a6be8cc7a42f63", func := "confluence/confluencelaw05.TallyTimes", spec := "tallyTimes", apart := false, narrowed := true }
def TallyTimesUptoSaid : Prop := tallyTimesUptoRow.holds Try.pinned (OpenSpec.upto tallyTimesSpec)

/-- 'confluencelaw05.TallyOrder', WHERE WHAT IT READS IS OF BULK AT MOST 1048576: true; the input reads as it did. -/
def tallyOrderUptoRow : OpenClaim := { program := "ytifaclbafmpiiaa", sum := "5d9c8e219c2e4f92f6761acc05862f12f8ad28ea629d8e3c62a6be8cc7a42f63", func := "confluence/confluencelaw05.TallyOrder", spec := "tallyOrder", apart := false, narrowed := true }
def TallyOrderUptoSaid : Prop := tallyOrderUptoRow.holds Try.pinned (OpenSpec.upto tallyOrderSpec)

/-- 'confluencelaw05.TallyNone', WHERE WHAT IT READS IS OF BULK AT MOST 1048576: true; the input reads as it did. -/
def tallyNoneUptoRow : OpenClaim := { program := "ytifaclbafmpiiaa", sum := "5d9c8e219c2e4f92f6761acc05862f12f8ad28ea629d8e3c62a6be8cc7a42f63", func := "confluence/confluencelaw05.TallyNone", spec := "tallyNone", recurses := true, apart := false, narrowed := true }
def TallyNoneUptoSaid : Prop := tallyNoneUptoRow.holds Try.pinned (OpenSpec.upto tallyNoneSpec)

end Rows
end Go.Proofs.Ytifaclbafmpiiaa
