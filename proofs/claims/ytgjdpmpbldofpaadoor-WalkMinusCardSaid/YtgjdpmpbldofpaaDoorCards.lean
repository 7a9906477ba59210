/-
  DERIVED. GIVEN WITH THE SEED: THE CARDS: each row of YtgjdpmpbldofpaaDoorRows.lean that lists a variable, with what it lists TIED to the program's text (the seventh form; the later family's looks); each row that meets fmt, with fmt's text TOLD by the authors' own Lean function (tested against real Go, not proved from fmt's source: count such statements apart). THE CARD IS WHAT COUNTS. Prove the row's statement (the work); the ties are given (YtgjdpmpbldofpaaDoorTie.lean); close each card by the builder's one call (the guide's Derived/Test/ToyasCard.lean, 'card_holds'). Laid BY PROGRAM, IN A SANDBOX (cutbox-door.mjs). By AI agents, Wed Nov 11 2026. No macro, syntax, notation, axiom, sorry.
-/
import Derived.Test.YtgjdpmpbldofpaaDoorRows
import GoSem.ClaimSeven
namespace Go.Proofs.YtgjdpmpbldofpaaDoor
namespace Rows

/-- THE TIED CARD OF 'confluencelaw15.WalkMinus'. -/
def walkMinusCard : Claim7 := { stood := { row := walkMinusRow, standIns := [], harness := (true, "ba131a7d3159cf8df800312a14e00a5150dc6ebad3c543abd2c10b3b1c71f8c1"), looks := false }, kinds := [], alts := [], laidByText := true, laidKinds := [.data], laidTests := true, laidLooks := .later }
def WalkMinusCardSaid : Prop := Claim7.holds Tryd.pinned (.plain (OpenSpec.ofChange walkMinusSpec)) walkMinusCard

/-- THE TIED CARD OF 'confluencelaw15.WalkRanges'. -/
def walkRangesCard : Claim7 := { stood := { row := walkRangesRow, standIns := [], harness := (true, "ba131a7d3159cf8df800312a14e00a5150dc6ebad3c543abd2c10b3b1c71f8c1"), looks := false }, kinds := [], alts := [], laidByText := true, laidKinds := [.data], laidTests := true, laidLooks := .later }
def WalkRangesCardSaid : Prop := Claim7.holds Tryd.pinned (.plain (OpenSpec.ofChange walkRangesSpec)) walkRangesCard

/-- THE SECOND FORM's CARD OF 'confluencelaw15.WalkMinus'. -/
def walkMinusUptoCard : Claim7 := { stood := { row := walkMinusUptoRow, standIns := [], harness := (true, "ba131a7d3159cf8df800312a14e00a5150dc6ebad3c543abd2c10b3b1c71f8c1"), looks := false }, kinds := [], alts := [], laidByText := true, laidKinds := [.data], laidTests := true, laidLooks := .later }
def WalkMinusUptoCardSaid : Prop := Claim7.holds Tryd.pinned (.plain (OpenSpec.upto walkMinusSpec)) walkMinusUptoCard

/-- THE SECOND FORM's CARD OF 'confluencelaw15.WalkRanges'. -/
def walkRangesUptoCard : Claim7 := { stood := { row := walkRangesUptoRow, standIns := [], harness := (true, "ba131a7d3159cf8df800312a14e00a5150dc6ebad3c543abd2c10b3b1c71f8c1"), looks := false }, kinds := [], alts := [], laidByText := true, laidKinds := [.data], laidTests := true, laidLooks := .later }
def WalkRangesUptoCardSaid : Prop := Claim7.holds Tryd.pinned (.plain (OpenSpec.upto walkRangesSpec)) walkRangesUptoCard
end Rows
end Go.Proofs.YtgjdpmpbldofpaaDoor
