/-
  DERIVED. GIVEN WITH THE SEED: THE CARDS: each row of YtlhdjdnflpilbaaGreatDoorRows.lean that lists a variable, with what it lists TIED to the program's text (the seventh form; the later family's looks); each row that meets fmt, with fmt's text TOLD by the authors' own Lean function (tested against real Go, not proved from fmt's source: count such statements apart). THE CARD IS WHAT COUNTS. Prove the row's statement (the work); the ties are given (YtlhdjdnflpilbaaGreatDoorTie.lean); close each card by the builder's one call (the guide's Derived/Test/ToyasCard.lean, 'card_holds'). Laid BY PROGRAM, IN A SANDBOX (cutbox-door.mjs). By AI agents, Wed Nov 11 2026. No macro, syntax, notation, axiom, sorry.
-/
import Derived.Test.YtlhdjdnflpilbaaGreatDoorRows
import GoSem.ClaimSeven
namespace Go.Proofs.YtlhdjdnflpilbaaGreatDoor
namespace Rows

/-- THE TIED CARD OF 'confluencelaw10.UpdateWrites'. -/
def updateWritesCard : Claim7 := { stood := { row := updateWritesRow, standIns := [], harness := (true, "b9c49bb27e1aefef6acde01abee4b823cd4cb3e74fd5fa87d6fa364b0554a8cd"), looks := false }, kinds := [], alts := [], laidByText := true, laidKinds := [.data], laidTests := true, laidLooks := .later }
def UpdateWritesCardSaid : Prop := Claim7.holds Tryz.pinned (.plain (OpenSpec.ofChange updateWritesSpec)) updateWritesCard

/-- THE TIED CARD OF 'confluencelaw10.UpdateReads'. -/
def updateReadsCard : Claim7 := { stood := { row := updateReadsRow, standIns := [], harness := (true, "b9c49bb27e1aefef6acde01abee4b823cd4cb3e74fd5fa87d6fa364b0554a8cd"), looks := false }, kinds := [], alts := [], laidByText := true, laidKinds := [.data], laidTests := true, laidLooks := .later }
def UpdateReadsCardSaid : Prop := Claim7.holds Tryz.pinned (.plain (OpenSpec.ofChange updateReadsSpec)) updateReadsCard

/-- THE SECOND FORM's CARD OF 'confluencelaw10.UpdateWrites'. -/
def updateWritesUptoCard : Claim7 := { stood := { row := updateWritesUptoRow, standIns := [], harness := (true, "b9c49bb27e1aefef6acde01abee4b823cd4cb3e74fd5fa87d6fa364b0554a8cd"), looks := false }, kinds := [], alts := [], laidByText := true, laidKinds := [.data], laidTests := true, laidLooks := .later }
def UpdateWritesUptoCardSaid : Prop := Claim7.holds Tryz.pinned (.plain (OpenSpec.upto updateWritesSpec)) updateWritesUptoCard

/-- THE SECOND FORM's CARD OF 'confluencelaw10.UpdateReads'. -/
def updateReadsUptoCard : Claim7 := { stood := { row := updateReadsUptoRow, standIns := [], harness := (true, "b9c49bb27e1aefef6acde01abee4b823cd4cb3e74fd5fa87d6fa364b0554a8cd"), looks := false }, kinds := [], alts := [], laidByText := true, laidKinds := [.data], laidTests := true, laidLooks := .later }
def UpdateReadsUptoCardSaid : Prop := Claim7.holds Tryz.pinned (.plain (OpenSpec.upto updateReadsSpec)) updateReadsUptoCard
end Rows
end Go.Proofs.YtlhdjdnflpilbaaGreatDoor
