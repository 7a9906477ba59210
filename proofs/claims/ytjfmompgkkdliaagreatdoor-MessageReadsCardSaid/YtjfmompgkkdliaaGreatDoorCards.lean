/-
  DERIVED. GIVEN WITH THE SEED: THE CARDS: each row of YtjfmompgkkdliaaGreatDoorRows.lean that lists a variable, with what it lists TIED to the program's text (the seventh form; the later family's looks); each row that meets fmt, with fmt's text TOLD by the authors' own Lean function (tested against real Go, not proved from fmt's source: count such statements apart). THE CARD IS WHAT COUNTS. Prove the row's statement (the work); the ties are given (YtjfmompgkkdliaaGreatDoorTie.lean); close each card by the builder's one call (the guide's Derived/Test/ToyasCard.lean, 'card_holds'). Laid BY PROGRAM, IN A SANDBOX (cutbox-door.mjs). By AI agents, Wed Nov 11 2026. No macro, syntax, notation, axiom, sorry.
-/
import Derived.Test.YtjfmompgkkdliaaGreatDoorRows
import GoSem.ClaimSeven
namespace Go.Proofs.YtjfmompgkkdliaaGreatDoor
namespace Rows

/-- THE TIED CARD OF 'confluencelaw13.MessageWrites'. -/
def messageWritesCard : Claim7 := { stood := { row := messageWritesRow, standIns := [], harness := (true, "a0bb890c59617e36433d0678a8c60d7bb4e45e6b736000414c4ed2bdc5691724"), looks := false }, kinds := [], alts := [], laidByText := true, laidKinds := [.data], laidTests := true, laidLooks := .later }
def MessageWritesCardSaid : Prop := Claim7.holds Tryz.pinned (.plain (OpenSpec.ofChange messageWritesSpec)) messageWritesCard

/-- THE TIED CARD OF 'confluencelaw13.MessageDecodes'. -/
def messageDecodesCard : Claim7 := { stood := { row := messageDecodesRow, standIns := [], harness := (true, "a0bb890c59617e36433d0678a8c60d7bb4e45e6b736000414c4ed2bdc5691724"), looks := false }, kinds := [], alts := [], laidByText := true, laidKinds := [.data], laidTests := true, laidLooks := .later }
def MessageDecodesCardSaid : Prop := Claim7.holds Tryz.pinned (.plain (OpenSpec.ofChange messageDecodesSpec)) messageDecodesCard

/-- THE TIED CARD OF 'confluencelaw13.MessageReads'. -/
def messageReadsCard : Claim7 := { stood := { row := messageReadsRow, standIns := [], harness := (true, "a0bb890c59617e36433d0678a8c60d7bb4e45e6b736000414c4ed2bdc5691724"), looks := false }, kinds := [], alts := [], laidByText := true, laidKinds := [.data], laidTests := true, laidLooks := .later }
def MessageReadsCardSaid : Prop := Claim7.holds Tryz.pinned (.plain (OpenSpec.ofChange messageReadsSpec)) messageReadsCard

/-- THE TIED CARD OF 'confluencelaw13.MessageMany'. -/
def messageManyCard : Claim7 := { stood := { row := messageManyRow, standIns := [], harness := (true, "a0bb890c59617e36433d0678a8c60d7bb4e45e6b736000414c4ed2bdc5691724"), looks := false }, kinds := [], alts := [], laidByText := true, laidKinds := [.data], laidTests := true, laidLooks := .later }
def MessageManyCardSaid : Prop := Claim7.holds Tryz.pinned (.plain (OpenSpec.ofChange messageManySpec)) messageManyCard

/-- THE SECOND FORM's CARD OF 'confluencelaw13.MessageWrites'. -/
def messageWritesUptoCard : Claim7 := { stood := { row := messageWritesUptoRow, standIns := [], harness := (true, "a0bb890c59617e36433d0678a8c60d7bb4e45e6b736000414c4ed2bdc5691724"), looks := false }, kinds := [], alts := [], laidByText := true, laidKinds := [.data], laidTests := true, laidLooks := .later }
def MessageWritesUptoCardSaid : Prop := Claim7.holds Tryz.pinned (.plain (OpenSpec.upto messageWritesSpec)) messageWritesUptoCard

/-- THE SECOND FORM's CARD OF 'confluencelaw13.MessageDecodes'. -/
def messageDecodesUptoCard : Claim7 := { stood := { row := messageDecodesUptoRow, standIns := [], harness := (true, "a0bb890c59617e36433d0678a8c60d7bb4e45e6b736000414c4ed2bdc5691724"), looks := false }, kinds := [], alts := [], laidByText := true, laidKinds := [.data], laidTests := true, laidLooks := .later }
def MessageDecodesUptoCardSaid : Prop := Claim7.holds Tryz.pinned (.plain (OpenSpec.upto messageDecodesSpec)) messageDecodesUptoCard

/-- THE SECOND FORM's CARD OF 'confluencelaw13.MessageReads'. -/
def messageReadsUptoCard : Claim7 := { stood := { row := messageReadsUptoRow, standIns := [], harness := (true, "a0bb890c59617e36433d0678a8c60d7bb4e45e6b736000414c4ed2bdc5691724"), looks := false }, kinds := [], alts := [], laidByText := true, laidKinds := [.data], laidTests := true, laidLooks := .later }
def MessageReadsUptoCardSaid : Prop := Claim7.holds Tryz.pinned (.plain (OpenSpec.upto messageReadsSpec)) messageReadsUptoCard

/-- THE SECOND FORM's CARD OF 'confluencelaw13.MessageMany'. -/
def messageManyUptoCard : Claim7 := { stood := { row := messageManyUptoRow, standIns := [], harness := (true, "a0bb890c59617e36433d0678a8c60d7bb4e45e6b736000414c4ed2bdc5691724"), looks := false }, kinds := [], alts := [], laidByText := true, laidKinds := [.data], laidTests := true, laidLooks := .later }
def MessageManyUptoCardSaid : Prop := Claim7.holds Tryz.pinned (.plain (OpenSpec.upto messageManySpec)) messageManyUptoCard
end Rows
end Go.Proofs.YtjfmompgkkdliaaGreatDoor
