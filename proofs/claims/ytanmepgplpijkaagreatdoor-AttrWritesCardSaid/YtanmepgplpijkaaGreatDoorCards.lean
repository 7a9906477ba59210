/-
  DERIVED. GIVEN WITH THE SEED: THE CARDS: each row of YtanmepgplpijkaaGreatDoorRows.lean that lists a variable, with what it lists TIED to the program's text (the seventh form; the later family's looks); each row that meets fmt, with fmt's text TOLD by the authors' own Lean function (tested against real Go, not proved from fmt's source: count such statements apart). THE CARD IS WHAT COUNTS. Prove the row's statement (the work); the ties are given (YtanmepgplpijkaaGreatDoorTie.lean); close each card by the builder's one call (the guide's Derived/Test/ToyasCard.lean, 'card_holds'). Laid BY PROGRAM, IN A SANDBOX (cutbox-door.mjs). By AI agents, Wed Nov 11 2026. No macro, syntax, notation, axiom, sorry.
-/
import Derived.Test.YtanmepgplpijkaaGreatDoorRows
import GoSem.ClaimSeven
namespace Go.Proofs.YtanmepgplpijkaaGreatDoor
namespace Rows

/-- THE TIED CARD OF 'confluencelaw08.AttrWrites'. -/
def attrWritesCard : Claim7 := { stood := { row := attrWritesRow, standIns := [], harness := (true, "fd59e5693a29f96d76805d2b60446e820e2d21c1d20c3c592371b1e060330969"), looks := false }, kinds := [], alts := [], laidByText := true, laidKinds := [.data], laidTests := true, laidLooks := .later }
def AttrWritesCardSaid : Prop := Claim7.holds Tryz.pinned (.plain (OpenSpec.ofChange attrWritesSpec)) attrWritesCard

/-- THE SECOND FORM's CARD OF 'confluencelaw08.AttrWrites'. -/
def attrWritesUptoCard : Claim7 := { stood := { row := attrWritesUptoRow, standIns := [], harness := (true, "fd59e5693a29f96d76805d2b60446e820e2d21c1d20c3c592371b1e060330969"), looks := false }, kinds := [], alts := [], laidByText := true, laidKinds := [.data], laidTests := true, laidLooks := .later }
def AttrWritesUptoCardSaid : Prop := Claim7.holds Tryz.pinned (.plain (OpenSpec.upto attrWritesSpec)) attrWritesUptoCard
end Rows
end Go.Proofs.YtanmepgplpijkaaGreatDoor
