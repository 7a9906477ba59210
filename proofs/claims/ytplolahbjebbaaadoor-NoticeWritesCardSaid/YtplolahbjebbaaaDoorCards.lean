/-
  DERIVED. GIVEN WITH THE SEED: THE CARDS: each row of YtplolahbjebbaaaDoorRows.lean that lists a variable, with what it lists TIED to the program's text (the seventh form; the later family's looks); each row that meets fmt, with fmt's text TOLD by the authors' own Lean function (tested against real Go, not proved from fmt's source: count such statements apart). THE CARD IS WHAT COUNTS. Prove the row's statement (the work); the ties are given (YtplolahbjebbaaaDoorTie.lean); close each card by the builder's one call (the guide's Derived/Test/ToyasCard.lean, 'card_holds'). Laid BY PROGRAM, IN A SANDBOX (cutbox-door.mjs). By AI agents, Wed Nov 11 2026. No macro, syntax, notation, axiom, sorry.
-/
import Derived.Test.YtplolahbjebbaaaDoorRows
import GoSem.ClaimSeven
namespace Go.Proofs.YtplolahbjebbaaaDoor
namespace Rows

/-- THE TIED CARD OF 'confluencelaw11.NoticeWrites'. -/
def noticeWritesCard : Claim7 := { stood := { row := noticeWritesRow, standIns := [], harness := (true, "f7e4466d151a08f2d9bbeb1572f58a9c8274982ba729367c9e8da7c19cff94f0"), looks := false }, kinds := [], alts := [], laidByText := true, laidKinds := [.data, .data, .data], laidTests := true, laidLooks := .later }
def NoticeWritesCardSaid : Prop := Claim7.holds Tryd.pinned (.plain (OpenSpec.ofChange noticeWritesSpec)) noticeWritesCard

/-- THE TIED CARD OF 'confluencelaw11.NoticeReads'. -/
def noticeReadsCard : Claim7 := { stood := { row := noticeReadsRow, standIns := [], harness := (true, "f7e4466d151a08f2d9bbeb1572f58a9c8274982ba729367c9e8da7c19cff94f0"), looks := false }, kinds := [], alts := [], laidByText := true, laidKinds := [.data, .data, .data], laidTests := true, laidLooks := .later }
def NoticeReadsCardSaid : Prop := Claim7.holds Tryd.pinned (.plain (OpenSpec.ofChange noticeReadsSpec)) noticeReadsCard

/-- THE TIED CARD OF 'confluencelaw11.NoticeNames'. -/
def noticeNamesCard : Claim7 := { stood := { row := noticeNamesRow, standIns := [], harness := (true, "f7e4466d151a08f2d9bbeb1572f58a9c8274982ba729367c9e8da7c19cff94f0"), looks := false }, kinds := [], alts := [], laidByText := true, laidKinds := [.data, .data, .data], laidTests := true, laidLooks := .later }
def NoticeNamesCardSaid : Prop := Claim7.holds Tryd.pinned (.plain (OpenSpec.ofChange noticeNamesSpec)) noticeNamesCard

/-- THE SECOND FORM's CARD OF 'confluencelaw11.NoticeWrites'. -/
def noticeWritesUptoCard : Claim7 := { stood := { row := noticeWritesUptoRow, standIns := [], harness := (true, "f7e4466d151a08f2d9bbeb1572f58a9c8274982ba729367c9e8da7c19cff94f0"), looks := false }, kinds := [], alts := [], laidByText := true, laidKinds := [.data, .data, .data], laidTests := true, laidLooks := .later }
def NoticeWritesUptoCardSaid : Prop := Claim7.holds Tryd.pinned (.plain (OpenSpec.upto noticeWritesSpec)) noticeWritesUptoCard

/-- THE SECOND FORM's CARD OF 'confluencelaw11.NoticeReads'. -/
def noticeReadsUptoCard : Claim7 := { stood := { row := noticeReadsUptoRow, standIns := [], harness := (true, "f7e4466d151a08f2d9bbeb1572f58a9c8274982ba729367c9e8da7c19cff94f0"), looks := false }, kinds := [], alts := [], laidByText := true, laidKinds := [.data, .data, .data], laidTests := true, laidLooks := .later }
def NoticeReadsUptoCardSaid : Prop := Claim7.holds Tryd.pinned (.plain (OpenSpec.upto noticeReadsSpec)) noticeReadsUptoCard

/-- THE SECOND FORM's CARD OF 'confluencelaw11.NoticeNames'. -/
def noticeNamesUptoCard : Claim7 := { stood := { row := noticeNamesUptoRow, standIns := [], harness := (true, "f7e4466d151a08f2d9bbeb1572f58a9c8274982ba729367c9e8da7c19cff94f0"), looks := false }, kinds := [], alts := [], laidByText := true, laidKinds := [.data, .data, .data], laidTests := true, laidLooks := .later }
def NoticeNamesUptoCardSaid : Prop := Claim7.holds Tryd.pinned (.plain (OpenSpec.upto noticeNamesSpec)) noticeNamesUptoCard
end Rows
end Go.Proofs.YtplolahbjebbaaaDoor
