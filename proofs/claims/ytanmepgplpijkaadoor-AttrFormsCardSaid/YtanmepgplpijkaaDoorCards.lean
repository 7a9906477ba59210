/-
  DERIVED. GIVEN WITH THE SEED: THE CARDS: each row of YtanmepgplpijkaaDoorRows.lean that lists a variable, with what it lists TIED to the program's text (the seventh form; the later family's looks); each row that meets fmt, with fmt's text TOLD by the authors' own Lean function (tested against real Go, not proved from fmt's source: count such statements apart). THE CARD IS WHAT COUNTS. Prove the row's statement (the work); the ties are given (YtanmepgplpijkaaDoorTie.lean); close each card by the builder's one call (the guide's Derived/Test/ToyasCard.lean, 'card_holds'). Laid BY PROGRAM, IN A SANDBOX (cutbox-door.mjs). By AI agents, Wed Nov 11 2026. No macro, syntax, notation, axiom, sorry.
-/
import Derived.Test.YtanmepgplpijkaaDoorRows
import GoSem.ClaimSeven
namespace Go.Proofs.YtanmepgplpijkaaDoor
namespace Rows

/-- THE TIED CARD OF 'confluencelaw08.AttrForms'. -/
def attrFormsCard : Claim7 := { stood := { row := attrFormsRow, standIns := [], harness := (true, "74da64b56b737ef601a054c57e0e851aecfa4e5d687bf5c066e4fb5840763af8"), looks := false }, kinds := [], alts := [], laidByText := true, laidKinds := [.data], laidTests := true, laidLooks := .later }
def AttrFormsCardSaid : Prop := Claim7.holds Tryd.pinned (.plain (OpenSpec.ofChange attrFormsSpec)) attrFormsCard

/-- THE TIED CARD OF 'confluencelaw08.AttrReads'. -/
def attrReadsCard : Claim7 := { stood := { row := attrReadsRow, standIns := [], harness := (true, "74da64b56b737ef601a054c57e0e851aecfa4e5d687bf5c066e4fb5840763af8"), looks := false }, kinds := [], alts := [], laidByText := true, laidKinds := [.data], laidTests := true, laidLooks := .later }
def AttrReadsCardSaid : Prop := Claim7.holds Tryd.pinned (.plain (OpenSpec.ofChange attrReadsSpec)) attrReadsCard

/-- THE TIED CARD OF 'confluencelaw08.AttrPaths'. -/
def attrPathsCard : Claim7 := { stood := { row := attrPathsRow, standIns := [], harness := (true, "74da64b56b737ef601a054c57e0e851aecfa4e5d687bf5c066e4fb5840763af8"), looks := false }, kinds := [], alts := [], laidByText := true, laidKinds := [.data], laidTests := true, laidLooks := .later }
def AttrPathsCardSaid : Prop := Claim7.holds Tryd.pinned (.plain (OpenSpec.ofChange attrPathsSpec)) attrPathsCard

/-- THE SECOND FORM's CARD OF 'confluencelaw08.AttrForms'. -/
def attrFormsUptoCard : Claim7 := { stood := { row := attrFormsUptoRow, standIns := [], harness := (true, "74da64b56b737ef601a054c57e0e851aecfa4e5d687bf5c066e4fb5840763af8"), looks := false }, kinds := [], alts := [], laidByText := true, laidKinds := [.data], laidTests := true, laidLooks := .later }
def AttrFormsUptoCardSaid : Prop := Claim7.holds Tryd.pinned (.plain (OpenSpec.upto attrFormsSpec)) attrFormsUptoCard

/-- THE SECOND FORM's CARD OF 'confluencelaw08.AttrReads'. -/
def attrReadsUptoCard : Claim7 := { stood := { row := attrReadsUptoRow, standIns := [], harness := (true, "74da64b56b737ef601a054c57e0e851aecfa4e5d687bf5c066e4fb5840763af8"), looks := false }, kinds := [], alts := [], laidByText := true, laidKinds := [.data], laidTests := true, laidLooks := .later }
def AttrReadsUptoCardSaid : Prop := Claim7.holds Tryd.pinned (.plain (OpenSpec.upto attrReadsSpec)) attrReadsUptoCard

/-- THE SECOND FORM's CARD OF 'confluencelaw08.AttrPaths'. -/
def attrPathsUptoCard : Claim7 := { stood := { row := attrPathsUptoRow, standIns := [], harness := (true, "74da64b56b737ef601a054c57e0e851aecfa4e5d687bf5c066e4fb5840763af8"), looks := false }, kinds := [], alts := [], laidByText := true, laidKinds := [.data], laidTests := true, laidLooks := .later }
def AttrPathsUptoCardSaid : Prop := Claim7.holds Tryd.pinned (.plain (OpenSpec.upto attrPathsSpec)) attrPathsUptoCard
end Rows
end Go.Proofs.YtanmepgplpijkaaDoor
