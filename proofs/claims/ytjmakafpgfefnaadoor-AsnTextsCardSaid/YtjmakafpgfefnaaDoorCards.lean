/-
  DERIVED. GIVEN WITH THE SEED: THE CARDS: each row of YtjmakafpgfefnaaDoorRows.lean that lists a variable, with what it lists TIED to the program's text (the seventh form; the later family's looks); each row that meets fmt, with fmt's text TOLD by the authors' own Lean function (tested against real Go, not proved from fmt's source: count such statements apart). THE CARD IS WHAT COUNTS. Prove the row's statement (the work); the ties are given (YtjmakafpgfefnaaDoorTie.lean); close each card by the builder's one call (the guide's Derived/Test/ToyasCard.lean, 'card_holds'). Laid BY PROGRAM, IN A SANDBOX (cutbox-door.mjs). By AI agents, Wed Nov 11 2026. No macro, syntax, notation, axiom, sorry.
-/
import Derived.Test.YtjmakafpgfefnaaDoorRows
import GoSem.ClaimSeven
namespace Go.Proofs.YtjmakafpgfefnaaDoor
namespace Rows

/-- THE TIED CARD OF 'confluencelaw02.AsnSets'. -/
def asnSetsCard : Claim7 := { stood := { row := asnSetsRow, standIns := [], harness := (true, "489d97a44d5f8fad1ff5b51ed71104ac4e7b800a680a9196dfd0fa6a891cdc29"), looks := true }, kinds := [], alts := [], laidByText := true, laidKinds := [.data, .data, .data], laidTests := true, laidLooks := .later }
def AsnSetsCardSaid : Prop := Claim7.holds Tryd.pinned (.plain (OpenSpec.ofChange asnSetsSpec)) asnSetsCard

/-- THE TIED CARD OF 'confluencelaw02.AsnTwo'. -/
def asnTwoCard : Claim7 := { stood := { row := asnTwoRow, standIns := [], harness := (true, "489d97a44d5f8fad1ff5b51ed71104ac4e7b800a680a9196dfd0fa6a891cdc29"), looks := true }, kinds := [], alts := [], laidByText := true, laidKinds := [.data, .data, .data], laidTests := true, laidLooks := .later }
def AsnTwoCardSaid : Prop := Claim7.holds Tryd.pinned (.plain (OpenSpec.ofChange asnTwoSpec)) asnTwoCard

/-- THE TIED CARD OF 'confluencelaw02.AsnTexts'. -/
def asnTextsCard : Claim7 := { stood := { row := asnTextsRow, standIns := [], harness := (true, "489d97a44d5f8fad1ff5b51ed71104ac4e7b800a680a9196dfd0fa6a891cdc29"), looks := true }, kinds := [], alts := [], laidByText := true, laidKinds := [.data, .data, .data, .sentinel, .sentinel], laidTests := true, laidLooks := .later }
def AsnTextsCardSaid : Prop := Claim7.holds Tryd.pinned (.plain (OpenSpec.ofChange asnTextsSpec)) asnTextsCard

/-- THE SECOND FORM's CARD OF 'confluencelaw02.AsnSets'. -/
def asnSetsUptoCard : Claim7 := { stood := { row := asnSetsUptoRow, standIns := [], harness := (true, "489d97a44d5f8fad1ff5b51ed71104ac4e7b800a680a9196dfd0fa6a891cdc29"), looks := true }, kinds := [], alts := [], laidByText := true, laidKinds := [.data, .data, .data], laidTests := true, laidLooks := .later }
def AsnSetsUptoCardSaid : Prop := Claim7.holds Tryd.pinned (.plain (OpenSpec.upto asnSetsSpec)) asnSetsUptoCard

/-- THE SECOND FORM's CARD OF 'confluencelaw02.AsnTwo'. -/
def asnTwoUptoCard : Claim7 := { stood := { row := asnTwoUptoRow, standIns := [], harness := (true, "489d97a44d5f8fad1ff5b51ed71104ac4e7b800a680a9196dfd0fa6a891cdc29"), looks := true }, kinds := [], alts := [], laidByText := true, laidKinds := [.data, .data, .data], laidTests := true, laidLooks := .later }
def AsnTwoUptoCardSaid : Prop := Claim7.holds Tryd.pinned (.plain (OpenSpec.upto asnTwoSpec)) asnTwoUptoCard

/-- THE SECOND FORM's CARD OF 'confluencelaw02.AsnTexts'. -/
def asnTextsUptoCard : Claim7 := { stood := { row := asnTextsUptoRow, standIns := [], harness := (true, "489d97a44d5f8fad1ff5b51ed71104ac4e7b800a680a9196dfd0fa6a891cdc29"), looks := true }, kinds := [], alts := [], laidByText := true, laidKinds := [.data, .data, .data, .sentinel, .sentinel], laidTests := true, laidLooks := .later }
def AsnTextsUptoCardSaid : Prop := Claim7.holds Tryd.pinned (.plain (OpenSpec.upto asnTextsSpec)) asnTextsUptoCard
end Rows
end Go.Proofs.YtjmakafpgfefnaaDoor
