/-
  DERIVED. GIVEN WITH THE SEED: THE CARDS: each row of YtdgfnnjcpoklfaaDoorRows.lean that lists a variable, with what it lists TIED to the program's text (the seventh form; the later family's looks); each row that meets fmt, with fmt's text TOLD by the authors' own Lean function (tested against real Go, not proved from fmt's source: count such statements apart). THE CARD IS WHAT COUNTS. Prove the row's statement (the work); the ties are given (YtdgfnnjcpoklfaaDoorTie.lean); close each card by the builder's one call (the guide's Derived/Test/ToyasCard.lean, 'card_holds'). Laid BY PROGRAM, IN A SANDBOX (cutbox-door.mjs). By AI agents, Wed Nov 11 2026. No macro, syntax, notation, axiom, sorry.
-/
import Derived.Test.YtdgfnnjcpoklfaaDoorRows
import GoSem.ClaimSeven
namespace Go.Proofs.YtdgfnnjcpoklfaaDoor
namespace Rows

/-- THE TIED CARD OF 'confluencelaw02.AsnSets'. -/
def asnSetsCard : Claim7 := { stood := { row := asnSetsRow, standIns := [], harness := (true, "6f004938a1ae9d0eccaf9ecc9c96d04f4a093fba9ec320f14fbca150df3a1281"), looks := true }, kinds := [], alts := [], laidByText := true, laidKinds := [.data, .data, .data], laidTests := true, laidLooks := .later }
def AsnSetsCardSaid : Prop := Claim7.holds Tryd.pinned (.plain (OpenSpec.ofChange asnSetsSpec)) asnSetsCard

/-- THE TIED CARD OF 'confluencelaw03.CommParts'. -/
def commPartsCard : Claim7 := { stood := { row := commPartsRow, standIns := [], harness := (true, "6f004938a1ae9d0eccaf9ecc9c96d04f4a093fba9ec320f14fbca150df3a1281"), looks := true }, kinds := [], alts := [], laidByText := true, laidKinds := [.data, .data, .data], laidTests := true, laidLooks := .later }
def CommPartsCardSaid : Prop := Claim7.holds Tryd.pinned (.plain (OpenSpec.ofChange commPartsSpec)) commPartsCard

/-- THE TIED CARD OF 'confluencelaw03.CommTexts'. -/
def commTextsCard : Claim7 := { stood := { row := commTextsRow, standIns := [], harness := (true, "6f004938a1ae9d0eccaf9ecc9c96d04f4a093fba9ec320f14fbca150df3a1281"), looks := true }, kinds := [], alts := [], laidByText := true, laidKinds := [.data, .data, .data, .sentinel, .sentinel], laidTests := true, laidLooks := .later }
def CommTextsCardSaid : Prop := Claim7.holds Tryd.pinned (.plain (OpenSpec.ofChange commTextsSpec)) commTextsCard

/-- THE TIED CARD OF 'confluencelaw03.CommAll'. -/
def commAllCard : Claim7 := { stood := { row := commAllRow, standIns := [], harness := (true, "6f004938a1ae9d0eccaf9ecc9c96d04f4a093fba9ec320f14fbca150df3a1281"), looks := true }, kinds := [], alts := [], laidByText := true, laidKinds := [.data, .data, .data, .sentinel, .sentinel], laidTests := true, laidLooks := .later }
def CommAllCardSaid : Prop := Claim7.holds Tryd.pinned (.plain (OpenSpec.ofChange commAllSpec)) commAllCard

/-- THE TIED CARD OF 'confluencelaw03.CommApart'. -/
def commApartCard : Claim7 := { stood := { row := commApartRow, standIns := [], harness := (true, "6f004938a1ae9d0eccaf9ecc9c96d04f4a093fba9ec320f14fbca150df3a1281"), looks := true }, kinds := [], alts := [], laidByText := true, laidKinds := [.data, .data, .data], laidTests := true, laidLooks := .later }
def CommApartCardSaid : Prop := Claim7.holds Tryd.pinned (.plain (OpenSpec.ofChange commApartSpec)) commApartCard

/-- THE SECOND FORM's CARD OF 'confluencelaw02.AsnSets'. -/
def asnSetsUptoCard : Claim7 := { stood := { row := asnSetsUptoRow, standIns := [], harness := (true, "6f004938a1ae9d0eccaf9ecc9c96d04f4a093fba9ec320f14fbca150df3a1281"), looks := true }, kinds := [], alts := [], laidByText := true, laidKinds := [.data, .data, .data], laidTests := true, laidLooks := .later }
def AsnSetsUptoCardSaid : Prop := Claim7.holds Tryd.pinned (.plain (OpenSpec.upto asnSetsSpec)) asnSetsUptoCard

/-- THE SECOND FORM's CARD OF 'confluencelaw03.CommParts'. -/
def commPartsUptoCard : Claim7 := { stood := { row := commPartsUptoRow, standIns := [], harness := (true, "6f004938a1ae9d0eccaf9ecc9c96d04f4a093fba9ec320f14fbca150df3a1281"), looks := true }, kinds := [], alts := [], laidByText := true, laidKinds := [.data, .data, .data], laidTests := true, laidLooks := .later }
def CommPartsUptoCardSaid : Prop := Claim7.holds Tryd.pinned (.plain (OpenSpec.upto commPartsSpec)) commPartsUptoCard

/-- THE SECOND FORM's CARD OF 'confluencelaw03.CommTexts'. -/
def commTextsUptoCard : Claim7 := { stood := { row := commTextsUptoRow, standIns := [], harness := (true, "6f004938a1ae9d0eccaf9ecc9c96d04f4a093fba9ec320f14fbca150df3a1281"), looks := true }, kinds := [], alts := [], laidByText := true, laidKinds := [.data, .data, .data, .sentinel, .sentinel], laidTests := true, laidLooks := .later }
def CommTextsUptoCardSaid : Prop := Claim7.holds Tryd.pinned (.plain (OpenSpec.upto commTextsSpec)) commTextsUptoCard

/-- THE SECOND FORM's CARD OF 'confluencelaw03.CommAll'. -/
def commAllUptoCard : Claim7 := { stood := { row := commAllUptoRow, standIns := [], harness := (true, "6f004938a1ae9d0eccaf9ecc9c96d04f4a093fba9ec320f14fbca150df3a1281"), looks := true }, kinds := [], alts := [], laidByText := true, laidKinds := [.data, .data, .data, .sentinel, .sentinel], laidTests := true, laidLooks := .later }
def CommAllUptoCardSaid : Prop := Claim7.holds Tryd.pinned (.plain (OpenSpec.upto commAllSpec)) commAllUptoCard

/-- THE SECOND FORM's CARD OF 'confluencelaw03.CommApart'. -/
def commApartUptoCard : Claim7 := { stood := { row := commApartUptoRow, standIns := [], harness := (true, "6f004938a1ae9d0eccaf9ecc9c96d04f4a093fba9ec320f14fbca150df3a1281"), looks := true }, kinds := [], alts := [], laidByText := true, laidKinds := [.data, .data, .data], laidTests := true, laidLooks := .later }
def CommApartUptoCardSaid : Prop := Claim7.holds Tryd.pinned (.plain (OpenSpec.upto commApartSpec)) commApartUptoCard
end Rows
end Go.Proofs.YtdgfnnjcpoklfaaDoor
