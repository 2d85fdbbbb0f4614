/-
  DERIVED. GIVEN WITH THE SEED: THE CARDS: each row of YtoomnimbokbadaaDoorRows.lean that lists a variable, with what it lists TIED to the program's text (the seventh form; the later family's looks); each row that meets fmt, with fmt's text TOLD by the authors' own Lean function (tested against real Go, not proved from fmt's source: count such statements apart). THE CARD IS WHAT COUNTS. Prove the row's statement (the work); the ties are given (YtoomnimbokbadaaDoorTie.lean); close each card by the builder's one call (the guide's Derived/Test/ToyasCard.lean, 'card_holds'). Laid BY PROGRAM, IN A SANDBOX (cutbox-door.mjs). By AI agents, Wed Nov 11 2026. No macro, syntax, notation, axiom, sorry.
-/
import Derived.Test.YtoomnimbokbadaaDoorRows
import GoSem.ClaimSeven
namespace Go.Proofs.YtoomnimbokbadaaDoor
namespace Rows

/-- THE TIED CARD OF 'laws.FnFaces'. -/
def fnFacesCard : Claim7 := { stood := { row := fnFacesRow, standIns := [], harness := (true, "5c095faef8879fa041058dea7d535fc685449b5b6f11feadf33f90b009c0542c"), looks := false }, kinds := [], alts := [], laidByText := true, laidKinds := [.data], laidTests := true, laidLooks := .later }
def FnFacesCardSaid : Prop := Claim7.holds Tryd.pinned (.plain (OpenSpec.ofChange fnFacesSpec)) fnFacesCard

/-- THE TIED CARD OF 'laws.FnExactInterfaceOK'. -/
def fnExactInterfaceOKCard : Claim7 := { stood := { row := fnExactInterfaceOKRow, standIns := [], harness := (true, "5c095faef8879fa041058dea7d535fc685449b5b6f11feadf33f90b009c0542c"), looks := false }, kinds := [], alts := [], laidByText := true, laidKinds := [.data], laidTests := true, laidLooks := .later }
def FnExactInterfaceOKCardSaid : Prop := Claim7.holds Tryd.pinned (.plain (OpenSpec.ofChange fnExactInterfaceOKSpec)) fnExactInterfaceOKCard

/-- THE TIED CARD OF 'laws.FnExactInterfaceBytes'. -/
def fnExactInterfaceBytesCard : Claim7 := { stood := { row := fnExactInterfaceBytesRow, standIns := [], harness := (true, "5c095faef8879fa041058dea7d535fc685449b5b6f11feadf33f90b009c0542c"), looks := false }, kinds := [], alts := [], laidByText := true, laidKinds := [.data], laidTests := true, laidLooks := .later }
def FnExactInterfaceBytesCardSaid : Prop := Claim7.holds Tryd.pinned (.plain (OpenSpec.ofChange fnExactInterfaceBytesSpec)) fnExactInterfaceBytesCard

/-- THE TIED CARD OF 'laws.FnExactReadInterface'. -/
def fnExactReadInterfaceCard : Claim7 := { stood := { row := fnExactReadInterfaceRow, standIns := [], harness := (true, "5c095faef8879fa041058dea7d535fc685449b5b6f11feadf33f90b009c0542c"), looks := false }, kinds := [], alts := [], laidByText := true, laidKinds := [.data], laidTests := true, laidLooks := .later }
def FnExactReadInterfaceCardSaid : Prop := Claim7.holds Tryd.pinned (.plain (OpenSpec.ofChange fnExactReadInterfaceSpec)) fnExactReadInterfaceCard

/-- THE TIED CARD OF 'laws.FnExactPrintOf'. -/
def fnExactPrintOfCard : Claim7 := { stood := { row := fnExactPrintOfRow, standIns := [], harness := (true, "5c095faef8879fa041058dea7d535fc685449b5b6f11feadf33f90b009c0542c"), looks := false }, kinds := [], alts := [], laidByText := true, laidKinds := [.data], laidTests := true, laidLooks := .later }
def FnExactPrintOfCardSaid : Prop := Claim7.holds Tryd.pinned (.plain (OpenSpec.ofChange fnExactPrintOfSpec)) fnExactPrintOfCard

/-- THE SECOND FORM's CARD OF 'laws.FnFaces'. -/
def fnFacesUptoCard : Claim7 := { stood := { row := fnFacesUptoRow, standIns := [], harness := (true, "5c095faef8879fa041058dea7d535fc685449b5b6f11feadf33f90b009c0542c"), looks := false }, kinds := [], alts := [], laidByText := true, laidKinds := [.data], laidTests := true, laidLooks := .later }
def FnFacesUptoCardSaid : Prop := Claim7.holds Tryd.pinned (.plain (OpenSpec.upto fnFacesSpec)) fnFacesUptoCard

/-- THE SECOND FORM's CARD OF 'laws.FnExactInterfaceOK'. -/
def fnExactInterfaceOKUptoCard : Claim7 := { stood := { row := fnExactInterfaceOKUptoRow, standIns := [], harness := (true, "5c095faef8879fa041058dea7d535fc685449b5b6f11feadf33f90b009c0542c"), looks := false }, kinds := [], alts := [], laidByText := true, laidKinds := [.data], laidTests := true, laidLooks := .later }
def FnExactInterfaceOKUptoCardSaid : Prop := Claim7.holds Tryd.pinned (.plain (OpenSpec.upto fnExactInterfaceOKSpec)) fnExactInterfaceOKUptoCard

/-- THE SECOND FORM's CARD OF 'laws.FnExactInterfaceBytes'. -/
def fnExactInterfaceBytesUptoCard : Claim7 := { stood := { row := fnExactInterfaceBytesUptoRow, standIns := [], harness := (true, "5c095faef8879fa041058dea7d535fc685449b5b6f11feadf33f90b009c0542c"), looks := false }, kinds := [], alts := [], laidByText := true, laidKinds := [.data], laidTests := true, laidLooks := .later }
def FnExactInterfaceBytesUptoCardSaid : Prop := Claim7.holds Tryd.pinned (.plain (OpenSpec.upto fnExactInterfaceBytesSpec)) fnExactInterfaceBytesUptoCard

/-- THE SECOND FORM's CARD OF 'laws.FnExactReadInterface'. -/
def fnExactReadInterfaceUptoCard : Claim7 := { stood := { row := fnExactReadInterfaceUptoRow, standIns := [], harness := (true, "5c095faef8879fa041058dea7d535fc685449b5b6f11feadf33f90b009c0542c"), looks := false }, kinds := [], alts := [], laidByText := true, laidKinds := [.data], laidTests := true, laidLooks := .later }
def FnExactReadInterfaceUptoCardSaid : Prop := Claim7.holds Tryd.pinned (.plain (OpenSpec.upto fnExactReadInterfaceSpec)) fnExactReadInterfaceUptoCard

/-- THE SECOND FORM's CARD OF 'laws.FnExactPrintOf'. -/
def fnExactPrintOfUptoCard : Claim7 := { stood := { row := fnExactPrintOfUptoRow, standIns := [], harness := (true, "5c095faef8879fa041058dea7d535fc685449b5b6f11feadf33f90b009c0542c"), looks := false }, kinds := [], alts := [], laidByText := true, laidKinds := [.data], laidTests := true, laidLooks := .later }
def FnExactPrintOfUptoCardSaid : Prop := Claim7.holds Tryd.pinned (.plain (OpenSpec.upto fnExactPrintOfSpec)) fnExactPrintOfUptoCard
end Rows
end Go.Proofs.YtoomnimbokbadaaDoor
