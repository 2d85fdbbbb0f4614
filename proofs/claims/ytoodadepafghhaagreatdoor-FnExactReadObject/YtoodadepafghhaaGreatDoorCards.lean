/-
  DERIVED. GIVEN WITH THE SEED: THE CARDS: each row of YtoodadepafghhaaGreatDoorRows.lean that lists a variable, with what it lists TIED to the program's text (the seventh form; the later family's looks); each row that meets fmt, with fmt's text TOLD by the authors' own Lean function (tested against real Go, not proved from fmt's source: count such statements apart). THE CARD IS WHAT COUNTS. Prove the row's statement (the work); the ties are given (YtoodadepafghhaaGreatDoorTie.lean); close each card by the builder's one call (the guide's Derived/Test/ToyasCard.lean, 'card_holds'). Laid BY PROGRAM, IN A SANDBOX (cutbox-door.mjs). By AI agents, Wed Nov 11 2026. No macro, syntax, notation, axiom, sorry.
-/
import Derived.Test.YtoodadepafghhaaGreatDoorRows
import GoSem.ClaimSeven
namespace Go.Proofs.YtoodadepafghhaaGreatDoor
namespace Rows

/-- THE TIED CARD OF 'laws.FnVerifies'. -/
def fnVerifiesCard : Claim7 := { stood := { row := fnVerifiesRow, standIns := [], harness := (true, "f351b75739d6263005f01c1204315732480b5609c733500f9149f9864860e2cb"), looks := true }, kinds := [], alts := [], laidByText := true, laidKinds := [.data, .data, .data, .handle, .data, .data], laidTests := true, laidLooks := .later }
def FnVerifiesCardSaid : Prop := Claim7.holds Tryz.pinned (.plain (OpenSpec.ofChange fnVerifiesSpec)) fnVerifiesCard

/-- THE TIED CARD OF 'laws.FnExactObjectBytes'. -/
def fnExactObjectBytesCard : Claim7 := { stood := { row := fnExactObjectBytesRow, standIns := [], harness := (true, "f351b75739d6263005f01c1204315732480b5609c733500f9149f9864860e2cb"), looks := true }, kinds := [], alts := [], laidByText := true, laidKinds := [.data, .data, .data, .data, .data], laidTests := true, laidLooks := .later }
def FnExactObjectBytesCardSaid : Prop := Claim7.holds Tryz.pinned (.plain (OpenSpec.ofChange fnExactObjectBytesSpec)) fnExactObjectBytesCard

/-- THE TIED CARD OF 'laws.FnExactReadObject'. -/
def fnExactReadObjectCard : Claim7 := { stood := { row := fnExactReadObjectRow, standIns := [], harness := (true, "f351b75739d6263005f01c1204315732480b5609c733500f9149f9864860e2cb"), looks := true }, kinds := [], alts := [], laidByText := true, laidKinds := [.data, .data, .data, .data, .data], laidTests := true, laidLooks := .later }
def FnExactReadObjectCardSaid : Prop := Claim7.holds Tryz.pinned (.plain (OpenSpec.ofChange fnExactReadObjectSpec)) fnExactReadObjectCard

/-- THE TIED CARD OF 'laws.FnExactListing'. -/
def fnExactListingCard : Claim7 := { stood := { row := fnExactListingRow, standIns := [], harness := (true, "f351b75739d6263005f01c1204315732480b5609c733500f9149f9864860e2cb"), looks := true }, kinds := [], alts := [], laidByText := true, laidKinds := [.data, .data, .data, .handle, .data, .data], laidTests := true, laidLooks := .later }
def FnExactListingCardSaid : Prop := Claim7.holds Tryz.pinned (.plain (OpenSpec.ofChange fnExactListingSpec)) fnExactListingCard

/-- THE SECOND FORM's CARD OF 'laws.FnVerifies'. -/
def fnVerifiesUptoCard : Claim7 := { stood := { row := fnVerifiesUptoRow, standIns := [], harness := (true, "f351b75739d6263005f01c1204315732480b5609c733500f9149f9864860e2cb"), looks := true }, kinds := [], alts := [], laidByText := true, laidKinds := [.data, .data, .data, .handle, .data, .data], laidTests := true, laidLooks := .later }
def FnVerifiesUptoCardSaid : Prop := Claim7.holds Tryz.pinned (.plain (OpenSpec.upto fnVerifiesSpec)) fnVerifiesUptoCard

/-- THE SECOND FORM's CARD OF 'laws.FnExactObjectBytes'. -/
def fnExactObjectBytesUptoCard : Claim7 := { stood := { row := fnExactObjectBytesUptoRow, standIns := [], harness := (true, "f351b75739d6263005f01c1204315732480b5609c733500f9149f9864860e2cb"), looks := true }, kinds := [], alts := [], laidByText := true, laidKinds := [.data, .data, .data, .data, .data], laidTests := true, laidLooks := .later }
def FnExactObjectBytesUptoCardSaid : Prop := Claim7.holds Tryz.pinned (.plain (OpenSpec.upto fnExactObjectBytesSpec)) fnExactObjectBytesUptoCard

/-- THE SECOND FORM's CARD OF 'laws.FnExactReadObject'. -/
def fnExactReadObjectUptoCard : Claim7 := { stood := { row := fnExactReadObjectUptoRow, standIns := [], harness := (true, "f351b75739d6263005f01c1204315732480b5609c733500f9149f9864860e2cb"), looks := true }, kinds := [], alts := [], laidByText := true, laidKinds := [.data, .data, .data, .data, .data], laidTests := true, laidLooks := .later }
def FnExactReadObjectUptoCardSaid : Prop := Claim7.holds Tryz.pinned (.plain (OpenSpec.upto fnExactReadObjectSpec)) fnExactReadObjectUptoCard

/-- THE SECOND FORM's CARD OF 'laws.FnExactListing'. -/
def fnExactListingUptoCard : Claim7 := { stood := { row := fnExactListingUptoRow, standIns := [], harness := (true, "f351b75739d6263005f01c1204315732480b5609c733500f9149f9864860e2cb"), looks := true }, kinds := [], alts := [], laidByText := true, laidKinds := [.data, .data, .data, .handle, .data, .data], laidTests := true, laidLooks := .later }
def FnExactListingUptoCardSaid : Prop := Claim7.holds Tryz.pinned (.plain (OpenSpec.upto fnExactListingSpec)) fnExactListingUptoCard
end Rows
end Go.Proofs.YtoodadepafghhaaGreatDoor
