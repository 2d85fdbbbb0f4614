/-
  DERIVED. GIVEN WITH THE SEED: THE CARDS: each row of YtfbglokjehmgeaaGreatDoorRows.lean that lists a variable, with what it lists TIED to the program's text (the seventh form; the later family's looks); each row that meets fmt, with fmt's text TOLD by the authors' own Lean function (tested against real Go, not proved from fmt's source: count such statements apart). THE CARD IS WHAT COUNTS. Prove the row's statement (the work); the ties are given (YtfbglokjehmgeaaGreatDoorTie.lean); close each card by the builder's one call (the guide's Derived/Test/ToyasCard.lean, 'card_holds'). Laid BY PROGRAM, IN A SANDBOX (cutbox-door.mjs). By AI agents, Wed Nov 11 2026. No macro, syntax, notation, axiom, sorry.
-/
import Derived.Test.YtfbglokjehmgeaaGreatDoorRows
import GoSem.ClaimSeven
namespace Go.Proofs.YtfbglokjehmgeaaGreatDoor
namespace Rows

/-- THE TIED CARD OF 'laws.FnExactLink'. -/
def fnExactLinkCard : Claim7 := { stood := { row := fnExactLinkRow, standIns := [], harness := (true, "481f6778e9efb07ba440bee484c259b633445a49d0649f3889de7f32e24253fc"), looks := true }, kinds := [], alts := [], laidByText := true, laidKinds := [.data, .data, .data, .handle, .data, .data], laidTests := true, laidLooks := .later }
def FnExactLinkCardSaid : Prop := Claim7.holds Tryz.pinned (.plain (OpenSpec.ofChange fnExactLinkSpec)) fnExactLinkCard

/-- THE SECOND FORM's CARD OF 'laws.FnExactLink'. -/
def fnExactLinkUptoCard : Claim7 := { stood := { row := fnExactLinkUptoRow, standIns := [], harness := (true, "481f6778e9efb07ba440bee484c259b633445a49d0649f3889de7f32e24253fc"), looks := true }, kinds := [], alts := [], laidByText := true, laidKinds := [.data, .data, .data, .handle, .data, .data], laidTests := true, laidLooks := .later }
def FnExactLinkUptoCardSaid : Prop := Claim7.holds Tryz.pinned (.plain (OpenSpec.upto fnExactLinkSpec)) fnExactLinkUptoCard
end Rows
end Go.Proofs.YtfbglokjehmgeaaGreatDoor
