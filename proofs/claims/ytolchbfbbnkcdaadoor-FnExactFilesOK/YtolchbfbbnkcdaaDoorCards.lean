/-
  DERIVED. GIVEN WITH THE SEED: THE CARDS: each row of YtolchbfbbnkcdaaDoorRows.lean that lists a variable, with what it lists TIED to the program's text (the seventh form; the later family's looks); each row that meets fmt, with fmt's text TOLD by the authors' own Lean function (tested against real Go, not proved from fmt's source: count such statements apart). THE CARD IS WHAT COUNTS. Prove the row's statement (the work); the ties are given (YtolchbfbbnkcdaaDoorTie.lean); close each card by the builder's one call (the guide's Derived/Test/ToyasCard.lean, 'card_holds'). Laid BY PROGRAM, IN A SANDBOX (cutbox-door.mjs). By AI agents, Wed Nov 11 2026. No macro, syntax, notation, axiom, sorry.
-/
import Derived.Test.YtolchbfbbnkcdaaDoorRows
import GoSem.ClaimSeven
namespace Go.Proofs.YtolchbfbbnkcdaaDoor
namespace Rows

/-- THE TIED CARD OF 'laws.FnExactFilesOK'. -/
def fnExactFilesOKCard : Claim7 := { stood := { row := fnExactFilesOKRow, standIns := [], harness := (true, "677f8a89449ce8df90ac4499d1c1a51161cab2dbf163d176dd9df5c00c81b6ea"), looks := false }, kinds := [], alts := [], laidByText := true, laidKinds := [.data], laidTests := true, laidLooks := .later }
def FnExactFilesOKCardSaid : Prop := Claim7.holds Tryd.pinned (.plain (OpenSpec.ofChange fnExactFilesOKSpec)) fnExactFilesOKCard

/-- THE SECOND FORM's CARD OF 'laws.FnExactFilesOK'. -/
def fnExactFilesOKUptoCard : Claim7 := { stood := { row := fnExactFilesOKUptoRow, standIns := [], harness := (true, "677f8a89449ce8df90ac4499d1c1a51161cab2dbf163d176dd9df5c00c81b6ea"), looks := false }, kinds := [], alts := [], laidByText := true, laidKinds := [.data], laidTests := true, laidLooks := .later }
def FnExactFilesOKUptoCardSaid : Prop := Claim7.holds Tryd.pinned (.plain (OpenSpec.upto fnExactFilesOKSpec)) fnExactFilesOKUptoCard
end Rows
end Go.Proofs.YtolchbfbbnkcdaaDoor
