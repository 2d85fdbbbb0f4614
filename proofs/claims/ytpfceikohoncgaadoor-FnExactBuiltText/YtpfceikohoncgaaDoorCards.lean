/-
  DERIVED. GIVEN WITH THE SEED: THE CARDS: each row of YtpfceikohoncgaaDoorRows.lean that lists a variable, with what it lists TIED to the program's text (the seventh form; the later family's looks); each row that meets fmt, with fmt's text TOLD by the authors' own Lean function (tested against real Go, not proved from fmt's source: count such statements apart). THE CARD IS WHAT COUNTS. Prove the row's statement (the work); the ties are given (YtpfceikohoncgaaDoorTie.lean); close each card by the builder's one call (the guide's Derived/Test/ToyasCard.lean, 'card_holds'). Laid BY PROGRAM, IN A SANDBOX (cutbox-door.mjs). By AI agents, Wed Nov 11 2026. No macro, syntax, notation, axiom, sorry.
-/
import Derived.Test.YtpfceikohoncgaaDoorRows
import GoSem.ClaimSeven
namespace Go.Proofs.YtpfceikohoncgaaDoor
namespace Rows

/-- THE TIED CARD OF 'laws.FnExactBuiltText'. -/
def fnExactBuiltTextCard : Claim7 := { stood := { row := fnExactBuiltTextRow, standIns := [], harness := (true, "8fb549a4c7788f795f124897adc11231d153c621f3ab3dd7de87ec74a1811b5c"), looks := false }, kinds := [], alts := [], laidByText := true, laidKinds := [.data, .data, .data, .data], laidTests := true, laidLooks := .later }
def FnExactBuiltTextCardSaid : Prop := Claim7.holds Tryd.pinned (.plain (OpenSpec.ofChange fnExactBuiltTextSpec)) fnExactBuiltTextCard

/-- THE SECOND FORM's CARD OF 'laws.FnExactBuiltText'. -/
def fnExactBuiltTextUptoCard : Claim7 := { stood := { row := fnExactBuiltTextUptoRow, standIns := [], harness := (true, "8fb549a4c7788f795f124897adc11231d153c621f3ab3dd7de87ec74a1811b5c"), looks := false }, kinds := [], alts := [], laidByText := true, laidKinds := [.data, .data, .data, .data], laidTests := true, laidLooks := .later }
def FnExactBuiltTextUptoCardSaid : Prop := Claim7.holds Tryd.pinned (.plain (OpenSpec.upto fnExactBuiltTextSpec)) fnExactBuiltTextUptoCard
end Rows
end Go.Proofs.YtpfceikohoncgaaDoor
