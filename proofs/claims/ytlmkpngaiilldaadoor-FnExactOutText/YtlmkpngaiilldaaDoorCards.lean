/-
  DERIVED. GIVEN WITH THE SEED: THE CARDS: each row of YtlmkpngaiilldaaDoorRows.lean that lists a variable, with what it lists TIED to the program's text (the seventh form; the later family's looks); each row that meets fmt, with fmt's text TOLD by the authors' own Lean function (tested against real Go, not proved from fmt's source: count such statements apart). THE CARD IS WHAT COUNTS. Prove the row's statement (the work); the ties are given (YtlmkpngaiilldaaDoorTie.lean); close each card by the builder's one call (the guide's Derived/Test/ToyasCard.lean, 'card_holds'). Laid BY PROGRAM, IN A SANDBOX (cutbox-door.mjs). By AI agents, Wed Nov 11 2026. No macro, syntax, notation, axiom, sorry.
-/
import Derived.Test.YtlmkpngaiilldaaDoorRows
import GoSem.ClaimSeven
namespace Go.Proofs.YtlmkpngaiilldaaDoor
namespace Rows

/-- THE TIED CARD OF 'laws.FnExactImageOK'. -/
def fnExactImageOKCard : Claim7 := { stood := { row := fnExactImageOKRow, standIns := [], harness := (true, "c0cc0807a7f866f194a95ab74d70c2432e6e88b7ce723e80017c056daccfd80f"), looks := false }, kinds := [], alts := [], laidByText := true, laidKinds := [.data, .data, .data, .data, .data], laidTests := true, laidLooks := .later }
def FnExactImageOKCardSaid : Prop := Claim7.holds Tryd.pinned (.plain (OpenSpec.ofChange fnExactImageOKSpec)) fnExactImageOKCard

/-- THE TIED CARD OF 'laws.FnExactOutText'. -/
def fnExactOutTextCard : Claim7 := { stood := { row := fnExactOutTextRow, standIns := [], harness := (true, "c0cc0807a7f866f194a95ab74d70c2432e6e88b7ce723e80017c056daccfd80f"), looks := false }, kinds := [], alts := [], laidByText := true, laidKinds := [.data, .data, .data, .data, .pinned, .pinned], laidTests := true, laidLooks := .later }
def FnExactOutTextCardSaid : Prop := Claim7.holds Tryd.pinned (.plain (OpenSpec.ofChange fnExactOutTextSpec)) fnExactOutTextCard

/-- THE SECOND FORM's CARD OF 'laws.FnExactImageOK'. -/
def fnExactImageOKUptoCard : Claim7 := { stood := { row := fnExactImageOKUptoRow, standIns := [], harness := (true, "c0cc0807a7f866f194a95ab74d70c2432e6e88b7ce723e80017c056daccfd80f"), looks := false }, kinds := [], alts := [], laidByText := true, laidKinds := [.data, .data, .data, .data, .data], laidTests := true, laidLooks := .later }
def FnExactImageOKUptoCardSaid : Prop := Claim7.holds Tryd.pinned (.plain (OpenSpec.upto fnExactImageOKSpec)) fnExactImageOKUptoCard

/-- THE SECOND FORM's CARD OF 'laws.FnExactOutText'. -/
def fnExactOutTextUptoCard : Claim7 := { stood := { row := fnExactOutTextUptoRow, standIns := [], harness := (true, "c0cc0807a7f866f194a95ab74d70c2432e6e88b7ce723e80017c056daccfd80f"), looks := false }, kinds := [], alts := [], laidByText := true, laidKinds := [.data, .data, .data, .data, .pinned, .pinned], laidTests := true, laidLooks := .later }
def FnExactOutTextUptoCardSaid : Prop := Claim7.holds Tryd.pinned (.plain (OpenSpec.upto fnExactOutTextSpec)) fnExactOutTextUptoCard
end Rows
end Go.Proofs.YtlmkpngaiilldaaDoor
