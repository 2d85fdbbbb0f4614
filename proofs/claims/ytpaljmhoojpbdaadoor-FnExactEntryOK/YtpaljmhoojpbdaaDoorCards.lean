/-
  DERIVED. GIVEN WITH THE SEED: THE CARDS: each row of YtpaljmhoojpbdaaDoorRows.lean that lists a variable, with what it lists TIED to the program's text (the seventh form; the later family's looks); each row that meets fmt, with fmt's text TOLD by the authors' own Lean function (tested against real Go, not proved from fmt's source: count such statements apart). THE CARD IS WHAT COUNTS. Prove the row's statement (the work); the ties are given (YtpaljmhoojpbdaaDoorTie.lean); close each card by the builder's one call (the guide's Derived/Test/ToyasCard.lean, 'card_holds'). Laid BY PROGRAM, IN A SANDBOX (cutbox-door.mjs). By AI agents, Wed Nov 11 2026. No macro, syntax, notation, axiom, sorry.
-/
import Derived.Test.YtpaljmhoojpbdaaDoorRows
import GoSem.ClaimSeven
namespace Go.Proofs.YtpaljmhoojpbdaaDoor
namespace Rows

/-- THE TIED CARD OF 'laws.FnExactVerifyCode'. -/
def fnExactVerifyCodeCard : Claim7 := { stood := { row := fnExactVerifyCodeRow, standIns := [], harness := (true, "98f1258c2724d5924b281bcd4deb7c88d0add878776e17f52625b8101d146fa3"), looks := true }, kinds := [], alts := [], laidByText := true, laidKinds := [.data, .data, .data, .handle, .data, .data], laidTests := true, laidLooks := .later }
def FnExactVerifyCodeCardSaid : Prop := Claim7.holds Tryd.pinned (.plain (OpenSpec.ofChange fnExactVerifyCodeSpec)) fnExactVerifyCodeCard

/-- THE TIED CARD OF 'laws.FnExactObjectOK'. -/
def fnExactObjectOKCard : Claim7 := { stood := { row := fnExactObjectOKRow, standIns := [], harness := (true, "98f1258c2724d5924b281bcd4deb7c88d0add878776e17f52625b8101d146fa3"), looks := true }, kinds := [], alts := [], laidByText := true, laidKinds := [.data, .data, .data, .data, .data], laidTests := true, laidLooks := .later }
def FnExactObjectOKCardSaid : Prop := Claim7.holds Tryd.pinned (.plain (OpenSpec.ofChange fnExactObjectOKSpec)) fnExactObjectOKCard

/-- THE TIED CARD OF 'laws.FnExactEntryOK'. -/
def fnExactEntryOKCard : Claim7 := { stood := { row := fnExactEntryOKRow, standIns := [], harness := (true, "98f1258c2724d5924b281bcd4deb7c88d0add878776e17f52625b8101d146fa3"), looks := true }, kinds := [], alts := [], laidByText := true, laidKinds := [.data, .data, .data, .data, .data], laidTests := true, laidLooks := .later }
def FnExactEntryOKCardSaid : Prop := Claim7.holds Tryd.pinned (.plain (OpenSpec.ofChange fnExactEntryOKSpec)) fnExactEntryOKCard

/-- THE SECOND FORM's CARD OF 'laws.FnExactVerifyCode'. -/
def fnExactVerifyCodeUptoCard : Claim7 := { stood := { row := fnExactVerifyCodeUptoRow, standIns := [], harness := (true, "98f1258c2724d5924b281bcd4deb7c88d0add878776e17f52625b8101d146fa3"), looks := true }, kinds := [], alts := [], laidByText := true, laidKinds := [.data, .data, .data, .handle, .data, .data], laidTests := true, laidLooks := .later }
def FnExactVerifyCodeUptoCardSaid : Prop := Claim7.holds Tryd.pinned (.plain (OpenSpec.upto fnExactVerifyCodeSpec)) fnExactVerifyCodeUptoCard

/-- THE SECOND FORM's CARD OF 'laws.FnExactObjectOK'. -/
def fnExactObjectOKUptoCard : Claim7 := { stood := { row := fnExactObjectOKUptoRow, standIns := [], harness := (true, "98f1258c2724d5924b281bcd4deb7c88d0add878776e17f52625b8101d146fa3"), looks := true }, kinds := [], alts := [], laidByText := true, laidKinds := [.data, .data, .data, .data, .data], laidTests := true, laidLooks := .later }
def FnExactObjectOKUptoCardSaid : Prop := Claim7.holds Tryd.pinned (.plain (OpenSpec.upto fnExactObjectOKSpec)) fnExactObjectOKUptoCard

/-- THE SECOND FORM's CARD OF 'laws.FnExactEntryOK'. -/
def fnExactEntryOKUptoCard : Claim7 := { stood := { row := fnExactEntryOKUptoRow, standIns := [], harness := (true, "98f1258c2724d5924b281bcd4deb7c88d0add878776e17f52625b8101d146fa3"), looks := true }, kinds := [], alts := [], laidByText := true, laidKinds := [.data, .data, .data, .data, .data], laidTests := true, laidLooks := .later }
def FnExactEntryOKUptoCardSaid : Prop := Claim7.holds Tryd.pinned (.plain (OpenSpec.upto fnExactEntryOKSpec)) fnExactEntryOKUptoCard
end Rows
end Go.Proofs.YtpaljmhoojpbdaaDoor
