/-
  DERIVED. GIVEN WITH THE SEED: THE CARDS: each row of YtjficafpkdeibaaDoorRows.lean that lists a variable, with what it lists TIED to the program's text (the seventh form; the later family's looks); each row that meets fmt, with fmt's text TOLD by the authors' own Lean function (tested against real Go, not proved from fmt's source: count such statements apart). THE CARD IS WHAT COUNTS. Prove the row's statement (the work); the ties are given (YtjficafpkdeibaaDoorTie.lean); close each card by the builder's one call (the guide's Derived/Test/ToyasCard.lean, 'card_holds'). Laid BY PROGRAM, IN A SANDBOX (cutbox-door.mjs). By AI agents, Wed Nov 11 2026. No macro, syntax, notation, axiom, sorry.
-/
import Derived.Test.YtjficafpkdeibaaDoorRows
import GoSem.ClaimSeven
namespace Go.Proofs.YtjficafpkdeibaaDoor
namespace Rows

/-- THE TIED CARD OF 'laws.FnExactVerifyCode'. -/
def fnExactVerifyCodeCard : Claim7 := { stood := { row := fnExactVerifyCodeRow, standIns := [], harness := (true, "ef93a25b5efe9abdabf9dfb889fea71a761290c5652ebcdb29ac74acb6f937b5"), looks := true }, kinds := [], alts := [], laidByText := true, laidKinds := [.data, .data, .data, .handle, .data, .data], laidTests := true, laidLooks := .later }
def FnExactVerifyCodeCardSaid : Prop := Claim7.holds Tryd.pinned (.plain (OpenSpec.ofChange fnExactVerifyCodeSpec)) fnExactVerifyCodeCard

/-- THE TIED CARD OF 'laws.FnExactObjectOK'. -/
def fnExactObjectOKCard : Claim7 := { stood := { row := fnExactObjectOKRow, standIns := [], harness := (true, "ef93a25b5efe9abdabf9dfb889fea71a761290c5652ebcdb29ac74acb6f937b5"), looks := true }, kinds := [], alts := [], laidByText := true, laidKinds := [.data, .data, .data, .data, .data], laidTests := true, laidLooks := .later }
def FnExactObjectOKCardSaid : Prop := Claim7.holds Tryd.pinned (.plain (OpenSpec.ofChange fnExactObjectOKSpec)) fnExactObjectOKCard

/-- THE SECOND FORM's CARD OF 'laws.FnExactVerifyCode'. -/
def fnExactVerifyCodeUptoCard : Claim7 := { stood := { row := fnExactVerifyCodeUptoRow, standIns := [], harness := (true, "ef93a25b5efe9abdabf9dfb889fea71a761290c5652ebcdb29ac74acb6f937b5"), looks := true }, kinds := [], alts := [], laidByText := true, laidKinds := [.data, .data, .data, .handle, .data, .data], laidTests := true, laidLooks := .later }
def FnExactVerifyCodeUptoCardSaid : Prop := Claim7.holds Tryd.pinned (.plain (OpenSpec.upto fnExactVerifyCodeSpec)) fnExactVerifyCodeUptoCard

/-- THE SECOND FORM's CARD OF 'laws.FnExactObjectOK'. -/
def fnExactObjectOKUptoCard : Claim7 := { stood := { row := fnExactObjectOKUptoRow, standIns := [], harness := (true, "ef93a25b5efe9abdabf9dfb889fea71a761290c5652ebcdb29ac74acb6f937b5"), looks := true }, kinds := [], alts := [], laidByText := true, laidKinds := [.data, .data, .data, .data, .data], laidTests := true, laidLooks := .later }
def FnExactObjectOKUptoCardSaid : Prop := Claim7.holds Tryd.pinned (.plain (OpenSpec.upto fnExactObjectOKSpec)) fnExactObjectOKUptoCard
end Rows
end Go.Proofs.YtjficafpkdeibaaDoor
