/-
  NARROWER THAN 'FOR EVERY INPUT', by the rows' own cells (each row's printed sentence says how): FnExactFilesOK: laid.
  DERIVED. THE GIVEN ROWS OF THIS SEAT. 1 by the template 'for every input the law returns true; each argument reads behind the call as it read before'; 0 by the template 'total and deterministic' (their statements: YtolchbfbbnkcdaaDoorTotals.lean).
  GIVEN WITH THE SEED: the statements are not yours to turn. If you find one false, say at which input.
  Laid BY PROGRAM, IN A SANDBOX (cutbox-rows.mjs): the forced cells as the released guide's own fill.sh prints them over the translation 22ba4f770bd627bd… (all of the seat's roots in one cut). By AI agents, Wed Nov 11 2026. No macro, syntax, notation, axiom, sorry.
-/
import Derived.Test.YtolchbfbbnkcdaaDoorChecked
import GoSem.Claim
import GoSem.ClaimJoined
import GoSem.ClaimMapViews
import Derived.JoinedTies
import Derived.KernelRfl
namespace Go.Proofs.YtolchbfbbnkcdaaDoor
/- THE CELL 'sum', in the pinned program and in every row, IS THE sha256 OF THE DUMP (.gsa) THAT YtolchbfbbnkcdaaDoorProg.lean LOADS. Nothing in Lean hashes anything: it is a label: what it is worth is what the hold of that sum in a sandbox is worth. -/
noncomputable def Tryd.pinned : Pinned := { name := "ytolchbfbbnkcdaadoor", sum := "22ba4f770bd627bdfb2d4933c819e55187630d79879ce72b000f0988b8435584", checked := Tryd.checked }
namespace Rows
def none {H : Type} : Left H := { results := [], args := [] }

/- WHAT THE LISTED PACKAGE-LEVEL VARIABLES READ AS WHEN THE CALL BEGINS. Each datum BY PROGRAM (the guide's laid-datum.mjs) off the statement by which the dump's own 'gosem.cut.vars' lays the variable. In a bare row this is a premise. The card (YtolchbfbbnkcdaaDoorCards.lean) ties it to the program's text. -/
def laid_loop_example_g00168_impl_keyWords {H : Type} : DataW H := .agg [.lit (.string [77, 79, 68, 85, 76, 69]), .lit (.string [73, 77, 80, 79, 82, 84]), .lit (.string [67, 79, 78, 83, 84]), .lit (.string [86, 65, 82]), .lit (.string [80, 82, 79, 67, 69, 68, 85, 82, 69]), .lit (.string [66, 69, 71, 73, 78]), .lit (.string [69, 78, 68]), .lit (.string [73, 70]), .lit (.string [84, 72, 69, 78]), .lit (.string [69, 76, 83, 73, 70]), .lit (.string [69, 76, 83, 69]), .lit (.string [87, 72, 73, 76, 69]), .lit (.string [68, 79]), .lit (.string [82, 69, 84, 85, 82, 78]), .lit (.string [79, 82]), .lit (.string [68, 73, 86]), .lit (.string [77, 79, 68]), .lit (.string [84, 82, 85, 69]), .lit (.string [70, 65, 76, 83, 69]), .lit (.string [65, 82, 82, 65, 89]), .lit (.string [79, 70]), .lit (.string [73, 78, 84, 69, 71, 69, 82]), .lit (.string [66, 79, 79, 76, 69, 65, 78]), .lit (.string [67, 72, 65, 82]), .lit (.string [87, 82, 73, 84, 69]), .lit (.string [82, 69, 65, 68]), .lit (.string [79, 82, 68]), .lit (.string [67, 72, 82]), .lit (.string [76, 69, 78])]

/-- 'laws.FnExactFilesOK': WHATEVER THE INPUT: true; the input reads as it did. -/
def fnExactFilesOKSpec : ChangeSpec := { name := "fnExactFilesOK", vars := ["loop.example/g00168/impl.keyWords"], fn := fun _ => fun
  | [d, g1] => { results := [.lit (.bool true)], args := [d], vars := [g1] }
  | _ => none }
def fnExactFilesOKRow : OpenClaim := { program := "ytolchbfbbnkcdaadoor", sum := "22ba4f770bd627bdfb2d4933c819e55187630d79879ce72b000f0988b8435584", func := "loop.example/g00168/laws.FnExactFilesOK", spec := "fnExactFilesOK", named := ["loop.example/g00168/impl.keyWords"], apart := false, laid := [("loop.example/g00168/impl.keyWords", laid_loop_example_g00168_impl_keyWords)] }
def FnExactFilesOKSaid : Prop := fnExactFilesOKRow.holds Tryd.pinned (OpenSpec.ofChange fnExactFilesOKSpec)

/-- ITS FALSE NEIGHBOUR: 'it returns false'. Refute it at one input. -/
def fnExactFilesOKWrong : ChangeSpec := { name := "fnExactFilesOK", vars := ["loop.example/g00168/impl.keyWords"], fn := fun _ => fun
  | [d, g1] => { results := [.lit (.bool false)], args := [d], vars := [g1] }
  | _ => none }
def FnExactFilesOKWrongFalsely : Prop := fnExactFilesOKRow.holds Tryd.pinned (OpenSpec.ofChange fnExactFilesOKWrong)

/- THE SECOND FORM. 'bulk': how many values and letters a reading holds, each counted each time it is reached (what is shared counts as often as it is met; a slice's spare places count too). A statement '..UptoSaid' is the law's where the arguments, and the package variables that the reading takes, are together of bulk at most 1048576: NARROWER than '..Said'. Prove '..Said' where nothing that the law and all that it calls make is longer than what came in: it says more and counts as full. Else prove '..UptoSaid'. A law counts once. -/
mutual
def uptoBulk {H : Type} : DataW H → Nat
  | .lit (.string bytes) => bytes.length + 1
  | .lit _ => 1
  | .nil => 1
  | .ptr d => uptoBulk d + 1
  | .slice elems spare => uptoBulkAll elems + uptoBulkAll spare + 1
  | .agg parts => uptoBulkAll parts + 1
  | .iface _ d => uptoBulk d + 1
  | .map entries => uptoBulkEntries entries + 1
  | .held _ => 1
def uptoBulkAll {H : Type} : List (DataW H) → Nat
  | [] => 0
  | d :: r => uptoBulk d + uptoBulkAll r
def uptoBulkEntries {H : Type} : List (Lit × DataW H) → Nat
  | [] => 0
  | x :: r => uptoBulkEntry x + uptoBulkEntries r
def uptoBulkEntry {H : Type} : Lit × DataW H → Nat
  | (.string bytes, d) => bytes.length + uptoBulk d + 1
  | (_, d) => uptoBulk d + 1
 end
def uptoSmall : (H : Type) → List (DataW H) → Bool := fun _ ds => decide (uptoBulkAll ds ≤ 1048576)
def OpenSpec.upto (s : _root_.Go.ChangeSpec) : _root_.Go.OpenSpec := { _root_.Go.OpenSpec.ofChange s with cond := some uptoSmall }

/-- 'laws.FnExactFilesOK', WHERE WHAT IT READS IS OF BULK AT MOST 1048576: true; the input reads as it did. -/
def fnExactFilesOKUptoRow : OpenClaim := { program := "ytolchbfbbnkcdaadoor", sum := "22ba4f770bd627bdfb2d4933c819e55187630d79879ce72b000f0988b8435584", func := "loop.example/g00168/laws.FnExactFilesOK", spec := "fnExactFilesOK", named := ["loop.example/g00168/impl.keyWords"], apart := false, laid := [("loop.example/g00168/impl.keyWords", laid_loop_example_g00168_impl_keyWords)], narrowed := true }
def FnExactFilesOKUptoSaid : Prop := fnExactFilesOKUptoRow.holds Tryd.pinned (OpenSpec.upto fnExactFilesOKSpec)

end Rows
end Go.Proofs.YtolchbfbbnkcdaaDoor
