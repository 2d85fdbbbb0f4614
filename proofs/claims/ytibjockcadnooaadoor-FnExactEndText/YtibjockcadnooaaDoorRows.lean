/-
  NARROWER THAN 'FOR EVERY INPUT', by the rows' own cells (each row's printed sentence says how): FnExactEndText: laid.
  DERIVED. THE GIVEN ROWS OF THIS SEAT. 1 by the template 'for every input the law returns true; each argument reads behind the call as it read before'; 0 by the template 'total and deterministic' (their statements: YtibjockcadnooaaDoorTotals.lean).
  GIVEN WITH THE SEED: the statements are not yours to turn. If you find one false, say at which input.
  Laid BY PROGRAM, IN A SANDBOX (cutbox-rows.mjs): the forced cells as the released guide's own fill.sh prints them over the translation 84127576130371d7… (all of the seat's roots in one cut). By AI agents, Wed Nov 11 2026. No macro, syntax, notation, axiom, sorry.
-/
import Derived.Test.YtibjockcadnooaaDoorChecked
import GoSem.Claim
import GoSem.ClaimJoined
import GoSem.ClaimMapViews
import Derived.JoinedTies
import Derived.KernelRfl
namespace Go.Proofs.YtibjockcadnooaaDoor
/- THE CELL 'sum', in the pinned program and in every row, IS THE sha256 OF THE DUMP (.gsa) THAT YtibjockcadnooaaDoorProg.lean LOADS. Nothing in Lean hashes anything: it is a label: what it is worth is what the hold of that sum in a sandbox is worth. -/
noncomputable def Tryd.pinned : Pinned := { name := "ytibjockcadnooaadoor", sum := "84127576130371d77989987eeb2a845ba1112ea3e28466be94a34cdde3b79a5d", checked := Tryd.checked }
namespace Rows
def none {H : Type} : Left H := { results := [], args := [] }

/- WHAT THE LISTED PACKAGE-LEVEL VARIABLES READ AS WHEN THE CALL BEGINS. Each datum BY PROGRAM (the guide's laid-datum.mjs) off the statement by which the dump's own 'gosem.cut.vars' lays the variable. In a bare row this is a premise. The card (YtibjockcadnooaaDoorCards.lean) ties it to the program's text. -/
def laid_loop_example_g00168_impl_endWords {H : Type} : DataW H := .agg [.lit (.string []), .lit (.string [104, 97, 108, 116]), .lit (.string [116, 114, 97, 112]), .lit (.string [102, 117, 101, 108]), .lit (.string [114, 111, 111, 109])]
def laid_loop_example_g00168_impl_trapWords {H : Type} : DataW H := .agg [.lit (.string []), .lit (.string [122, 101, 114, 111]), .lit (.string [105, 110, 100, 101, 120]), .lit (.string [99, 104, 97, 114]), .lit (.string [105, 110, 112, 117, 116]), .lit (.string [114, 101, 115, 117, 108, 116])]

/-- 'laws.FnExactEndText': WHATEVER THE INPUT: true; the input reads as it did. -/
def fnExactEndTextSpec : ChangeSpec := { name := "fnExactEndText", vars := ["loop.example/g00168/impl.endWords", "loop.example/g00168/impl.trapWords"], fn := fun _ => fun
  | [d, g1, g2] => { results := [.lit (.bool true)], args := [d], vars := [g1, g2] }
  | _ => none }
def fnExactEndTextRow : OpenClaim := { program := "ytibjockcadnooaadoor", sum := "84127576130371d77989987eeb2a845ba1112ea3e28466be94a34cdde3b79a5d", func := "loop.example/g00168/laws.FnExactEndText", spec := "fnExactEndText", inPlace := ["internal/abi.NoEscape", "internal/bytealg.MakeNoZero"], named := ["loop.example/g00168/impl.endWords", "loop.example/g00168/impl.trapWords"], apart := false, laid := [("loop.example/g00168/impl.endWords", laid_loop_example_g00168_impl_endWords), ("loop.example/g00168/impl.trapWords", laid_loop_example_g00168_impl_trapWords)] }
def FnExactEndTextSaid : Prop := fnExactEndTextRow.holds Tryd.pinned (OpenSpec.ofChange fnExactEndTextSpec)

/-- ITS FALSE NEIGHBOUR: 'it returns false'. Refute it at one input. -/
def fnExactEndTextWrong : ChangeSpec := { name := "fnExactEndText", vars := ["loop.example/g00168/impl.endWords", "loop.example/g00168/impl.trapWords"], fn := fun _ => fun
  | [d, g1, g2] => { results := [.lit (.bool false)], args := [d], vars := [g1, g2] }
  | _ => none }
def FnExactEndTextWrongFalsely : Prop := fnExactEndTextRow.holds Tryd.pinned (OpenSpec.ofChange fnExactEndTextWrong)

/- THE SECOND FORM. 'bulk': how many values and letters a reading holds, each counted each time it is reached (what is shared counts as often as it is met; a slice's spare places count too). A statement '..UptoSaid' is the law's where the arguments, and the package variables that the reading takes, are together of bulk at most 1048576: NARROWER than '..Said'. Prove '..Said' where nothing that the law and all that it calls make is longer than what came in: it says more and counts as full. Else prove '..UptoSaid'. A law counts once. -/
mutual
def uptoBulk {H : Type} : DataW H → Nat
  | .lit (.string bytes) => bytes.length + 1
  | .lit _ => 1
  | .nil => 1
  | .ptr d => uptoBulk d + 1
  | .slice elems spare => uptoBulkAll elems + uptoBulkAll spare + 1
  | .agg parts => uptoBulkAll parts + 1
  | .iface _ d => uptoBulk d + 1
  | .map entries => uptoBulkEntries entries + 1
  | .held _ => 1
def uptoBulkAll {H : Type} : List (DataW H) → Nat
  | [] => 0
  | d :: r => uptoBulk d + uptoBulkAll r
def uptoBulkEntries {H : Type} : List (Lit × DataW H) → Nat
  | [] => 0
  | x :: r => uptoBulkEntry x + uptoBulkEntries r
def uptoBulkEntry {H : Type} : Lit × DataW H → Nat
  | (.string bytes, d) => bytes.length + uptoBulk d + 1
  | (_, d) => uptoBulk d + 1
 end
def uptoSmall : (H : Type) → List (DataW H) → Bool := fun _ ds => decide (uptoBulkAll ds ≤ 1048576)
def OpenSpec.upto (s : _root_.Go.ChangeSpec) : _root_.Go.OpenSpec := { _root_.Go.OpenSpec.ofChange s with cond := some uptoSmall }

/-- 'laws.FnExactEndText', WHERE WHAT IT READS IS OF BULK AT MOST 1048576: true; the input reads as it did. -/
def fnExactEndTextUptoRow : OpenClaim := { program := "ytibjockcadnooaadoor", sum := "84127576130371d77989987eeb2a845ba1112ea3e28466be94a34cdde3b79a5d", func := "loop.example/g00168/laws.FnExactEndText", spec := "fnExactEndText", inPlace := ["internal/abi.NoEscape", "internal/bytealg.MakeNoZero"], named := ["loop.example/g00168/impl.endWords", "loop.example/g00168/impl.trapWords"], apart := false, laid := [("loop.example/g00168/impl.endWords", laid_loop_example_g00168_impl_endWords), ("loop.example/g00168/impl.trapWords", laid_loop_example_g00168_impl_trapWords)], narrowed := true }
def FnExactEndTextUptoSaid : Prop := fnExactEndTextUptoRow.holds Tryd.pinned (OpenSpec.upto fnExactEndTextSpec)

end Rows
end Go.Proofs.YtibjockcadnooaaDoor
