/-
  NARROWER THAN 'FOR EVERY INPUT', by the rows' own cells (each row's printed sentence says how): FnFaces: laid · FnExactInterfaceOK: laid · FnExactInterfaceBytes: laid · FnExactReadInterface: laid · FnExactPrintOf: laid.
  DERIVED. THE GIVEN ROWS OF THIS SEAT. 5 by the template 'for every input the law returns true; each argument reads behind the call as it read before'; 0 by the template 'total and deterministic' (their statements: YtoomnimbokbadaaDoorTotals.lean).
  GIVEN WITH THE SEED: the statements are not yours to turn. If you find one false, say at which input.
  Laid BY PROGRAM, IN A SANDBOX (cutbox-rows.mjs): the forced cells as the released guide's own fill.sh prints them over the translation 0963e75442af5979… (all of the seat's roots in one cut). By AI agents, Wed Nov 11 2026. No macro, syntax, notation, axiom, sorry.
-/
import Derived.Test.YtoomnimbokbadaaDoorChecked
import GoSem.Claim
import GoSem.ClaimJoined
import GoSem.ClaimMapViews
import Derived.JoinedTies
import Derived.KernelRfl
namespace Go.Proofs.YtoomnimbokbadaaDoor
/- THE CELL 'sum', in the pinned program and in every row, IS THE sha256 OF THE DUMP (.gsa) THAT YtoomnimbokbadaaDoorProg.lean LOADS. Nothing in Lean hashes anything: it is a label: what it is worth is what the hold of that sum in a sandbox is worth. -/
noncomputable def Tryd.pinned : Pinned := { name := "ytoomnimbokbadaadoor", sum := "0963e75442af5979154983838345ac4b9270bf7fd9488226ef2e870df6279c91", checked := Tryd.checked }
namespace Rows
def none {H : Type} : Left H := { results := [], args := [] }

/- WHAT THE LISTED PACKAGE-LEVEL VARIABLES READ AS WHEN THE CALL BEGINS. Each datum BY PROGRAM (the guide's laid-datum.mjs) off the statement by which the dump's own 'gosem.cut.vars' lays the variable. In a bare row this is a premise. The card (YtoomnimbokbadaaDoorCards.lean) ties it to the program's text. -/
def laid_loop_example_g00168_impl_keyWords {H : Type} : DataW H := .agg [.lit (.string [77, 79, 68, 85, 76, 69]), .lit (.string [73, 77, 80, 79, 82, 84]), .lit (.string [67, 79, 78, 83, 84]), .lit (.string [86, 65, 82]), .lit (.string [80, 82, 79, 67, 69, 68, 85, 82, 69]), .lit (.string [66, 69, 71, 73, 78]), .lit (.string [69, 78, 68]), .lit (.string [73, 70]), .lit (.string [84, 72, 69, 78]), .lit (.string [69, 76, 83, 73, 70]), .lit (.string [69, 76, 83, 69]), .lit (.string [87, 72, 73, 76, 69]), .lit (.string [68, 79]), .lit (.string [82, 69, 84, 85, 82, 78]), .lit (.string [79, 82]), .lit (.string [68, 73, 86]), .lit (.string [77, 79, 68]), .lit (.string [84, 82, 85, 69]), .lit (.string [70, 65, 76, 83, 69]), .lit (.string [65, 82, 82, 65, 89]), .lit (.string [79, 70]), .lit (.string [73, 78, 84, 69, 71, 69, 82]), .lit (.string [66, 79, 79, 76, 69, 65, 78]), .lit (.string [67, 72, 65, 82]), .lit (.string [87, 82, 73, 84, 69]), .lit (.string [82, 69, 65, 68]), .lit (.string [79, 82, 68]), .lit (.string [67, 72, 82]), .lit (.string [76, 69, 78])]

/-- 'laws.FnFaces': WHATEVER THE INPUT: true; the input reads as it did. -/
def fnFacesSpec : ChangeSpec := { name := "fnFaces", vars := ["loop.example/g00168/impl.keyWords"], fn := fun _ => fun
  | [d1, d2, g1] => { results := [.lit (.bool true)], args := [d1, d2], vars := [g1] }
  | _ => none }
def fnFacesRow : OpenClaim := { program := "ytoomnimbokbadaadoor", sum := "0963e75442af5979154983838345ac4b9270bf7fd9488226ef2e870df6279c91", func := "loop.example/g00168/laws.FnFaces", spec := "fnFaces", unfollowed := true, recurses := true, named := ["loop.example/g00168/impl.keyWords"], apart := false, laid := [("loop.example/g00168/impl.keyWords", laid_loop_example_g00168_impl_keyWords)] }
def FnFacesSaid : Prop := fnFacesRow.holds Tryd.pinned (OpenSpec.ofChange fnFacesSpec)

/-- ITS FALSE NEIGHBOUR: 'it returns false'. Refute it at one input. -/
def fnFacesWrong : ChangeSpec := { name := "fnFaces", vars := ["loop.example/g00168/impl.keyWords"], fn := fun _ => fun
  | [d1, d2, g1] => { results := [.lit (.bool false)], args := [d1, d2], vars := [g1] }
  | _ => none }
def FnFacesWrongFalsely : Prop := fnFacesRow.holds Tryd.pinned (OpenSpec.ofChange fnFacesWrong)

/-- 'laws.FnExactInterfaceOK': WHATEVER THE INPUT: true; the input reads as it did. -/
def fnExactInterfaceOKSpec : ChangeSpec := { name := "fnExactInterfaceOK", vars := ["loop.example/g00168/impl.keyWords"], fn := fun _ => fun
  | [d, g1] => { results := [.lit (.bool true)], args := [d], vars := [g1] }
  | _ => none }
def fnExactInterfaceOKRow : OpenClaim := { program := "ytoomnimbokbadaadoor", sum := "0963e75442af5979154983838345ac4b9270bf7fd9488226ef2e870df6279c91", func := "loop.example/g00168/laws.FnExactInterfaceOK", spec := "fnExactInterfaceOK", unfollowed := true, recurses := true, named := ["loop.example/g00168/impl.keyWords"], apart := false, laid := [("loop.example/g00168/impl.keyWords", laid_loop_example_g00168_impl_keyWords)] }
def FnExactInterfaceOKSaid : Prop := fnExactInterfaceOKRow.holds Tryd.pinned (OpenSpec.ofChange fnExactInterfaceOKSpec)

/-- ITS FALSE NEIGHBOUR: 'it returns false'. Refute it at one input. -/
def fnExactInterfaceOKWrong : ChangeSpec := { name := "fnExactInterfaceOK", vars := ["loop.example/g00168/impl.keyWords"], fn := fun _ => fun
  | [d, g1] => { results := [.lit (.bool false)], args := [d], vars := [g1] }
  | _ => none }
def FnExactInterfaceOKWrongFalsely : Prop := fnExactInterfaceOKRow.holds Tryd.pinned (OpenSpec.ofChange fnExactInterfaceOKWrong)

/-- 'laws.FnExactInterfaceBytes': WHATEVER THE INPUT: true; the input reads as it did. -/
def fnExactInterfaceBytesSpec : ChangeSpec := { name := "fnExactInterfaceBytes", vars := ["loop.example/g00168/impl.keyWords"], fn := fun _ => fun
  | [d, g1] => { results := [.lit (.bool true)], args := [d], vars := [g1] }
  | _ => none }
def fnExactInterfaceBytesRow : OpenClaim := { program := "ytoomnimbokbadaadoor", sum := "0963e75442af5979154983838345ac4b9270bf7fd9488226ef2e870df6279c91", func := "loop.example/g00168/laws.FnExactInterfaceBytes", spec := "fnExactInterfaceBytes", unfollowed := true, recurses := true, named := ["loop.example/g00168/impl.keyWords"], apart := false, laid := [("loop.example/g00168/impl.keyWords", laid_loop_example_g00168_impl_keyWords)] }
def FnExactInterfaceBytesSaid : Prop := fnExactInterfaceBytesRow.holds Tryd.pinned (OpenSpec.ofChange fnExactInterfaceBytesSpec)

/-- ITS FALSE NEIGHBOUR: 'it returns false'. Refute it at one input. -/
def fnExactInterfaceBytesWrong : ChangeSpec := { name := "fnExactInterfaceBytes", vars := ["loop.example/g00168/impl.keyWords"], fn := fun _ => fun
  | [d, g1] => { results := [.lit (.bool false)], args := [d], vars := [g1] }
  | _ => none }
def FnExactInterfaceBytesWrongFalsely : Prop := fnExactInterfaceBytesRow.holds Tryd.pinned (OpenSpec.ofChange fnExactInterfaceBytesWrong)

/-- 'laws.FnExactReadInterface': WHATEVER THE INPUT: true; the input reads as it did. -/
def fnExactReadInterfaceSpec : ChangeSpec := { name := "fnExactReadInterface", vars := ["loop.example/g00168/impl.keyWords"], fn := fun _ => fun
  | [d, g1] => { results := [.lit (.bool true)], args := [d], vars := [g1] }
  | _ => none }
def fnExactReadInterfaceRow : OpenClaim := { program := "ytoomnimbokbadaadoor", sum := "0963e75442af5979154983838345ac4b9270bf7fd9488226ef2e870df6279c91", func := "loop.example/g00168/laws.FnExactReadInterface", spec := "fnExactReadInterface", unfollowed := true, recurses := true, named := ["loop.example/g00168/impl.keyWords"], apart := false, laid := [("loop.example/g00168/impl.keyWords", laid_loop_example_g00168_impl_keyWords)] }
def FnExactReadInterfaceSaid : Prop := fnExactReadInterfaceRow.holds Tryd.pinned (OpenSpec.ofChange fnExactReadInterfaceSpec)

/-- ITS FALSE NEIGHBOUR: 'it returns false'. Refute it at one input. -/
def fnExactReadInterfaceWrong : ChangeSpec := { name := "fnExactReadInterface", vars := ["loop.example/g00168/impl.keyWords"], fn := fun _ => fun
  | [d, g1] => { results := [.lit (.bool false)], args := [d], vars := [g1] }
  | _ => none }
def FnExactReadInterfaceWrongFalsely : Prop := fnExactReadInterfaceRow.holds Tryd.pinned (OpenSpec.ofChange fnExactReadInterfaceWrong)

/-- 'laws.FnExactPrintOf': WHATEVER THE INPUT: true; the input reads as it did. -/
def fnExactPrintOfSpec : ChangeSpec := { name := "fnExactPrintOf", vars := ["loop.example/g00168/impl.keyWords"], fn := fun _ => fun
  | [d, g1] => { results := [.lit (.bool true)], args := [d], vars := [g1] }
  | _ => none }
def fnExactPrintOfRow : OpenClaim := { program := "ytoomnimbokbadaadoor", sum := "0963e75442af5979154983838345ac4b9270bf7fd9488226ef2e870df6279c91", func := "loop.example/g00168/laws.FnExactPrintOf", spec := "fnExactPrintOf", unfollowed := true, recurses := true, named := ["loop.example/g00168/impl.keyWords"], apart := false, laid := [("loop.example/g00168/impl.keyWords", laid_loop_example_g00168_impl_keyWords)] }
def FnExactPrintOfSaid : Prop := fnExactPrintOfRow.holds Tryd.pinned (OpenSpec.ofChange fnExactPrintOfSpec)

/-- ITS FALSE NEIGHBOUR: 'it returns false'. Refute it at one input. -/
def fnExactPrintOfWrong : ChangeSpec := { name := "fnExactPrintOf", vars := ["loop.example/g00168/impl.keyWords"], fn := fun _ => fun
  | [d, g1] => { results := [.lit (.bool false)], args := [d], vars := [g1] }
  | _ => none }
def FnExactPrintOfWrongFalsely : Prop := fnExactPrintOfRow.holds Tryd.pinned (OpenSpec.ofChange fnExactPrintOfWrong)

/- THE SECOND FORM. 'bulk': how many values and letters a reading holds, each counted each time it is reached (what is shared counts as often as it is met; a slice's spare places count too). A statement '..UptoSaid' is the law's where the arguments, and the package variables that the reading takes, are together of bulk at most 1048576: NARROWER than '..Said'. Prove '..Said' where nothing that the law and all that it calls make is longer than what came in: it says more and counts as full. Else prove '..UptoSaid'. A law counts once. -/
mutual
def uptoBulk {H : Type} : DataW H → Nat
  | .lit (.string bytes) => bytes.length + 1
  | .lit _ => 1
  | .nil => 1
  | .ptr d => uptoBulk d + 1
  | .slice elems spare => uptoBulkAll elems + uptoBulkAll spare + 1
  | .agg parts => uptoBulkAll parts + 1
  | .iface _ d => uptoBulk d + 1
  | .map entries => uptoBulkEntries entries + 1
  | .held _ => 1
def uptoBulkAll {H : Type} : List (DataW H) → Nat
  | [] => 0
  | d :: r => uptoBulk d + uptoBulkAll r
def uptoBulkEntries {H : Type} : List (Lit × DataW H) → Nat
  | [] => 0
  | x :: r => uptoBulkEntry x + uptoBulkEntries r
def uptoBulkEntry {H : Type} : Lit × DataW H → Nat
  | (.string bytes, d) => bytes.length + uptoBulk d + 1
  | (_, d) => uptoBulk d + 1
 end
def uptoSmall : (H : Type) → List (DataW H) → Bool := fun _ ds => decide (uptoBulkAll ds ≤ 1048576)
def OpenSpec.upto (s : _root_.Go.ChangeSpec) : _root_.Go.OpenSpec := { _root_.Go.OpenSpec.ofChange s with cond := some uptoSmall }

/-- 'laws.FnFaces', WHERE WHAT IT READS IS OF BULK AT MOST 1048576: true; the input reads as it did. -/
def fnFacesUptoRow : OpenClaim := { program := "ytoomnimbokbadaadoor", sum := "0963e75442af5979154983838345ac4b9270bf7fd9488226ef2e870df6279c91", func := "loop.example/g00168/laws.FnFaces", spec := "fnFaces", unfollowed := true, recurses := true, named := ["loop.example/g00168/impl.keyWords"], apart := false, laid := [("loop.example/g00168/impl.keyWords", laid_loop_example_g00168_impl_keyWords)], narrowed := true }
def FnFacesUptoSaid : Prop := fnFacesUptoRow.holds Tryd.pinned (OpenSpec.upto fnFacesSpec)

/-- 'laws.FnExactInterfaceOK', WHERE WHAT IT READS IS OF BULK AT MOST 1048576: true; the input reads as it did. -/
def fnExactInterfaceOKUptoRow : OpenClaim := { program := "ytoomnimbokbadaadoor", sum := "0963e75442af5979154983838345ac4b9270bf7fd9488226ef2e870df6279c91", func := "loop.example/g00168/laws.FnExactInterfaceOK", spec := "fnExactInterfaceOK", unfollowed := true, recurses := true, named := ["loop.example/g00168/impl.keyWords"], apart := false, laid := [("loop.example/g00168/impl.keyWords", laid_loop_example_g00168_impl_keyWords)], narrowed := true }
def FnExactInterfaceOKUptoSaid : Prop := fnExactInterfaceOKUptoRow.holds Tryd.pinned (OpenSpec.upto fnExactInterfaceOKSpec)

/-- 'laws.FnExactInterfaceBytes', WHERE WHAT IT READS IS OF BULK AT MOST 1048576: true; the input reads as it did. -/
def fnExactInterfaceBytesUptoRow : OpenClaim := { program := "ytoomnimbokbadaadoor", sum := "0963e75442af5979154983838345ac4b9270bf7fd9488226ef2e870df6279c91", func := "loop.example/g00168/laws.FnExactInterfaceBytes", spec := "fnExactInterfaceBytes", unfollowed := true, recurses := true, named := ["loop.example/g00168/impl.keyWords"], apart := false, laid := [("loop.example/g00168/impl.keyWords", laid_loop_example_g00168_impl_keyWords)], narrowed := true }
def FnExactInterfaceBytesUptoSaid : Prop := fnExactInterfaceBytesUptoRow.holds Tryd.pinned (OpenSpec.upto fnExactInterfaceBytesSpec)

/-- 'laws.FnExactReadInterface', WHERE WHAT IT READS IS OF BULK AT MOST 1048576: true; the input reads as it did. -/
def fnExactReadInterfaceUptoRow : OpenClaim := { program := "ytoomnimbokbadaadoor", sum := "0963e75442af5979154983838345ac4b9270bf7fd9488226ef2e870df6279c91", func := "loop.example/g00168/laws.FnExactReadInterface", spec := "fnExactReadInterface", unfollowed := true, recurses := true, named := ["loop.example/g00168/impl.keyWords"], apart := false, laid := [("loop.example/g00168/impl.keyWords", laid_loop_example_g00168_impl_keyWords)], narrowed := true }
def FnExactReadInterfaceUptoSaid : Prop := fnExactReadInterfaceUptoRow.holds Tryd.pinned (OpenSpec.upto fnExactReadInterfaceSpec)

/-- 'laws.FnExactPrintOf', WHERE WHAT IT READS IS OF BULK AT MOST 1048576: true; the input reads as it did. -/
def fnExactPrintOfUptoRow : OpenClaim := { program := "ytoomnimbokbadaadoor", sum := "0963e75442af5979154983838345ac4b9270bf7fd9488226ef2e870df6279c91", func := "loop.example/g00168/laws.FnExactPrintOf", spec := "fnExactPrintOf", unfollowed := true, recurses := true, named := ["loop.example/g00168/impl.keyWords"], apart := false, laid := [("loop.example/g00168/impl.keyWords", laid_loop_example_g00168_impl_keyWords)], narrowed := true }
def FnExactPrintOfUptoSaid : Prop := fnExactPrintOfUptoRow.holds Tryd.pinned (OpenSpec.upto fnExactPrintOfSpec)

end Rows
end Go.Proofs.YtoomnimbokbadaaDoor
