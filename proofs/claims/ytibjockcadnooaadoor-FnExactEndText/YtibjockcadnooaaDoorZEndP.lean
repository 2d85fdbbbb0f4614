/- How a run's end is told: the data. No condition. -/
import Derived.Test.YtibjockcadnooaaDoorZLineOf
import Derived.Test.YtibjockcadnooaaDoorZEndEq
namespace Go.Proofs.YtibjockcadnooaaDoor
open Go.RowKit

def endWs : List (List UInt8) := [[], [104, 97, 108, 116], [116, 114, 97, 112], [102, 117, 101, 108], [114, 111, 111, 109]]
def trapWs : List (List UInt8) := [[], [122, 101, 114, 111], [105, 110, 100, 101, 120], [99, 104, 97, 114], [105, 110, 112, 117, 116], [114, 101, 115, 117, 108, 116]]
def endU (e t : Int) : List UInt8 := if e = 1 then [104, 97, 108, 116, 10] else if e = 2 then [116, 114, 97, 112, 32] ++ trapWs.getD t.toNat [] ++ [10] else if e = 3 then [102, 117, 101, 108, 10] else [114, 111, 111, 109, 10]
/-- The cases: 0 to 2 no trap, 3 to 7 the traps, else none. -/
def EndOK (e t : Int) : Prop := (1 ≤ e ∧ e ≤ 4) ∧ ((1 ≤ t ∧ t ≤ 5) ↔ e = 2)
instance (e t : Int) : Decidable (EndOK e t) := by unfold EndOK; exact inferInstance
def endT (e t : Int) : ByteArray := if EndOK e t then ⟨(endU e t).toArray⟩ else ⟨#[]⟩
def endC (e t : Int) : Int := if EndOK e t then 0 else 1
theorem end_bad {e t : Int} (h : ¬ EndOK e t) : endT e t = ⟨#[]⟩ ∧ endC e t = 1 := by simp [endT, endC, h]
theorem end_ok {e t : Int} (h : EndOK e t) : endT e t = ⟨(endU e t).toArray⟩ ∧ endC e t = 0 := by simp [endT, endC, h]
end Go.Proofs.YtibjockcadnooaaDoor
