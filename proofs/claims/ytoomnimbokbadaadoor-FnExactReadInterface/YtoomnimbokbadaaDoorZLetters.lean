/- The letters and digits of a name: the program's two tests and the model's two answer alike, at every number. No condition. -/
import Derived.Test.YtoomnimbokbadaaDoorRows
import Derived.WalkKit
import Derived.WalkSpells
namespace Go.Proofs.YtoomnimbokbadaaDoor
open Go.RowKit

def letB (n : Int) : Bool := decide ((97 ≤ n ∧ n ≤ 122) ∨ (65 ≤ n ∧ n ≤ 90) ∨ n = 95)
def digB (n : Int) : Bool := decide (48 ≤ n ∧ n ≤ 57)
theorem letB_yes {n : Int} (h : (97 ≤ n ∧ n ≤ 122) ∨ (65 ≤ n ∧ n ≤ 90) ∨ n = 95) : letB n = true := decide_eq_true h
theorem letB_no {n : Int} (h : ¬ ((97 ≤ n ∧ n ≤ 122) ∨ (65 ≤ n ∧ n ≤ 90) ∨ n = 95)) : letB n = false := decide_eq_false h
theorem digB_yes {n : Int} (h : 48 ≤ n ∧ n ≤ 57) : digB n = true := decide_eq_true h
theorem digB_no {n : Int} (h : ¬ (48 ≤ n ∧ n ≤ 57)) : digB n = false := decide_eq_false h
theorem ret_bool {a b : Bool} (h : a = b) : Ending.returned (.bool a) = .returned (.bool b) := by rw [h]


set_option maxHeartbeats 400000 in
theorem isLetter_any (n : Int) (w : World) : Calls Tryd.prog 79 #[.int .i32 n] w fun e w' => e = .returned (.bool (letB n)) ∧ w = w' := by
  go_enter Tryd.func79, Tryd.ntmps79
  go_wp2
  all_goals go_ret
  all_goals refine ⟨ret_bool ?_, rfl⟩
  all_goals first | (refine (letB_yes ?_).symm; omega) | (refine (letB_no ?_).symm; omega) | (unfold letB; rw [Bool.eq_iff_iff]; simp; omega)

set_option maxHeartbeats 400000 in
theorem isDigit_any (n : Int) (w : World) : Calls Tryd.prog 80 #[.int .i32 n] w fun e w' => e = .returned (.bool (digB n)) ∧ w = w' := by
  go_enter Tryd.func80, Tryd.ntmps80
  go_wp2
  all_goals go_ret
  all_goals refine ⟨ret_bool ?_, rfl⟩
  all_goals first | (refine (digB_yes ?_).symm; omega) | (refine (digB_no ?_).symm; omega) | (unfold digB; rw [Bool.eq_iff_iff]; simp; omega)

set_option maxHeartbeats 400000 in
theorem l00Letter_any (n : Int) (w : World) : Calls Tryd.prog 83 #[.int .u8 n] w fun e w' => e = .returned (.bool (letB n)) ∧ w = w' := by
  go_enter Tryd.func83, Tryd.ntmps83
  go_wp2
  all_goals go_ret
  all_goals refine ⟨ret_bool ?_, rfl⟩
  all_goals first | (refine (letB_yes ?_).symm; omega) | (refine (letB_no ?_).symm; omega) | (unfold letB; rw [Bool.eq_iff_iff]; simp; omega)

set_option maxHeartbeats 400000 in
theorem l00Digit_any (n : Int) (w : World) : Calls Tryd.prog 84 #[.int .u8 n] w fun e w' => e = .returned (.bool (digB n)) ∧ w = w' := by
  go_enter Tryd.func84, Tryd.ntmps84
  go_wp2
  all_goals go_ret
  all_goals refine ⟨ret_bool ?_, rfl⟩
  all_goals first | (refine (digB_yes ?_).symm; omega) | (refine (digB_no ?_).symm; omega) | (unfold digB; rw [Bool.eq_iff_iff]; simp; omega)
end Go.Proofs.YtoomnimbokbadaaDoor
