/- The letters and digits of a name: the program's two tests and the model's two answer alike, at every number. No condition. -/
import Derived.Test.YtolchbfbbnkcdaaDoorRows
import Derived.WalkKit
import Derived.WalkSpells
namespace Go.Proofs.YtolchbfbbnkcdaaDoor
open Go.RowKit

def letB (n : Int) : Bool := decide ((97 ≤ n ∧ n ≤ 122) ∨ (65 ≤ n ∧ n ≤ 90) ∨ n = 95)
def digB (n : Int) : Bool := decide (48 ≤ n ∧ n ≤ 57)
theorem letB_yes {n : Int} (h : (97 ≤ n ∧ n ≤ 122) ∨ (65 ≤ n ∧ n ≤ 90) ∨ n = 95) : letB n = true := decide_eq_true h
theorem letB_no {n : Int} (h : ¬ ((97 ≤ n ∧ n ≤ 122) ∨ (65 ≤ n ∧ n ≤ 90) ∨ n = 95)) : letB n = false := decide_eq_false h
theorem digB_yes {n : Int} (h : 48 ≤ n ∧ n ≤ 57) : digB n = true := decide_eq_true h
theorem digB_no {n : Int} (h : ¬ (48 ≤ n ∧ n ≤ 57)) : digB n = false := decide_eq_false h
theorem ret_bool {a b : Bool} (h : a = b) : Ending.returned (.bool a) = .returned (.bool b) := by rw [h]


set_option maxHeartbeats 400000 in
theorem isLetter_any (n : Int) (w : World) : Calls Tryd.prog 24 #[.int .i32 n] w fun e w' => e = .returned (.bool (letB n)) ∧ w = w' := by
  go_enter Tryd.func24, Tryd.ntmps24
  go_wp2
  all_goals go_ret
  all_goals refine ⟨ret_bool ?_, rfl⟩
  all_goals first | (refine (letB_yes ?_).symm; omega) | (refine (letB_no ?_).symm; omega) | (unfold letB; rw [Bool.eq_iff_iff]; simp; omega)

set_option maxHeartbeats 400000 in
theorem isDigit_any (n : Int) (w : World) : Calls Tryd.prog 25 #[.int .i32 n] w fun e w' => e = .returned (.bool (digB n)) ∧ w = w' := by
  go_enter Tryd.func25, Tryd.ntmps25
  go_wp2
  all_goals go_ret
  all_goals refine ⟨ret_bool ?_, rfl⟩
  all_goals first | (refine (digB_yes ?_).symm; omega) | (refine (digB_no ?_).symm; omega) | (unfold digB; rw [Bool.eq_iff_iff]; simp; omega)

set_option maxHeartbeats 400000 in
theorem l00Letter_any (n : Int) (w : World) : Calls Tryd.prog 22 #[.int .u8 n] w fun e w' => e = .returned (.bool (letB n)) ∧ w = w' := by
  go_enter Tryd.func22, Tryd.ntmps22
  go_wp2
  all_goals go_ret
  all_goals refine ⟨ret_bool ?_, rfl⟩
  all_goals first | (refine (letB_yes ?_).symm; omega) | (refine (letB_no ?_).symm; omega) | (unfold letB; rw [Bool.eq_iff_iff]; simp; omega)

set_option maxHeartbeats 400000 in
theorem l00Digit_any (n : Int) (w : World) : Calls Tryd.prog 23 #[.int .u8 n] w fun e w' => e = .returned (.bool (digB n)) ∧ w = w' := by
  go_enter Tryd.func23, Tryd.ntmps23
  go_wp2
  all_goals go_ret
  all_goals refine ⟨ret_bool ?_, rfl⟩
  all_goals first | (refine (digB_yes ?_).symm; omega) | (refine (digB_no ?_).symm; omega) | (unfold digB; rw [Bool.eq_iff_iff]; simp; omega)
end Go.Proofs.YtolchbfbbnkcdaaDoor
