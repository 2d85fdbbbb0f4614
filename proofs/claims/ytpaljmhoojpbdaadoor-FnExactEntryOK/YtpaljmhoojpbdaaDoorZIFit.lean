/- Each test of the program's table: whether A is within its bounds. No condition. -/
import Derived.Test.YtpaljmhoojpbdaaDoorZOps
import Derived.Test.YtpaljmhoojpbdaaDoorZVerS0
namespace Go.Proofs.YtpaljmhoojpbdaaDoor
open Go.RowKit

theorem fit_anyNumber (op a b : Int) (mod name cn : ByteArray) (params cells result : Int) (pa : Option Addr) (n c : Nat) (w : World) : Calls Tryd.prog 79 #[.agg #[.int .i64 op, .int .i64 a, .int .i64 b, .string mod, .string name], .agg #[.string cn, .int .i64 params, .int .i64 cells, .int .i64 result, .slice pa n c]] w fun e w' => e = .returned (.bool (true)) ∧ Gw w w' := by
  go_enter Tryd.func79, Tryd.ntmps79
  go_wp2
  go_ret
  exact ⟨ret_bool (by rfl), by first | exact Gw.refl _ | exact Gw.one _ _ | exact (Gw.one _ _).trans (Gw.one _ _)⟩
theorem fit_noNumber (op a b : Int) (mod name cn : ByteArray) (params cells result : Int) (pa : Option Addr) (n c : Nat) (w : World) : Calls Tryd.prog 82 #[.agg #[.int .i64 op, .int .i64 a, .int .i64 b, .string mod, .string name], .agg #[.string cn, .int .i64 params, .int .i64 cells, .int .i64 result, .slice pa n c]] w fun e w' => e = .returned (.bool (decide (a = 0))) ∧ Gw w w' := by
  go_enter Tryd.func82, Tryd.ntmps82
  go_wp2
  go_ret
  exact ⟨ret_bool (by first | rfl | simp), by first | exact Gw.refl _ | exact Gw.one _ _ | exact (Gw.one _ _).trans (Gw.one _ _)⟩
theorem fit_cellNumber (op a b : Int) (mod name cn : ByteArray) (params cells result : Int) (pa : Option Addr) (n c : Nat) (w : World) : Calls Tryd.prog 80 #[.agg #[.int .i64 op, .int .i64 a, .int .i64 b, .string mod, .string name], .agg #[.string cn, .int .i64 params, .int .i64 cells, .int .i64 result, .slice pa n c]] w fun e w' => e = .returned (.bool (decide (0 ≤ a) && decide (a < cells))) ∧ Gw w w' := by
  by_cases h1 : 0 ≤ a
  · by_cases h2 : a < cells
    · skip
      go_enter Tryd.func80, Tryd.ntmps80
      go_wp2
      go_ret
      exact ⟨ret_bool (by simp [h1, h2]), by first | exact Gw.refl _ | exact Gw.one _ _ | exact (Gw.one _ _).trans (Gw.one _ _)⟩
    · skip
      go_enter Tryd.func80, Tryd.ntmps80
      go_wp2
      go_ret
      exact ⟨ret_bool (by simp; omega), by first | exact Gw.refl _ | exact Gw.one _ _ | exact (Gw.one _ _).trans (Gw.one _ _)⟩
  · skip
    go_enter Tryd.func80, Tryd.ntmps80
    go_wp2
    go_ret
    exact ⟨ret_bool (by simp; omega), by first | exact Gw.refl _ | exact Gw.one _ _ | exact (Gw.one _ _).trans (Gw.one _ _)⟩
theorem fit_arrayLength (op a b : Int) (mod name cn : ByteArray) (params cells result : Int) (pa : Option Addr) (n c : Nat) (w : World) : Calls Tryd.prog 84 #[.agg #[.int .i64 op, .int .i64 a, .int .i64 b, .string mod, .string name], .agg #[.string cn, .int .i64 params, .int .i64 cells, .int .i64 result, .slice pa n c]] w fun e w' => e = .returned (.bool (decide (1 ≤ a) && decide (a ≤ 100))) ∧ Gw w w' := by
  by_cases h1 : 1 ≤ a
  · by_cases h2 : a ≤ 100
    · skip
      go_enter Tryd.func84, Tryd.ntmps84
      go_wp2
      go_ret
      exact ⟨ret_bool (by simp [h1, h2]), by first | exact Gw.refl _ | exact Gw.one _ _ | exact (Gw.one _ _).trans (Gw.one _ _)⟩
    · skip
      go_enter Tryd.func84, Tryd.ntmps84
      go_wp2
      go_ret
      exact ⟨ret_bool (by simp; omega), by first | exact Gw.refl _ | exact Gw.one _ _ | exact (Gw.one _ _).trans (Gw.one _ _)⟩
  · skip
    go_enter Tryd.func84, Tryd.ntmps84
    go_wp2
    go_ret
    exact ⟨ret_bool (by simp; omega), by first | exact Gw.refl _ | exact Gw.one _ _ | exact (Gw.one _ _).trans (Gw.one _ _)⟩
theorem fit_signNumber (op a b : Int) (mod name cn : ByteArray) (params cells result : Int) (pa : Option Addr) (n c : Nat) (w : World) : Calls Tryd.prog 86 #[.agg #[.int .i64 op, .int .i64 a, .int .i64 b, .string mod, .string name], .agg #[.string cn, .int .i64 params, .int .i64 cells, .int .i64 result, .slice pa n c]] w fun e w' => e = .returned (.bool (decide (0 ≤ a) && decide (a < 11))) ∧ Gw w w' := by
  by_cases h1 : 0 ≤ a
  · by_cases h2 : a < 11
    · skip
      go_enter Tryd.func86, Tryd.ntmps86
      go_wp2
      go_ret
      exact ⟨ret_bool (by simp [h1, h2]), by first | exact Gw.refl _ | exact Gw.one _ _ | exact (Gw.one _ _).trans (Gw.one _ _)⟩
    · skip
      go_enter Tryd.func86, Tryd.ntmps86
      go_wp2
      go_ret
      exact ⟨ret_bool (by simp; omega), by first | exact Gw.refl _ | exact Gw.one _ _ | exact (Gw.one _ _).trans (Gw.one _ _)⟩
  · skip
    go_enter Tryd.func86, Tryd.ntmps86
    go_wp2
    go_ret
    exact ⟨ret_bool (by simp; omega), by first | exact Gw.refl _ | exact Gw.one _ _ | exact (Gw.one _ _).trans (Gw.one _ _)⟩
theorem fit_target (op a b : Int) (mod name cn : ByteArray) (params cells result : Int) (pa : Option Addr) (n c : Nat) (w : World) : Calls Tryd.prog 87 #[.agg #[.int .i64 op, .int .i64 a, .int .i64 b, .string mod, .string name], .agg #[.string cn, .int .i64 params, .int .i64 cells, .int .i64 result, .slice pa n c]] w fun e w' => e = .returned (.bool (decide (0 ≤ a) && decide (a < (n : Int)))) ∧ Gw w w' := by
  by_cases h1 : 0 ≤ a
  · by_cases h2 : a < (n : Int)
    · skip
      go_enter Tryd.func87, Tryd.ntmps87
      go_wp2
      go_ret
      exact ⟨ret_bool (by simp [h1, h2]), by first | exact Gw.refl _ | exact Gw.one _ _ | exact (Gw.one _ _).trans (Gw.one _ _)⟩
    · skip
      go_enter Tryd.func87, Tryd.ntmps87
      go_wp2
      go_ret
      exact ⟨ret_bool (by simp; omega), by first | exact Gw.refl _ | exact Gw.one _ _ | exact (Gw.one _ _).trans (Gw.one _ _)⟩
  · skip
    go_enter Tryd.func87, Tryd.ntmps87
    go_wp2
    go_ret
    exact ⟨ret_bool (by simp; omega), by first | exact Gw.refl _ | exact Gw.one _ _ | exact (Gw.one _ _).trans (Gw.one _ _)⟩
theorem fit_argumentCount (op a b : Int) (mod name cn : ByteArray) (params cells result : Int) (pa : Option Addr) (n c : Nat) (w : World) : Calls Tryd.prog 89 #[.agg #[.int .i64 op, .int .i64 a, .int .i64 b, .string mod, .string name], .agg #[.string cn, .int .i64 params, .int .i64 cells, .int .i64 result, .slice pa n c]] w fun e w' => e = .returned (.bool (decide (0 ≤ a) && decide (a ≤ 20))) ∧ Gw w w' := by
  by_cases h1 : 0 ≤ a
  · by_cases h2 : a ≤ 20
    · skip
      go_enter Tryd.func89, Tryd.ntmps89
      go_wp2
      go_ret
      exact ⟨ret_bool (by simp [h1, h2]), by first | exact Gw.refl _ | exact Gw.one _ _ | exact (Gw.one _ _).trans (Gw.one _ _)⟩
    · skip
      go_enter Tryd.func89, Tryd.ntmps89
      go_wp2
      go_ret
      exact ⟨ret_bool (by simp; omega), by first | exact Gw.refl _ | exact Gw.one _ _ | exact (Gw.one _ _).trans (Gw.one _ _)⟩
  · skip
    go_enter Tryd.func89, Tryd.ntmps89
    go_wp2
    go_ret
    exact ⟨ret_bool (by simp; omega), by first | exact Gw.refl _ | exact Gw.one _ _ | exact (Gw.one _ _).trans (Gw.one _ _)⟩
theorem fit_dueResult (op a b : Int) (mod name cn : ByteArray) (params cells result : Int) (pa : Option Addr) (n c : Nat) (w : World) : Calls Tryd.prog 90 #[.agg #[.int .i64 op, .int .i64 a, .int .i64 b, .string mod, .string name], .agg #[.string cn, .int .i64 params, .int .i64 cells, .int .i64 result, .slice pa n c]] w fun e w' => e = .returned (.bool (decide (a = result))) ∧ Gw w w' := by
  go_enter Tryd.func90, Tryd.ntmps90
  go_wp2
  go_ret
  exact ⟨ret_bool (by first | rfl | simp), by first | exact Gw.refl _ | exact Gw.one _ _ | exact (Gw.one _ _).trans (Gw.one _ _)⟩
theorem fit_valueTyped (op a b : Int) (mod name cn : ByteArray) (params cells result : Int) (pa : Option Addr) (n c : Nat) (w : World) : Calls Tryd.prog 91 #[.agg #[.int .i64 op, .int .i64 a, .int .i64 b, .string mod, .string name], .agg #[.string cn, .int .i64 params, .int .i64 cells, .int .i64 result, .slice pa n c]] w fun e w' => e = .returned (.bool (decide (1 ≤ a) && decide (a ≤ 3))) ∧ Gw w w' := by
  by_cases h1 : 1 ≤ a
  · by_cases h2 : a ≤ 3
    · skip
      go_enter Tryd.func91, Tryd.ntmps91
      go_wp2
      go_ret
      exact ⟨ret_bool (by simp [h1, h2]), by first | exact Gw.refl _ | exact Gw.one _ _ | exact (Gw.one _ _).trans (Gw.one _ _)⟩
    · skip
      go_enter Tryd.func91, Tryd.ntmps91
      go_wp2
      go_ret
      exact ⟨ret_bool (by simp; omega), by first | exact Gw.refl _ | exact Gw.one _ _ | exact (Gw.one _ _).trans (Gw.one _ _)⟩
  · skip
    go_enter Tryd.func91, Tryd.ntmps91
    go_wp2
    go_ret
    exact ⟨ret_bool (by simp; omega), by first | exact Gw.refl _ | exact Gw.one _ _ | exact (Gw.one _ _).trans (Gw.one _ _)⟩
theorem fit_readTyped (op a b : Int) (mod name cn : ByteArray) (params cells result : Int) (pa : Option Addr) (n c : Nat) (w : World) : Calls Tryd.prog 92 #[.agg #[.int .i64 op, .int .i64 a, .int .i64 b, .string mod, .string name], .agg #[.string cn, .int .i64 params, .int .i64 cells, .int .i64 result, .slice pa n c]] w fun e w' => e = .returned (.bool (decide (a = 1) || decide (a = 3))) ∧ Gw w w' := by
  by_cases h1 : a = 1
  · subst h1
    go_enter Tryd.func92, Tryd.ntmps92
    go_wp2
    go_ret
    exact ⟨ret_bool (by simp), by first | exact Gw.refl _ | exact Gw.one _ _ | exact (Gw.one _ _).trans (Gw.one _ _)⟩
  · have h1b : (a == 1) = false := by simpa using h1
    go_enter Tryd.func92, Tryd.ntmps92
    go_wp2
    go_ret
    exact ⟨ret_bool (by rw [decide_eq_false h1, Bool.false_or]; rfl), by first | exact Gw.refl _ | exact Gw.one _ _ | exact (Gw.one _ _).trans (Gw.one _ _)⟩
theorem fit_trapNumber (op a b : Int) (mod name cn : ByteArray) (params cells result : Int) (pa : Option Addr) (n c : Nat) (w : World) : Calls Tryd.prog 93 #[.agg #[.int .i64 op, .int .i64 a, .int .i64 b, .string mod, .string name], .agg #[.string cn, .int .i64 params, .int .i64 cells, .int .i64 result, .slice pa n c]] w fun e w' => e = .returned (.bool (decide (1 ≤ a) && decide (a ≤ 5))) ∧ Gw w w' := by
  by_cases h1 : 1 ≤ a
  · by_cases h2 : a ≤ 5
    · skip
      go_enter Tryd.func93, Tryd.ntmps93
      go_wp2
      go_ret
      exact ⟨ret_bool (by simp [h1, h2]), by first | exact Gw.refl _ | exact Gw.one _ _ | exact (Gw.one _ _).trans (Gw.one _ _)⟩
    · skip
      go_enter Tryd.func93, Tryd.ntmps93
      go_wp2
      go_ret
      exact ⟨ret_bool (by simp; omega), by first | exact Gw.refl _ | exact Gw.one _ _ | exact (Gw.one _ _).trans (Gw.one _ _)⟩
  · skip
    go_enter Tryd.func93, Tryd.ntmps93
    go_wp2
    go_ret
    exact ⟨ret_bool (by simp; omega), by first | exact Gw.refl _ | exact Gw.one _ _ | exact (Gw.one _ _).trans (Gw.one _ _)⟩
end Go.Proofs.YtpaljmhoojpbdaaDoor
