/- The program's look at an instruction, whole. Its table of words is a premise. -/
import Derived.Test.YtoodadepafghhaaGreatDoorZFormI1
import Derived.Test.YtoodadepafghhaaGreatDoorZFormI2
import Derived.Test.YtoodadepafghhaaGreatDoorZFormI3
namespace Go.Proofs.YtoodadepafghhaaGreatDoor
open Go.RowKit Go.PlainAid

set_option maxRecDepth 100000 in
set_option maxHeartbeats 4000000 in
theorem formed_out (op a b : Int) (mod name cn : ByteArray) (params cells result : Int) (pa : Option Addr) (n c : Nat) (w : World) (ho : ¬(1 ≤ op ∧ op ≤ 17)) :
    Calls Tryz.prog 73 #[.agg #[.int .i64 op, .int .i64 a, .int .i64 b, .string mod, .string name], .agg #[.string cn, .int .i64 params, .int .i64 cells, .int .i64 result, .slice pa n c], .agg opsCells] w fun e w' => e = .returned (.bool false) ∧ Below w.heap.size w w' := by
  have hmix : Tryz.prog.follows .mixedOrders = true := by kernel_rfl
  by_cases h : op < 1
  · have d1 : decide (op < 1) = true := by simpa using h
    clear ho h
    go_enter Tryz.func73, Tryz.ntmps73
    go_wp2
    go_quiet (fail)
    go_wp2
    go_ret
    exact ⟨rfl, ((((Below.refl _ _).alloc (Nat.le_refl _) _).alloc (by simp) _).alloc (by simp <;> omega) _).trans ⟨rfl, rfl, rfl, Nat.le_refl _, fun _ _ => rfl⟩⟩
  · have d1 : decide (op < 1) = false := by simpa using h
    have d2 : decide (17 < op) = true := by simp; omega
    clear ho h
    go_enter Tryz.func73, Tryz.ntmps73
    go_wp2
    go_quiet (fail)
    go_wp2
    go_ret
    exact ⟨rfl, ((((Below.refl _ _).alloc (Nat.le_refl _) _).alloc (by simp) _).alloc (by simp <;> omega) _).trans ⟨rfl, rfl, rfl, Nat.le_refl _, fun _ _ => rfl⟩⟩
theorem formed_all (op a b : Int) (mod name cn : ByteArray) (params cells result : Int) (pa : Option Addr) (n c : Nat) (w : World) (h0 : 0 ≤ cells) (h1 : cells ≤ 2000) (hm : mod.size ≤ maxLen) (hnm : name.size ≤ maxLen) (t : TypeId) (fr : Nat × Nat) (hg : w.heap[2]? = some (.cells keyRow t fr)) :
    Calls Tryz.prog 73 #[.agg #[.int .i64 op, .int .i64 a, .int .i64 b, .string mod, .string name], .agg #[.string cn, .int .i64 params, .int .i64 cells, .int .i64 result, .slice pa n c], .agg opsCells] w fun e w' => e = .returned (.bool (insB ⟨op, a, b, mod, name⟩ cells n result)) ∧ Below w.heap.size w w' := by
  by_cases ho : 1 ≤ op ∧ op ≤ 17
  · have : op = 1 ∨ op = 2 ∨ op = 3 ∨ op = 4 ∨ op = 5 ∨ op = 6 ∨ op = 7 ∨ op = 8 ∨ op = 9 ∨ op = 10 ∨ op = 11 ∨ op = 12 ∨ op = 13 ∨ op = 14 ∨ op = 15 ∨ op = 16 ∨ op = 17 := by omega
    clear ho
    rcases this with rfl | rfl | rfl | rfl | rfl | rfl | rfl | rfl | rfl | rfl | rfl | rfl | rfl | rfl | rfl | rfl | rfl
    · refine (formed_any 1 (by omega) _ a b mod name cn params cells result pa n c w hm hnm t fr hg (fun w' => fit_anyNumber 1 a b mod name cn params cells result pa n c w')).mono ?_
      rintro e w' ⟨rfl, hb⟩
      exact ⟨ret_bool (by rw [ins_form h0 h1]; simp [formB, fitB, namedB]), hb⟩
    · refine (formed_cell 2 (by omega) _ a b mod name cn params cells result pa n c w hm hnm t fr hg (fun w' => fit_cellNumber 2 a b mod name cn params cells result pa n c w')).mono ?_
      rintro e w' ⟨rfl, hb⟩
      exact ⟨ret_bool (by rw [ins_form h0 h1]; simp [formB, fitB, namedB]), hb⟩
    · refine (formed_glob _ a b mod name cn params cells result pa n c w hm hnm t fr hg (fun w' => fit_noNumber 3 a b mod name cn params cells result pa n c w')).mono ?_
      rintro e w' ⟨rfl, hb⟩
      exact ⟨ret_bool (by rw [ins_form h0 h1]; simp [formB, fitB, namedB]), hb⟩
    · refine (formed_no 4 (by omega) _ a b mod name cn params cells result pa n c w hm hnm t fr hg (fun w' => fit_noNumber 4 a b mod name cn params cells result pa n c w')).mono ?_
      rintro e w' ⟨rfl, hb⟩
      exact ⟨ret_bool (by rw [ins_form h0 h1]; simp [formB, fitB, namedB]), hb⟩
    · refine (formed_no 5 (by omega) _ a b mod name cn params cells result pa n c w hm hnm t fr hg (fun w' => fit_noNumber 5 a b mod name cn params cells result pa n c w')).mono ?_
      rintro e w' ⟨rfl, hb⟩
      exact ⟨ret_bool (by rw [ins_form h0 h1]; simp [formB, fitB, namedB]), hb⟩
    · refine (formed_arr 6 (by omega) _ a b mod name cn params cells result pa n c w hm hnm t fr hg (fun w' => fit_arrayLength 6 a b mod name cn params cells result pa n c w')).mono ?_
      rintro e w' ⟨rfl, hb⟩
      exact ⟨ret_bool (by rw [ins_form h0 h1]; simp [formB, fitB, namedB]), hb⟩
    · refine (formed_sign 7 (by omega) _ a b mod name cn params cells result pa n c w hm hnm t fr hg (fun w' => fit_signNumber 7 a b mod name cn params cells result pa n c w')).mono ?_
      rintro e w' ⟨rfl, hb⟩
      exact ⟨ret_bool (by rw [ins_form h0 h1]; simp [formB, fitB, namedB]), hb⟩
    · refine (formed_no 8 (by omega) _ a b mod name cn params cells result pa n c w hm hnm t fr hg (fun w' => fit_noNumber 8 a b mod name cn params cells result pa n c w')).mono ?_
      rintro e w' ⟨rfl, hb⟩
      exact ⟨ret_bool (by rw [ins_form h0 h1]; simp [formB, fitB, namedB]), hb⟩
    · refine (formed_no 9 (by omega) _ a b mod name cn params cells result pa n c w hm hnm t fr hg (fun w' => fit_noNumber 9 a b mod name cn params cells result pa n c w')).mono ?_
      rintro e w' ⟨rfl, hb⟩
      exact ⟨ret_bool (by rw [ins_form h0 h1]; simp [formB, fitB, namedB]), hb⟩
    · refine (formed_no 10 (by omega) _ a b mod name cn params cells result pa n c w hm hnm t fr hg (fun w' => fit_noNumber 10 a b mod name cn params cells result pa n c w')).mono ?_
      rintro e w' ⟨rfl, hb⟩
      exact ⟨ret_bool (by rw [ins_form h0 h1]; simp [formB, fitB, namedB]), hb⟩
    · refine (formed_target 11 (by omega) _ a b mod name cn params cells result pa n c w hm hnm t fr hg (fun w' => fit_target 11 a b mod name cn params cells result pa n c w')).mono ?_
      rintro e w' ⟨rfl, hb⟩
      exact ⟨ret_bool (by rw [ins_form h0 h1]; simp [formB, fitB, namedB]), hb⟩
    · refine (formed_target 12 (by omega) _ a b mod name cn params cells result pa n c w hm hnm t fr hg (fun w' => fit_target 12 a b mod name cn params cells result pa n c w')).mono ?_
      rintro e w' ⟨rfl, hb⟩
      exact ⟨ret_bool (by rw [ins_form h0 h1]; simp [formB, fitB, namedB]), hb⟩
    · refine (formed_call _ a b mod name cn params cells result pa n c w hm hnm t fr hg (fun w' => fit_argumentCount 13 a b mod name cn params cells result pa n c w')).mono ?_
      rintro e w' ⟨rfl, hb⟩
      exact ⟨ret_bool (by rw [ins_form h0 h1]; simp [formB, fitB, namedB]), hb⟩
    · refine (formed_due 14 (by omega) _ a b mod name cn params cells result pa n c w hm hnm t fr hg (fun w' => fit_dueResult 14 a b mod name cn params cells result pa n c w')).mono ?_
      rintro e w' ⟨rfl, hb⟩
      exact ⟨ret_bool (by rw [ins_form h0 h1]; simp [formB, fitB, namedB]), hb⟩
    · refine (formed_val 15 (by omega) _ a b mod name cn params cells result pa n c w hm hnm t fr hg (fun w' => fit_valueTyped 15 a b mod name cn params cells result pa n c w')).mono ?_
      rintro e w' ⟨rfl, hb⟩
      exact ⟨ret_bool (by rw [ins_form h0 h1]; simp [formB, fitB, namedB]), hb⟩
    · refine (formed_read 16 (by omega) _ a b mod name cn params cells result pa n c w hm hnm t fr hg (fun w' => fit_readTyped 16 a b mod name cn params cells result pa n c w')).mono ?_
      rintro e w' ⟨rfl, hb⟩
      exact ⟨ret_bool (by rw [ins_form h0 h1]; simp [formB, fitB, namedB]), hb⟩
    · refine (formed_trap 17 (by omega) _ a b mod name cn params cells result pa n c w hm hnm t fr hg (fun w' => fit_trapNumber 17 a b mod name cn params cells result pa n c w')).mono ?_
      rintro e w' ⟨rfl, hb⟩
      exact ⟨ret_bool (by rw [ins_form h0 h1]; simp [formB, fitB, namedB]), hb⟩
  · refine (formed_out op a b mod name cn params cells result pa n c w ho).mono ?_
    rintro e w' ⟨rfl, hb⟩
    refine ⟨ret_bool ?_, hb⟩
    rw [ins_form h0 h1]
    unfold formB
    have : (decide (1 ≤ (InsD.mk op a b mod name).op) && decide ((InsD.mk op a b mod name).op ≤ 17)) = false := by simp; omega
    rw [this]
    rfl
end Go.Proofs.YtoodadepafghhaaGreatDoor
