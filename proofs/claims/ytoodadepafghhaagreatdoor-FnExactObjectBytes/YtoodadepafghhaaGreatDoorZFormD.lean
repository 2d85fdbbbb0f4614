/- The program's look at an instruction, over plain data, beside the model's. No condition. -/
import Derived.Test.YtoodadepafghhaaGreatDoorZVerL
namespace Go.Proofs.YtoodadepafghhaaGreatDoor
open Go.RowKit

/-- Whether A is within its bounds, as the program's table asks it. -/
def fitB (op a cells len result : Int) : Bool :=
  if op = 1 then true
  else if op = 2 then decide (0 ≤ a) && decide (a < cells)
  else if op = 6 then decide (1 ≤ a) && decide (a ≤ 100)
  else if op = 7 then decide (0 ≤ a) && decide (a < 11)
  else if op = 11 ∨ op = 12 then decide (0 ≤ a) && decide (a < len)
  else if op = 13 then decide (0 ≤ a) && decide (a ≤ 20)
  else if op = 14 then decide (a = result)
  else if op = 15 then decide (1 ≤ a) && decide (a ≤ 3)
  else if op = 16 then decide (a = 1) || decide (a = 3)
  else if op = 17 then decide (1 ≤ a) && decide (a ≤ 5)
  else decide (a = 0)
/-- The program's look at an instruction. -/
def formB (x : InsD) (cells len result : Int) : Bool :=
  (decide (1 ≤ x.op) && decide (x.op ≤ 17) && fitB x.op x.a cells len result) && (decide (x.b = 0) || (decide (x.op = 13) && decide (x.b = 1))) && (if namedB x.op then ownB x.mod && ownB x.name else emB x.mod && emB x.name)
theorem em_size {s : ByteArray} (h : emB s = true) : s.size = 0 := by
  unfold emB at h
  have h' : s.data.toList = [] := by
    have := eq_of_beq h
    rwa [ByteArray.toList_eq] at this
  have : s.data.size = 0 := by rw [← Array.length_toList, h']; rfl
  exact this
theorem own_em (s : ByteArray) (h : emB s = true) : ownB s = false := by
  unfold ownB nameB
  rw [em_size h]
  rfl
theorem arg_fit {op a b cells len result : Int} (h0 : 0 ≤ cells) (h1 : cells ≤ 2000) (ho : 1 ≤ op) (ho2 : op ≤ 17) (hb : b = 0 ∨ op = 13 ∧ b = 1) : argB op a b cells len result = fitB op a cells len result := by
  have hw : wrap64 (cells - 1) = cells - 1 := by unfold wrap64; omega
  have : op = 1 ∨ op = 2 ∨ op = 3 ∨ op = 4 ∨ op = 5 ∨ op = 6 ∨ op = 7 ∨ op = 8 ∨ op = 9 ∨ op = 10 ∨ op = 11 ∨ op = 12 ∨ op = 13 ∨ op = 14 ∨ op = 15 ∨ op = 16 ∨ op = 17 := by omega
  rw [Bool.eq_iff_iff]
  rcases this with rfl | rfl | rfl | rfl | rfl | rfl | rfl | rfl | rfl | rfl | rfl | rfl | rfl | rfl | rfl | rfl | rfl <;> simp [argB, fitB, inB, hw] <;> omega
theorem arg_out {op a b cells len result : Int} (ho : ¬(1 ≤ op ∧ op ≤ 17)) : argB op a b cells len result = false := by
  unfold argB
  rw [if_neg (by omega), if_neg (by omega), if_neg (by omega), if_neg (by omega), if_neg (by omega), if_neg (by omega), if_neg (by omega), if_neg (by omega), if_neg (by omega)]
  have : inB op 3 10 = false := by unfold inB; simp; omega
  rw [this, Bool.and_false]
theorem ins_form {x : InsD} {cells len result : Int} (h0 : 0 ≤ cells) (h1 : cells ≤ 2000) : insB x cells len result = formB x cells len result := by
  unfold insB formB
  by_cases ho : 1 ≤ x.op ∧ x.op ≤ 17
  · rw [decide_eq_true ho.1, decide_eq_true ho.2]
    by_cases hb : x.b = 0 ∨ x.op = 13 ∧ x.b = 1
    · rw [arg_fit h0 h1 ho.1 ho.2 hb]
      have e1 : (decide (x.op = 13) || decide (x.b = 0)) = true := by
        rcases hb with e | e <;> simp [e]
      have e2 : (decide (x.b = 0) || (decide (x.op = 13) && decide (x.b = 1))) = true := by
        rcases hb with e | e <;> simp [e]
      rw [e1, e2]
      generalize fitB x.op x.a cells len result = f
      cases namedB x.op with
      | false => cases emB x.mod <;> cases emB x.name <;> cases f <;> rfl
      | true =>
        cases hm : emB x.mod <;> cases hn : emB x.name <;> cases f <;> simp
        rw [own_em _ hm]
        simp
    · have e2 : (decide (x.b = 0) || (decide (x.op = 13) && decide (x.b = 1))) = false := by
        have := not_or.1 hb
        simp [this.1]
        intro e q
        exact this.2 ⟨e, q⟩
      rw [e2]
      have : ((decide (x.op = 13) || decide (x.b = 0)) && argB x.op x.a x.b cells len result) = false := by
        by_cases h13 : x.op = 13
        · have hb1 : ¬ (0 ≤ x.b ∧ x.b ≤ 1) := by omega
          have : inB x.b 0 1 = false := by unfold inB; simp; omega
          simp [h13, argB, this]
        · have : x.b ≠ 0 := by omega
          simp [h13, this]
      rw [Bool.and_assoc, this]
      simp
  · rw [arg_out ho]
    have : (decide (1 ≤ x.op) && decide (x.op ≤ 17)) = false := by simp; omega
    rw [this]
    simp
end Go.Proofs.YtoodadepafghhaaGreatDoor
