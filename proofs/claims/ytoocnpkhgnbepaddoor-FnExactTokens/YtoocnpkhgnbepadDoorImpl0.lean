/- The next rune of a text, by its first byte; and numbers as answers. Of whatever program. -/
import Derived.Test.YtoocnpkhgnbepadDoorScan
import Derived.Below
namespace Go.Proofs.YtoocnpkhgnbepadDoor
open Go.RowKit Go.PlainAid

theorem next_low {P : Program} (w : World) (s : ByteArray) (pos : Nat) (h : pos < s.size) (ha : bt s pos < 128) (ty : TypeId) :
    (Instr.next (.pointer (some ⟨w.heap.size, 0, none⟩)) true ty).run P (w.iter s pos) = .ok (.tuple #[.bool true, .int .i64 pos, .int .i32 (bt s pos)]) (w.iter s (pos + 1)) := by
  have e := get_bt s pos h
  rw [← e] at ha
  rw [← e]
  exact run_next_ascii w s pos ty h (by omega)
theorem high_rune (s : ByteArray) (pos : Nat) (h : pos < s.size) (ha : ¬ bt s pos < 128) : 128 ≤ ((Utf8.decode s pos).1 : Int) := by
  have e := get_bt s pos h
  rw [← e] at ha
  have := (decode_high s pos h (by omega)).1
  omega
theorem iter_below (w : World) (s : ByteArray) (p : Nat) : Below w.heap.size w (w.iter s p) := (Below.refl _ _).alloc (Nat.le_refl _) _
theorem ret_int {k : IntKind} {a b : Int} (h : a = b) : Ending.returned (.int k a) = .returned (.int k b) := by rw [h]
theorem letB_high {n : Int} (h : 128 ≤ n) : letB n = false := letB_no (by omega)
theorem digB_high {n : Int} (h : 128 ≤ n) : digB n = false := digB_no (by omega)
theorem get_bang (s : ByteArray) (k : Nat) (h : k < s.size) : ((s.get! k).toNat : Int) = bt s k := by
  have e : s.get! k = s[k]'h := by
    show s.get! k = _
    simp [ByteArray.get!, getElem!_pos, h]
    rfl
  rw [e]; exact get_bt s k h
/-- A rune of several bytes has none below 128, and lies within the text. -/
theorem decode_run (s : ByteArray) (pos : Nat) (h : pos < s.size) (ha : ¬ bt s pos < 128) :
    1 ≤ (Utf8.decode s pos).2 ∧ pos + (Utf8.decode s pos).2 ≤ s.size ∧ ∀ j, pos ≤ j → j < pos + (Utf8.decode s pos).2 → 128 ≤ bt s j := by
  have h0 := get_bang s pos h
  have hc : ∀ k, (decide (pos + k < s.size) && (s.get! (pos + k)).toNat / 64 == 2) = true → pos + k < s.size ∧ 128 ≤ bt s (pos + k) := fun k hk => by
    simp at hk
    have := get_bang s (pos + k) hk.1
    exact ⟨hk.1, by omega⟩
  have one : ∀ j, pos ≤ j → j < pos + 1 → 128 ≤ bt s j := fun j a b => by obtain rfl : j = pos := by omega
                                                                          omega
  have hb0 : ¬ (s.get! (pos + 0)).toNat < 128 := by rw [Nat.add_zero]; omega
  unfold Utf8.decode
  simp only [if_neg hb0]
  by_cases c2 : ((s.get! (pos + 0)).toNat / 32 == 6 && (decide (pos + 1 < s.size) && (s.get! (pos + 1)).toNat / 64 == 2)) = true
  · rw [if_pos c2]
    have k1 := hc 1 (by revert c2; generalize (decide (pos + 1 < s.size) && (s.get! (pos + 1)).toNat / 64 == 2) = b1; cases b1 <;> simp)
    split
    · refine ⟨by omega, by omega, fun j a b => ?_⟩
      have : j = pos ∨ j = pos + 1 := by simp only [] at b; omega
      rcases this with rfl | rfl
      · omega
      · exact k1.2
    · exact ⟨by omega, by omega, one⟩
  rw [if_neg c2]
  by_cases c3 : ((s.get! (pos + 0)).toNat / 16 == 14 && (decide (pos + 1 < s.size) && (s.get! (pos + 1)).toNat / 64 == 2) && (decide (pos + 2 < s.size) && (s.get! (pos + 2)).toNat / 64 == 2)) = true
  · rw [if_pos c3]
    have k1 := hc 1 (by revert c3; generalize (decide (pos + 1 < s.size) && (s.get! (pos + 1)).toNat / 64 == 2) = b1; cases b1 <;> simp)
    have k2 := hc 2 (by revert c3; generalize (decide (pos + 2 < s.size) && (s.get! (pos + 2)).toNat / 64 == 2) = b1; cases b1 <;> simp)
    split
    · refine ⟨by omega, by omega, fun j a b => ?_⟩
      have : j = pos ∨ j = pos + 1 ∨ j = pos + 2 := by simp only [] at b; omega
      rcases this with rfl | rfl | rfl
      · omega
      · exact k1.2
      · exact k2.2
    · exact ⟨by omega, by omega, one⟩
  rw [if_neg c3]
  by_cases c4 : ((s.get! (pos + 0)).toNat / 8 == 30 && (decide (pos + 1 < s.size) && (s.get! (pos + 1)).toNat / 64 == 2) && (decide (pos + 2 < s.size) && (s.get! (pos + 2)).toNat / 64 == 2) && (decide (pos + 3 < s.size) && (s.get! (pos + 3)).toNat / 64 == 2)) = true
  · rw [if_pos c4]
    have k1 := hc 1 (by revert c4; generalize (decide (pos + 1 < s.size) && (s.get! (pos + 1)).toNat / 64 == 2) = b1; cases b1 <;> simp)
    have k2 := hc 2 (by revert c4; generalize (decide (pos + 2 < s.size) && (s.get! (pos + 2)).toNat / 64 == 2) = b1; cases b1 <;> simp)
    have k3 := hc 3 (by revert c4; generalize (decide (pos + 3 < s.size) && (s.get! (pos + 3)).toNat / 64 == 2) = b1; cases b1 <;> simp)
    split
    · refine ⟨by omega, by omega, fun j a b => ?_⟩
      have : j = pos ∨ j = pos + 1 ∨ j = pos + 2 ∨ j = pos + 3 := by simp only [] at b; omega
      rcases this with rfl | rfl | rfl | rfl
      · omega
      · exact k1.2
      · exact k2.2
      · exact k3.2
    · exact ⟨by omega, by omega, one⟩
  · rw [if_neg c4]
    exact ⟨by omega, by omega, one⟩
end Go.Proofs.YtoocnpkhgnbepadDoor
