/- The program's small scanners: blanks, words, remarks, signs. -/
import Derived.Test.YtoocnpkhgnbepadDoorScan
import Derived.Test.YtoocnpkhgnbepadDoorImpl0
namespace Go.Proofs.YtoocnpkhgnbepadDoor
open Go.RowKit Go.PlainAid

def blankB (n : Int) : Bool := decide (n = 32 ∨ n = 9 ∨ n = 10 ∨ n = 13)
set_option maxHeartbeats 800000 in
theorem isBlank_any (n : Int) (w : World) : Calls Tryd.prog 22 #[.int .i32 n] w fun e w' => e = .returned (.bool (blankB n)) ∧ w = w' := by
  by_cases h1 : n = 32
  · subst h1
    go_enter Tryd.func22, Tryd.ntmps22
    go_wp2
    go_ret
    exact ⟨rfl, rfl⟩
  by_cases h2 : n = 9
  · subst h2
    go_enter Tryd.func22, Tryd.ntmps22
    go_wp2
    go_ret
    exact ⟨rfl, rfl⟩
  by_cases h3 : n = 10
  · subst h3
    go_enter Tryd.func22, Tryd.ntmps22
    go_wp2
    go_ret
    exact ⟨rfl, rfl⟩
  · have e1 : (n == 32) = false := by simp [h1]
    have e2 : (n == 9) = false := by simp [h2]
    have e3 : (n == 10) = false := by simp [h3]
    have hb : blankB n = (n == 13) := by unfold blankB; rw [Bool.eq_iff_iff]; simp; omega
    rw [hb]
    clear hb
    go_enter Tryd.func22, Tryd.ntmps22
    go_wp2
    go_ret
    exact ⟨rfl, rfl⟩

set_option maxHeartbeats 800000 in
theorem wordLength_any (r : ByteArray) (w : World) (_hs : r.size ≤ maxLen) : Calls Tryd.prog 62 #[.string r] w fun e w' => e = .returned (.int .i64 (wEnd r 0)) ∧ Below w.heap.size w w' := by
  unfold maxLen at _hs
  have hb := get_bt r
  go_enter Tryd.func62, Tryd.ntmps62
  go_wp2
  go_loopw [] (fun w' => ∃ pos : Nat, w' = w.iter r pos ∧ pos ≤ r.size ∧ Hid (wEnd r 0 = wEnd r pos)) (fun w' => r.size - w'.iterPos w.heap.size)
  case atStart => exact ⟨0, rfl, Nat.zero_le _, rfl⟩
  case round =>
    obtain ⟨pos, rfl, hpos, Hall⟩ := hrel
    by_cases hp : pos < r.size
    · by_cases hlow : bt r pos < 128
      · have hnx := next_low (P := Tryd.prog) w r pos hp hlow
        cases f1 : letB (bt r pos)
        · cases f2 : digB (bt r pos)
          · have hw : wordB (bt r pos) = false := by unfold wordB; rw [f1, f2]; rfl
            go_wp2_with (first | (go_at_call 37; refine (isLetter_any _ _).mono ?_; rintro e w' ⟨rfl, rfl⟩) | (go_at_call 39; refine (isDigit_any _ _).mono ?_; rintro e w' ⟨rfl, rfl⟩))
            go_ret
            exact ⟨ret_int (by rw [Hall.out, wEnd_stop (by omega) hw]), iter_below _ _ _⟩
          · have hw : wordB (bt r pos) = true := by unfold wordB; rw [f1, f2]; rfl
            go_wp2_with (first | (go_at_call 37; refine (isLetter_any _ _).mono ?_; rintro e w' ⟨rfl, rfl⟩) | (go_at_call 39; refine (isDigit_any _ _).mono ?_; rintro e w' ⟨rfl, rfl⟩))
            go_roundw
            case rel => exact ⟨pos + 1, rfl, by omega, Hall.out.trans (wEnd_go hp hw)⟩
            case measure => simp; omega
        · have hw : wordB (bt r pos) = true := by unfold wordB; rw [f1]; rfl
          go_wp2_with (first | (go_at_call 37; refine (isLetter_any _ _).mono ?_; rintro e w' ⟨rfl, rfl⟩) | (go_at_call 39; refine (isDigit_any _ _).mono ?_; rintro e w' ⟨rfl, rfl⟩))
          go_roundw
          case rel => exact ⟨pos + 1, rfl, by omega, Hall.out.trans (wEnd_go hp hw)⟩
          case measure => simp; omega
      · have hnx : ∀ ty, (Instr.next (.pointer (some ⟨w.heap.size, 0, none⟩)) true ty).run Tryd.prog (w.iter r pos) = _ := fun ty => run_next_any w r pos ty hp
        have hh := high_rune r pos hp hlow
        have f1 := letB_high hh
        have f2 := digB_high hh
        have hw : wordB (bt r pos) = false := wordB_high (by omega)
        go_wp2_with (first | (go_at_call 37; refine (isLetter_any _ _).mono ?_; rintro e w' ⟨rfl, rfl⟩) | (go_at_call 39; refine (isDigit_any _ _).mono ?_; rintro e w' ⟨rfl, rfl⟩))
        go_ret
        exact ⟨ret_int (by rw [Hall.out, wEnd_stop (by omega) hw]), iter_below _ _ _⟩
    · have hnx : ∀ ty, (Instr.next (.pointer (some ⟨w.heap.size, 0, none⟩)) true ty).run Tryd.prog (w.iter r pos) = _ := fun ty => run_next_end w r pos ty hp
      go_wp2
      go_ret
      obtain rfl : pos = r.size := by omega
      exact ⟨ret_int (by rw [Hall.out, wEnd_stop (by omega) (wordB_end (by omega))]), iter_below _ _ _⟩
end Go.Proofs.YtoocnpkhgnbepadDoor
