/- The program's NameOK, over runes, answers 'nameB' at every text; behind it nothing that was there has turned. -/
import Derived.Test.YtolchbfbbnkcdaaDoorWord
namespace Go.Proofs.YtolchbfbbnkcdaaDoor
open Go.RowKit Go.PlainAid

theorem next_low {P : Program} (w : World) (s : ByteArray) (pos : Nat) (h : pos < s.size) (ha : bt s pos < 128) (ty : TypeId) :
    (Instr.next (.pointer (some ⟨w.heap.size, 0, none⟩)) true ty).run P (w.iter s pos) = .ok (.tuple #[.bool true, .int .i64 pos, .int .i32 (bt s pos)]) (w.iter s (pos + 1)) := by
  have e := get_bt s pos h
  rw [← e] at ha
  rw [← e]
  exact run_next_ascii w s pos ty h (by omega)
theorem high_rune (s : ByteArray) (pos : Nat) (h : pos < s.size) (ha : ¬ bt s pos < 128) : 128 ≤ ((Utf8.decode s pos).1 : Int) := by
  have e := get_bt s pos h
  rw [← e] at ha
  have := (decode_high s pos h (by omega)).1
  omega
theorem iter_below (w : World) (s : ByteArray) (p : Nat) : Below w.heap.size w (w.iter s p) := (Below.refl _ _).alloc (Nat.le_refl _) _

theorem len_list (s : ByteArray) : s.data.toList.length = s.size := by rw [Array.length_toList]; rfl
theorem empty_yes {s : ByteArray} (h : s.size = 0) : s.toList.isEmpty = true := by
  rw [ByteArray.toList_eq, List.isEmpty_iff_length_eq_zero, len_list, h]
theorem empty_no {s : ByteArray} (h : ¬ s.size = 0) : s.toList.isEmpty = false := by
  rw [ByteArray.toList_eq]
  cases e : s.data.toList with
  | nil => exact absurd (by rw [← len_list, e]; rfl) h
  | cons _ _ => rfl

set_option maxHeartbeats 800000 in
theorem implNameOK_any (s : ByteArray) (w : World) (hs : s.size ≤ maxLen) : Calls Tryd.prog 20 #[.string s] w fun e w' => e = .returned (.bool (nameB s)) ∧ Below w.heap.size w w' := by
  unfold maxLen at hs
  by_cases z : s.size = 0
  · have z2 := empty_yes z
    go_enter Tryd.func20, Tryd.ntmps20
    go_wp2
    go_ret
    exact ⟨ret_bool (nameB_empty z).symm, Below.refl _ _⟩
  have z2 := empty_no z
  by_cases l : 40 < s.size
  · go_enter Tryd.func20, Tryd.ntmps20
    go_wp2
    go_ret
    exact ⟨ret_bool (nameB_long l).symm, Below.refl _ _⟩
  have hb := get_bt s
  go_enter Tryd.func20, Tryd.ntmps20
  go_wp2
  go_loopw [] (fun w' => ∃ pos : Nat, w' = w.iter s pos ∧ pos ≤ s.size ∧ ∀ j, j < pos → okB s j = true) (fun w' => s.size - w'.iterPos w.heap.size)
  case atStart => exact ⟨0, rfl, Nat.zero_le _, fun j hj => by omega⟩
  case round =>
    obtain ⟨pos, rfl, hpos, hall⟩ := hrel
    have Hall : Hid (∀ j, j < pos → okB s j = true) := hall
    clear hall
    by_cases hp : pos < s.size
    · by_cases hlow : bt s pos < 128
      · have hnx := next_low (P := Tryd.prog) w s pos hp hlow
        cases f1 : letB (bt s pos)
        · by_cases p0 : pos = 0
          · subst p0
            go_wp2_with (first | (go_at_call 24; refine (isLetter_any _ _).mono ?_; rintro e w' ⟨rfl, rfl⟩) | (go_at_call 25; refine (isDigit_any _ _).mono ?_; rintro e w' ⟨rfl, rfl⟩))
            go_ret
            exact ⟨ret_bool (nameB_bad hp (okB_first f1)).symm, iter_below _ _ _⟩
          · cases f2 : digB (bt s pos)
            · go_wp2_with (first | (go_at_call 24; refine (isLetter_any _ _).mono ?_; rintro e w' ⟨rfl, rfl⟩) | (go_at_call 25; refine (isDigit_any _ _).mono ?_; rintro e w' ⟨rfl, rfl⟩))
              go_ret
              exact ⟨ret_bool (nameB_bad hp (okB_no f1 f2)).symm, iter_below _ _ _⟩
            · go_wp2_with (first | (go_at_call 24; refine (isLetter_any _ _).mono ?_; rintro e w' ⟨rfl, rfl⟩) | (go_at_call 25; refine (isDigit_any _ _).mono ?_; rintro e w' ⟨rfl, rfl⟩))
              go_roundw
              case rel =>
                refine ⟨pos + 1, rfl, by omega, fun j hj => ?_⟩
                by_cases e : j < pos
                · exact Hall.out j e
                · obtain rfl : j = pos := by omega
                  exact okB_dig p0 f2
              case measure => simp; omega
        · go_wp2_with (first | (go_at_call 24; refine (isLetter_any _ _).mono ?_; rintro e w' ⟨rfl, rfl⟩) | (go_at_call 25; refine (isDigit_any _ _).mono ?_; rintro e w' ⟨rfl, rfl⟩))
          go_roundw
          case rel =>
            refine ⟨pos + 1, rfl, by omega, fun j hj => ?_⟩
            by_cases e : j < pos
            · exact Hall.out j e
            · obtain rfl : j = pos := by omega
              exact okB_let f1
          case measure => simp; omega
      · have hnx : ∀ ty, (Instr.next (.pointer (some ⟨w.heap.size, 0, none⟩)) true ty).run Tryd.prog (w.iter s pos) = _ := fun ty => run_next_any w s pos ty hp
        have hh := high_rune s pos hp hlow
        have f1 := letB_high hh
        have f2 := digB_high hh
        have hh2 : 128 ≤ bt s pos := by omega
        by_cases p0 : pos = 0
        · subst p0
          go_wp2_with (first | (go_at_call 24; refine (isLetter_any _ _).mono ?_; rintro e w' ⟨rfl, rfl⟩) | (go_at_call 25; refine (isDigit_any _ _).mono ?_; rintro e w' ⟨rfl, rfl⟩))
          go_ret
          exact ⟨ret_bool (nameB_bad hp (okB_no (letB_high hh2) (digB_high hh2))).symm, iter_below _ _ _⟩
        · go_wp2_with (first | (go_at_call 24; refine (isLetter_any _ _).mono ?_; rintro e w' ⟨rfl, rfl⟩) | (go_at_call 25; refine (isDigit_any _ _).mono ?_; rintro e w' ⟨rfl, rfl⟩))
          go_ret
          exact ⟨ret_bool (nameB_bad hp (okB_no (letB_high hh2) (digB_high hh2))).symm, iter_below _ _ _⟩
    · have hnx : ∀ ty, (Instr.next (.pointer (some ⟨w.heap.size, 0, none⟩)) true ty).run Tryd.prog (w.iter s pos) = _ := fun ty => run_next_end w s pos ty hp
      go_wp2
      go_ret
      exact ⟨ret_bool (nameB_yes (by omega) (by omega) (fun j hj => Hall.out j (by omega))).symm, iter_below _ _ _⟩
end Go.Proofs.YtolchbfbbnkcdaaDoor
