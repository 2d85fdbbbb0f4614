/- The program's NameOK, over runes, answers 'nameB' at every text; behind it nothing that was there has turned. -/
import Derived.Test.YtpaljmhoojpbdaaDoorRows
import Derived.WalkKit
import Derived.WalkSpells
import Derived.PlainAid
import Derived.Below
/- The letters and digits of a name: the program's two tests and the model's two answer alike, at every number. No condition. -/
namespace Go.Proofs.YtpaljmhoojpbdaaDoor
open Go.RowKit

def letB (n : Int) : Bool := decide ((97 ≤ n ∧ n ≤ 122) ∨ (65 ≤ n ∧ n ≤ 90) ∨ n = 95)
def digB (n : Int) : Bool := decide (48 ≤ n ∧ n ≤ 57)
theorem letB_yes {n : Int} (h : (97 ≤ n ∧ n ≤ 122) ∨ (65 ≤ n ∧ n ≤ 90) ∨ n = 95) : letB n = true := decide_eq_true h
theorem letB_no {n : Int} (h : ¬ ((97 ≤ n ∧ n ≤ 122) ∨ (65 ≤ n ∧ n ≤ 90) ∨ n = 95)) : letB n = false := decide_eq_false h
theorem digB_yes {n : Int} (h : 48 ≤ n ∧ n ≤ 57) : digB n = true := decide_eq_true h
theorem digB_no {n : Int} (h : ¬ (48 ≤ n ∧ n ≤ 57)) : digB n = false := decide_eq_false h
theorem ret_bool {a b : Bool} (h : a = b) : Ending.returned (.bool a) = .returned (.bool b) := by rw [h]


set_option maxHeartbeats 400000 in
theorem isLetter_any (n : Int) (w : World) : Calls Tryd.prog 98 #[.int .i32 n] w fun e w' => e = .returned (.bool (letB n)) ∧ w = w' := by
  go_enter Tryd.func98, Tryd.ntmps98
  go_wp2
  all_goals go_ret
  all_goals refine ⟨ret_bool ?_, rfl⟩
  all_goals first | (refine (letB_yes ?_).symm; omega) | (refine (letB_no ?_).symm; omega) | (unfold letB; rw [Bool.eq_iff_iff]; simp; omega)

set_option maxHeartbeats 400000 in
theorem isDigit_any (n : Int) (w : World) : Calls Tryd.prog 99 #[.int .i32 n] w fun e w' => e = .returned (.bool (digB n)) ∧ w = w' := by
  go_enter Tryd.func99, Tryd.ntmps99
  go_wp2
  all_goals go_ret
  all_goals refine ⟨ret_bool ?_, rfl⟩
  all_goals first | (refine (digB_yes ?_).symm; omega) | (refine (digB_no ?_).symm; omega) | (unfold digB; rw [Bool.eq_iff_iff]; simp; omega)

set_option maxHeartbeats 400000 in
theorem l00Letter_any (n : Int) (w : World) : Calls Tryd.prog 112 #[.int .u8 n] w fun e w' => e = .returned (.bool (letB n)) ∧ w = w' := by
  go_enter Tryd.func112, Tryd.ntmps112
  go_wp2
  all_goals go_ret
  all_goals refine ⟨ret_bool ?_, rfl⟩
  all_goals first | (refine (letB_yes ?_).symm; omega) | (refine (letB_no ?_).symm; omega) | (unfold letB; rw [Bool.eq_iff_iff]; simp; omega)

set_option maxHeartbeats 400000 in
theorem l00Digit_any (n : Int) (w : World) : Calls Tryd.prog 113 #[.int .u8 n] w fun e w' => e = .returned (.bool (digB n)) ∧ w = w' := by
  go_enter Tryd.func113, Tryd.ntmps113
  go_wp2
  all_goals go_ret
  all_goals refine ⟨ret_bool ?_, rfl⟩
  all_goals first | (refine (digB_yes ?_).symm; omega) | (refine (digB_no ?_).symm; omega) | (unfold digB; rw [Bool.eq_iff_iff]; simp; omega)
end Go.Proofs.YtpaljmhoojpbdaaDoor

/- A name, told once as a test over bytes ('nameB'); the model's walk over bytes and the program's over runes both answer it, at every text. No condition but the form's own (a text is at most maxLen long). -/
namespace Go.Proofs.YtpaljmhoojpbdaaDoor
open Go.RowKit Go.PlainAid

def okB (s : ByteArray) (k : Nat) : Bool := letB (bt s k) || (decide (k ≠ 0) && digB (bt s k))
def nameB (s : ByteArray) : Bool := decide (1 ≤ s.size) && decide (s.size ≤ 40) && (List.range s.size).all (okB s)
theorem nameB_yes {s : ByteArray} (h1 : 1 ≤ s.size) (h2 : s.size ≤ 40) (h : ∀ k, k < s.size → okB s k = true) : nameB s = true := by
  unfold nameB; simp [h1, h2]; exact h
theorem nameB_bad {s : ByteArray} {k : Nat} (hk : k < s.size) (h : okB s k = false) : nameB s = false := by
  unfold nameB
  have e : (List.range s.size).all (okB s) = false := by
    rw [List.all_eq_false]; exact ⟨k, by simpa using hk, by simp [h]⟩
  simp [e]
theorem nameB_empty {s : ByteArray} (h : s.size = 0) : nameB s = false := by unfold nameB; simp [h]
theorem nameB_long {s : ByteArray} (h : 40 < s.size) : nameB s = false := by
  unfold nameB; have : ¬ s.size ≤ 40 := by omega
  simp [this]
theorem okB_let {s : ByteArray} {k : Nat} (h : letB (bt s k) = true) : okB s k = true := by unfold okB; simp [h]
theorem okB_dig {s : ByteArray} {k : Nat} (h0 : k ≠ 0) (h : digB (bt s k) = true) : okB s k = true := by unfold okB; simp [h, h0]
theorem okB_no {s : ByteArray} {k : Nat} (h : letB (bt s k) = false) (h' : digB (bt s k) = false) : okB s k = false := by unfold okB; simp [h, h']
theorem okB_first {s : ByteArray} (h : letB (bt s 0) = false) : okB s 0 = false := by unfold okB; simp [h]
theorem letB_high {n : Int} (h : 128 ≤ n) : letB n = false := letB_no (by omega)
theorem digB_high {n : Int} (h : 128 ≤ n) : digB n = false := digB_no (by omega)

set_option maxHeartbeats 800000 in
theorem l00Word_any (s : ByteArray) (w : World) (hs : s.size ≤ maxLen) : Calls Tryd.prog 96 #[.string s] w fun e w' => e = .returned (.bool (nameB s)) ∧ w = w' := by
  unfold maxLen at hs
  by_cases z : s.size = 0
  · have z' : s.size < 1 := by omega
    go_enter Tryd.func96, Tryd.ntmps96
    go_wp2
    go_ret
    exact ⟨ret_bool (nameB_empty z).symm, rfl⟩
  by_cases l : 40 < s.size
  · go_enter Tryd.func96, Tryd.ntmps96
    go_wp2
    go_ret
    exact ⟨ret_bool (nameB_long l).symm, rfl⟩
  have hb := get_bt s
  have h0 : 0 < s.size := by omega
  cases f : letB (bt s 0)
  · go_enter Tryd.func96, Tryd.ntmps96
    go_wp2_with (go_at_call 112; refine (l00Letter_any _ _).mono ?_; rintro e w' ⟨rfl, rfl⟩)
    go_ret
    exact ⟨ret_bool (nameB_bad h0 (okB_first f)).symm, rfl⟩
  · go_enter Tryd.func96, Tryd.ntmps96
    go_wp2_with (go_at_call 112; refine (l00Letter_any _ _).mono ?_; rintro e w' ⟨rfl, rfl⟩)
    go_loop [3] (fun i => ∃ k : Nat, 1 ≤ k ∧ k ≤ s.size ∧ i = .int .i64 k ∧ ∀ j, j < k → okB s j = true) (fun i => s.size - (intOf i).toNat)
    case atStart => exact ⟨1, by omega, by omega, rfl, fun j hj => by
      obtain rfl : j = 0 := by omega
      exact okB_let f⟩
    case round =>
      obtain ⟨k, hk1, hk, rfl, hall⟩ := hrel
      have Hall : Hid (∀ j, j < k → okB s j = true) := hall; clear hall
      by_cases hp : k < s.size
      · cases f1 : letB (bt s k)
        · cases f2 : digB (bt s k)
          · go_wp2_with (first | (go_at_call 112; refine (l00Letter_any _ _).mono ?_; rintro e w' ⟨rfl, rfl⟩) | (go_at_call 113; refine (l00Digit_any _ _).mono ?_; rintro e w' ⟨rfl, rfl⟩))
            go_ret
            exact ⟨ret_bool (nameB_bad hp (okB_no f1 f2)).symm, rfl⟩
          · go_wp2_with (first | (go_at_call 112; refine (l00Letter_any _ _).mono ?_; rintro e w' ⟨rfl, rfl⟩) | (go_at_call 113; refine (l00Digit_any _ _).mono ?_; rintro e w' ⟨rfl, rfl⟩))
            go_round
            case rel => exact ⟨k + 1, by omega, by omega, by go_num, fun j hj => by
              by_cases e : j < k
              · exact Hall.out j e
              · obtain rfl : j = k := by omega
                exact okB_dig (by omega) f2⟩
            case measure => simp [intOf]; omega
        · go_wp2_with (first | (go_at_call 112; refine (l00Letter_any _ _).mono ?_; rintro e w' ⟨rfl, rfl⟩) | (go_at_call 113; refine (l00Digit_any _ _).mono ?_; rintro e w' ⟨rfl, rfl⟩))
          go_round
          case rel => exact ⟨k + 1, by omega, by omega, by go_num, fun j hj => by
            by_cases e : j < k
            · exact Hall.out j e
            · obtain rfl : j = k := by omega
              exact okB_let f1⟩
          case measure => simp [intOf]; omega
      · go_wp2
        go_ret
        exact ⟨ret_bool (nameB_yes (by omega) (by omega) (fun j hj => Hall.out j (by omega))).symm, rfl⟩
end Go.Proofs.YtpaljmhoojpbdaaDoor

namespace Go.Proofs.YtpaljmhoojpbdaaDoor
open Go.RowKit Go.PlainAid

theorem next_low {P : Program} (w : World) (s : ByteArray) (pos : Nat) (h : pos < s.size) (ha : bt s pos < 128) (ty : TypeId) :
    (Instr.next (.pointer (some ⟨w.heap.size, 0, none⟩)) true ty).run P (w.iter s pos) = .ok (.tuple #[.bool true, .int .i64 pos, .int .i32 (bt s pos)]) (w.iter s (pos + 1)) := by
  have e := get_bt s pos h
  rw [← e] at ha
  rw [← e]
  exact run_next_ascii w s pos ty h (by omega)
theorem high_rune (s : ByteArray) (pos : Nat) (h : pos < s.size) (ha : ¬ bt s pos < 128) : 128 ≤ ((Utf8.decode s pos).1 : Int) := by
  have e := get_bt s pos h
  rw [← e] at ha
  have := (decode_high s pos h (by omega)).1
  omega
theorem iter_below (w : World) (s : ByteArray) (p : Nat) : Below w.heap.size w (w.iter s p) := (Below.refl _ _).alloc (Nat.le_refl _) _

theorem len_list (s : ByteArray) : s.data.toList.length = s.size := by rw [Array.length_toList]; rfl
theorem empty_yes {s : ByteArray} (h : s.size = 0) : s.toList.isEmpty = true := by
  rw [ByteArray.toList_eq, List.isEmpty_iff_length_eq_zero, len_list, h]
theorem empty_no {s : ByteArray} (h : ¬ s.size = 0) : s.toList.isEmpty = false := by
  rw [ByteArray.toList_eq]
  cases e : s.data.toList with
  | nil => exact absurd (by rw [← len_list, e]; rfl) h
  | cons _ _ => rfl

set_option maxHeartbeats 800000 in
theorem implNameOK_any (s : ByteArray) (w : World) (hs : s.size ≤ maxLen) : Calls Tryd.prog 62 #[.string s] w fun e w' => e = .returned (.bool (nameB s)) ∧ Below w.heap.size w w' := by
  unfold maxLen at hs
  by_cases z : s.size = 0
  · have z2 := empty_yes z
    go_enter Tryd.func62, Tryd.ntmps62
    go_wp2
    go_ret
    exact ⟨ret_bool (nameB_empty z).symm, Below.refl _ _⟩
  have z2 := empty_no z
  by_cases l : 40 < s.size
  · go_enter Tryd.func62, Tryd.ntmps62
    go_wp2
    go_ret
    exact ⟨ret_bool (nameB_long l).symm, Below.refl _ _⟩
  have hb := get_bt s
  go_enter Tryd.func62, Tryd.ntmps62
  go_wp2
  go_loopw [] (fun w' => ∃ pos : Nat, w' = w.iter s pos ∧ pos ≤ s.size ∧ ∀ j, j < pos → okB s j = true) (fun w' => s.size - w'.iterPos w.heap.size)
  case atStart => exact ⟨0, rfl, Nat.zero_le _, fun j hj => by omega⟩
  case round =>
    obtain ⟨pos, rfl, hpos, hall⟩ := hrel
    have Hall : Hid (∀ j, j < pos → okB s j = true) := hall
    clear hall
    by_cases hp : pos < s.size
    · by_cases hlow : bt s pos < 128
      · have hnx := next_low (P := Tryd.prog) w s pos hp hlow
        cases f1 : letB (bt s pos)
        · by_cases p0 : pos = 0
          · subst p0
            go_wp2_with (first | (go_at_call 98; refine (isLetter_any _ _).mono ?_; rintro e w' ⟨rfl, rfl⟩) | (go_at_call 99; refine (isDigit_any _ _).mono ?_; rintro e w' ⟨rfl, rfl⟩))
            go_ret
            exact ⟨ret_bool (nameB_bad hp (okB_first f1)).symm, iter_below _ _ _⟩
          · cases f2 : digB (bt s pos)
            · go_wp2_with (first | (go_at_call 98; refine (isLetter_any _ _).mono ?_; rintro e w' ⟨rfl, rfl⟩) | (go_at_call 99; refine (isDigit_any _ _).mono ?_; rintro e w' ⟨rfl, rfl⟩))
              go_ret
              exact ⟨ret_bool (nameB_bad hp (okB_no f1 f2)).symm, iter_below _ _ _⟩
            · go_wp2_with (first | (go_at_call 98; refine (isLetter_any _ _).mono ?_; rintro e w' ⟨rfl, rfl⟩) | (go_at_call 99; refine (isDigit_any _ _).mono ?_; rintro e w' ⟨rfl, rfl⟩))
              go_roundw
              case rel =>
                refine ⟨pos + 1, rfl, by omega, fun j hj => ?_⟩
                by_cases e : j < pos
                · exact Hall.out j e
                · obtain rfl : j = pos := by omega
                  exact okB_dig p0 f2
              case measure => simp; omega
        · go_wp2_with (first | (go_at_call 98; refine (isLetter_any _ _).mono ?_; rintro e w' ⟨rfl, rfl⟩) | (go_at_call 99; refine (isDigit_any _ _).mono ?_; rintro e w' ⟨rfl, rfl⟩))
          go_roundw
          case rel =>
            refine ⟨pos + 1, rfl, by omega, fun j hj => ?_⟩
            by_cases e : j < pos
            · exact Hall.out j e
            · obtain rfl : j = pos := by omega
              exact okB_let f1
          case measure => simp; omega
      · have hnx : ∀ ty, (Instr.next (.pointer (some ⟨w.heap.size, 0, none⟩)) true ty).run Tryd.prog (w.iter s pos) = _ := fun ty => run_next_any w s pos ty hp
        have hh := high_rune s pos hp hlow
        have f1 := letB_high hh
        have f2 := digB_high hh
        have hh2 : 128 ≤ bt s pos := by omega
        by_cases p0 : pos = 0
        · subst p0
          go_wp2_with (first | (go_at_call 98; refine (isLetter_any _ _).mono ?_; rintro e w' ⟨rfl, rfl⟩) | (go_at_call 99; refine (isDigit_any _ _).mono ?_; rintro e w' ⟨rfl, rfl⟩))
          go_ret
          exact ⟨ret_bool (nameB_bad hp (okB_no (letB_high hh2) (digB_high hh2))).symm, iter_below _ _ _⟩
        · go_wp2_with (first | (go_at_call 98; refine (isLetter_any _ _).mono ?_; rintro e w' ⟨rfl, rfl⟩) | (go_at_call 99; refine (isDigit_any _ _).mono ?_; rintro e w' ⟨rfl, rfl⟩))
          go_ret
          exact ⟨ret_bool (nameB_bad hp (okB_no (letB_high hh2) (digB_high hh2))).symm, iter_below _ _ _⟩
    · have hnx : ∀ ty, (Instr.next (.pointer (some ⟨w.heap.size, 0, none⟩)) true ty).run Tryd.prog (w.iter s pos) = _ := fun ty => run_next_end w s pos ty hp
      go_wp2
      go_ret
      exact ⟨ret_bool (nameB_yes (by omega) (by omega) (fun j hj => Hall.out j (by omega))).symm, iter_below _ _ _⟩
end Go.Proofs.YtpaljmhoojpbdaaDoor
