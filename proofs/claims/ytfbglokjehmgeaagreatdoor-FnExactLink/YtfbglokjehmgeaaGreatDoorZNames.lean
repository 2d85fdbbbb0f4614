/- Names and bounds, as the model and the program ask them (stage 4 on). No condition. -/
import Derived.Test.YtfbglokjehmgeaaGreatDoorRows
import Derived.WalkKit
import Derived.WalkSpells
import Derived.PlainAid
import Derived.Below
import Derived.Test.YtfbglokjehmgeaaGreatDoorZTchL
import Derived.LaidMore
import Derived.Stop.Joined
import Derived.BigQuiet
import Derived.Shelf.SlSortCmp.QuietGrown
/- The letters and digits of a name: the program's two tests and the model's two answer alike, at every number. No condition. -/
namespace Go.Proofs.YtfbglokjehmgeaaGreatDoor
open Go.RowKit

def letB (n : Int) : Bool := decide ((97 ≤ n ∧ n ≤ 122) ∨ (65 ≤ n ∧ n ≤ 90) ∨ n = 95)
def digB (n : Int) : Bool := decide (48 ≤ n ∧ n ≤ 57)
theorem letB_yes {n : Int} (h : (97 ≤ n ∧ n ≤ 122) ∨ (65 ≤ n ∧ n ≤ 90) ∨ n = 95) : letB n = true := decide_eq_true h
theorem letB_no {n : Int} (h : ¬ ((97 ≤ n ∧ n ≤ 122) ∨ (65 ≤ n ∧ n ≤ 90) ∨ n = 95)) : letB n = false := decide_eq_false h
theorem digB_yes {n : Int} (h : 48 ≤ n ∧ n ≤ 57) : digB n = true := decide_eq_true h
theorem digB_no {n : Int} (h : ¬ (48 ≤ n ∧ n ≤ 57)) : digB n = false := decide_eq_false h
theorem ret_bool {a b : Bool} (h : a = b) : Ending.returned (.bool a) = .returned (.bool b) := by rw [h]


set_option maxHeartbeats 400000 in
theorem isLetter_any (n : Int) (w : World) : Calls Tryz.prog 104 #[.int .i32 n] w fun e w' => e = .returned (.bool (letB n)) ∧ w = w' := by
  go_enter Tryz.func104, Tryz.ntmps104
  go_wp2
  all_goals go_ret
  all_goals refine ⟨ret_bool ?_, rfl⟩
  all_goals first | (refine (letB_yes ?_).symm; omega) | (refine (letB_no ?_).symm; omega) | (unfold letB; rw [Bool.eq_iff_iff]; simp; omega)

set_option maxHeartbeats 400000 in
theorem isDigit_any (n : Int) (w : World) : Calls Tryz.prog 105 #[.int .i32 n] w fun e w' => e = .returned (.bool (digB n)) ∧ w = w' := by
  go_enter Tryz.func105, Tryz.ntmps105
  go_wp2
  all_goals go_ret
  all_goals refine ⟨ret_bool ?_, rfl⟩
  all_goals first | (refine (digB_yes ?_).symm; omega) | (refine (digB_no ?_).symm; omega) | (unfold digB; rw [Bool.eq_iff_iff]; simp; omega)

set_option maxHeartbeats 400000 in
theorem l00Letter_any (n : Int) (w : World) : Calls Tryz.prog 113 #[.int .u8 n] w fun e w' => e = .returned (.bool (letB n)) ∧ w = w' := by
  go_enter Tryz.func113, Tryz.ntmps113
  go_wp2
  all_goals go_ret
  all_goals refine ⟨ret_bool ?_, rfl⟩
  all_goals first | (refine (letB_yes ?_).symm; omega) | (refine (letB_no ?_).symm; omega) | (unfold letB; rw [Bool.eq_iff_iff]; simp; omega)

set_option maxHeartbeats 400000 in
theorem l00Digit_any (n : Int) (w : World) : Calls Tryz.prog 114 #[.int .u8 n] w fun e w' => e = .returned (.bool (digB n)) ∧ w = w' := by
  go_enter Tryz.func114, Tryz.ntmps114
  go_wp2
  all_goals go_ret
  all_goals refine ⟨ret_bool ?_, rfl⟩
  all_goals first | (refine (digB_yes ?_).symm; omega) | (refine (digB_no ?_).symm; omega) | (unfold digB; rw [Bool.eq_iff_iff]; simp; omega)
end Go.Proofs.YtfbglokjehmgeaaGreatDoor

/- A name, told once as a test over bytes ('nameB'); the model's walk over bytes and the program's over runes both answer it, at every text. No condition but the form's own (a text is at most maxLen long). -/
namespace Go.Proofs.YtfbglokjehmgeaaGreatDoor
open Go.RowKit Go.PlainAid

def okB (s : ByteArray) (k : Nat) : Bool := letB (bt s k) || (decide (k ≠ 0) && digB (bt s k))
def nameB (s : ByteArray) : Bool := decide (1 ≤ s.size) && decide (s.size ≤ 40) && (List.range s.size).all (okB s)
theorem nameB_yes {s : ByteArray} (h1 : 1 ≤ s.size) (h2 : s.size ≤ 40) (h : ∀ k, k < s.size → okB s k = true) : nameB s = true := by
  unfold nameB; simp [h1, h2]; exact h
theorem nameB_bad {s : ByteArray} {k : Nat} (hk : k < s.size) (h : okB s k = false) : nameB s = false := by
  unfold nameB
  have e : (List.range s.size).all (okB s) = false := by
    rw [List.all_eq_false]; exact ⟨k, by simpa using hk, by simp [h]⟩
  simp [e]
theorem nameB_empty {s : ByteArray} (h : s.size = 0) : nameB s = false := by unfold nameB; simp [h]
theorem nameB_long {s : ByteArray} (h : 40 < s.size) : nameB s = false := by
  unfold nameB; have : ¬ s.size ≤ 40 := by omega
  simp [this]
theorem okB_let {s : ByteArray} {k : Nat} (h : letB (bt s k) = true) : okB s k = true := by unfold okB; simp [h]
theorem okB_dig {s : ByteArray} {k : Nat} (h0 : k ≠ 0) (h : digB (bt s k) = true) : okB s k = true := by unfold okB; simp [h, h0]
theorem okB_no {s : ByteArray} {k : Nat} (h : letB (bt s k) = false) (h' : digB (bt s k) = false) : okB s k = false := by unfold okB; simp [h, h']
theorem okB_first {s : ByteArray} (h : letB (bt s 0) = false) : okB s 0 = false := by unfold okB; simp [h]
theorem letB_high {n : Int} (h : 128 ≤ n) : letB n = false := letB_no (by omega)
theorem digB_high {n : Int} (h : 128 ≤ n) : digB n = false := digB_no (by omega)

set_option maxHeartbeats 800000 in
theorem l00Word_any (s : ByteArray) (w : World) (hs : s.size ≤ maxLen) : Calls Tryz.prog 99 #[.string s] w fun e w' => e = .returned (.bool (nameB s)) ∧ w = w' := by
  unfold maxLen at hs
  by_cases z : s.size = 0
  · have z' : s.size < 1 := by omega
    go_enter Tryz.func99, Tryz.ntmps99
    go_wp2
    go_ret
    exact ⟨ret_bool (nameB_empty z).symm, rfl⟩
  by_cases l : 40 < s.size
  · go_enter Tryz.func99, Tryz.ntmps99
    go_wp2
    go_ret
    exact ⟨ret_bool (nameB_long l).symm, rfl⟩
  have hb := get_bt s
  have h0 : 0 < s.size := by omega
  cases f : letB (bt s 0)
  · go_enter Tryz.func99, Tryz.ntmps99
    go_wp2_with (go_at_call 113; refine (l00Letter_any _ _).mono ?_; rintro e w' ⟨rfl, rfl⟩)
    go_ret
    exact ⟨ret_bool (nameB_bad h0 (okB_first f)).symm, rfl⟩
  · go_enter Tryz.func99, Tryz.ntmps99
    go_wp2_with (go_at_call 113; refine (l00Letter_any _ _).mono ?_; rintro e w' ⟨rfl, rfl⟩)
    go_loop [3] (fun i => ∃ k : Nat, 1 ≤ k ∧ k ≤ s.size ∧ i = .int .i64 k ∧ ∀ j, j < k → okB s j = true) (fun i => s.size - (intOf i).toNat)
    case atStart => exact ⟨1, by omega, by omega, rfl, fun j hj => by
      obtain rfl : j = 0 := by omega
      exact okB_let f⟩
    case round =>
      obtain ⟨k, hk1, hk, rfl, hall⟩ := hrel
      have Hall : Hid (∀ j, j < k → okB s j = true) := hall; clear hall
      by_cases hp : k < s.size
      · cases f1 : letB (bt s k)
        · cases f2 : digB (bt s k)
          · go_wp2_with (first | (go_at_call 113; refine (l00Letter_any _ _).mono ?_; rintro e w' ⟨rfl, rfl⟩) | (go_at_call 114; refine (l00Digit_any _ _).mono ?_; rintro e w' ⟨rfl, rfl⟩))
            go_ret
            exact ⟨ret_bool (nameB_bad hp (okB_no f1 f2)).symm, rfl⟩
          · go_wp2_with (first | (go_at_call 113; refine (l00Letter_any _ _).mono ?_; rintro e w' ⟨rfl, rfl⟩) | (go_at_call 114; refine (l00Digit_any _ _).mono ?_; rintro e w' ⟨rfl, rfl⟩))
            go_round
            case rel => exact ⟨k + 1, by omega, by omega, by go_num, fun j hj => by
              by_cases e : j < k
              · exact Hall.out j e
              · obtain rfl : j = k := by omega
                exact okB_dig (by omega) f2⟩
            case measure => simp [intOf]; omega
        · go_wp2_with (first | (go_at_call 113; refine (l00Letter_any _ _).mono ?_; rintro e w' ⟨rfl, rfl⟩) | (go_at_call 114; refine (l00Digit_any _ _).mono ?_; rintro e w' ⟨rfl, rfl⟩))
          go_round
          case rel => exact ⟨k + 1, by omega, by omega, by go_num, fun j hj => by
            by_cases e : j < k
            · exact Hall.out j e
            · obtain rfl : j = k := by omega
              exact okB_let f1⟩
          case measure => simp [intOf]; omega
      · go_wp2
        go_ret
        exact ⟨ret_bool (nameB_yes (by omega) (by omega) (fun j hj => Hall.out j (by omega))).symm, rfl⟩
end Go.Proofs.YtfbglokjehmgeaaGreatDoor

/- The program's NameOK, over runes, answers 'nameB' at every text; behind it nothing that was there has turned. -/
namespace Go.Proofs.YtfbglokjehmgeaaGreatDoor
open Go.RowKit Go.PlainAid

theorem next_low {P : Program} (w : World) (s : ByteArray) (pos : Nat) (h : pos < s.size) (ha : bt s pos < 128) (ty : TypeId) :
    (Instr.next (.pointer (some ⟨w.heap.size, 0, none⟩)) true ty).run P (w.iter s pos) = .ok (.tuple #[.bool true, .int .i64 pos, .int .i32 (bt s pos)]) (w.iter s (pos + 1)) := by
  have e := get_bt s pos h
  rw [← e] at ha
  rw [← e]
  exact run_next_ascii w s pos ty h (by omega)
theorem high_rune (s : ByteArray) (pos : Nat) (h : pos < s.size) (ha : ¬ bt s pos < 128) : 128 ≤ ((Utf8.decode s pos).1 : Int) := by
  have e := get_bt s pos h
  rw [← e] at ha
  have := (decode_high s pos h (by omega)).1
  omega
theorem iter_below (w : World) (s : ByteArray) (p : Nat) : Below w.heap.size w (w.iter s p) := (Below.refl _ _).alloc (Nat.le_refl _) _

theorem len_list (s : ByteArray) : s.data.toList.length = s.size := by rw [Array.length_toList]; rfl
theorem empty_yes {s : ByteArray} (h : s.size = 0) : s.toList.isEmpty = true := by
  rw [ByteArray.toList_eq, List.isEmpty_iff_length_eq_zero, len_list, h]
theorem empty_no {s : ByteArray} (h : ¬ s.size = 0) : s.toList.isEmpty = false := by
  rw [ByteArray.toList_eq]
  cases e : s.data.toList with
  | nil => exact absurd (by rw [← len_list, e]; rfl) h
  | cons _ _ => rfl

set_option maxHeartbeats 800000 in
theorem implNameOK_any (s : ByteArray) (w : World) (hs : s.size ≤ maxLen) : Calls Tryz.prog 86 #[.string s] w fun e w' => e = .returned (.bool (nameB s)) ∧ Below w.heap.size w w' := by
  unfold maxLen at hs
  by_cases z : s.size = 0
  · have z2 := empty_yes z
    go_enter Tryz.func86, Tryz.ntmps86
    go_wp2
    go_ret
    exact ⟨ret_bool (nameB_empty z).symm, Below.refl _ _⟩
  have z2 := empty_no z
  by_cases l : 40 < s.size
  · go_enter Tryz.func86, Tryz.ntmps86
    go_wp2
    go_ret
    exact ⟨ret_bool (nameB_long l).symm, Below.refl _ _⟩
  have hb := get_bt s
  go_enter Tryz.func86, Tryz.ntmps86
  go_wp2
  go_loopw [] (fun w' => ∃ pos : Nat, w' = w.iter s pos ∧ pos ≤ s.size ∧ ∀ j, j < pos → okB s j = true) (fun w' => s.size - w'.iterPos w.heap.size)
  case atStart => exact ⟨0, rfl, Nat.zero_le _, fun j hj => by omega⟩
  case round =>
    obtain ⟨pos, rfl, hpos, hall⟩ := hrel
    have Hall : Hid (∀ j, j < pos → okB s j = true) := hall
    clear hall
    by_cases hp : pos < s.size
    · by_cases hlow : bt s pos < 128
      · have hnx := next_low (P := Tryz.prog) w s pos hp hlow
        cases f1 : letB (bt s pos)
        · by_cases p0 : pos = 0
          · subst p0
            go_wp2_with (first | (go_at_call 104; refine (isLetter_any _ _).mono ?_; rintro e w' ⟨rfl, rfl⟩) | (go_at_call 105; refine (isDigit_any _ _).mono ?_; rintro e w' ⟨rfl, rfl⟩))
            go_ret
            exact ⟨ret_bool (nameB_bad hp (okB_first f1)).symm, iter_below _ _ _⟩
          · cases f2 : digB (bt s pos)
            · go_wp2_with (first | (go_at_call 104; refine (isLetter_any _ _).mono ?_; rintro e w' ⟨rfl, rfl⟩) | (go_at_call 105; refine (isDigit_any _ _).mono ?_; rintro e w' ⟨rfl, rfl⟩))
              go_ret
              exact ⟨ret_bool (nameB_bad hp (okB_no f1 f2)).symm, iter_below _ _ _⟩
            · go_wp2_with (first | (go_at_call 104; refine (isLetter_any _ _).mono ?_; rintro e w' ⟨rfl, rfl⟩) | (go_at_call 105; refine (isDigit_any _ _).mono ?_; rintro e w' ⟨rfl, rfl⟩))
              go_roundw
              case rel =>
                refine ⟨pos + 1, rfl, by omega, fun j hj => ?_⟩
                by_cases e : j < pos
                · exact Hall.out j e
                · obtain rfl : j = pos := by omega
                  exact okB_dig p0 f2
              case measure => simp; omega
        · go_wp2_with (first | (go_at_call 104; refine (isLetter_any _ _).mono ?_; rintro e w' ⟨rfl, rfl⟩) | (go_at_call 105; refine (isDigit_any _ _).mono ?_; rintro e w' ⟨rfl, rfl⟩))
          go_roundw
          case rel =>
            refine ⟨pos + 1, rfl, by omega, fun j hj => ?_⟩
            by_cases e : j < pos
            · exact Hall.out j e
            · obtain rfl : j = pos := by omega
              exact okB_let f1
          case measure => simp; omega
      · have hnx : ∀ ty, (Instr.next (.pointer (some ⟨w.heap.size, 0, none⟩)) true ty).run Tryz.prog (w.iter s pos) = _ := fun ty => run_next_any w s pos ty hp
        have hh := high_rune s pos hp hlow
        have f1 := letB_high hh
        have f2 := digB_high hh
        have hh2 : 128 ≤ bt s pos := by omega
        by_cases p0 : pos = 0
        · subst p0
          go_wp2_with (first | (go_at_call 104; refine (isLetter_any _ _).mono ?_; rintro e w' ⟨rfl, rfl⟩) | (go_at_call 105; refine (isDigit_any _ _).mono ?_; rintro e w' ⟨rfl, rfl⟩))
          go_ret
          exact ⟨ret_bool (nameB_bad hp (okB_no (letB_high hh2) (digB_high hh2))).symm, iter_below _ _ _⟩
        · go_wp2_with (first | (go_at_call 104; refine (isLetter_any _ _).mono ?_; rintro e w' ⟨rfl, rfl⟩) | (go_at_call 105; refine (isDigit_any _ _).mono ?_; rintro e w' ⟨rfl, rfl⟩))
          go_ret
          exact ⟨ret_bool (nameB_bad hp (okB_no (letB_high hh2) (digB_high hh2))).symm, iter_below _ _ _⟩
    · have hnx : ∀ ty, (Instr.next (.pointer (some ⟨w.heap.size, 0, none⟩)) true ty).run Tryz.prog (w.iter s pos) = _ := fun ty => run_next_end w s pos ty hp
      go_wp2
      go_ret
      exact ⟨ret_bool (nameB_yes (by omega) (by omega) (fun j hj => Hall.out j (by omega))).symm, iter_below _ _ _⟩
end Go.Proofs.YtfbglokjehmgeaaGreatDoor

/- IsKey: the program's table and the model's list hold the same words; both find a text there or not. The listed table is tied to the program's text by the card. -/
namespace Go.Proofs.YtfbglokjehmgeaaGreatDoor
open Go.RowKit

def keys : List (List UInt8) := [[77, 79, 68, 85, 76, 69], [73, 77, 80, 79, 82, 84], [67, 79, 78, 83, 84], [86, 65, 82], [80, 82, 79, 67, 69, 68, 85, 82, 69], [66, 69, 71, 73, 78], [69, 78, 68], [73, 70], [84, 72, 69, 78], [69, 76, 83, 73, 70], [69, 76, 83, 69], [87, 72, 73, 76, 69], [68, 79], [82, 69, 84, 85, 82, 78], [79, 82], [68, 73, 86], [77, 79, 68], [84, 82, 85, 69], [70, 65, 76, 83, 69], [65, 82, 82, 65, 89], [79, 70], [73, 78, 84, 69, 71, 69, 82], [66, 79, 79, 76, 69, 65, 78], [67, 72, 65, 82], [87, 82, 73, 84, 69], [82, 69, 65, 68], [79, 82, 68], [67, 72, 82], [76, 69, 78]]
theorem keys_laid : (Rows.laid_loop_example_g00168_impl_keyWords (H := Unit)) = .agg (keys.map fun z => .lit (.string z)) := rfl
theorem keys_len : keys.length = 29 := rfl

def keyAt (k : Nat) : List UInt8 := keys.getD k []
/-- A text is one of the words. -/
def keyB (s : ByteArray) : Bool := keys.any fun k => k == s.toList
theorem keyB_yes {s : ByteArray} {k : Nat} (hk : k < 29) (h : (keyAt k == s.toList) = true) : keyB s = true := by
  unfold keyB
  rw [List.any_eq_true]
  have hk' : k < keys.length := by rw [keys_len]; exact hk
  have e : keyAt k = keys[k] := by unfold keyAt; simp [List.getD, List.getElem?_eq_getElem hk']
  exact ⟨keys[k], List.getElem_mem hk', by rw [← e]; exact h⟩
theorem keyB_no {s : ByteArray} (h : ∀ k, k < 29 → (keyAt k == s.toList) = false) : keyB s = false := by
  unfold keyB
  rw [List.any_eq_false]
  intro x hx
  obtain ⟨k, hk, rfl⟩ := List.getElem_of_mem hx
  have e : keyAt k = keys[k] := by unfold keyAt; simp [List.getD, List.getElem?_eq_getElem hk]
  have := h k (by rw [keys_len] at hk; exact hk)
  rw [e] at this
  simpa using this

def keyRow : Array Value := (keys.map txt).toArray
theorem run_index_key (k : Nat) (w : World) (hk : k < 29) : (Instr.index 175 (.agg keyRow) (.int .i64 k)).run Tryz.prog w = .ok (txt (keyAt k)) w :=
  run_index_texts 175 9 29 keys .i64 k w Tryz.underlying175 Tryz.underlying9 (by kernel_rfl) hk keys_len

set_option maxHeartbeats 800000 in
theorem implIsKey_any (s : ByteArray) (w : World) (t : TypeId) (fr : Nat × Nat) (hg : w.heap[1]? = some (.cells keyRow t fr)) :
    Calls Tryz.prog 87 #[.string s] w fun e w' => e = .returned (.bool (keyB s)) ∧ w = w' := by
  go_enter Tryz.func87, Tryz.ntmps87
  go_wp2_with (refine wpList_load_row rfl 175 _ rfl 1 rfl t _ fr _ hg Tryz.underlying175 rfl (by kernel_rfl) ?_)
  go_loop [6] (fun i => ∃ k : Nat, k ≤ 29 ∧ i = .int .i64 k ∧ ∀ j, j < k → (keyAt j == s.toList) = false) (fun i => 29 - (intOf i).toNat)
  case atStart => exact ⟨0, by omega, rfl, fun j hj => by omega⟩
  case round =>
    obtain ⟨k, hk, rfl, hall⟩ := hrel
    have Hall : Hid (∀ j, j < k → (keyAt j == s.toList) = false) := hall
    clear hall
    by_cases hp : k < 29
    · have hx := fun w' => run_index_key k w' hp
      simp only [txt] at hx
      cases f : keyAt k == s.toList
      · go_wp2
        go_round
        case rel =>
          refine ⟨k + 1, by omega, by go_num, fun j hj => ?_⟩
          by_cases e : j < k
          · exact Hall.out j e
          · obtain rfl : j = k := by omega
            exact f
        case measure => simp [intOf]; omega
      · go_wp2
        go_ret
        have := keyB_yes hp f
        exact ⟨by rw [this]; rfl, rfl⟩
    · go_wp2
      go_ret
      have := keyB_no (s := s) (fun j hj => Hall.out j (by omega))
      exact ⟨by rw [this]; rfl, rfl⟩
end Go.Proofs.YtfbglokjehmgeaaGreatDoor

/- The models keys. -/
namespace Go.Proofs.YtfbglokjehmgeaaGreatDoor
open Go.RowKit

set_option maxHeartbeats 800000 in
theorem l01Place_keys (s : ByteArray) (b : Nat) (w : World) (hc : ∀ i, i < 29 → w.cell? ⟨b, i, none⟩ = some (txt (keyAt i))) :
    Calls Tryz.prog 44 #[.slice (some ⟨b, 0, none⟩) 29 29, .string s] w fun e w' => (∃ n : Int, e = .returned (.int .i64 n) ∧ decide (0 ≤ n) = keyB s) ∧ w = w' := by
  have Hc : Hid (∀ i, i < 29 → w.cell? ⟨b, i, none⟩ = some (txt (keyAt i))) := hc
  clear hc
  go_enter Tryz.func44, Tryz.ntmps44
  go_wp2
  go_loop [5] (fun i => ∃ k : Nat, k ≤ 29 ∧ i = .int .i64 k ∧ ∀ j, j < k → (keyAt j == s.toList) = false) (fun i => 29 - (intOf i).toNat)
  case atStart => exact ⟨0, by omega, rfl, fun j hj => by omega⟩
  case round =>
    obtain ⟨k, hk, rfl, hall⟩ := hrel
    have Hall : Hid (∀ j, j < k → (keyAt j == s.toList) = false) := hall
    clear hall
    by_cases hp : k < 29
    · have hx := Hc.out k hp
      simp only [txt] at hx
      cases f : keyAt k == s.toList
      · go_wp2
        go_round
        case rel =>
          refine ⟨k + 1, by omega, by go_num, fun j hj => ?_⟩
          by_cases e : j < k
          · exact Hall.out j e
          · obtain rfl : j = k := by omega
            exact f
        case measure => simp [intOf]; omega
      · go_wp2
        go_ret
        have := keyB_yes hp f
        exact ⟨⟨k, rfl, by rw [this]; simp⟩, rfl⟩
    · go_wp2
      go_ret
      have := keyB_no (s := s) (fun j hj => Hall.out j (by omega))
      exact ⟨⟨-1, rfl, by rw [this]; rfl⟩, rfl⟩

theorem l01Keys_any (w : World) : Calls Tryz.prog 100 #[] w fun e w' => e = .returned (.slice (some ⟨w.heap.size, 0, none⟩) 29 29) ∧ w' = w.alloc (.cells keyRow 9) := by
  go_enter Tryz.func100, Tryz.ntmps100
  go_wp2
  go_ret
  exact ⟨rfl, rfl⟩

theorem keyRow_at (i : Nat) (h : i < 29) : keyRow[i]? = some (txt (keyAt i)) := by
  have hk : i < keys.length := by rw [keys_len]; exact h
  simp [keyRow, keyAt, List.getD, List.getElem?_eq_getElem hk]

theorem specIsKey_any (s : ByteArray) (w : World) : Calls Tryz.prog 78 #[.string s] w fun e w' => e = .returned (.bool (keyB s)) ∧ w' = w.alloc (.cells keyRow 9) := by
  go_enter Tryz.func78, Tryz.ntmps78
  go_wp2_with fail
  refine (l01Keys_any _).mono ?_
  rintro e w' ⟨rfl, rfl⟩
  go_wp2_with fail
  refine (l01Place_keys s w.heap.size _ (fun i hi => by rw [World.cell?_alloc_new]; exact keyRow_at i hi)).mono ?_
  rintro e w' ⟨⟨n, rfl, hn⟩, rfl⟩
  go_wp2
  go_ret
  exact ⟨by rw [← hn]; rfl, rfl⟩
end Go.Proofs.YtfbglokjehmgeaaGreatDoor

namespace Go.Proofs.YtfbglokjehmgeaaGreatDoor
open Go.RowKit Go.PlainAid

/-- A world behind draws and new blocks alone. -/
def Gw (w w' : World) : Prop := ∃ n os, w' = Sort.grow (w.drewN n) os
theorem Gw.refl (w : World) : Gw w w := ⟨0, #[], by rw [Sort.grow_empty]; rfl⟩
theorem Gw.grown {w w1 : World} (h : Gw w w1) (n : Nat) (os : Array Obj) : Gw w (Sort.grow (w1.drewN n) os) := by
  obtain ⟨m, os', rfl⟩ := h
  exact ⟨m + n, os' ++ os, by show Sort.grow (Sort.grow ((w.drewN m).drewN n) os') os = _; rw [Sort.grow_grow, World.drewN_drewN]⟩
theorem Gw.trans {w w1 w2 : World} (h : Gw w w1) (k : Gw w1 w2) : Gw w w2 := by
  obtain ⟨n, os, rfl⟩ := k
  exact h.grown n os
theorem Gw.one (w : World) (o : Obj) : Gw w (w.alloc o) := ⟨0, #[o], by rw [Sort.alloc_eq_grow]; rfl⟩
theorem Gw.below {w w' : World} (h : Gw w w') : Below w.heap.size w w' := by
  obtain ⟨n, os, rfl⟩ := h
  exact ⟨rfl, rfl, rfl, by simp, fun k hk => Sort.heap_grow_old (w.drewN n) os hk⟩
def ownB (s : ByteArray) : Bool := nameB s && !keyB s
theorem own_no1 {s : ByteArray} (h : nameB s = false) : ownB s = false := by unfold ownB; rw [h]; rfl
theorem own_no2 {s : ByteArray} (h : nameB s = true) (k : keyB s = true) : ownB s = false := by unfold ownB; rw [h, k]; rfl
theorem own_yes {s : ByteArray} (h : nameB s = true) (k : keyB s = false) : ownB s = true := by unfold ownB; rw [h, k]; rfl
theorem specNameOK_any (s : ByteArray) (w : World) (hs : s.size ≤ maxLen) : Calls Tryz.prog 77 #[.string s] w fun e w' => e = .returned (.bool (nameB s)) ∧ w = w' := by
  go_enter Tryz.func77, Tryz.ntmps77
  go_wp2_with (go_at_call 99; refine (l00Word_any s _ hs).mono ?_; rintro e w' ⟨rfl, rfl⟩)
  go_ret
  exact ⟨rfl, rfl⟩
theorem l02Name_gw (s : ByteArray) (w : World) (hs : s.size ≤ maxLen) : Calls Tryz.prog 42 #[.string s] w fun e w' => e = .returned (.bool (ownB s)) ∧ Gw w w' := by
  cases hn : nameB s with
  | false =>
    rw [own_no1 hn]
    go_enter Tryz.func42, Tryz.ntmps42
    go_wp2_with (go_at_call 77; refine (specNameOK_any s _ hs).mono ?_; rintro e w' ⟨rfl, rfl⟩; rw [hn])
    go_ret
    exact ⟨rfl, Gw.refl _⟩
  | true =>
    cases hk : keyB s with
    | true =>
      rw [own_no2 hn hk]
      go_enter Tryz.func42, Tryz.ntmps42
      go_wp2_with (first | (go_at_call 77; refine (specNameOK_any s _ hs).mono ?_; rintro e w' ⟨rfl, rfl⟩; rw [hn]) | (go_at_call 78; refine (specIsKey_any s _).mono ?_; rintro e w' ⟨rfl, rfl⟩; rw [hk]))
      go_ret
      exact ⟨rfl, Gw.one _ _⟩
    | false =>
      rw [own_yes hn hk]
      go_enter Tryz.func42, Tryz.ntmps42
      go_wp2_with (first | (go_at_call 77; refine (specNameOK_any s _ hs).mono ?_; rintro e w' ⟨rfl, rfl⟩; rw [hn]) | (go_at_call 78; refine (specIsKey_any s _).mono ?_; rintro e w' ⟨rfl, rfl⟩; rw [hk]))
      go_ret
      exact ⟨rfl, Gw.one _ _⟩
theorem ownName_any (s : ByteArray) (w : World) (hs : s.size ≤ maxLen) (t : TypeId) (fr : Nat × Nat) (hg : w.heap[1]? = some (.cells keyRow t fr)) : Calls Tryz.prog 53 #[.string s] w fun e w' => e = .returned (.bool (ownB s)) ∧ Below w.heap.size w w' := by
  have HK : Hid (∀ w1, Below w.heap.size w w1 → Calls Tryz.prog 87 #[.string s] w1 fun e w' => e = .returned (.bool (keyB s)) ∧ w1 = w') := fun w1 bel =>
    implIsKey_any s w1 t fr ((bel.block 1 (Array.getElem?_eq_some_iff.1 hg).1).trans hg)
  clear hg
  cases hn : nameB s with
  | false =>
    rw [own_no1 hn]
    go_enter Tryz.func53, Tryz.ntmps53
    go_wp2_with (go_at_call 86; refine (implNameOK_any s _ hs).mono ?_; rintro e w' ⟨rfl, bel⟩; rw [hn])
    go_ret
    exact ⟨rfl, bel⟩
  | true =>
    cases hk : keyB s with
    | true =>
      rw [own_no2 hn hk]
      go_enter Tryz.func53, Tryz.ntmps53
      go_wp2_with (first | (go_at_call 86; refine (implNameOK_any s _ hs).mono ?_; rintro e w' ⟨rfl, bel⟩; rw [hn]) | (go_at_call 87; refine (HK.out _ bel).mono ?_; rintro e w2 ⟨rfl, rfl⟩; rw [hk]))
      go_ret
      exact ⟨rfl, bel⟩
    | false =>
      rw [own_yes hn hk]
      go_enter Tryz.func53, Tryz.ntmps53
      go_wp2_with (first | (go_at_call 86; refine (implNameOK_any s _ hs).mono ?_; rintro e w' ⟨rfl, bel⟩; rw [hn]) | (go_at_call 87; refine (HK.out _ bel).mono ?_; rintro e w2 ⟨rfl, rfl⟩; rw [hk]))
      go_ret
      exact ⟨rfl, bel⟩
def inB (n a b : Int) : Bool := decide (a ≤ n) && decide (n ≤ b)
theorem l01In_any (n a b : Int) (w : World) : Calls Tryz.prog 43 #[.int .i64 n, .int .i64 a, .int .i64 b] w fun e w' => e = .returned (.bool (inB n a b)) ∧ w = w' := by
  unfold inB
  by_cases h : a ≤ n
  · by_cases k : n ≤ b
    · simp only [h, k, decide_true, Bool.and_true]
      go_enter Tryz.func43, Tryz.ntmps43
      go_wp2
      go_ret
      exact ⟨rfl, rfl⟩
    · simp only [h, k, decide_true, decide_false, Bool.and_false]
      go_enter Tryz.func43, Tryz.ntmps43
      go_wp2
      go_ret
      exact ⟨rfl, rfl⟩
  · simp only [h, decide_false, Bool.false_and]
    go_enter Tryz.func43, Tryz.ntmps43
    go_wp2
    go_ret
    exact ⟨rfl, rfl⟩
theorem in_yes {n a b : Int} (h : a ≤ n) (k : n ≤ b) : inB n a b = true := by unfold inB; simp [h, k]
theorem in_no {n a b : Int} (h : ¬ (a ≤ n ∧ n ≤ b)) : inB n a b = false := by unfold inB; simp; omega
end Go.Proofs.YtfbglokjehmgeaaGreatDoor
