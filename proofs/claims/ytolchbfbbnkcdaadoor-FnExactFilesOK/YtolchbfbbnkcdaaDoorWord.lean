/- A name, told once as a test over bytes ('nameB'); the model's walk over bytes and the program's over runes both answer it, at every text. No condition but the form's own (a text is at most maxLen long). -/
import Derived.Test.YtolchbfbbnkcdaaDoorLetters
import Derived.PlainAid
import Derived.Below
namespace Go.Proofs.YtolchbfbbnkcdaaDoor
open Go.RowKit Go.PlainAid

def okB (s : ByteArray) (k : Nat) : Bool := letB (bt s k) || (decide (k ≠ 0) && digB (bt s k))
def nameB (s : ByteArray) : Bool := decide (1 ≤ s.size) && decide (s.size ≤ 40) && (List.range s.size).all (okB s)
theorem nameB_yes {s : ByteArray} (h1 : 1 ≤ s.size) (h2 : s.size ≤ 40) (h : ∀ k, k < s.size → okB s k = true) : nameB s = true := by
  unfold nameB; simp [h1, h2]; exact h
theorem nameB_bad {s : ByteArray} {k : Nat} (hk : k < s.size) (h : okB s k = false) : nameB s = false := by
  unfold nameB
  have e : (List.range s.size).all (okB s) = false := by
    rw [List.all_eq_false]; exact ⟨k, by simpa using hk, by simp [h]⟩
  simp [e]
theorem nameB_empty {s : ByteArray} (h : s.size = 0) : nameB s = false := by unfold nameB; simp [h]
theorem nameB_long {s : ByteArray} (h : 40 < s.size) : nameB s = false := by
  unfold nameB; have : ¬ s.size ≤ 40 := by omega
  simp [this]
theorem okB_let {s : ByteArray} {k : Nat} (h : letB (bt s k) = true) : okB s k = true := by unfold okB; simp [h]
theorem okB_dig {s : ByteArray} {k : Nat} (h0 : k ≠ 0) (h : digB (bt s k) = true) : okB s k = true := by unfold okB; simp [h, h0]
theorem okB_no {s : ByteArray} {k : Nat} (h : letB (bt s k) = false) (h' : digB (bt s k) = false) : okB s k = false := by unfold okB; simp [h, h']
theorem okB_first {s : ByteArray} (h : letB (bt s 0) = false) : okB s 0 = false := by unfold okB; simp [h]
theorem letB_high {n : Int} (h : 128 ≤ n) : letB n = false := letB_no (by omega)
theorem digB_high {n : Int} (h : 128 ≤ n) : digB n = false := digB_no (by omega)

set_option maxHeartbeats 800000 in
theorem l00Word_any (s : ByteArray) (w : World) (hs : s.size ≤ maxLen) : Calls Tryd.prog 17 #[.string s] w fun e w' => e = .returned (.bool (nameB s)) ∧ w = w' := by
  unfold maxLen at hs
  by_cases z : s.size = 0
  · have z' : s.size < 1 := by omega
    go_enter Tryd.func17, Tryd.ntmps17
    go_wp2
    go_ret
    exact ⟨ret_bool (nameB_empty z).symm, rfl⟩
  by_cases l : 40 < s.size
  · go_enter Tryd.func17, Tryd.ntmps17
    go_wp2
    go_ret
    exact ⟨ret_bool (nameB_long l).symm, rfl⟩
  have hb := get_bt s
  have h0 : 0 < s.size := by omega
  cases f : letB (bt s 0)
  · go_enter Tryd.func17, Tryd.ntmps17
    go_wp2_with (go_at_call 22; refine (l00Letter_any _ _).mono ?_; rintro e w' ⟨rfl, rfl⟩)
    go_ret
    exact ⟨ret_bool (nameB_bad h0 (okB_first f)).symm, rfl⟩
  · go_enter Tryd.func17, Tryd.ntmps17
    go_wp2_with (go_at_call 22; refine (l00Letter_any _ _).mono ?_; rintro e w' ⟨rfl, rfl⟩)
    go_loop [3] (fun i => ∃ k : Nat, 1 ≤ k ∧ k ≤ s.size ∧ i = .int .i64 k ∧ ∀ j, j < k → okB s j = true) (fun i => s.size - (intOf i).toNat)
    case atStart => exact ⟨1, by omega, by omega, rfl, fun j hj => by
      obtain rfl : j = 0 := by omega
      exact okB_let f⟩
    case round =>
      obtain ⟨k, hk1, hk, rfl, hall⟩ := hrel
      have Hall : Hid (∀ j, j < k → okB s j = true) := hall; clear hall
      by_cases hp : k < s.size
      · cases f1 : letB (bt s k)
        · cases f2 : digB (bt s k)
          · go_wp2_with (first | (go_at_call 22; refine (l00Letter_any _ _).mono ?_; rintro e w' ⟨rfl, rfl⟩) | (go_at_call 23; refine (l00Digit_any _ _).mono ?_; rintro e w' ⟨rfl, rfl⟩))
            go_ret
            exact ⟨ret_bool (nameB_bad hp (okB_no f1 f2)).symm, rfl⟩
          · go_wp2_with (first | (go_at_call 22; refine (l00Letter_any _ _).mono ?_; rintro e w' ⟨rfl, rfl⟩) | (go_at_call 23; refine (l00Digit_any _ _).mono ?_; rintro e w' ⟨rfl, rfl⟩))
            go_round
            case rel => exact ⟨k + 1, by omega, by omega, by go_num, fun j hj => by
              by_cases e : j < k
              · exact Hall.out j e
              · obtain rfl : j = k := by omega
                exact okB_dig (by omega) f2⟩
            case measure => simp [intOf]; omega
        · go_wp2_with (first | (go_at_call 22; refine (l00Letter_any _ _).mono ?_; rintro e w' ⟨rfl, rfl⟩) | (go_at_call 23; refine (l00Digit_any _ _).mono ?_; rintro e w' ⟨rfl, rfl⟩))
          go_round
          case rel => exact ⟨k + 1, by omega, by omega, by go_num, fun j hj => by
            by_cases e : j < k
            · exact Hall.out j e
            · obtain rfl : j = k := by omega
              exact okB_let f1⟩
          case measure => simp [intOf]; omega
      · go_wp2
        go_ret
        exact ⟨ret_bool (nameB_yes (by omega) (by omega) (fun j hj => Hall.out j (by omega))).symm, rfl⟩
end Go.Proofs.YtolchbfbbnkcdaaDoor
