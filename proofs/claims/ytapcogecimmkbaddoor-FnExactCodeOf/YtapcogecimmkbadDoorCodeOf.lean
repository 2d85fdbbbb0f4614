/- FnExactCodeOf: at every text the program's CodeOf answers as the model's; nothing that was there turns. The table of words is tied to the program's text by the given tie. No other condition. -/
import Derived.Test.YtapcogecimmkbadDoorBase
import Derived.Test.YtapcogecimmkbadDoorCards
import Derived.Test.YtapcogecimmkbadDoorTie
import Derived.LaidMore
import Derived.Stop.Joined
import Derived.SevenTiedAt
namespace Go.Proofs.YtapcogecimmkbadDoor
open Go.ChangeShapes Go.WideShapes Go.ChangeAt Go.RowKit

def words : List (List UInt8) := [[111, 107], [98, 97, 100], [108, 111, 110, 103], [102, 111, 114, 109], [115, 121, 110, 116, 97, 120], [110, 97, 109, 101], [116, 119, 105, 99, 101], [116, 121, 112, 101], [99, 111, 117, 110, 116], [114, 101, 115, 117, 108, 116], [112, 108, 97, 99, 101], [114, 97, 110, 103, 101], [110, 111, 110, 101], [109, 97, 110, 121], [100, 101, 101, 112], [115, 105, 122, 101], [115, 117, 109], [112, 114, 105, 110, 116], [99, 121, 99, 108, 101]]
theorem words_laid : (Rows.laid_loop_example_g00168_impl_codeWords (H := Unit)) = .agg (words.map fun z => .lit (.string z)) := rfl
theorem words_len : words.length = 19 := rfl
def wordAt (k : Nat) : List UInt8 := words.getD k []
def wordRow : Array Value := (words.map txt).toArray
/-- Which word a text is, from word k on; fuel first. -/
def codeFrom (s : ByteArray) : Nat → Nat → Int
  | 0, _ => -1
  | f + 1, k => if (wordAt k == s.toList) = true then (k : Int) else codeFrom s f (k + 1)
theorem codeFrom_hit {s : ByteArray} {k : Nat} (hk : k < 19) (h : (wordAt k == s.toList) = true) : codeFrom s (19 - k) k = k := by
  obtain ⟨f, hf⟩ : ∃ f, 19 - k = f + 1 := ⟨18 - k, by omega⟩
  rw [hf]; simp only [codeFrom]; rw [if_pos h]
theorem codeFrom_miss {s : ByteArray} {k : Nat} (hk : k < 19) (h : (wordAt k == s.toList) = false) : codeFrom s (19 - k) k = codeFrom s (19 - (k + 1)) (k + 1) := by
  obtain ⟨f, hf⟩ : ∃ f, 19 - k = f + 1 := ⟨18 - k, by omega⟩
  have : 19 - (k + 1) = f := by omega
  rw [hf, this]; simp only [codeFrom]; rw [if_neg (by rw [h]; decide)]
theorem ret_int {k : IntKind} {a b : Int} (h : a = b) : Ending.returned (.int k a) = .returned (.int k b) := by rw [h]

theorem run_index_word (k : Nat) (w : World) (hk : k < 19) : (Instr.index 33 (.agg wordRow) (.int .i64 k)).run Tryd.prog w = .ok (txt (wordAt k)) w :=
  run_index_texts 33 9 19 words .i64 k w Tryd.underlying33 Tryd.underlying9 (by kernel_rfl) hk words_len

set_option maxHeartbeats 800000 in
theorem implCodeOf_any (s : ByteArray) (w : World) (t : TypeId) (fr : Nat × Nat) (hg : w.heap[0]? = some (.cells wordRow t fr)) :
    Calls Tryd.prog 8 #[.string s] w fun e w' => e = .returned (.int .i64 (codeFrom s 19 0)) ∧ w = w' := by
  go_enter Tryd.func8, Tryd.ntmps8
  go_wp2_with (refine wpList_load_row rfl 33 _ rfl 0 rfl t _ fr _ hg Tryd.underlying33 rfl (by kernel_rfl) ?_)
  go_loop [6] (fun i => ∃ k : Nat, k ≤ 19 ∧ i = .int .i64 k ∧ Hid (codeFrom s 19 0 = codeFrom s (19 - k) k)) (fun i => 19 - (intOf i).toNat)
  case atStart => exact ⟨0, by omega, rfl, rfl⟩
  case round =>
    obtain ⟨k, hk, rfl, Hall⟩ := hrel
    by_cases hp : k < 19
    · have hx := fun w' => run_index_word k w' hp
      simp only [txt] at hx
      cases f : wordAt k == s.toList
      · go_wp2
        go_round
        case rel => exact ⟨k + 1, by omega, by go_num, Hall.out.trans (codeFrom_miss hp f)⟩
        case measure => simp [intOf]; omega
      · go_wp2
        go_ret
        exact ⟨ret_int (Hall.out.trans (codeFrom_hit hp f)).symm, rfl⟩
    · go_wp2
      go_ret
      obtain rfl : k = 19 := by omega
      exact ⟨ret_int Hall.out.symm, rfl⟩

set_option maxHeartbeats 4000000 in
theorem specCodeWord_in (n : Nat) (w : World) (hn : n < 19) : Calls Tryd.prog 18 #[.int .i64 n] w fun e w' => e = .returned (txt (wordAt n)) ∧ w' = w.alloc (.cells wordRow 9) := by
  obtain rfl | rfl | rfl | rfl | rfl | rfl | rfl | rfl | rfl | rfl | rfl | rfl | rfl | rfl | rfl | rfl | rfl | rfl | rfl : n = 0 ∨ n = 1 ∨ n = 2 ∨ n = 3 ∨ n = 4 ∨ n = 5 ∨ n = 6 ∨ n = 7 ∨ n = 8 ∨ n = 9 ∨ n = 10 ∨ n = 11 ∨ n = 12 ∨ n = 13 ∨ n = 14 ∨ n = 15 ∨ n = 16 ∨ n = 17 ∨ n = 18 := by omega
  all_goals
    go_enter Tryd.func18, Tryd.ntmps18
    go_wp2
    go_ret
    exact ⟨rfl, rfl⟩

set_option maxHeartbeats 800000 in
theorem specCodeOf_any (s : ByteArray) (w : World) : Calls Tryd.prog 7 #[.string s] w fun e w' => e = .returned (.int .i64 (codeFrom s 19 0)) ∧ Below w.heap.size w w' := by
  go_enter Tryd.func7, Tryd.ntmps7
  go_wp2
  go_loopw [3] (fun i w' => ∃ k : Nat, k ≤ 19 ∧ i = .int .i64 k ∧ Hid (codeFrom s 19 0 = codeFrom s (19 - k) k) ∧ Below w.heap.size w w') (fun i _ => 19 - (intOf i).toNat)
  case atStart => exact ⟨0, by omega, rfl, rfl, Below.refl _ _⟩
  case round =>
    obtain ⟨k, hk, rfl, Hall, bel⟩ := hrel
    by_cases hp : k < 19
    · cases f : wordAt k == s.toList
      · go_wp2_with (go_at_call 18; refine (specCodeWord_in k _ hp).mono ?_; rintro e w' ⟨rfl, rfl⟩; simp only [txt])
        go_roundw
        case rel => exact ⟨k + 1, by omega, by go_num, Hall.out.trans (codeFrom_miss hp f), bel.alloc bel.size _⟩
        case measure => simp [intOf]; omega
      · go_wp2_with (go_at_call 18; refine (specCodeWord_in k _ hp).mono ?_; rintro e w' ⟨rfl, rfl⟩; simp only [txt])
        go_ret
        exact ⟨ret_int (Hall.out.trans (codeFrom_hit hp f)).symm, bel.alloc bel.size _⟩
    · go_wp2
      go_ret
      obtain rfl : k = 19 := by omega
      exact ⟨ret_int Hall.out.symm, bel⟩
end Go.Proofs.YtapcogecimmkbadDoor
