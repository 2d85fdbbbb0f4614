/- CodeWord: the program's table and the model's list hold the same words. The listed table is tied to the program's text by the card. -/
import Derived.Test.YtapcogecimmkbacDoorBase
namespace Go.Proofs.YtapcogecimmkbacDoor
open Go.RowKit

def words : List (List UInt8) := [[111, 107], [98, 97, 100], [108, 111, 110, 103], [102, 111, 114, 109], [115, 121, 110, 116, 97, 120], [110, 97, 109, 101], [116, 119, 105, 99, 101], [116, 121, 112, 101], [99, 111, 117, 110, 116], [114, 101, 115, 117, 108, 116], [112, 108, 97, 99, 101], [114, 97, 110, 103, 101], [110, 111, 110, 101], [109, 97, 110, 121], [100, 101, 101, 112], [115, 105, 122, 101], [115, 117, 109], [112, 114, 105, 110, 116], [99, 121, 99, 108, 101]]
theorem words_laid : (Rows.laid_loop_example_g00168_impl_codeWords (H := Unit)) = .agg (words.map fun z => .lit (.string z)) := rfl

theorem words_off (n : Int) (w : World) (h : n < 0 ∨ 19 ≤ n) : Calls Tryd.prog 3 #[.int .i64 n] w fun e w' => e = .returned (.bool true) ∧ Below w.heap.size w w' := by
  rcases h with h | h
  all_goals
    go_enter Tryd.func3, Tryd.ntmps3
    go_wp2
    go_ret
    exact ⟨rfl, (Below.refl _ _).alloc (Nat.le_refl _) _⟩


set_option maxHeartbeats 4000000 in
theorem words_in (n : Nat) (w : World) (hn : n < 19) (h : w.cell? ⟨0, n, none⟩ = some (txt (words.getD n []))) : Calls Tryd.prog 3 #[.int .i64 n] w fun e w' => e = .returned (.bool true) ∧ Below w.heap.size w w' := by
  have hlt := block_lt h
  obtain rfl | rfl | rfl | rfl | rfl | rfl | rfl | rfl | rfl | rfl | rfl | rfl | rfl | rfl | rfl | rfl | rfl | rfl | rfl : n = 0 ∨ n = 1 ∨ n = 2 ∨ n = 3 ∨ n = 4 ∨ n = 5 ∨ n = 6 ∨ n = 7 ∨ n = 8 ∨ n = 9 ∨ n = 10 ∨ n = 11 ∨ n = 12 ∨ n = 13 ∨ n = 14 ∨ n = 15 ∨ n = 16 ∨ n = 17 ∨ n = 18 := by omega
  all_goals
    simp only [txt, words, List.getD_cons_succ, List.getD_cons_zero] at h
    go_enter Tryd.func3, Tryd.ntmps3
    go_wp2
    go_ret
    exact ⟨rfl, (Below.refl _ _).alloc (Nat.le_refl _) _⟩
end Go.Proofs.YtapcogecimmkbacDoor
