/- IsKey: the program's table and the model's list hold the same words; both find a text there or not. The listed table is tied to the program's text by the card. -/
import Derived.Test.YtolchbfbbnkcdaaDoorBase
namespace Go.Proofs.YtolchbfbbnkcdaaDoor
open Go.RowKit

def keys : List (List UInt8) := [[77, 79, 68, 85, 76, 69], [73, 77, 80, 79, 82, 84], [67, 79, 78, 83, 84], [86, 65, 82], [80, 82, 79, 67, 69, 68, 85, 82, 69], [66, 69, 71, 73, 78], [69, 78, 68], [73, 70], [84, 72, 69, 78], [69, 76, 83, 73, 70], [69, 76, 83, 69], [87, 72, 73, 76, 69], [68, 79], [82, 69, 84, 85, 82, 78], [79, 82], [68, 73, 86], [77, 79, 68], [84, 82, 85, 69], [70, 65, 76, 83, 69], [65, 82, 82, 65, 89], [79, 70], [73, 78, 84, 69, 71, 69, 82], [66, 79, 79, 76, 69, 65, 78], [67, 72, 65, 82], [87, 82, 73, 84, 69], [82, 69, 65, 68], [79, 82, 68], [67, 72, 82], [76, 69, 78]]
theorem keys_laid : (Rows.laid_loop_example_g00168_impl_keyWords (H := Unit)) = .agg (keys.map fun z => .lit (.string z)) := rfl
theorem keys_len : keys.length = 29 := rfl

def keyAt (k : Nat) : List UInt8 := keys.getD k []
/-- A text is one of the words. -/
def keyB (s : ByteArray) : Bool := keys.any fun k => k == s.toList
theorem keyB_yes {s : ByteArray} {k : Nat} (hk : k < 29) (h : (keyAt k == s.toList) = true) : keyB s = true := by
  unfold keyB
  rw [List.any_eq_true]
  have hk' : k < keys.length := by rw [keys_len]; exact hk
  have e : keyAt k = keys[k] := by unfold keyAt; simp [List.getD, List.getElem?_eq_getElem hk']
  exact ⟨keys[k], List.getElem_mem hk', by rw [← e]; exact h⟩
theorem keyB_no {s : ByteArray} (h : ∀ k, k < 29 → (keyAt k == s.toList) = false) : keyB s = false := by
  unfold keyB
  rw [List.any_eq_false]
  intro x hx
  obtain ⟨k, hk, rfl⟩ := List.getElem_of_mem hx
  have e : keyAt k = keys[k] := by unfold keyAt; simp [List.getD, List.getElem?_eq_getElem hk]
  have := h k (by rw [keys_len] at hk; exact hk)
  rw [e] at this
  simpa using this

def keyRow : Array Value := (keys.map txt).toArray
theorem keyRow_size : keyRow.size = 29 := rfl
theorem run_index_key (k : Nat) (w : World) (hk : k < 29) : (Instr.index 42 (.agg keyRow) (.int .i64 k)).run Tryd.prog w = .ok (txt (keyAt k)) w :=
  run_index_texts 42 9 29 keys .i64 k w Tryd.underlying42 Tryd.underlying9 (by kernel_rfl) hk keys_len

set_option maxHeartbeats 800000 in
theorem implIsKey_any (s : ByteArray) (w : World) (t : TypeId) (fr : Nat × Nat) (hg : w.heap[0]? = some (.cells keyRow t fr)) :
    Calls Tryd.prog 21 #[.string s] w fun e w' => e = .returned (.bool (keyB s)) ∧ w = w' := by
  go_enter Tryd.func21, Tryd.ntmps21
  go_wp2_with (refine wpList_load_row rfl 42 _ rfl 0 rfl t _ fr _ hg Tryd.underlying42 rfl (by kernel_rfl) ?_)
  go_loop [6] (fun i => ∃ k : Nat, k ≤ 29 ∧ i = .int .i64 k ∧ ∀ j, j < k → (keyAt j == s.toList) = false) (fun i => 29 - (intOf i).toNat)
  case atStart => exact ⟨0, by omega, rfl, fun j hj => by omega⟩
  case round =>
    obtain ⟨k, hk, rfl, hall⟩ := hrel
    have Hall : Hid (∀ j, j < k → (keyAt j == s.toList) = false) := hall
    clear hall
    by_cases hp : k < 29
    · have hx := fun w' => run_index_key k w' hp
      simp only [txt] at hx
      cases f : keyAt k == s.toList
      · go_wp2
        go_round
        case rel =>
          refine ⟨k + 1, by omega, by go_num, fun j hj => ?_⟩
          by_cases e : j < k
          · exact Hall.out j e
          · obtain rfl : j = k := by omega
            exact f
        case measure => simp [intOf]; omega
      · go_wp2
        go_ret
        have := keyB_yes hp f
        exact ⟨by rw [this]; rfl, rfl⟩
    · go_wp2
      go_ret
      have := keyB_no (s := s) (fun j hj => Hall.out j (by omega))
      exact ⟨by rw [this]; rfl, rfl⟩
end Go.Proofs.YtolchbfbbnkcdaaDoor
