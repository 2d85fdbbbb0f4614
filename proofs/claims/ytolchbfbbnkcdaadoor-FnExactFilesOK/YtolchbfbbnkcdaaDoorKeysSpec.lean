/- The models keys. -/
import Derived.Test.YtolchbfbbnkcdaaDoorKeys
import Derived.LaidMore
import Derived.Stop.Joined
namespace Go.Proofs.YtolchbfbbnkcdaaDoor
open Go.RowKit

set_option maxHeartbeats 800000 in
theorem l01Place_keys (s : ByteArray) (b : Nat) (w : World) (hc : ∀ i, i < 29 → w.cell? ⟨b, i, none⟩ = some (txt (keyAt i))) :
    Calls Tryd.prog 18 #[.slice (some ⟨b, 0, none⟩) 29 29, .string s] w fun e w' => (∃ n : Int, e = .returned (.int .i64 n) ∧ decide (0 ≤ n) = keyB s) ∧ w = w' := by
  have Hc : Hid (∀ i, i < 29 → w.cell? ⟨b, i, none⟩ = some (txt (keyAt i))) := hc
  clear hc
  go_enter Tryd.func18, Tryd.ntmps18
  go_wp2
  go_loop [5] (fun i => ∃ k : Nat, k ≤ 29 ∧ i = .int .i64 k ∧ ∀ j, j < k → (keyAt j == s.toList) = false) (fun i => 29 - (intOf i).toNat)
  case atStart => exact ⟨0, by omega, rfl, fun j hj => by omega⟩
  case round =>
    obtain ⟨k, hk, rfl, hall⟩ := hrel
    have Hall : Hid (∀ j, j < k → (keyAt j == s.toList) = false) := hall
    clear hall
    by_cases hp : k < 29
    · have hx := Hc.out k hp
      simp only [txt] at hx
      cases f : keyAt k == s.toList
      · go_wp2
        go_round
        case rel =>
          refine ⟨k + 1, by omega, by go_num, fun j hj => ?_⟩
          by_cases e : j < k
          · exact Hall.out j e
          · obtain rfl : j = k := by omega
            exact f
        case measure => simp [intOf]; omega
      · go_wp2
        go_ret
        have := keyB_yes hp f
        exact ⟨⟨k, rfl, by rw [this]; simp⟩, rfl⟩
    · go_wp2
      go_ret
      have := keyB_no (s := s) (fun j hj => Hall.out j (by omega))
      exact ⟨⟨-1, rfl, by rw [this]; rfl⟩, rfl⟩

theorem l01Keys_any (w : World) : Calls Tryd.prog 19 #[] w fun e w' => e = .returned (.slice (some ⟨w.heap.size, 0, none⟩) 29 29) ∧ w' = w.alloc (.cells keyRow 9) := by
  go_enter Tryd.func19, Tryd.ntmps19
  go_wp2
  go_ret
  exact ⟨rfl, rfl⟩

theorem keyRow_at (i : Nat) (h : i < 29) : keyRow[i]? = some (txt (keyAt i)) := by
  have hk : i < keys.length := by rw [keys_len]; exact h
  simp [keyRow, keyAt, List.getD, List.getElem?_eq_getElem hk]

theorem specIsKey_any (s : ByteArray) (w : World) : Calls Tryd.prog 15 #[.string s] w fun e w' => e = .returned (.bool (keyB s)) ∧ w' = w.alloc (.cells keyRow 9) := by
  go_enter Tryd.func15, Tryd.ntmps15
  go_wp2_with fail
  refine (l01Keys_any _).mono ?_
  rintro e w' ⟨rfl, rfl⟩
  go_wp2_with fail
  refine (l01Place_keys s w.heap.size _ (fun i hi => by rw [World.cell?_alloc_new]; exact keyRow_at i hi)).mono ?_
  rintro e w' ⟨⟨n, rfl, hn⟩, rfl⟩
  go_wp2
  go_ret
  exact ⟨by rw [← hn]; rfl, rfl⟩
end Go.Proofs.YtolchbfbbnkcdaaDoor
