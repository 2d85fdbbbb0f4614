/- Names and bounds, as the model and the program ask them (stage 4 on). No condition. -/
import Derived.Test.YtoodadepafghhaaGreatDoorZBase
import Derived.LaidMore
import Derived.Stop.Joined
import Derived.Test.YtoodadepafghhaaGreatDoorZImpl
import Derived.BigQuiet
import Derived.Shelf.SlSortCmp.QuietGrown
/- IsKey: the program's table and the model's list hold the same words; both find a text there or not. The listed table is tied to the program's text by the card. -/
namespace Go.Proofs.YtoodadepafghhaaGreatDoor
open Go.RowKit

def keys : List (List UInt8) := [[77, 79, 68, 85, 76, 69], [73, 77, 80, 79, 82, 84], [67, 79, 78, 83, 84], [86, 65, 82], [80, 82, 79, 67, 69, 68, 85, 82, 69], [66, 69, 71, 73, 78], [69, 78, 68], [73, 70], [84, 72, 69, 78], [69, 76, 83, 73, 70], [69, 76, 83, 69], [87, 72, 73, 76, 69], [68, 79], [82, 69, 84, 85, 82, 78], [79, 82], [68, 73, 86], [77, 79, 68], [84, 82, 85, 69], [70, 65, 76, 83, 69], [65, 82, 82, 65, 89], [79, 70], [73, 78, 84, 69, 71, 69, 82], [66, 79, 79, 76, 69, 65, 78], [67, 72, 65, 82], [87, 82, 73, 84, 69], [82, 69, 65, 68], [79, 82, 68], [67, 72, 82], [76, 69, 78]]
theorem keys_laid : (Rows.laid_loop_example_g00168_impl_keyWords (H := Unit)) = .agg (keys.map fun z => .lit (.string z)) := rfl
theorem keys_len : keys.length = 29 := rfl

def keyAt (k : Nat) : List UInt8 := keys.getD k []
/-- A text is one of the words. -/
def keyB (s : ByteArray) : Bool := keys.any fun k => k == s.toList
theorem keyB_yes {s : ByteArray} {k : Nat} (hk : k < 29) (h : (keyAt k == s.toList) = true) : keyB s = true := by
  unfold keyB
  rw [List.any_eq_true]
  have hk' : k < keys.length := by rw [keys_len]; exact hk
  have e : keyAt k = keys[k] := by unfold keyAt; simp [List.getD, List.getElem?_eq_getElem hk']
  exact ⟨keys[k], List.getElem_mem hk', by rw [← e]; exact h⟩
theorem keyB_no {s : ByteArray} (h : ∀ k, k < 29 → (keyAt k == s.toList) = false) : keyB s = false := by
  unfold keyB
  rw [List.any_eq_false]
  intro x hx
  obtain ⟨k, hk, rfl⟩ := List.getElem_of_mem hx
  have e : keyAt k = keys[k] := by unfold keyAt; simp [List.getD, List.getElem?_eq_getElem hk]
  have := h k (by rw [keys_len] at hk; exact hk)
  rw [e] at this
  simpa using this

def keyRow : Array Value := (keys.map txt).toArray
theorem keyRow_size : keyRow.size = 29 := rfl
theorem run_index_key (k : Nat) (w : World) (hk : k < 29) : (Instr.index 235 (.agg keyRow) (.int .i64 k)).run Tryz.prog w = .ok (txt (keyAt k)) w :=
  run_index_texts 235 9 29 keys .i64 k w Tryz.underlying235 Tryz.underlying9 (by kernel_rfl) hk keys_len

set_option maxHeartbeats 800000 in
theorem implIsKey_any (s : ByteArray) (w : World) (t : TypeId) (fr : Nat × Nat) (hg : w.heap[2]? = some (.cells keyRow t fr)) :
    Calls Tryz.prog 142 #[.string s] w fun e w' => e = .returned (.bool (keyB s)) ∧ w = w' := by
  go_enter Tryz.func142, Tryz.ntmps142
  go_wp2_with (refine wpList_load_row rfl 235 _ rfl 2 rfl t _ fr _ hg Tryz.underlying235 rfl (by kernel_rfl) ?_)
  go_loop [6] (fun i => ∃ k : Nat, k ≤ 29 ∧ i = .int .i64 k ∧ ∀ j, j < k → (keyAt j == s.toList) = false) (fun i => 29 - (intOf i).toNat)
  case atStart => exact ⟨0, by omega, rfl, fun j hj => by omega⟩
  case round =>
    obtain ⟨k, hk, rfl, hall⟩ := hrel
    have Hall : Hid (∀ j, j < k → (keyAt j == s.toList) = false) := hall
    clear hall
    by_cases hp : k < 29
    · have hx := fun w' => run_index_key k w' hp
      simp only [txt] at hx
      cases f : keyAt k == s.toList
      · go_wp2
        go_round
        case rel =>
          refine ⟨k + 1, by omega, by go_num, fun j hj => ?_⟩
          by_cases e : j < k
          · exact Hall.out j e
          · obtain rfl : j = k := by omega
            exact f
        case measure => simp [intOf]; omega
      · go_wp2
        go_ret
        have := keyB_yes hp f
        exact ⟨by rw [this]; rfl, rfl⟩
    · go_wp2
      go_ret
      have := keyB_no (s := s) (fun j hj => Hall.out j (by omega))
      exact ⟨by rw [this]; rfl, rfl⟩
end Go.Proofs.YtoodadepafghhaaGreatDoor

/- The models keys. -/
namespace Go.Proofs.YtoodadepafghhaaGreatDoor
open Go.RowKit

set_option maxHeartbeats 800000 in
theorem l01Place_keys (s : ByteArray) (b : Nat) (w : World) (hc : ∀ i, i < 29 → w.cell? ⟨b, i, none⟩ = some (txt (keyAt i))) :
    Calls Tryz.prog 99 #[.slice (some ⟨b, 0, none⟩) 29 29, .string s] w fun e w' => (∃ n : Int, e = .returned (.int .i64 n) ∧ decide (0 ≤ n) = keyB s) ∧ w = w' := by
  have Hc : Hid (∀ i, i < 29 → w.cell? ⟨b, i, none⟩ = some (txt (keyAt i))) := hc
  clear hc
  go_enter Tryz.func99, Tryz.ntmps99
  go_wp2
  go_loop [5] (fun i => ∃ k : Nat, k ≤ 29 ∧ i = .int .i64 k ∧ ∀ j, j < k → (keyAt j == s.toList) = false) (fun i => 29 - (intOf i).toNat)
  case atStart => exact ⟨0, by omega, rfl, fun j hj => by omega⟩
  case round =>
    obtain ⟨k, hk, rfl, hall⟩ := hrel
    have Hall : Hid (∀ j, j < k → (keyAt j == s.toList) = false) := hall
    clear hall
    by_cases hp : k < 29
    · have hx := Hc.out k hp
      simp only [txt] at hx
      cases f : keyAt k == s.toList
      · go_wp2
        go_round
        case rel =>
          refine ⟨k + 1, by omega, by go_num, fun j hj => ?_⟩
          by_cases e : j < k
          · exact Hall.out j e
          · obtain rfl : j = k := by omega
            exact f
        case measure => simp [intOf]; omega
      · go_wp2
        go_ret
        have := keyB_yes hp f
        exact ⟨⟨k, rfl, by rw [this]; simp⟩, rfl⟩
    · go_wp2
      go_ret
      have := keyB_no (s := s) (fun j hj => Hall.out j (by omega))
      exact ⟨⟨-1, rfl, by rw [this]; rfl⟩, rfl⟩

theorem l01Keys_any (w : World) : Calls Tryz.prog 163 #[] w fun e w' => e = .returned (.slice (some ⟨w.heap.size, 0, none⟩) 29 29) ∧ w' = w.alloc (.cells keyRow 9) := by
  go_enter Tryz.func163, Tryz.ntmps163
  go_wp2
  go_ret
  exact ⟨rfl, rfl⟩

theorem keyRow_at (i : Nat) (h : i < 29) : keyRow[i]? = some (txt (keyAt i)) := by
  have hk : i < keys.length := by rw [keys_len]; exact h
  simp [keyRow, keyAt, List.getD, List.getElem?_eq_getElem hk]

theorem specIsKey_any (s : ByteArray) (w : World) : Calls Tryz.prog 137 #[.string s] w fun e w' => e = .returned (.bool (keyB s)) ∧ w' = w.alloc (.cells keyRow 9) := by
  go_enter Tryz.func137, Tryz.ntmps137
  go_wp2_with fail
  refine (l01Keys_any _).mono ?_
  rintro e w' ⟨rfl, rfl⟩
  go_wp2_with fail
  refine (l01Place_keys s w.heap.size _ (fun i hi => by rw [World.cell?_alloc_new]; exact keyRow_at i hi)).mono ?_
  rintro e w' ⟨⟨n, rfl, hn⟩, rfl⟩
  go_wp2
  go_ret
  exact ⟨by rw [← hn]; rfl, rfl⟩
end Go.Proofs.YtoodadepafghhaaGreatDoor

namespace Go.Proofs.YtoodadepafghhaaGreatDoor
open Go.RowKit Go.PlainAid

/-- A world behind draws and new blocks alone. -/
def Gw (w w' : World) : Prop := ∃ n os, w' = Sort.grow (w.drewN n) os
theorem Gw.refl (w : World) : Gw w w := ⟨0, #[], by rw [Sort.grow_empty]; rfl⟩
theorem Gw.grown {w w1 : World} (h : Gw w w1) (n : Nat) (os : Array Obj) : Gw w (Sort.grow (w1.drewN n) os) := by
  obtain ⟨m, os', rfl⟩ := h
  exact ⟨m + n, os' ++ os, by show Sort.grow (Sort.grow ((w.drewN m).drewN n) os') os = _; rw [Sort.grow_grow, World.drewN_drewN]⟩
theorem Gw.trans {w w1 w2 : World} (h : Gw w w1) (k : Gw w1 w2) : Gw w w2 := by
  obtain ⟨n, os, rfl⟩ := k
  exact h.grown n os
theorem Gw.one (w : World) (o : Obj) : Gw w (w.alloc o) := ⟨0, #[o], by rw [Sort.alloc_eq_grow]; rfl⟩
theorem Gw.below {w w' : World} (h : Gw w w') : Below w.heap.size w w' := by
  obtain ⟨n, os, rfl⟩ := h
  exact ⟨rfl, rfl, rfl, by simp, fun k hk => Sort.heap_grow_old (w.drewN n) os hk⟩
def ownB (s : ByteArray) : Bool := nameB s && !keyB s
theorem own_no1 {s : ByteArray} (h : nameB s = false) : ownB s = false := by unfold ownB; rw [h]; rfl
theorem own_no2 {s : ByteArray} (h : nameB s = true) (k : keyB s = true) : ownB s = false := by unfold ownB; rw [h, k]; rfl
theorem own_yes {s : ByteArray} (h : nameB s = true) (k : keyB s = false) : ownB s = true := by unfold ownB; rw [h, k]; rfl
theorem specNameOK_any (s : ByteArray) (w : World) (hs : s.size ≤ maxLen) : Calls Tryz.prog 136 #[.string s] w fun e w' => e = .returned (.bool (nameB s)) ∧ w = w' := by
  go_enter Tryz.func136, Tryz.ntmps136
  go_wp2_with (go_at_call 162; refine (l00Word_any s _ hs).mono ?_; rintro e w' ⟨rfl, rfl⟩)
  go_ret
  exact ⟨rfl, rfl⟩
theorem l02Name_gw (s : ByteArray) (w : World) (hs : s.size ≤ maxLen) : Calls Tryz.prog 76 #[.string s] w fun e w' => e = .returned (.bool (ownB s)) ∧ Gw w w' := by
  cases hn : nameB s with
  | false =>
    rw [own_no1 hn]
    go_enter Tryz.func76, Tryz.ntmps76
    go_wp2_with (go_at_call 136; refine (specNameOK_any s _ hs).mono ?_; rintro e w' ⟨rfl, rfl⟩; rw [hn])
    go_ret
    exact ⟨rfl, Gw.refl _⟩
  | true =>
    cases hk : keyB s with
    | true =>
      rw [own_no2 hn hk]
      go_enter Tryz.func76, Tryz.ntmps76
      go_wp2_with (first | (go_at_call 136; refine (specNameOK_any s _ hs).mono ?_; rintro e w' ⟨rfl, rfl⟩; rw [hn]) | (go_at_call 137; refine (specIsKey_any s _).mono ?_; rintro e w' ⟨rfl, rfl⟩; rw [hk]))
      go_ret
      exact ⟨rfl, Gw.one _ _⟩
    | false =>
      rw [own_yes hn hk]
      go_enter Tryz.func76, Tryz.ntmps76
      go_wp2_with (first | (go_at_call 136; refine (specNameOK_any s _ hs).mono ?_; rintro e w' ⟨rfl, rfl⟩; rw [hn]) | (go_at_call 137; refine (specIsKey_any s _).mono ?_; rintro e w' ⟨rfl, rfl⟩; rw [hk]))
      go_ret
      exact ⟨rfl, Gw.one _ _⟩
theorem ownName_any (s : ByteArray) (w : World) (hs : s.size ≤ maxLen) (t : TypeId) (fr : Nat × Nat) (hg : w.heap[2]? = some (.cells keyRow t fr)) : Calls Tryz.prog 104 #[.string s] w fun e w' => e = .returned (.bool (ownB s)) ∧ Below w.heap.size w w' := by
  have HK : Hid (∀ w1, Below w.heap.size w w1 → Calls Tryz.prog 142 #[.string s] w1 fun e w' => e = .returned (.bool (keyB s)) ∧ w1 = w') := fun w1 bel =>
    implIsKey_any s w1 t fr ((bel.block 2 (Array.getElem?_eq_some_iff.1 hg).1).trans hg)
  clear hg
  cases hn : nameB s with
  | false =>
    rw [own_no1 hn]
    go_enter Tryz.func104, Tryz.ntmps104
    go_wp2_with (go_at_call 141; refine (implNameOK_any s _ hs).mono ?_; rintro e w' ⟨rfl, bel⟩; rw [hn])
    go_ret
    exact ⟨rfl, bel⟩
  | true =>
    cases hk : keyB s with
    | true =>
      rw [own_no2 hn hk]
      go_enter Tryz.func104, Tryz.ntmps104
      go_wp2_with (first | (go_at_call 141; refine (implNameOK_any s _ hs).mono ?_; rintro e w' ⟨rfl, bel⟩; rw [hn]) | (go_at_call 142; refine (HK.out _ bel).mono ?_; rintro e w2 ⟨rfl, rfl⟩; rw [hk]))
      go_ret
      exact ⟨rfl, bel⟩
    | false =>
      rw [own_yes hn hk]
      go_enter Tryz.func104, Tryz.ntmps104
      go_wp2_with (first | (go_at_call 141; refine (implNameOK_any s _ hs).mono ?_; rintro e w' ⟨rfl, bel⟩; rw [hn]) | (go_at_call 142; refine (HK.out _ bel).mono ?_; rintro e w2 ⟨rfl, rfl⟩; rw [hk]))
      go_ret
      exact ⟨rfl, bel⟩
def inB (n a b : Int) : Bool := decide (a ≤ n) && decide (n ≤ b)
theorem l01In_any (n a b : Int) (w : World) : Calls Tryz.prog 75 #[.int .i64 n, .int .i64 a, .int .i64 b] w fun e w' => e = .returned (.bool (inB n a b)) ∧ w = w' := by
  unfold inB
  by_cases h : a ≤ n
  · by_cases k : n ≤ b
    · simp only [h, k, decide_true, Bool.and_true]
      go_enter Tryz.func75, Tryz.ntmps75
      go_wp2
      go_ret
      exact ⟨rfl, rfl⟩
    · simp only [h, k, decide_true, decide_false, Bool.and_false]
      go_enter Tryz.func75, Tryz.ntmps75
      go_wp2
      go_ret
      exact ⟨rfl, rfl⟩
  · simp only [h, decide_false, Bool.false_and]
    go_enter Tryz.func75, Tryz.ntmps75
    go_wp2
    go_ret
    exact ⟨rfl, rfl⟩
theorem in_yes {n a b : Int} (h : a ≤ n) (k : n ≤ b) : inB n a b = true := by unfold inB; simp [h, k]
theorem in_no {n a b : Int} (h : ¬ (a ≤ n ∧ n ≤ b)) : inB n a b = false := by unfold inB; simp; omega
end Go.Proofs.YtoodadepafghhaaGreatDoor
