/- The names of an interface, and the numbers of its types and characters: the program's tests and the model's answer alike. No condition. -/
import Derived.Test.YtoomnimbokbadaaDoorZImpl
import Derived.Test.YtoomnimbokbadaaDoorZKeysSpec
import Derived.Test.YtoomnimbokbadaaDoorZFac
namespace Go.Proofs.YtoomnimbokbadaaDoor
open Go.RowKit Go.PlainAid

def ownB (s : ByteArray) : Bool := nameB s && !keyB s
theorem own_no1 {s : ByteArray} (h : nameB s = false) : ownB s = false := by unfold ownB; rw [h]; rfl
theorem own_no2 {s : ByteArray} (h : nameB s = true) (k : keyB s = true) : ownB s = false := by unfold ownB; rw [h, k]; rfl
theorem own_yes {s : ByteArray} (h : nameB s = true) (k : keyB s = false) : ownB s = true := by unfold ownB; rw [h, k]; rfl
theorem specNameOK_any (s : ByteArray) (w : World) (hs : s.size ≤ maxLen) : Calls Tryd.prog 59 #[.string s] w fun e w' => e = .returned (.bool (nameB s)) ∧ w = w' := by
  go_enter Tryd.func59, Tryd.ntmps59
  go_wp2_with (go_at_call 75; refine (l00Word_any s _ hs).mono ?_; rintro e w' ⟨rfl, rfl⟩)
  go_ret
  exact ⟨rfl, rfl⟩
theorem l02Name_any (s : ByteArray) (w : World) (hs : s.size ≤ maxLen) : Calls Tryd.prog 35 #[.string s] w fun e w' => e = .returned (.bool (ownB s)) ∧ Below w.heap.size w w' := by
  cases hn : nameB s with
  | false =>
    rw [own_no1 hn]
    go_enter Tryd.func35, Tryd.ntmps35
    go_wp2_with (go_at_call 59; refine (specNameOK_any s _ hs).mono ?_; rintro e w' ⟨rfl, rfl⟩; rw [hn])
    go_ret
    exact ⟨rfl, Below.refl _ _⟩
  | true =>
    cases hk : keyB s with
    | true =>
      rw [own_no2 hn hk]
      go_enter Tryd.func35, Tryd.ntmps35
      go_wp2_with (first | (go_at_call 59; refine (specNameOK_any s _ hs).mono ?_; rintro e w' ⟨rfl, rfl⟩; rw [hn]) | (go_at_call 60; refine (specIsKey_any s _).mono ?_; rintro e w' ⟨rfl, rfl⟩; rw [hk]))
      go_ret
      exact ⟨rfl, (Below.refl _ _).alloc (Nat.le_refl _) _⟩
    | false =>
      rw [own_yes hn hk]
      go_enter Tryd.func35, Tryd.ntmps35
      go_wp2_with (first | (go_at_call 59; refine (specNameOK_any s _ hs).mono ?_; rintro e w' ⟨rfl, rfl⟩; rw [hn]) | (go_at_call 60; refine (specIsKey_any s _).mono ?_; rintro e w' ⟨rfl, rfl⟩; rw [hk]))
      go_ret
      exact ⟨rfl, (Below.refl _ _).alloc (Nat.le_refl _) _⟩
theorem ownName_any (s : ByteArray) (w : World) (hs : s.size ≤ maxLen) (t : TypeId) (fr : Nat × Nat) (hg : w.heap[0]? = some (.cells keyRow t fr)) : Calls Tryd.prog 39 #[.string s] w fun e w' => e = .returned (.bool (ownB s)) ∧ Below w.heap.size w w' := by
  have HK : Hid (∀ w1, Below w.heap.size w w1 → Calls Tryd.prog 65 #[.string s] w1 fun e w' => e = .returned (.bool (keyB s)) ∧ w1 = w') := fun w1 bel =>
    implIsKey_any s w1 t fr ((bel.block 0 (Array.getElem?_eq_some_iff.1 hg).1).trans hg)
  clear hg
  cases hn : nameB s with
  | false =>
    rw [own_no1 hn]
    go_enter Tryd.func39, Tryd.ntmps39
    go_wp2_with (go_at_call 64; refine (implNameOK_any s _ hs).mono ?_; rintro e w' ⟨rfl, bel⟩; rw [hn])
    go_ret
    exact ⟨rfl, bel⟩
  | true =>
    cases hk : keyB s with
    | true =>
      rw [own_no2 hn hk]
      go_enter Tryd.func39, Tryd.ntmps39
      go_wp2_with (first | (go_at_call 64; refine (implNameOK_any s _ hs).mono ?_; rintro e w' ⟨rfl, bel⟩; rw [hn]) | (go_at_call 65; refine (HK.out _ bel).mono ?_; rintro e w2 ⟨rfl, rfl⟩; rw [hk]))
      go_ret
      exact ⟨rfl, bel⟩
    | false =>
      rw [own_yes hn hk]
      go_enter Tryd.func39, Tryd.ntmps39
      go_wp2_with (first | (go_at_call 64; refine (implNameOK_any s _ hs).mono ?_; rintro e w' ⟨rfl, bel⟩; rw [hn]) | (go_at_call 65; refine (HK.out _ bel).mono ?_; rintro e w2 ⟨rfl, rfl⟩; rw [hk]))
      go_ret
      exact ⟨rfl, bel⟩
def inB (n a b : Int) : Bool := decide (a ≤ n) && decide (n ≤ b)
theorem l01In_any (n a b : Int) (w : World) : Calls Tryd.prog 61 #[.int .i64 n, .int .i64 a, .int .i64 b] w fun e w' => e = .returned (.bool (inB n a b)) ∧ w = w' := by
  unfold inB
  by_cases h : a ≤ n
  · by_cases k : n ≤ b
    · simp only [h, k, decide_true, Bool.and_true]
      go_enter Tryd.func61, Tryd.ntmps61
      go_wp2
      go_ret
      exact ⟨rfl, rfl⟩
    · simp only [h, k, decide_true, decide_false, Bool.and_false]
      go_enter Tryd.func61, Tryd.ntmps61
      go_wp2
      go_ret
      exact ⟨rfl, rfl⟩
  · simp only [h, decide_false, Bool.false_and]
    go_enter Tryd.func61, Tryd.ntmps61
    go_wp2
    go_ret
    exact ⟨rfl, rfl⟩
theorem valueType_any (n : Int) (w : World) : Calls Tryd.prog 67 #[.int .i64 n] w fun e w' => e = .returned (.bool (inB n 1 3)) ∧ w = w' := by
  unfold inB
  by_cases h : 1 ≤ n
  · by_cases k : n ≤ 3
    · simp only [h, k, decide_true, Bool.and_true]
      go_enter Tryd.func67, Tryd.ntmps67
      go_wp2
      go_ret
      exact ⟨rfl, rfl⟩
    · simp only [h, k, decide_true, decide_false, Bool.and_false]
      go_enter Tryd.func67, Tryd.ntmps67
      go_wp2
      go_ret
      exact ⟨rfl, rfl⟩
  · simp only [h, decide_false, Bool.false_and]
    go_enter Tryd.func67, Tryd.ntmps67
    go_wp2
    go_ret
    exact ⟨rfl, rfl⟩
def chrB (n : Int) : Bool := inB n 0 55295 || inB n 57344 1114111
theorem in_yes {n a b : Int} (h : a ≤ n) (k : n ≤ b) : inB n a b = true := by unfold inB; simp [h, k]
theorem in_no {n a b : Int} (h : ¬ (a ≤ n ∧ n ≤ b)) : inB n a b = false := by unfold inB; simp; omega
theorem specCharOK_any (n : Int) (w : World) : Calls Tryd.prog 62 #[.int .i64 n] w fun e w' => e = .returned (.bool (chrB n)) ∧ w = w' := by
  unfold chrB
  cases h : inB n 0 55295 with
  | true =>
    go_enter Tryd.func62, Tryd.ntmps62
    go_wp2_with (go_at_call 61; refine (l01In_any _ _ _ _).mono ?_; rintro e w' ⟨rfl, rfl⟩; rw [h])
    go_ret
    exact ⟨rfl, rfl⟩
  | false =>
    cases k : inB n 57344 1114111 with
    | true =>
      go_enter Tryd.func62, Tryd.ntmps62
      go_wp2_with (go_at_call 61; refine (l01In_any _ _ _ _).mono ?_; rintro e w' ⟨rfl, rfl⟩; first | rw [h] | rw [k])
      go_ret
      exact ⟨rfl, rfl⟩
    | false =>
      go_enter Tryd.func62, Tryd.ntmps62
      go_wp2_with (go_at_call 61; refine (l01In_any _ _ _ _).mono ?_; rintro e w' ⟨rfl, rfl⟩; first | rw [h] | rw [k])
      go_ret
      exact ⟨rfl, rfl⟩
theorem implCharOK_any (n : Int) (w : World) : Calls Tryd.prog 81 #[.int .i64 n] w fun e w' => e = .returned (.bool (chrB n)) ∧ w = w' := by
  unfold chrB
  by_cases h1 : 0 ≤ n
  · by_cases h2 : n ≤ 55295
    · rw [in_yes h1 h2]
      go_enter Tryd.func81, Tryd.ntmps81
      go_wp2
      go_ret
      exact ⟨rfl, rfl⟩
    · rw [in_no (a := 0) (b := 55295) (by omega)]
      by_cases h3 : 57344 ≤ n
      · by_cases h4 : n ≤ 1114111
        · rw [in_yes h3 h4]
          go_enter Tryd.func81, Tryd.ntmps81
          go_wp2
          go_ret
          exact ⟨rfl, rfl⟩
        · rw [in_no (a := 57344) (b := 1114111) (by omega)]
          go_enter Tryd.func81, Tryd.ntmps81
          go_wp2
          go_ret
          exact ⟨rfl, rfl⟩
      · rw [in_no (a := 57344) (b := 1114111) (by omega)]
        go_enter Tryd.func81, Tryd.ntmps81
        go_wp2
        go_ret
        exact ⟨rfl, rfl⟩
  · rw [in_no (a := 0) (b := 55295) (by omega), in_no (a := 57344) (b := 1114111) (by omega)]
    have h3 : ¬ 57344 ≤ n := by omega
    go_enter Tryd.func81, Tryd.ntmps81
    go_wp2
    go_ret
    exact ⟨rfl, rfl⟩
end Go.Proofs.YtoomnimbokbadaaDoor
