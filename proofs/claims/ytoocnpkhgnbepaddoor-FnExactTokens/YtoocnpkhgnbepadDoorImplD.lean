/- The program's signs. -/
import Derived.Test.YtoocnpkhgnbepadDoorImplC
namespace Go.Proofs.YtoocnpkhgnbepadDoor
open Go.RowKit Go.PlainAid

theorem bt_list (s : ByteArray) (k : Nat) : bt s k = match s.data.toList[k]? with | some b => (b.toNat : Int) | none => 0 := by
  by_cases h : k < s.size
  · have h' : k < s.data.toList.length := by rw [Array.length_toList]; exact h
    rw [← get_bt s k h, List.getElem?_eq_getElem h']
    rfl
  · have h' : s.data.toList.length ≤ k := by
      have : s.data.toList.length = s.size := by rw [Array.length_toList]; rfl
      omega
    rw [bt_end s (by omega), List.getElem?_eq_none h']
theorem prefix_one (s : ByteArray) (c : UInt8) (hc : c ≠ 0) : Lib.hasPrefix s.data.toList [c] = (bt s 0 == (c.toNat : Int)) := by
  rw [bt_list]
  have hc' : c.toNat ≠ 0 := fun e => hc (UInt8.toNat_inj.1 (by simpa using e))
  cases s.data.toList with
  | nil => simp [Lib.hasPrefix]; omega
  | cons x l =>
    simp [Lib.hasPrefix, List.isPrefixOf]
    rw [Bool.eq_iff_iff]; simp
    constructor
    · intro e; rw [e]
    · intro e; exact UInt8.toNat_inj.1 (by omega)
theorem prefix_two (s : ByteArray) (c d : UInt8) (hc : c ≠ 0) (hd : d ≠ 0) : Lib.hasPrefix s.data.toList [c, d] = (bt s 0 == (c.toNat : Int) && bt s 1 == (d.toNat : Int)) := by
  rw [bt_list, bt_list]
  have hc' : c.toNat ≠ 0 := fun e => hc (UInt8.toNat_inj.1 (by simpa using e))
  have hd' : d.toNat ≠ 0 := fun e => hd (UInt8.toNat_inj.1 (by simpa using e))
  cases s.data.toList with
  | nil => simp [Lib.hasPrefix]; omega
  | cons x l =>
    cases l with
    | nil => simp [Lib.hasPrefix, List.isPrefixOf]; omega
    | cons y l =>
      simp [Lib.hasPrefix, List.isPrefixOf]
      rw [Bool.eq_iff_iff]; simp
      constructor
      · rintro ⟨e, e2⟩; rw [e, e2]; exact ⟨rfl, rfl⟩
      · rintro ⟨e, e2⟩; exact ⟨UInt8.toNat_inj.1 (by omega), UInt8.toNat_inj.1 (by omega)⟩

def twoB (n : Int) : Bool := decide (n = 58 ∨ n = 60 ∨ n = 62)
def oneB (n : Int) : Bool := decide (n = 58 ∨ n = 60 ∨ n = 62 ∨ n = 61 ∨ n = 35 ∨ n = 43 ∨ n = 45 ∨ n = 42 ∨ n = 40 ∨ n = 41 ∨ n = 91 ∨ n = 93 ∨ n = 44 ∨ n = 59 ∨ n = 46 ∨ n = 38 ∨ n = 126)
/-- How long the sign is that begins with bytes a and b. -/
def sgnLen (a b : Int) : Nat := if (twoB a && b == 61) = true then 2 else if oneB a = true then 1 else 0

set_option maxHeartbeats 4000000 in
theorem signLength_any (r : ByteArray) (w : World) (hs : r.size ≤ maxLen) (h0 : 0 < r.size) : Calls Tryd.prog 42 #[.string r] w fun e w' => e = .returned (.int .i64 (sgnLen (bt r 0) (bt r 1))) ∧ w = w' := by
  unfold maxLen at hs
  have hb := get_bt r
  have h1 : 1 ≤ r.size := h0
  have hpre : Lib.hasPrefix (r.extract 1 r.size).data.toList (⟨#[61]⟩ : ByteArray).data.toList = (bt r 1 == 61) := by
    rw [show (⟨#[61]⟩ : ByteArray).data.toList = [61] from rfl, prefix_one _ _ (by decide), bt_rest r 1 0 h1]; rfl
  have Hpre : Hid (Lib.hasPrefix (r.extract 1 r.size).data.toList (⟨#[61]⟩ : ByteArray).data.toList = (bt r 1 == 61)) := hpre
  clear hpre
  generalize ha : bt r 0 = a at *
  have Ha : Hid (bt r 0 = a) := ha
  have hb0 : ∀ h : 0 < r.size, ((r[0]'h).toNat : Int) = a := fun h => (hb 0 h).trans ha
  clear ha hb
  generalize bt r 1 = b at *
  by_cases two : twoB a = true
  · have t' : a = 58 ∨ a = 60 ∨ a = 62 := of_decide_eq_true two
    cases hc : b == 61
    · have hfin : sgnLen a b = 1 := by
        have : oneB a = true := decide_eq_true (by omega)
        simp [sgnLen, two, hc, this]
      rw [hfin]
      rw [hc] at Hpre
      clear hfin two hc
      rcases t' with rfl | rfl | rfl
      all_goals
        go_enter Tryd.func42, Tryd.ntmps42
        go_wp2_with (go_at_call 23; refine (Tryd.strings_HasPrefix _ _ _).mono ?_; rintro e w' ⟨he, rfl⟩; rw [Hpre.out] at he; subst he)
        go_ret
        exact ⟨rfl, rfl⟩
    · have hfin : sgnLen a b = 2 := by simp [sgnLen, two, hc]
      rw [hfin]
      rw [hc] at Hpre
      clear hfin two hc
      rcases t' with rfl | rfl | rfl
      all_goals
        go_enter Tryd.func42, Tryd.ntmps42
        go_wp2_with (go_at_call 23; refine (Tryd.strings_HasPrefix _ _ _).mono ?_; rintro e w' ⟨he, rfl⟩; rw [Hpre.out] at he; subst he)
        go_ret
        exact ⟨rfl, rfl⟩
  · have two' : twoB a = false := by simpa using two
    have nt : ¬ (a = 58 ∨ a = 60 ∨ a = 62) := fun q => two (decide_eq_true q)
    have n1 : (a == 58) = false := by simp; omega
    have n2 : (a == 60) = false := by simp; omega
    have n3 : (a == 62) = false := by simp; omega
    by_cases one : oneB a = true
    · have hfin : sgnLen a b = 1 := by simp [sgnLen, two', one]
      rw [hfin]
      have o' : a = 61 ∨ a = 35 ∨ a = 43 ∨ a = 45 ∨ a = 42 ∨ a = 40 ∨ a = 41 ∨ a = 91 ∨ a = 93 ∨ a = 44 ∨ a = 59 ∨ a = 46 ∨ a = 38 ∨ a = 126 := by
        have := of_decide_eq_true one; omega
      clear hfin two two' nt one n1 n2 n3
      rcases o' with rfl | rfl | rfl | rfl | rfl | rfl | rfl | rfl | rfl | rfl | rfl | rfl | rfl | rfl
      all_goals
        go_enter Tryd.func42, Tryd.ntmps42
        go_wp2
        go_ret
        exact ⟨rfl, rfl⟩
    · have one' : oneB a = false := by simpa using one
      have hfin : sgnLen a b = 0 := by simp [sgnLen, two', one']
      have no : ¬ (a = 61 ∨ a = 35 ∨ a = 43 ∨ a = 45 ∨ a = 42 ∨ a = 40 ∨ a = 41 ∨ a = 91 ∨ a = 93 ∨ a = 44 ∨ a = 59 ∨ a = 46 ∨ a = 38 ∨ a = 126) := fun q => one (decide_eq_true (by omega))
      have m1 : (a == 61) = false := by simp; omega
      have m2 : (a == 35) = false := by simp; omega
      have m3 : (a == 43) = false := by simp; omega
      have m4 : (a == 45) = false := by simp; omega
      have m5 : (a == 42) = false := by simp; omega
      have m6 : (a == 40) = false := by simp; omega
      have m7 : (a == 41) = false := by simp; omega
      have m8 : (a == 91) = false := by simp; omega
      have m9 : (a == 93) = false := by simp; omega
      have m10 : (a == 44) = false := by simp; omega
      have m11 : (a == 59) = false := by simp; omega
      have m12 : (a == 46) = false := by simp; omega
      have m13 : (a == 38) = false := by simp; omega
      have m14 : (a == 126) = false := by simp; omega
      rw [hfin]
      clear hfin two two' one one' no nt
      go_enter Tryd.func42, Tryd.ntmps42
      go_wp2
      go_ret
      exact ⟨rfl, rfl⟩
end Go.Proofs.YtoocnpkhgnbepadDoor
