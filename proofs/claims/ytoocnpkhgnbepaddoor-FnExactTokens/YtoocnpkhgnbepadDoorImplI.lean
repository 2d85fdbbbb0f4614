/- The first token of a text, by the program's way. -/
import Derived.Test.YtoocnpkhgnbepadDoorImplH
namespace Go.Proofs.YtoocnpkhgnbepadDoor
open Go.RowKit Go.PlainAid

def firstTok (r : ByteArray) : Int × Int × ByteArray × Nat :=
  if letB (bt r 0) = true then wordTok r else if digB (bt r 0) = true then digitTok r else if (bt r 0 == 34) = true then quotedTok r
  else (5, 0, r.extract 0 (sgnLen (bt r 0) (bt r 1)), sgnLen (bt r 0) (bt r 1))
theorem sgnLen_le (r : ByteArray) (h : 0 < r.size) : sgnLen (bt r 0) (bt r 1) ≤ r.size := by
  unfold sgnLen
  by_cases c : (twoB (bt r 0) && bt r 1 == 61) = true
  · rw [if_pos c]
    have : bt r 1 = 61 := by simp at c; exact c.2
    by_cases q : 1 < r.size
    · omega
    · rw [bt_end r (by omega)] at this; omega
  · rw [if_neg c]; split <;> omega

set_option maxHeartbeats 1600000 in
theorem firstToken_any (r : ByteArray) (w : World) (hs : r.size ≤ maxLen) (h1 : 0 < r.size) (hT : Lib.Utf8Tabs 4 5 w) (t : TypeId) (fr : Nat × Nat) (hg : w.heap[1]? = some (.cells keyRow t fr)) :
    Calls Tryd.prog 25 #[.string r] w fun e w' => e = .returned (tokVal (firstTok r)) ∧ Below w.heap.size w w' := by
  have hm := hs
  unfold maxLen at hm
  have hlt : 1 < w.heap.size := (Array.getElem?_eq_some_iff.1 hg).1
  have hb := get_bt r
  have hb0 : ∀ h : 0 < r.size, ((r[0]'h).toNat : Int) = bt r 0 := fun h => hb 0 h
  have HW : Hid (∀ w1, Below w.heap.size w w1 → Calls Tryd.prog 38 #[.string r] w1 fun e w' => e = .returned (tokVal (wordTok r)) ∧ Below w1.heap.size w1 w') :=
    fun w1 b1 => wordToken_any r w1 hs t fr ((b1.block _ hlt).trans hg)
  have HD : Hid (digB (bt r 0) = true → ∀ w1, Calls Tryd.prog 40 #[.string r] w1 fun e w' => e = .returned (tokVal (digitTok r)) ∧ Below w1.heap.size w1 w') :=
    fun h w1 => digitToken_any r w1 hs h
  have HQ : Hid (∀ w1, Below w.heap.size w w1 → Calls Tryd.prog 41 #[.string r] w1 fun e w' => e = .returned (tokVal (quotedTok r)) ∧ Below w1.heap.size w1 w') :=
    fun w1 b1 => quotedToken_any r w1 hs h1 (tabs_below hT b1)
  have HS : Hid (∀ w1, Calls Tryd.prog 42 #[.string r] w1 fun e w' => e = .returned (.int .i64 (sgnLen (bt r 0) (bt r 1))) ∧ w1 = w') :=
    fun w1 => signLength_any r w1 hs h1
  have hsl := sgnLen_le r h1
  have hx0 := bt_nonneg r 0
  have hx1 := bt_le r 0
  clear hT hg hb
  unfold firstTok
  generalize hx : bt r 0 = x at *
  clear hx
  cases f1 : letB x
  · cases f2 : digB x
    · cases f3 : (x == 34)
      · generalize sgnLen x (bt r 1) = n at *
        go_enter Tryd.func25, Tryd.ntmps25
        go_wp2_with (first
          | (go_at_call 37; refine (isLetter_any _ _).mono ?_; rintro e w' ⟨rfl, rfl⟩)
          | (go_at_call 39; refine (isDigit_any _ _).mono ?_; rintro e w' ⟨rfl, rfl⟩)
          | (go_at_call 42; refine (HS.out _).mono ?_; rintro e w' ⟨rfl, rfl⟩))
        refine bodyPost_ret (v := tokVal (5, 0, r.extract 0 n, n)) (by simp [results, Tryd.results25, go_sem, tokVal]) rfl ⟨?_, ?_⟩
        · simp
        · repeat (first | exact Below.refl _ _ | (refine Below.setCell ?_ (Nat.le_refl _) _) | (refine Below.alloc ?_ (Nat.le_refl _) _))
      · have h34 : x = 34 := by simpa using f3
        subst h34
        go_enter Tryd.func25, Tryd.ntmps25
        go_wp2_with (first
          | (go_at_call 37; refine (isLetter_any _ _).mono ?_; rintro e w' ⟨rfl, rfl⟩)
          | (go_at_call 39; refine (isDigit_any _ _).mono ?_; rintro e w' ⟨rfl, rfl⟩)
          | (go_at_call 41; refine (HQ.out _ ((Below.refl _ _).alloc (Nat.le_refl _) _)).mono ?_; rintro e w' ⟨rfl, bel⟩; obtain ⟨tc, tf, tz, tb⟩ := own_block bel; clear bel; unfold tokVal))
        refine bodyPost_ret (v := tokVal (quotedTok r)) (by simp [results, Tryd.results25, go_sem, tokVal, tc]) rfl ⟨?_, (((tb.setCell (Nat.le_refl _) _).setCell (Nat.le_refl _) _).setCell (Nat.le_refl _) _).setCell (Nat.le_refl _) _⟩
        simp
    · have d0 := (digB_iff.1 f2).1
      have n34 : (x == 34) = false := by simp; omega
      go_enter Tryd.func25, Tryd.ntmps25
      go_wp2_with (first
          | (go_at_call 37; refine (isLetter_any _ _).mono ?_; rintro e w' ⟨rfl, rfl⟩)
          | (go_at_call 39; refine (isDigit_any _ _).mono ?_; rintro e w' ⟨rfl, rfl⟩)
          | (go_at_call 40; refine (HD.out f2 _).mono ?_; rintro e w' ⟨rfl, bel⟩; obtain ⟨tc, tf, tz, tb⟩ := own_block bel; clear bel; unfold tokVal))
      refine bodyPost_ret (v := tokVal (digitTok r)) (by simp [results, Tryd.results25, go_sem, tokVal, tc]) rfl ⟨?_, (((tb.setCell (Nat.le_refl _) _).setCell (Nat.le_refl _) _).setCell (Nat.le_refl _) _).setCell (Nat.le_refl _) _⟩
      simp
  · go_enter Tryd.func25, Tryd.ntmps25
    go_wp2_with (first
          | (go_at_call 37; refine (isLetter_any _ _).mono ?_; rintro e w' ⟨rfl, rfl⟩)
          | (go_at_call 39; refine (isDigit_any _ _).mono ?_; rintro e w' ⟨rfl, rfl⟩)
          | (go_at_call 38; refine (HW.out _ ((Below.refl _ _).alloc (Nat.le_refl _) _)).mono ?_; rintro e w' ⟨rfl, bel⟩; obtain ⟨tc, tf, tz, tb⟩ := own_block bel; clear bel; unfold tokVal))
    refine bodyPost_ret (v := tokVal (wordTok r)) (by simp [results, Tryd.results25, go_sem, tokVal, tc]) rfl ⟨?_, (((tb.setCell (Nat.le_refl _) _).setCell (Nat.le_refl _) _).setCell (Nat.le_refl _) _).setCell (Nat.le_refl _) _⟩
    simp
end Go.Proofs.YtoocnpkhgnbepadDoor
