/- One step of the model's scanner, at a blank, a remark, a digit, a sign. -/
import Derived.Test.YtoocnpkhgnbepadDoorSpecP
import Derived.Test.YtoocnpkhgnbepadDoorKeysSpec
namespace Go.Proofs.YtoocnpkhgnbepadDoor
open Go.RowKit Go.PlainAid

variable {B : Nat} {w0 w : World} {s : ByteArray} {p : Nat} {l : List Tok} {c : Int} {q : Nat} {x : Tok}

theorem blank_ways {n : Int} (h : blankB n = true) : n = 32 ∨ n = 9 ∨ n = 10 ∨ n = 13 := of_decide_eq_true h
theorem blank_none {n : Int} (h : blankB n = false) : (n == 32) = false ∧ (n == 9) = false ∧ (n == 10) = false ∧ (n == 13) = false := by
  have := of_decide_eq_false h
  simp only [beq_eq_false_iff_ne]
  omega

set_option maxRecDepth 100000 in
set_option maxHeartbeats 4000000 in
theorem one_blank (hs : s.size ≤ 4000) (h : Sc B w0 w s p l 0 q) (hl : l.length ≤ 1200) (hp : p < s.size) (hb : blankB (bt s p) = true) :
    Calls Tryd.prog 35 #[.pointer (some ⟨B, 0, none⟩)] w fun e w' => e = .returned (.tuple #[]) ∧ Step B w0 w' s p l := by
  have H : Hid (Sc B w0 w s p l 0 q) := h
  have Hb : Hid (blankB (bt s p) = true) := hb
  have k0 := h.k0
  have k1 := h.k1
  have f1 := h.fz 1
  have i1 : (p : Int) < s.size := by omega
  have hbp := get_bt s p hp
  have hy := blank_ways hb
  clear h hb
  generalize hyy : bt s p = y at *
  have HY : Hid (bt s p = y) := hyy
  clear hyy
  rcases hy with rfl | rfl | rfl | rfl
  all_goals
    go_enter Tryd.func35, Tryd.ntmps35
    go_wp2
    go_quiet (fail)
    go_wp2
    go_end0
    exact ⟨rfl, step_blank hp (by rw [HY.out]; exact Hb.out) hl ((H.out.drewN _).at1 _ (p + 1) (by omega))⟩

set_option maxRecDepth 100000 in
set_option maxHeartbeats 4000000 in
theorem one_remark (hs : s.size ≤ 4000) (h : Sc B w0 w s p l 0 q) (hl : l.length ≤ 1200) (hp : p < s.size) (hb : blankB (bt s p) = false) (hc : bt s p = 40 ∧ bt s (p + 1) = 42) :
    Calls Tryd.prog 35 #[.pointer (some ⟨B, 0, none⟩)] w fun e w' => e = .returned (.tuple #[]) ∧ Step B w0 w' s p l := by
  have H : Hid (Sc B w0 w s p l 0 q) := h
  have Hb : Hid (blankB (bt s p) = false) := hb
  have HC : Hid (bt s p = 40 ∧ bt s (p + 1) = 42) := hc
  have hp1 : p + 1 < s.size := by
    by_cases e : p + 1 < s.size
    · exact e
    · have := hc.2; rw [bt_end s (by omega)] at this; omega
  have k0 := h.k0
  have k1 := h.k1
  have f1 := h.fz 1
  have i1 : (p : Int) < s.size := by omega
  have i2 : (p : Int) + 1 < s.size := by omega
  have hbp := get_bt s p hp
  have t1 := two_eq s p 40 42 (by omega)
  have e1 : ((s.extract p (p + 2)).toList == [40, 42]) = true := by rw [t1, hc.1, hc.2]; rfl
  obtain ⟨n1, n2, n3, n4⟩ := blank_none hb
  clear h hb t1 hc
  generalize hyy : bt s p = y at *
  have HY : Hid (bt s p = y) := hyy
  clear hyy
  go_enter Tryd.func35, Tryd.ntmps35
  go_wp2
  go_quiet (fail)
  go_wp2
  go_quiet (fail)
  go_wp2_with (go_at_call 54; refine (remark_any hs (H.out.drewN _) ?_ hp1).mono ?_; (rw [HY.out]; exact HC.out); rintro e w' ⟨rfl, h'⟩)
  go_end0
  exact ⟨rfl, step_rem hp (by rw [HY.out]; exact Hb.out) (by rw [HY.out]; exact HC.out) hl h'⟩

theorem dig_not_let {n : Int} (h : digB n = true) : letB n = false := by
  have := digB_iff.1 h
  exact letB_no (by omega)
theorem let_not_dig {n : Int} (h : letB n = true) : digB n = false := by
  have := of_decide_eq_true h
  exact digB_no (by omega)
/-- Where no remark begins, the two bytes are not its signs, or there are no two. -/
theorem no_rem {s : ByteArray} {p : Nat} (hc : ¬ (bt s p = 40 ∧ bt s (p + 1) = 42)) : (p + 1 < s.size ∧ ((s.extract p (p + 2)).toList == [40, 42]) = false) ∨ s.size ≤ p + 1 := by
  by_cases h : p + 1 < s.size
  · left
    refine ⟨h, ?_⟩
    rw [two_eq s p 40 42 (by omega), Bool.eq_false_iff]
    simpa using hc
  · right; omega

set_option maxRecDepth 100000 in
set_option maxHeartbeats 4000000 in
theorem one_number (hs : s.size ≤ 4000) (h : Sc B w0 w s p l 0 q) (hl : l.length ≤ 1200) (hp : p < s.size) (hb : blankB (bt s p) = false) (hc : ¬ (bt s p = 40 ∧ bt s (p + 1) = 42)) (hd : digB (bt s p) = true) :
    Calls Tryd.prog 35 #[.pointer (some ⟨B, 0, none⟩)] w fun e w' => e = .returned (.tuple #[]) ∧ Step B w0 w' s p l := by
  have H : Hid (Sc B w0 w s p l 0 q) := h
  have Hb : Hid (blankB (bt s p) = false) := hb
  have HC : Hid (¬ (bt s p = 40 ∧ bt s (p + 1) = 42)) := hc
  have Hd : Hid (digB (bt s p) = true) := hd
  have k0 := h.k0
  have k1 := h.k1
  have i1 : (p : Int) < s.size := by omega
  have hbp := get_bt s p hp
  obtain ⟨n1, n2, n3, n4⟩ := blank_none hb
  have hr := no_rem hc
  clear h hb hc
  generalize hyy : bt s p = y at *
  have HY : Hid (bt s p = y) := hyy
  clear hyy
  rcases hr with ⟨hp1, e1⟩ | hp1
  · have i2 : (p : Int) + 1 < s.size := by omega
    go_enter Tryd.func35, Tryd.ntmps35
    go_wp2
    go_quiet (fail)
    go_wp2
    go_quiet (fail)
    go_wp2_with (first
      | (go_at_call 55; refine (l00Digit_any _ _).mono ?_; rintro e w' ⟨rfl, rfl⟩)
      | (go_at_call 56; refine (number_any hs (H.out.drewN _) hl hp ?_).mono ?_; (rw [HY.out]; exact Hd.out); rintro e w' ⟨rfl, h'⟩))
    go_end0
    exact ⟨rfl, step_num hp (by rw [HY.out]; exact Hb.out) (by rw [HY.out]; exact HC.out) (by rw [HY.out]; exact dig_not_let Hd.out) (by rw [HY.out]; exact Hd.out) h'⟩
  · have i2 : ¬ (p : Int) + 1 < s.size := by omega
    have i3 : decide ((p : Int) + 1 < s.size) = false := by simp; omega
    go_enter Tryd.func35, Tryd.ntmps35
    go_wp2
    go_quiet (fail)
    go_wp2
    go_quiet (fail)
    go_wp2_with (first
      | (go_at_call 55; refine (l00Digit_any _ _).mono ?_; rintro e w' ⟨rfl, rfl⟩)
      | (go_at_call 56; refine (number_any hs (H.out.drewN _) hl hp ?_).mono ?_; (rw [HY.out]; exact Hd.out); rintro e w' ⟨rfl, h'⟩))
    go_end0
    exact ⟨rfl, step_num hp (by rw [HY.out]; exact Hb.out) (by rw [HY.out]; exact HC.out) (by rw [HY.out]; exact dig_not_let Hd.out) (by rw [HY.out]; exact Hd.out) h'⟩

set_option maxRecDepth 100000 in
set_option maxHeartbeats 4000000 in
theorem one_sign (hs : s.size ≤ 4000) (h : Sc B w0 w s p l 0 q) (hl : l.length ≤ 1200) (hp : p < s.size) (hb : blankB (bt s p) = false) (hc : ¬ (bt s p = 40 ∧ bt s (p + 1) = 42)) (hlet : letB (bt s p) = false) (hd : digB (bt s p) = false) (hq : (bt s p == 34) = false) :
    Calls Tryd.prog 35 #[.pointer (some ⟨B, 0, none⟩)] w fun e w' => e = .returned (.tuple #[]) ∧ Step B w0 w' s p l := by
  have H : Hid (Sc B w0 w s p l 0 q) := h
  have Hb : Hid (blankB (bt s p) = false) := hb
  have HC : Hid (¬ (bt s p = 40 ∧ bt s (p + 1) = 42)) := hc
  have Hd : Hid (digB (bt s p) = false) := hd
  have Hl : Hid (letB (bt s p) = false) := hlet
  have Hq : Hid ((bt s p == 34) = false) := hq
  have k0 := h.k0
  have k1 := h.k1
  have i1 : (p : Int) < s.size := by omega
  have hps : p ≤ 4000 := by omega
  have hbp := get_bt s p hp
  obtain ⟨n1, n2, n3, n4⟩ := blank_none hb
  have hr := no_rem hc
  clear h hb hc
  generalize hyy : bt s p = y at *
  have HY : Hid (bt s p = y) := hyy
  clear hyy
  rcases hr with ⟨hp1, e1⟩ | hp1
  · have i2 : (p : Int) + 1 < s.size := by omega
    go_enter Tryd.func35, Tryd.ntmps35
    go_wp2
    go_quiet (fail)
    go_wp2
    go_quiet (fail)
    go_wp2_with (first
      | (go_at_call 55; refine (l00Digit_any _ _).mono ?_; rintro e w' ⟨rfl, rfl⟩)
      | (go_at_call 57; refine (l00Letter_any _ _).mono ?_; rintro e w' ⟨rfl, rfl⟩)
      | (go_at_call 61; refine (sign_any hs hps (H.out.drewN _) hl).mono ?_; rintro e w' ⟨rfl, h'⟩))
    go_end0
    exact ⟨rfl, step_sign hp (by rw [HY.out]; exact Hb.out) (by rw [HY.out]; exact HC.out) (by rw [HY.out]; exact Hl.out) (by rw [HY.out]; exact Hd.out) (by rw [HY.out]; exact Hq.out) h'⟩
  · have i2 : ¬ (p : Int) + 1 < s.size := by omega
    have i3 : decide ((p : Int) + 1 < s.size) = false := by simp; omega
    go_enter Tryd.func35, Tryd.ntmps35
    go_wp2
    go_quiet (fail)
    go_wp2
    go_quiet (fail)
    go_wp2_with (first
      | (go_at_call 55; refine (l00Digit_any _ _).mono ?_; rintro e w' ⟨rfl, rfl⟩)
      | (go_at_call 57; refine (l00Letter_any _ _).mono ?_; rintro e w' ⟨rfl, rfl⟩)
      | (go_at_call 61; refine (sign_any hs hps (H.out.drewN _) hl).mono ?_; rintro e w' ⟨rfl, h'⟩))
    go_end0
    exact ⟨rfl, step_sign hp (by rw [HY.out]; exact Hb.out) (by rw [HY.out]; exact HC.out) (by rw [HY.out]; exact Hl.out) (by rw [HY.out]; exact Hd.out) (by rw [HY.out]; exact Hq.out) h'⟩
end Go.Proofs.YtoocnpkhgnbepadDoor
