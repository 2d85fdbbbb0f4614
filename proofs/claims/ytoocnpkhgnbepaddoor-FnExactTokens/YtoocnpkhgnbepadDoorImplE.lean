/- The program's numbers, and characters by number. -/
import Derived.Test.YtoocnpkhgnbepadDoorImplD
namespace Go.Proofs.YtoocnpkhgnbepadDoor
open Go.RowKit Go.PlainAid

theorem empty_yes {s : ByteArray} (h : s.size = 0) : s.toList.isEmpty = true := by
  rw [ByteArray.toList_eq, List.isEmpty_iff_length_eq_zero, Array.length_toList]; exact h
theorem empty_no {s : ByteArray} (h : ¬ s.size = 0) : s.toList.isEmpty = false := by
  rw [ByteArray.toList_eq]
  cases e : s.data.toList with
  | nil => exact absurd (by show s.data.size = 0; rw [← Array.length_toList, e]; rfl) h
  | cons _ _ => rfl

/-- What a number's text gives: it, or nought. -/
def numV (t : ByteArray) : Int := if numOK t = true then numF t t.size else 0

theorem ret_pair {a b : Int} {p q : Bool} (h : a = b) (h' : p = q) : Ending.returned (.tuple #[.int .i64 a, .bool p]) = .returned (.tuple #[.int .i64 b, .bool q]) := by rw [h, h']
theorem numOK_long {t : ByteArray} (h : 18 < t.size) : numOK t = false := by
  unfold numOK; have : ¬ t.size ≤ 18 := by omega
  simp [this]
theorem numOK_empty {t : ByteArray} (h : t.size = 0) : numOK t = false := by unfold numOK; simp [h]
theorem numOK_nought {t : ByteArray} (h : 1 < t.size) (h0 : bt t 0 = 48) : numOK t = false := by
  unfold numOK; have : ¬ t.size = 1 := by omega
  simp [this, h0]
theorem numOK_yes {t : ByteArray} (h1 : 1 ≤ t.size) (h2 : t.size ≤ 18) (h3 : t.size = 1 ∨ bt t 0 ≠ 48) (h4 : ∀ j, j < t.size → digB (bt t j) = true) : numOK t = true := by
  unfold numOK
  rw [allDig_iff.2 h4]
  simp [h1, h2]
  exact h3
theorem numOK_bad {t : ByteArray} {k : Nat} (hk : k < t.size) (h : digB (bt t k) = false) : numOK t = false := by
  have : allDig t = false := by
    cases e : allDig t with
    | false => rfl
    | true => have := allDig_iff.1 e k hk; rw [h] at this; cases this
  unfold numOK; simp [this]

set_option maxHeartbeats 1600000 in
theorem wholeNumber_any (t : ByteArray) (w : World) (hs : t.size ≤ maxLen) : Calls Tryd.prog 63 #[.string t] w fun e w' => e = .returned (.tuple #[.int .i64 (numV t), .bool (numOK t)]) ∧ Below w.heap.size w w' := by
  unfold maxLen at hs
  by_cases z : t.size = 0
  · have z2 := empty_yes z
    have e : numOK t = false := numOK_empty z
    have e2 : numV t = 0 := by unfold numV; rw [e]; rfl
    rw [e, e2]
    go_enter Tryd.func63, Tryd.ntmps63
    go_wp2
    go_ret2
    exact ⟨rfl, Below.refl _ _⟩
  have z2 := empty_no z
  by_cases l : 18 < t.size
  · have e : numOK t = false := numOK_long l
    have e2 : numV t = 0 := by unfold numV; rw [e]; rfl
    rw [e, e2]
    go_enter Tryd.func63, Tryd.ntmps63
    go_wp2
    go_ret2
    exact ⟨rfl, Below.refl _ _⟩
  have hb := get_bt t
  by_cases n : 1 < t.size ∧ bt t 0 = 48
  · have e : numOK t = false := numOK_nought n.1 n.2
    have e2 : numV t = 0 := by unfold numV; rw [e]; rfl
    rw [e, e2]
    obtain ⟨n1, n2⟩ := n
    have n3 : (bt t 0 == 48) = true := by simp [n2]
    clear n2
    go_enter Tryd.func63, Tryd.ntmps63
    go_wp2
    go_ret2
    exact ⟨rfl, Below.refl _ _⟩
  have hn : t.size = 1 ∨ bt t 0 ≠ 48 := by
    by_cases q : t.size = 1
    · exact .inl q
    · exact .inr fun q2 => n ⟨by omega, q2⟩
  have Hn : Hid (t.size = 1 ∨ bt t 0 ≠ 48) := hn
  have hg : t.size = 1 ∨ (1 < t.size ∧ (bt t 0 == 48) = false) := by
    rcases hn with q | q
    · exact .inl q
    · by_cases q2 : t.size = 1
      · exact .inl q2
      · exact .inr ⟨by omega, by simp [q]⟩
  have Hz : Hid (¬ t.size = 0) := z
  clear hn n z
  rcases hg with g1 | ⟨g1, g2⟩
  · have g1' : ¬ (1 : Int) < t.size := by omega
    have g3 : t.size ≤ 1 := by omega
    clear g1
    go_enter Tryd.func63, Tryd.ntmps63
    go_wp2
    go_loopw [4] (fun n w' => ∃ pos : Nat, w' = w.iter t pos ∧ n = .int .i64 (numF t pos) ∧ pos ≤ t.size ∧ Hid (∀ j, j < pos → digB (bt t j) = true)) (fun _ w' => t.size - w'.iterPos w.heap.size)
    case atStart => exact ⟨0, rfl, rfl, Nat.zero_le _, fun j hj => absurd hj (by omega)⟩
    case round =>
      obtain ⟨pos, rfl, rfl, hpos, Hall⟩ := hrel
      by_cases hp : pos < t.size
      · have hnb := numF_bound pos Hall.out
        have hpw := pw10_17 ⟨pos, by omega⟩
        simp only [] at hpw
        have hn0 : 0 ≤ numF t pos := hnb.1
        have hn1 : numF t pos < 100000000000000000 := by omega
        clear hnb hpw
        by_cases hlow : bt t pos < 128
        · have hnx := next_low (P := Tryd.prog) w t pos hp hlow
          generalize hN : numF t pos = N at *
          have HN : Hid (numF t pos = N) := hN
          clear hN
          generalize hx : bt t pos = x at *
          have Hx : Hid (bt t pos = x) := hx
          clear hx
          cases f2 : digB x
          · have e : numOK t = false := numOK_bad hp (by rw [Hx.out]; exact f2)
            have e2 : numV t = 0 := by unfold numV; rw [e]; rfl
            have E : Hid (numOK t = false) := e
            have E2 : Hid (numV t = 0) := e2
            clear e e2
            go_wp2_with (go_at_call 39; refine (isDigit_any _ _).mono ?_; rintro e w' ⟨rfl, rfl⟩)
            go_ret2
            exact ⟨ret_pair E2.out.symm E.out.symm, iter_below _ _ _⟩
          · have hd := digB_iff.1 f2
            obtain ⟨hd0, hd1⟩ := hd
            go_wp2_with (go_at_call 39; refine (isDigit_any _ _).mono ?_; rintro e w' ⟨rfl, rfl⟩)
            go_roundw
            case rel =>
              refine ⟨pos + 1, rfl, by simp only [numF]; rw [HN.out, Hx.out], by omega, fun j hj => ?_⟩
              by_cases q : j < pos
              · exact Hall.out j q
              · obtain rfl : j = pos := by omega
                rw [Hx.out]; exact f2
            case measure => simp; omega
        · have hnx : ∀ ty, (Instr.next (.pointer (some ⟨w.heap.size, 0, none⟩)) true ty).run Tryd.prog (w.iter t pos) = _ := fun ty => run_next_any w t pos ty hp
          have hh := high_rune t pos hp hlow
          have f2 := digB_high hh
          have e : numOK t = false := numOK_bad hp (digB_high (show 128 ≤ bt t pos by omega))
          have e2 : numV t = 0 := by unfold numV; rw [e]; rfl
          have E : Hid (numOK t = false) := e
          have E2 : Hid (numV t = 0) := e2
          clear e e2
          go_wp2_with (go_at_call 39; refine (isDigit_any _ _).mono ?_; rintro e w' ⟨rfl, rfl⟩)
          go_ret2
          exact ⟨ret_pair E2.out.symm E.out.symm, iter_below _ _ _⟩
      · have hnx : ∀ ty, (Instr.next (.pointer (some ⟨w.heap.size, 0, none⟩)) true ty).run Tryd.prog (w.iter t pos) = _ := fun ty => run_next_end w t pos ty hp
        have hq : pos = t.size := by omega
        have e : numOK t = true := numOK_yes (by have := Hz.out; omega) (by omega) Hn.out (fun j hj => Hall.out j (by omega))
        have e2 : numV t = numF t pos := by unfold numV; rw [if_pos e, hq]
        have E : Hid (numOK t = true) := e
        have E2 : Hid (numV t = numF t pos) := e2
        clear e e2 hq
        go_wp2
        go_ret2
        exact ⟨ret_pair E2.out.symm E.out.symm, iter_below _ _ _⟩
  · go_enter Tryd.func63, Tryd.ntmps63
    go_wp2
    go_loopw [4] (fun n w' => ∃ pos : Nat, w' = w.iter t pos ∧ n = .int .i64 (numF t pos) ∧ pos ≤ t.size ∧ Hid (∀ j, j < pos → digB (bt t j) = true)) (fun _ w' => t.size - w'.iterPos w.heap.size)
    case atStart => exact ⟨0, rfl, rfl, Nat.zero_le _, fun j hj => absurd hj (by omega)⟩
    case round =>
      obtain ⟨pos, rfl, rfl, hpos, Hall⟩ := hrel
      by_cases hp : pos < t.size
      · have hnb := numF_bound pos Hall.out
        have hpw := pw10_17 ⟨pos, by omega⟩
        simp only [] at hpw
        have hn0 : 0 ≤ numF t pos := hnb.1
        have hn1 : numF t pos < 100000000000000000 := by omega
        clear hnb hpw
        by_cases hlow : bt t pos < 128
        · have hnx := next_low (P := Tryd.prog) w t pos hp hlow
          generalize hN : numF t pos = N at *
          have HN : Hid (numF t pos = N) := hN
          clear hN
          generalize hx : bt t pos = x at *
          have Hx : Hid (bt t pos = x) := hx
          clear hx
          cases f2 : digB x
          · have e : numOK t = false := numOK_bad hp (by rw [Hx.out]; exact f2)
            have e2 : numV t = 0 := by unfold numV; rw [e]; rfl
            have E : Hid (numOK t = false) := e
            have E2 : Hid (numV t = 0) := e2
            clear e e2
            go_wp2_with (go_at_call 39; refine (isDigit_any _ _).mono ?_; rintro e w' ⟨rfl, rfl⟩)
            go_ret2
            exact ⟨ret_pair E2.out.symm E.out.symm, iter_below _ _ _⟩
          · have hd := digB_iff.1 f2
            obtain ⟨hd0, hd1⟩ := hd
            go_wp2_with (go_at_call 39; refine (isDigit_any _ _).mono ?_; rintro e w' ⟨rfl, rfl⟩)
            go_roundw
            case rel =>
              refine ⟨pos + 1, rfl, by simp only [numF]; rw [HN.out, Hx.out], by omega, fun j hj => ?_⟩
              by_cases q : j < pos
              · exact Hall.out j q
              · obtain rfl : j = pos := by omega
                rw [Hx.out]; exact f2
            case measure => simp; omega
        · have hnx : ∀ ty, (Instr.next (.pointer (some ⟨w.heap.size, 0, none⟩)) true ty).run Tryd.prog (w.iter t pos) = _ := fun ty => run_next_any w t pos ty hp
          have hh := high_rune t pos hp hlow
          have f2 := digB_high hh
          have e : numOK t = false := numOK_bad hp (digB_high (show 128 ≤ bt t pos by omega))
          have e2 : numV t = 0 := by unfold numV; rw [e]; rfl
          have E : Hid (numOK t = false) := e
          have E2 : Hid (numV t = 0) := e2
          clear e e2
          go_wp2_with (go_at_call 39; refine (isDigit_any _ _).mono ?_; rintro e w' ⟨rfl, rfl⟩)
          go_ret2
          exact ⟨ret_pair E2.out.symm E.out.symm, iter_below _ _ _⟩
      · have hnx : ∀ ty, (Instr.next (.pointer (some ⟨w.heap.size, 0, none⟩)) true ty).run Tryd.prog (w.iter t pos) = _ := fun ty => run_next_end w t pos ty hp
        have hq : pos = t.size := by omega
        have e : numOK t = true := numOK_yes (by have := Hz.out; omega) (by omega) Hn.out (fun j hj => Hall.out j (by omega))
        have e2 : numV t = numF t pos := by unfold numV; rw [if_pos e, hq]
        have E : Hid (numOK t = true) := e
        have E2 : Hid (numV t = numF t pos) := e2
        clear e e2 hq
        go_wp2
        go_ret2
        exact ⟨ret_pair E2.out.symm E.out.symm, iter_below _ _ _⟩
end Go.Proofs.YtoocnpkhgnbepadDoor
