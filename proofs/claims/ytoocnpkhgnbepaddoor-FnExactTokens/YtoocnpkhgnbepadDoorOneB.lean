/- One step of the model's scanner, at a letter and at a quote. -/
import Derived.Test.YtoocnpkhgnbepadDoorOneA
namespace Go.Proofs.YtoocnpkhgnbepadDoor
open Go.RowKit Go.PlainAid

variable {B : Nat} {w0 w : World} {s : ByteArray} {p : Nat} {l : List Tok} {c : Int} {q : Nat} {x : Tok}

/-- The two ways past the test for a remark. -/
theorem rem_ways {s : ByteArray} {p : Nat} (hc : ¬ (bt s p = 40 ∧ bt s (p + 1) = 42)) : ((p : Int) + 1 < s.size ∧ ((s.extract p (p + 2)).toList == [40, 42]) = false) ∨ (¬ (p : Int) + 1 < s.size ∧ decide ((p : Int) + 1 < s.size) = false) := by
  rcases no_rem hc with ⟨a, b⟩ | a
  · exact .inl ⟨by omega, b⟩
  · exact .inr ⟨by omega, by simp; omega⟩

set_option maxRecDepth 100000 in
set_option maxHeartbeats 16000000 in
theorem one_word (hs : s.size ≤ 4000) (h : Sc B w0 w s p l 0 q) (hl : l.length ≤ 1200) (hp : p < s.size) (hb : blankB (bt s p) = false) (hc : ¬ (bt s p = 40 ∧ bt s (p + 1) = 42)) (hlet : letB (bt s p) = true) :
    Calls Tryd.prog 35 #[.pointer (some ⟨B, 0, none⟩)] w fun e w' => e = .returned (.tuple #[]) ∧ Step B w0 w' s p l := by
  have H : Hid (Sc B w0 w s p l 0 q) := h
  have Hb : Hid (blankB (bt s p) = false) := hb
  have HC : Hid (¬ (bt s p = 40 ∧ bt s (p + 1) = 42)) := hc
  have Hl : Hid (letB (bt s p) = true) := hlet
  have HB : Hid (∀ (n : Nat) (h : n < s.size), ((s[n]'h).toNat : Int) = bt s n) := get_bt s
  have hd0 : digB (bt s p) = false := let_not_dig hlet
  have k0 := h.k0
  have k1 := h.k1
  have i1 : (p : Int) < s.size := by omega
  have hbp := get_bt s p hp
  obtain ⟨n1, n2, n3, n4⟩ := blank_none hb
  have hr := rem_ways hc
  clear h hb hc
  generalize hyy : bt s p = y at *
  have HY : Hid (bt s p = y) := hyy
  clear hyy
  rcases hr with ⟨i2, e1⟩ | ⟨i2, e1⟩
  all_goals
    go_enter Tryd.func35, Tryd.ntmps35
    go_wp2
    go_quiet (fail)
    go_wp2
    go_quiet (fail)
    go_wp2_with (first
      | (go_at_call 55; refine (l00Digit_any _ _).mono ?_; rintro e w' ⟨rfl, rfl⟩)
      | (go_at_call 57; refine (l00Letter_any _ _).mono ?_; rintro e w' ⟨rfl, rfl⟩))
    clear k0 k1 i1 hbp n1 n2 n3 n4 i2 e1 hlet hd0
    go_loopw [] (fun wr => ∃ pos : Nat, Sc B w0 wr s pos l 0 q ∧ Hid (WordAt s p pos)) (fun wr => s.size + 1 - posOf B wr)
    case atStart => exact ⟨p, H.out.drewN _, Nat.le_refl _, by omega, rfl⟩
    case round =>
      obtain ⟨pos, hsc, Hw⟩ := hrel
      obtain ⟨r1, r2, r3⟩ := Hw.out
      have Hsc : Hid (Sc B w0 _ s pos l 0 q) := hsc
      have k0 := hsc.k0
      have k1 := hsc.k1
      have f1 := hsc.fz 1
      have hpo := hsc.posOf
      clear hsc
      by_cases hword : pos < s.size ∧ wordB (bt s pos) = true
      · obtain ⟨hlt, hwb⟩ := hword
        have i1 : (pos : Int) < s.size := by omega
        have hbp := HB.out pos hlt
        have hnew : WordAt s p (pos + 1) := ⟨by omega, by omega, by rw [r3, wEnd_go hlt hwb]⟩
        have Hnew : Hid (WordAt s p (pos + 1)) := hnew
        clear hnew r3
        cases d1 : digB (bt s pos)
        · have d2 : letB (bt s pos) = true := by unfold wordB at hwb; rw [d1] at hwb; simpa using hwb
          clear hwb
          generalize bt s pos = y at *
          go_wp2
          go_quiet (first | (go_at_call 55; exact dig_quiet _ _ d1 _ _) | (go_at_call 57; exact let_quiet _ _ d2 _ _))
          go_wp2
          go_roundw
          case rel => exact ⟨pos + 1, (Hsc.out.drewN _).at1 _ (pos + 1) (by omega), Hnew⟩
          case measure => rw [((Hsc.out.drewN _).at1 _ (pos + 1) (by omega)).posOf, hpo]; omega
        · clear hwb
          generalize bt s pos = y at *
          go_wp2
          go_quiet (first | (go_at_call 55; exact dig_quiet _ _ d1 _ _))
          go_wp2
          go_roundw
          case rel => exact ⟨pos + 1, (Hsc.out.drewN _).at1 _ (pos + 1) (by omega), Hnew⟩
          case measure => rw [((Hsc.out.drewN _).at1 _ (pos + 1) (by omega)).posOf, hpo]; omega
      · have hnw : wordB (bt s pos) = false := by
          by_cases e : pos < s.size
          · rw [Bool.eq_false_iff]; exact fun h => hword ⟨e, h⟩
          · exact wordB_end (by omega)
        have he : wEnd s p = pos := by rw [r3]; exact wEnd_stop r2 hnw
        have He : Hid (wEnd s p = pos) := he
        have hts : (s.extract p pos).size = pos - p := by rw [ByteArray.size_extract]; omega
        have i2 : (p : Int) ≤ pos := by omega
        have i3 : (pos : Int) ≤ s.size := by omega
        have Hfin : Hid (∀ {w5 : World}, WordDone B w0 w5 s (s.extract p pos) p pos l q → Step B w0 w5 s p l) := fun hw5 =>
          step_word hp (by rw [HY.out]; exact Hb.out) (by rw [HY.out]; exact HC.out) (by rw [HY.out]; exact Hl.out) (by rw [he]; exact hw5)
        obtain ⟨t, ht⟩ : ∃ t, s.extract p pos = t := ⟨_, rfl⟩
        rw [ht] at hts Hfin
        have hstop : (pos < s.size ∧ digB (bt s pos) = false ∧ letB (bt s pos) = false) ∨ pos = s.size := by
          by_cases e : pos < s.size
          · left
            unfold wordB at hnw
            rw [Bool.or_eq_false_iff] at hnw
            exact ⟨e, hnw.2, hnw.1⟩
          · right; omega
        have hsz : (40 < t.size) ∨ (t.size ≤ 40 ∧ ¬ 40 < t.size) := by omega
        have hkey : keyB t = true ∨ keyB t = false := by cases keyB t <;> simp
        clear hword hnw he r3 hts
        rcases hsz with big | ⟨small, notbig⟩
        · have b1 : (40 : Int) < t.size := by omega
          clear hkey
          rcases hstop with ⟨hlt, d1, d2⟩ | hge
          · have i1 : (pos : Int) < s.size := by omega
            have hbp := HB.out pos hlt
            generalize bt s pos = y2 at *
            go_wp2
            go_quiet (first | (go_at_call 55; exact dig_quiet _ _ d1 _ _) | (go_at_call 57; exact let_quiet _ _ d2 _ _))
            go_wp2
            go_quiet (fail)
            go_wp2_with (go_at_call 58; refine (fail_any 4 p (Hsc.out.drewN _)).mono ?_; rintro e w' ⟨rfl, h', _⟩)
            go_end0
            exact ⟨rfl, Hfin.out (.inl ⟨big, h'⟩)⟩
          · have i1 : decide ((pos : Int) < s.size) = false := by simp; omega
            have i1' : decide (pos < s.size) = false := by simp; omega
            clear hge
            go_wp2
            go_quiet (fail)
            go_wp2
            go_quiet (fail)
            go_wp2_with (go_at_call 58; refine (fail_any 4 p (Hsc.out.drewN _)).mono ?_; rintro e w' ⟨rfl, h', _⟩)
            go_end0
            exact ⟨rfl, Hfin.out (.inl ⟨big, h'⟩)⟩
        · have b1 : ¬ (40 : Int) < t.size := by omega
          rcases hkey with hk | hk
          · have Hkey : Hid (∀ w, Calls Tryd.prog 9 #[.string t] w fun e w' => e = .returned (.bool true) ∧ w' = w.alloc (.cells keyRow 9)) := fun w => by have := specIsKey_any t w; rw [hk] at this; exact this
            have Hk : Hid (keyB t = true) := hk
            clear hk
            rcases hstop with ⟨hlt, d1, d2⟩ | hge
            · have i1 : (pos : Int) < s.size := by omega
              have hbp := HB.out pos hlt
              generalize bt s pos = y2 at *
              go_wp2
              go_quiet (first | (go_at_call 55; exact dig_quiet _ _ d1 _ _) | (go_at_call 57; exact let_quiet _ _ d2 _ _))
              go_wp2
              go_quiet (fail)
              go_wp2_with (first
                | (go_at_call 9; refine (Hkey.out _).mono ?_; rintro e w' ⟨rfl, rfl⟩)
                | (go_at_call 59; refine (add_either 2 0 t p ((Hsc.out.drewN _).alloc _) hl).mono ?_; rintro e w' ⟨rfl, h', _⟩))
              go_end0
              exact ⟨rfl, Hfin.out (.inr ⟨small, by rw [if_pos Hk.out]; exact h'⟩)⟩
            · have i1 : decide ((pos : Int) < s.size) = false := by simp; omega
              have i1' : decide (pos < s.size) = false := by simp; omega
              clear hge
              go_wp2
              go_quiet (fail)
              go_wp2
              go_quiet (fail)
              go_wp2_with (first
                | (go_at_call 9; refine (Hkey.out _).mono ?_; rintro e w' ⟨rfl, rfl⟩)
                | (go_at_call 59; refine (add_either 2 0 t p ((Hsc.out.drewN _).alloc _) hl).mono ?_; rintro e w' ⟨rfl, h', _⟩))
              go_end0
              exact ⟨rfl, Hfin.out (.inr ⟨small, by rw [if_pos Hk.out]; exact h'⟩)⟩
          · have Hkey : Hid (∀ w, Calls Tryd.prog 9 #[.string t] w fun e w' => e = .returned (.bool false) ∧ w' = w.alloc (.cells keyRow 9)) := fun w => by have := specIsKey_any t w; rw [hk] at this; exact this
            have Hk : Hid (keyB t = false) := hk
            clear hk
            rcases hstop with ⟨hlt, d1, d2⟩ | hge
            · have i1 : (pos : Int) < s.size := by omega
              have hbp := HB.out pos hlt
              generalize bt s pos = y2 at *
              go_wp2
              go_quiet (first | (go_at_call 55; exact dig_quiet _ _ d1 _ _) | (go_at_call 57; exact let_quiet _ _ d2 _ _))
              go_wp2
              go_quiet (fail)
              go_wp2_with (first
                | (go_at_call 9; refine (Hkey.out _).mono ?_; rintro e w' ⟨rfl, rfl⟩)
                | (go_at_call 59; refine (add_either 1 0 t p ((Hsc.out.drewN _).alloc _) hl).mono ?_; rintro e w' ⟨rfl, h', _⟩))
              go_end0
              exact ⟨rfl, Hfin.out (.inr ⟨small, by rw [if_neg (by rw [Hk.out]; decide)]; exact h'⟩)⟩
            · have i1 : decide ((pos : Int) < s.size) = false := by simp; omega
              have i1' : decide (pos < s.size) = false := by simp; omega
              clear hge
              go_wp2
              go_quiet (fail)
              go_wp2
              go_quiet (fail)
              go_wp2_with (first
                | (go_at_call 9; refine (Hkey.out _).mono ?_; rintro e w' ⟨rfl, rfl⟩)
                | (go_at_call 59; refine (add_either 1 0 t p ((Hsc.out.drewN _).alloc _) hl).mono ?_; rintro e w' ⟨rfl, h', _⟩))
              go_end0
              exact ⟨rfl, Hfin.out (.inr ⟨small, by rw [if_neg (by rw [Hk.out]; decide)]; exact h'⟩)⟩
end Go.Proofs.YtoocnpkhgnbepadDoor
