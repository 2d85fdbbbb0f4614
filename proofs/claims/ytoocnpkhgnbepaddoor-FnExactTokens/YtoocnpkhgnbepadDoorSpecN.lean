/- The model's numbers, and its characters by number. -/
import Derived.Test.YtoocnpkhgnbepadDoorSpecG
import Derived.Test.YtoocnpkhgnbepadDoorSpecA
namespace Go.Proofs.YtoocnpkhgnbepadDoor
open Go.RowKit Go.PlainAid

variable {B : Nat} {w0 w : World} {s : ByteArray} {p : Nat} {l : List Tok} {c : Int} {q : Nat} {x : Tok}

theorem dig_quiet (n : Int) (b : Bool) (h : digB n = b) (w : World) (m : Nat) : Calls Tryd.prog 55 #[.int .u8 n] (w.drewN m) fun e w' => e = .returned (.bool b) ∧ ∃ k, w' = w.drewN k :=
  (l00Digit_any n _).mono fun _ _ ⟨a, b'⟩ => ⟨by rw [a, h], m, b'.symm⟩
theorem let_quiet (n : Int) (b : Bool) (h : letB n = b) (w : World) (m : Nat) : Calls Tryd.prog 57 #[.int .u8 n] (w.drewN m) fun e w' => e = .returned (.bool b) ∧ ∃ k, w' = w.drewN k :=
  (l00Letter_any n _).mono fun _ _ ⟨a, b'⟩ => ⟨by rw [a, h], m, b'.symm⟩
def upB (n : Int) : Bool := decide (65 ≤ n ∧ n ≤ 70)
theorem l01Upper_any (n : Int) (w : World) : Calls Tryd.prog 76 #[.int .u8 n] w fun e w' => e = .returned (.bool (upB n)) ∧ w = w' := by
  by_cases h1 : 65 ≤ n
  · by_cases h2 : n ≤ 70
    · have h : upB n = true := decide_eq_true ⟨h1, h2⟩
      go_enter Tryd.func76, Tryd.ntmps76
      go_wp2
      go_ret
      first | exact ⟨rfl, rfl⟩ | exact ⟨ret_bool (by rw [h]), rfl⟩
    · have h : upB n = false := decide_eq_false (by omega)
      go_enter Tryd.func76, Tryd.ntmps76
      go_wp2
      go_ret
      first | exact ⟨rfl, rfl⟩ | exact ⟨ret_bool (by rw [h]), rfl⟩
  · have h : upB n = false := decide_eq_false (by omega)
    go_enter Tryd.func76, Tryd.ntmps76
    go_wp2
    go_ret
    first | exact ⟨rfl, rfl⟩ | exact ⟨ret_bool (by rw [h]), rfl⟩

/-- What the loop over a character's number knows: how far it is, what it has, whether all is well. -/
def HexAt (t : ByteArray) (k : Nat) (C : Int) (b : Bool) : Prop :=
  (t.size ≤ 8 → 0 ≤ C ∧ C < pw16 k) ∧ (b = true ↔ 2 ≤ t.size ∧ t.size ≤ 8 ∧ ∀ j, j < k → hexB (bt t j) = true) ∧ (b = true → C = hexF t k)
theorem hexAt_long {t : ByteArray} {k : Nat} {C : Int} (h : 8 < t.size) : HexAt t k C false := ⟨fun a => absurd a (by omega), ⟨fun a => (by cases a), fun a => absurd a.2.1 (by omega)⟩, fun a => by cases a⟩
theorem hexAt_ok {t : ByteArray} {k : Nat} {C : Int} {b : Bool} {v : Int} (h : HexAt t k C b) (hx : hexB (bt t k) = true) (hv : hexV (bt t k) = v) : HexAt t (k + 1) (C * 16 + v) b := by
  obtain ⟨h1, h2, h3⟩ := h
  have hv' := hexB_val hx
  rw [hv] at hv'
  refine ⟨fun a => ?_, ?_, fun a => ?_⟩
  · have := h1 a
    simp only [pw16]; omega
  · rw [h2]
    constructor
    · rintro ⟨a, b', d⟩
      refine ⟨a, b', fun j hj => ?_⟩
      by_cases e : j < k
      · exact d j e
      · obtain rfl : j = k := by omega
        exact hx
    · rintro ⟨a, b', d⟩
      exact ⟨a, b', fun j hj => d j (by omega)⟩
  · simp only [hexF]
    rw [h3 a, hv]
theorem pw16_pos : ∀ k, 0 ≤ pw16 k
  | 0 => by decide
  | k + 1 => by have := pw16_pos k; simp only [pw16]; omega
theorem hexAt_bad {t : ByteArray} {k : Nat} {C : Int} {b : Bool} (h : HexAt t k C b) (hx : hexB (bt t k) = false) : HexAt t (k + 1) C false := by
  obtain ⟨h1, h2, h3⟩ := h
  have hp := pw16_pos k
  refine ⟨fun a => ?_, ⟨fun a => (by cases a), fun a => ?_⟩, fun a => by cases a⟩
  · have := h1 a
    simp only [pw16]; omega
  · have := a.2.2 k (by omega)
    rw [hx] at this; cases this
theorem hexAt_end {t : ByteArray} {C : Int} {b : Bool} (h : HexAt t (t.size - 1) C b) (hx : lastX t = true) : hexOK t = (b && charB C) ∧ (b = true → C = hexF t (t.size - 1)) := by
  obtain ⟨h1, h2, h3⟩ := h
  have hl : bt t (t.size - 1) = 88 := by unfold lastX at hx; simp at hx; exact hx.2
  refine ⟨?_, h3⟩
  cases b with
  | true =>
    obtain ⟨a, b', d⟩ := h2.1 rfl
    rw [hexOK_all a b' hl d, h3 rfl]; rfl
  | false =>
    rw [Bool.false_and, Bool.eq_false_iff]
    intro e
    unfold hexOK at e
    simp only [Bool.and_eq_true, decide_eq_true_eq] at e
    obtain ⟨⟨⟨⟨_, a⟩, b'⟩, d⟩, _⟩ := e
    have := h2.2 ⟨a, b', allHex_iff.1 d⟩
    cases this

/-- What the scanner is behind a number that began at p. -/
def NumDone (B : Nat) (w0 w' : World) (s t : ByteArray) (p e : Nat) (l : List Tok) (q : Nat) : Prop :=
  (numOK t = true ∧ Added B w0 w' s e l q (3, numF t t.size, ⟨#[]⟩, p)) ∨ (numOK t = false ∧ hexOK t = true ∧ Added B w0 w' s e l q (4, hexF t (t.size - 1), ⟨#[]⟩, p)) ∨ (numOK t = false ∧ hexOK t = false ∧ Sc B w0 w' s e l 4 p)
/-- What a round of the loop over a word knows. -/
def WordAt (s : ByteArray) (p pos : Nat) : Prop := p ≤ pos ∧ pos ≤ s.size ∧ wEnd s p = wEnd s pos

set_option maxRecDepth 100000 in
set_option maxHeartbeats 8000000 in
theorem number_any (hs : s.size ≤ 4000) (h : Sc B w0 w s p l 0 q) (hl : l.length ≤ 1200) (hp : p < s.size) (hd : digB (bt s p) = true) :
    Calls Tryd.prog 56 #[.pointer (some ⟨B, 0, none⟩)] w fun e w' => e = .returned (.tuple #[]) ∧ NumDone B w0 w' s (s.extract p (wEnd s p)) p (wEnd s p) l q := by
  have H : Hid (Sc B w0 w s p l 0 q) := h
  have HB : Hid (∀ (n : Nat) (h : n < s.size), ((s[n]'h).toNat : Int) = bt s n) := get_bt s
  have Hd : Hid (digB (bt s p) = true) := hd
  have k1 := h.k1
  clear h hd
  go_enter Tryd.func56, Tryd.ntmps56
  go_wp2
  clear k1
  go_loopw [] (fun wr => ∃ pos : Nat, Sc B w0 wr s pos l 0 q ∧ Hid (WordAt s p pos)) (fun wr => s.size + 1 - posOf B wr)
  case atStart => exact ⟨p, H.out, Nat.le_refl _, by omega, rfl⟩
  case round =>
    obtain ⟨pos, hsc, Hw⟩ := hrel
    obtain ⟨r1, r2, r3⟩ := Hw.out
    have Hsc : Hid (Sc B w0 _ s pos l 0 q) := hsc
    have k0 := hsc.k0
    have k1 := hsc.k1
    have f1 := hsc.fz 1
    have hpo := hsc.posOf
    clear hsc
    by_cases hword : pos < s.size ∧ wordB (bt s pos) = true
    · obtain ⟨hlt, hwb⟩ := hword
      have i1 : (pos : Int) < s.size := by omega
      have hbp := HB.out pos hlt
      have hnew : WordAt s p (pos + 1) := ⟨by omega, by omega, by rw [r3, wEnd_go hlt hwb]⟩
      have Hnew : Hid (WordAt s p (pos + 1)) := hnew
      clear hnew r3
      cases d1 : digB (bt s pos)
      · have d2 : letB (bt s pos) = true := by unfold wordB at hwb; rw [d1] at hwb; simpa using hwb
        clear hwb
        generalize bt s pos = y at *
        go_wp2
        go_quiet (first | (go_at_call 55; exact dig_quiet _ _ d1 _ _) | (go_at_call 57; exact let_quiet _ _ d2 _ _))
        go_wp2
        go_roundw
        case rel => exact ⟨pos + 1, (Hsc.out.drewN _).at1 _ (pos + 1) (by omega), Hnew⟩
        case measure => rw [((Hsc.out.drewN _).at1 _ (pos + 1) (by omega)).posOf, hpo]; omega
      · clear hwb
        generalize bt s pos = y at *
        go_wp2
        go_quiet (first | (go_at_call 55; exact dig_quiet _ _ d1 _ _))
        go_wp2
        go_roundw
        case rel => exact ⟨pos + 1, (Hsc.out.drewN _).at1 _ (pos + 1) (by omega), Hnew⟩
        case measure => rw [((Hsc.out.drewN _).at1 _ (pos + 1) (by omega)).posOf, hpo]; omega
    · have hnw : wordB (bt s pos) = false := by
        by_cases e : pos < s.size
        · rw [Bool.eq_false_iff]; exact fun h => hword ⟨e, h⟩
        · exact wordB_end (by omega)
      have he : wEnd s p = pos := by rw [r3]; exact wEnd_stop r2 hnw
      have hpp : p < pos := by
        have hw : wordB (bt s p) = true := by unfold wordB; rw [Hd.out]; simp
        by_cases e : p = pos
        · subst e; rw [hnw] at hw; cases hw
        · omega
      have He : Hid (wEnd s p = pos) := he
      have hts : (s.extract p pos).size = pos - p := by rw [ByteArray.size_extract]; omega
      have hb0 : bt (s.extract p pos) 0 = bt s p := by
        have := bt_slice s p (pos - p) 0 (by omega) (by omega)
        rw [show p + (pos - p) = pos by omega] at this
        exact this
      have i2 : (p : Int) ≤ pos := by omega
      have i3 : (pos : Int) ≤ s.size := by omega
      obtain ⟨t, ht⟩ : ∃ t, s.extract p pos = t := ⟨_, rfl⟩
      have Ht : Hid (s.extract p pos = t) := ht
      rw [ht] at hts hb0
      have hd0 : digB (bt t 0) = true := by rw [hb0]; exact Hd.out
      have Hd0 : Hid (digB (bt t 0) = true) := hd0
      have hm45 : ¬ bt t 0 = 45 := by have := digB_iff.1 hd0; omega
      have Hm45 : Hid (¬ bt t 0 = 45) := hm45
      have ht1 : 1 ≤ t.size := by omega
      have ht4 : t.size ≤ 4000 := by omega
      have j1 : ((t.size : Int) - 1).toNat = t.size - 1 := by omega
      have j2 : (0 : Int) ≤ (t.size : Int) - 1 := by omega
      have j3 : (t.size : Int) - 1 < t.size := by omega
      obtain ⟨hll, hlast⟩ : ∃ h : t.size - 1 < t.size, ((t[t.size - 1]'h).toNat : Int) = bt t (t.size - 1) := ⟨by omega, get_bt t _ (by omega)⟩
      have HT : Hid (∀ (n : Nat) (h : n < t.size), ((t[n]'h).toNat : Int) = bt t n) := get_bt t
      have Hx : Hid (bt t (t.size - 1) = 88 ∨ ¬ bt t (t.size - 1) = 88) := Classical.em _
      clear he hb0 hd0 hm45 r3 hts
      have hstop : (pos < s.size ∧ digB (bt s pos) = false ∧ letB (bt s pos) = false) ∨ pos = s.size := by
        by_cases e : pos < s.size
        · left
          unfold wordB at hnw
          rw [Bool.or_eq_false_iff] at hnw
          exact ⟨e, hnw.2, hnw.1⟩
        · right; omega
      clear hword hnw
      rcases hstop with ⟨hlt, d1, d2⟩ | hge
      · have i1 : (pos : Int) < s.size := by omega
        have hbp := HB.out pos hlt
        generalize bt s pos = y at *
        by_cases hX : bt t (t.size - 1) = 88
        ·   have e88 : (bt t (t.size - 1) == 88) = true := by rw [hX]; rfl
            have HX : Hid (lastX t = true) := by unfold lastX; rw [hX, decide_eq_true ht1]; rfl
            have hk0 : numOK t = false := numOK_bad hll (by rw [hX]; decide)
            have Hk0 : Hid (numOK t = false) := hk0
            have ht2 : 2 ≤ t.size := by
              by_cases e : t.size = 1
              · exfalso
                have h0 := Hd0.out
                rw [show t.size - 1 = 0 by omega] at hX
                rw [hX] at h0; cases h0
              · omega
            have n1 : (1 : Int) < t.size := by omega
            have n1' : 1 < t.size := by omega
            clear hX hk0 Hx
            generalize bt t (t.size - 1) = y2 at *
            by_cases h8 : t.size ≤ 8
            ·   have n2 : (t.size : Int) < 9 := by omega
                have n2' : t.size < 9 := by omega
                go_wp2
                go_quiet (first | (go_at_call 55; exact dig_quiet _ _ d1 _ _) | (go_at_call 57; exact let_quiet _ _ d2 _ _))
                go_wp2
                go_quiet (fail)
                go_wp2
                go_loop [4, 5, 6] (fun c ok i => ∃ (k : Nat) (C : Int) (b : Bool), c = .int .i64 C ∧ ok = .bool b ∧ i = .int .i64 k ∧ k + 1 ≤ t.size ∧ Hid (HexAt t k C b)) (fun _ _ i => t.size - (intOf i).toNat)
                case atStart => exact ⟨0, 0, true, rfl, rfl, rfl, by omega, ⟨fun _ => ⟨by decide, by decide⟩, ⟨fun _ => ⟨ht2, h8, fun j hj => absurd hj (by omega)⟩, fun _ => rfl⟩, fun _ => rfl⟩⟩
                case round =>
                  obtain ⟨k, C, b, rfl, rfl, rfl, hk, Hhx⟩ := hrel
                  by_cases hkl : k + 1 < t.size
                  · have m1 : (k : Int) + 1 < t.size := by omega
                    obtain ⟨hkk, hbk⟩ : ∃ h : k < t.size, ((t[k]'h).toNat : Int) = bt t k := ⟨by omega, HT.out k (by omega)⟩
                    have y0 := bt_nonneg t k
                    have y1 := bt_le t k
                    obtain ⟨c0, c1⟩ := Hhx.out.1 h8
                    have c2 := pw16_8 ⟨k, by omega⟩
                    simp only [] at c2
                    have c3 : C < 4294967296 := by omega
                    clear c1 c2
                    cases d1 : digB (bt t k)
                    · cases d2 : upB (bt t k)
                      · have hnew := hexAt_bad Hhx.out (show hexB (bt t k) = false by unfold hexB; rw [d1]; exact d2)
                        have Hnew : Hid (HexAt t (k + 1) C false) := hnew
                        clear hnew
                        generalize bt t k = z at *
                        go_wp2_with (first
                            | (go_at_call 55; refine (l00Digit_any _ _).mono ?_; rintro e w' ⟨rfl, rfl⟩)
                            | (go_at_call 76; refine (l01Upper_any _ _).mono ?_; rintro e w' ⟨rfl, rfl⟩))
                        go_round
                        case rel => exact ⟨k + 1, C, false, rfl, rfl, by go_num, by omega, Hnew⟩
                        case measure => simp [intOf]; omega
                      · have hnew := hexAt_ok Hhx.out (show hexB (bt t k) = true by unfold hexB; rw [d1]; exact d2) (hexV_let d1)
                        have u0 := (of_decide_eq_true d2 : 65 ≤ bt t k ∧ bt t k ≤ 70)
                        obtain ⟨u1, u2⟩ := u0
                        generalize bt t k = z at *
                        have Hnew : Hid (HexAt t (k + 1) (C * 16 + (z - 55)) b) := hnew
                        clear hnew
                        go_wp2_with (first
                            | (go_at_call 55; refine (l00Digit_any _ _).mono ?_; rintro e w' ⟨rfl, rfl⟩)
                            | (go_at_call 76; refine (l01Upper_any _ _).mono ?_; rintro e w' ⟨rfl, rfl⟩))
                        go_round
                        case rel => exact ⟨k + 1, C * 16 + (z - 55), b, by congr 1; omega, rfl, by go_num, by omega, Hnew⟩
                        case measure => simp [intOf]; omega
                    · have hnew := hexAt_ok Hhx.out (hexB_dig d1) (hexV_dig d1)
                      have u0 := digB_iff.1 d1
                      obtain ⟨u1, u2⟩ := u0
                      generalize bt t k = z at *
                      have Hnew : Hid (HexAt t (k + 1) (C * 16 + (z - 48)) b) := hnew
                      clear hnew
                      go_wp2_with (first
                          | (go_at_call 55; refine (l00Digit_any _ _).mono ?_; rintro e w' ⟨rfl, rfl⟩)
                          | (go_at_call 76; refine (l01Upper_any _ _).mono ?_; rintro e w' ⟨rfl, rfl⟩))
                      go_round
                      case rel => exact ⟨k + 1, C * 16 + (z - 48), b, by congr 1; omega, rfl, by go_num, by omega, Hnew⟩
                      case measure => simp [intOf]; omega
                  · have hk1 : k = t.size - 1 := by omega
                    have m1 : ¬ (k : Int) + 1 < t.size := by omega
                    obtain ⟨hend, hendC⟩ := hexAt_end (hk1 ▸ Hhx.out) HX.out
                    cases b
                    · have Hend : Hid (hexOK t = false) := hend
                      clear hend hendC hk1
                      go_wp2_with (first
                          | (go_at_call 29; refine (charOK_spec _ _).mono ?_; rintro e w' ⟨rfl, rfl⟩)
                          | (go_at_call 58; refine (fail_any 4 p (Hsc.out.drewN _)).mono ?_; rintro e w' ⟨rfl, h', _⟩))
                      refine bodyPost_ret (results_none rfl _ _ _) rfl ?_
                      refine ⟨rfl, ?_⟩
                      rw [He.out, Ht.out]
                      exact .inr (.inr ⟨Hk0.out, Hend.out, h'⟩)
                    · cases hc : charB C
                      · have Hend : Hid (hexOK t = false) := by rw [hend, hc]; rfl
                        clear hend hendC hk1
                        go_wp2_with (first
                            | (go_at_call 29; refine (charOK_spec _ _).mono ?_; rintro e w' ⟨rfl, rfl⟩)
                            | (go_at_call 58; refine (fail_any 4 p (Hsc.out.drewN _)).mono ?_; rintro e w' ⟨rfl, h', _⟩))
                        refine bodyPost_ret (results_none rfl _ _ _) rfl ?_
                        refine ⟨rfl, ?_⟩
                        rw [He.out, Ht.out]
                        exact .inr (.inr ⟨Hk0.out, Hend.out, h'⟩)
                      · have Hend : Hid (hexOK t = true) := by rw [hend, hc]; rfl
                        have HC : Hid (C = hexF t (t.size - 1)) := hendC rfl
                        clear hend hendC hk1
                        go_wp2_with (first
                            | (go_at_call 29; refine (charOK_spec _ _).mono ?_; rintro e w' ⟨rfl, rfl⟩)
                            | (go_at_call 59; refine (add_either 4 C ⟨#[]⟩ p (Hsc.out.drewN _) hl).mono ?_; rintro e w' ⟨rfl, h', _⟩))
                        refine bodyPost_ret (results_none rfl _ _ _) rfl ?_
                        refine ⟨rfl, ?_⟩
                        rw [He.out, Ht.out]
                        exact .inr (.inl ⟨Hk0.out, Hend.out, by rw [← HC.out]; exact h'⟩)
            ·   have n2 : decide ((t.size : Int) < 9) = false := by simp; omega
                have n2' : decide (t.size < 9) = false := by simp; omega
                go_wp2
                go_quiet (first | (go_at_call 55; exact dig_quiet _ _ d1 _ _) | (go_at_call 57; exact let_quiet _ _ d2 _ _))
                go_wp2
                go_quiet (fail)
                go_wp2
                go_loop [4, 5, 6] (fun c ok i => ∃ (k : Nat) (C : Int) (b : Bool), c = .int .i64 C ∧ ok = .bool b ∧ i = .int .i64 k ∧ k + 1 ≤ t.size ∧ Hid (HexAt t k C b) ∧ b = false) (fun _ _ i => t.size - (intOf i).toNat)
                case atStart => exact ⟨0, 0, false, rfl, rfl, rfl, by omega, hexAt_long (by omega), rfl⟩
                case round =>
                  obtain ⟨k, C, b, rfl, rfl, rfl, hk, Hhx, rfl⟩ := hrel
                  by_cases hkl : k + 1 < t.size
                  · have m1 : (k : Int) + 1 < t.size := by omega
                    obtain ⟨hkk, hbk⟩ : ∃ h : k < t.size, ((t[k]'h).toNat : Int) = bt t k := ⟨by omega, HT.out k (by omega)⟩
                    have y0 := bt_nonneg t k
                    have y1 := bt_le t k
                    cases d1 : digB (bt t k)
                    · cases d2 : upB (bt t k)
                      · generalize bt t k = z at *
                        go_wp2_with (first
                            | (go_at_call 55; refine (l00Digit_any _ _).mono ?_; rintro e w' ⟨rfl, rfl⟩)
                            | (go_at_call 76; refine (l01Upper_any _ _).mono ?_; rintro e w' ⟨rfl, rfl⟩))
                        go_round
                        case rel => exact ⟨k + 1, _, false, rfl, rfl, by go_num, by omega, hexAt_long (by omega), rfl⟩
                        case measure => simp [intOf]; omega
                      · generalize bt t k = z at *
                        go_wp2_with (first
                            | (go_at_call 55; refine (l00Digit_any _ _).mono ?_; rintro e w' ⟨rfl, rfl⟩)
                            | (go_at_call 76; refine (l01Upper_any _ _).mono ?_; rintro e w' ⟨rfl, rfl⟩))
                        go_round
                        case rel => exact ⟨k + 1, _, false, rfl, rfl, by go_num, by omega, hexAt_long (by omega), rfl⟩
                        case measure => simp [intOf]; omega
                    · generalize bt t k = z at *
                      go_wp2_with (first
                          | (go_at_call 55; refine (l00Digit_any _ _).mono ?_; rintro e w' ⟨rfl, rfl⟩)
                          | (go_at_call 76; refine (l01Upper_any _ _).mono ?_; rintro e w' ⟨rfl, rfl⟩))
                      go_round
                      case rel => exact ⟨k + 1, _, false, rfl, rfl, by go_num, by omega, hexAt_long (by omega), rfl⟩
                      case measure => simp [intOf]; omega
                  · have hk1 : k = t.size - 1 := by omega
                    have m1 : ¬ (k : Int) + 1 < t.size := by omega
                    obtain ⟨hend, hendC⟩ := hexAt_end (hk1 ▸ Hhx.out) HX.out
                    have Hend : Hid (hexOK t = false) := hend
                    clear hend hendC hk1
                    go_wp2_with (first
                        | (go_at_call 29; refine (charOK_spec _ _).mono ?_; rintro e w' ⟨rfl, rfl⟩)
                        | (go_at_call 58; refine (fail_any 4 p (Hsc.out.drewN _)).mono ?_; rintro e w' ⟨rfl, h', _⟩))
                    refine bodyPost_ret (results_none rfl _ _ _) rfl ?_
                    refine ⟨rfl, ?_⟩
                    rw [He.out, Ht.out]
                    exact .inr (.inr ⟨Hk0.out, Hend.out, h'⟩)
        ·   have e88 : (bt t (t.size - 1) == 88) = false := by rw [beq_eq_false_iff_ne]; exact hX
            have hh0 : hexOK t = false := hexOK_noX hX
            have Hh0 : Hid (hexOK t = false) := hh0
            clear hX hh0 Hx
            generalize bt t (t.size - 1) = y2 at *
            have Hnum : Hid (∀ w, Calls Tryd.prog 77 #[.string t] w fun e w' => e = .returned (.tuple #[.int .i64 (numV t), .bool (numOK t)]) ∧ w = w') := fun w => l00Number_any t w (by unfold maxLen; omega) Hm45.out ht1
            cases hok : numOK t
            · have hv : numV t = 0 := by unfold numV; rw [hok]; rfl
              rw [hok, hv] at Hnum
              have Hok : Hid (numOK t = false) := hok
              clear hok hv
              go_wp2
              go_quiet (first | (go_at_call 55; exact dig_quiet _ _ d1 _ _) | (go_at_call 57; exact let_quiet _ _ d2 _ _))
              go_wp2
              go_quiet (fail)
              go_wp2_with (first
                | (go_at_call 77; refine (Hnum.out _).mono ?_; rintro e w' ⟨rfl, rfl⟩)
                | (go_at_call 58; refine (fail_any 4 p (Hsc.out.drewN _)).mono ?_; rintro e w' ⟨rfl, h', _⟩))
              refine bodyPost_ret (results_none rfl _ _ _) rfl ?_
              refine ⟨rfl, ?_⟩
              rw [He.out, Ht.out]
              exact .inr (.inr ⟨Hok.out, Hh0.out, h'⟩)
            · have hv : numV t = numF t t.size := by unfold numV; rw [hok]; rfl
              rw [hok, hv] at Hnum
              have Hok : Hid (numOK t = true) := hok
              clear hok hv
              obtain ⟨V, hV⟩ : ∃ V, numF t t.size = V := ⟨_, rfl⟩
              have HV : Hid (numF t t.size = V) := hV
              rw [hV] at Hnum
              clear hV
              go_wp2
              go_quiet (first | (go_at_call 55; exact dig_quiet _ _ d1 _ _) | (go_at_call 57; exact let_quiet _ _ d2 _ _))
              go_wp2
              go_quiet (fail)
              go_wp2_with (first
                | (go_at_call 77; refine (Hnum.out _).mono ?_; rintro e w' ⟨rfl, rfl⟩)
                | (go_at_call 59; refine (add_either 3 V ⟨#[]⟩ p (Hsc.out.drewN _) hl).mono ?_; rintro e w' ⟨rfl, h', _⟩))
              go_end0
              refine ⟨rfl, ?_⟩
              rw [He.out, Ht.out]
              exact .inl ⟨Hok.out, by rw [HV.out]; exact h'⟩
      · have i1 : decide ((pos : Int) < s.size) = false := by simp; omega
        have i1' : decide (pos < s.size) = false := by simp; omega
        have HI1 : Hid (pos = s.size) := hge
        clear hge
        by_cases hX : bt t (t.size - 1) = 88
        ·   have e88 : (bt t (t.size - 1) == 88) = true := by rw [hX]; rfl
            have HX : Hid (lastX t = true) := by unfold lastX; rw [hX, decide_eq_true ht1]; rfl
            have hk0 : numOK t = false := numOK_bad hll (by rw [hX]; decide)
            have Hk0 : Hid (numOK t = false) := hk0
            have ht2 : 2 ≤ t.size := by
              by_cases e : t.size = 1
              · exfalso
                have h0 := Hd0.out
                rw [show t.size - 1 = 0 by omega] at hX
                rw [hX] at h0; cases h0
              · omega
            have n1 : (1 : Int) < t.size := by omega
            have n1' : 1 < t.size := by omega
            clear hX hk0 Hx
            generalize bt t (t.size - 1) = y2 at *
            by_cases h8 : t.size ≤ 8
            ·   have n2 : (t.size : Int) < 9 := by omega
                have n2' : t.size < 9 := by omega
                go_wp2
                go_quiet (fail)
                go_wp2
                go_quiet (fail)
                go_wp2
                go_loop [4, 5, 6] (fun c ok i => ∃ (k : Nat) (C : Int) (b : Bool), c = .int .i64 C ∧ ok = .bool b ∧ i = .int .i64 k ∧ k + 1 ≤ t.size ∧ Hid (HexAt t k C b)) (fun _ _ i => t.size - (intOf i).toNat)
                case atStart => exact ⟨0, 0, true, rfl, rfl, rfl, by omega, ⟨fun _ => ⟨by decide, by decide⟩, ⟨fun _ => ⟨ht2, h8, fun j hj => absurd hj (by omega)⟩, fun _ => rfl⟩, fun _ => rfl⟩⟩
                case round =>
                  obtain ⟨k, C, b, rfl, rfl, rfl, hk, Hhx⟩ := hrel
                  by_cases hkl : k + 1 < t.size
                  · have m1 : (k : Int) + 1 < t.size := by omega
                    obtain ⟨hkk, hbk⟩ : ∃ h : k < t.size, ((t[k]'h).toNat : Int) = bt t k := ⟨by omega, HT.out k (by omega)⟩
                    have y0 := bt_nonneg t k
                    have y1 := bt_le t k
                    obtain ⟨c0, c1⟩ := Hhx.out.1 h8
                    have c2 := pw16_8 ⟨k, by omega⟩
                    simp only [] at c2
                    have c3 : C < 4294967296 := by omega
                    clear c1 c2
                    cases d1 : digB (bt t k)
                    · cases d2 : upB (bt t k)
                      · have hnew := hexAt_bad Hhx.out (show hexB (bt t k) = false by unfold hexB; rw [d1]; exact d2)
                        have Hnew : Hid (HexAt t (k + 1) C false) := hnew
                        clear hnew
                        generalize bt t k = z at *
                        go_wp2_with (first
                            | (go_at_call 55; refine (l00Digit_any _ _).mono ?_; rintro e w' ⟨rfl, rfl⟩)
                            | (go_at_call 76; refine (l01Upper_any _ _).mono ?_; rintro e w' ⟨rfl, rfl⟩))
                        go_round
                        case rel => exact ⟨k + 1, C, false, rfl, rfl, by go_num, by omega, Hnew⟩
                        case measure => simp [intOf]; omega
                      · have hnew := hexAt_ok Hhx.out (show hexB (bt t k) = true by unfold hexB; rw [d1]; exact d2) (hexV_let d1)
                        have u0 := (of_decide_eq_true d2 : 65 ≤ bt t k ∧ bt t k ≤ 70)
                        obtain ⟨u1, u2⟩ := u0
                        generalize bt t k = z at *
                        have Hnew : Hid (HexAt t (k + 1) (C * 16 + (z - 55)) b) := hnew
                        clear hnew
                        go_wp2_with (first
                            | (go_at_call 55; refine (l00Digit_any _ _).mono ?_; rintro e w' ⟨rfl, rfl⟩)
                            | (go_at_call 76; refine (l01Upper_any _ _).mono ?_; rintro e w' ⟨rfl, rfl⟩))
                        go_round
                        case rel => exact ⟨k + 1, C * 16 + (z - 55), b, by congr 1; omega, rfl, by go_num, by omega, Hnew⟩
                        case measure => simp [intOf]; omega
                    · have hnew := hexAt_ok Hhx.out (hexB_dig d1) (hexV_dig d1)
                      have u0 := digB_iff.1 d1
                      obtain ⟨u1, u2⟩ := u0
                      generalize bt t k = z at *
                      have Hnew : Hid (HexAt t (k + 1) (C * 16 + (z - 48)) b) := hnew
                      clear hnew
                      go_wp2_with (first
                          | (go_at_call 55; refine (l00Digit_any _ _).mono ?_; rintro e w' ⟨rfl, rfl⟩)
                          | (go_at_call 76; refine (l01Upper_any _ _).mono ?_; rintro e w' ⟨rfl, rfl⟩))
                      go_round
                      case rel => exact ⟨k + 1, C * 16 + (z - 48), b, by congr 1; omega, rfl, by go_num, by omega, Hnew⟩
                      case measure => simp [intOf]; omega
                  · have hk1 : k = t.size - 1 := by omega
                    have m1 : ¬ (k : Int) + 1 < t.size := by omega
                    obtain ⟨hend, hendC⟩ := hexAt_end (hk1 ▸ Hhx.out) HX.out
                    cases b
                    · have Hend : Hid (hexOK t = false) := hend
                      clear hend hendC hk1
                      go_wp2_with (first
                          | (go_at_call 29; refine (charOK_spec _ _).mono ?_; rintro e w' ⟨rfl, rfl⟩)
                          | (go_at_call 58; refine (fail_any 4 p (Hsc.out.drewN _)).mono ?_; rintro e w' ⟨rfl, h', _⟩))
                      refine bodyPost_ret (results_none rfl _ _ _) rfl ?_
                      refine ⟨rfl, ?_⟩
                      rw [He.out, Ht.out]
                      exact .inr (.inr ⟨Hk0.out, Hend.out, h'⟩)
                    · cases hc : charB C
                      · have Hend : Hid (hexOK t = false) := by rw [hend, hc]; rfl
                        clear hend hendC hk1
                        go_wp2_with (first
                            | (go_at_call 29; refine (charOK_spec _ _).mono ?_; rintro e w' ⟨rfl, rfl⟩)
                            | (go_at_call 58; refine (fail_any 4 p (Hsc.out.drewN _)).mono ?_; rintro e w' ⟨rfl, h', _⟩))
                        refine bodyPost_ret (results_none rfl _ _ _) rfl ?_
                        refine ⟨rfl, ?_⟩
                        rw [He.out, Ht.out]
                        exact .inr (.inr ⟨Hk0.out, Hend.out, h'⟩)
                      · have Hend : Hid (hexOK t = true) := by rw [hend, hc]; rfl
                        have HC : Hid (C = hexF t (t.size - 1)) := hendC rfl
                        clear hend hendC hk1
                        go_wp2_with (first
                            | (go_at_call 29; refine (charOK_spec _ _).mono ?_; rintro e w' ⟨rfl, rfl⟩)
                            | (go_at_call 59; refine (add_either 4 C ⟨#[]⟩ p (Hsc.out.drewN _) hl).mono ?_; rintro e w' ⟨rfl, h', _⟩))
                        refine bodyPost_ret (results_none rfl _ _ _) rfl ?_
                        refine ⟨rfl, ?_⟩
                        rw [He.out, Ht.out]
                        exact .inr (.inl ⟨Hk0.out, Hend.out, by rw [← HC.out]; exact h'⟩)
            ·   have n2 : decide ((t.size : Int) < 9) = false := by simp; omega
                have n2' : decide (t.size < 9) = false := by simp; omega
                go_wp2
                go_quiet (fail)
                go_wp2
                go_quiet (fail)
                go_wp2
                go_loop [4, 5, 6] (fun c ok i => ∃ (k : Nat) (C : Int) (b : Bool), c = .int .i64 C ∧ ok = .bool b ∧ i = .int .i64 k ∧ k + 1 ≤ t.size ∧ Hid (HexAt t k C b) ∧ b = false) (fun _ _ i => t.size - (intOf i).toNat)
                case atStart => exact ⟨0, 0, false, rfl, rfl, rfl, by omega, hexAt_long (by omega), rfl⟩
                case round =>
                  obtain ⟨k, C, b, rfl, rfl, rfl, hk, Hhx, rfl⟩ := hrel
                  by_cases hkl : k + 1 < t.size
                  · have m1 : (k : Int) + 1 < t.size := by omega
                    obtain ⟨hkk, hbk⟩ : ∃ h : k < t.size, ((t[k]'h).toNat : Int) = bt t k := ⟨by omega, HT.out k (by omega)⟩
                    have y0 := bt_nonneg t k
                    have y1 := bt_le t k
                    cases d1 : digB (bt t k)
                    · cases d2 : upB (bt t k)
                      · generalize bt t k = z at *
                        go_wp2_with (first
                            | (go_at_call 55; refine (l00Digit_any _ _).mono ?_; rintro e w' ⟨rfl, rfl⟩)
                            | (go_at_call 76; refine (l01Upper_any _ _).mono ?_; rintro e w' ⟨rfl, rfl⟩))
                        go_round
                        case rel => exact ⟨k + 1, _, false, rfl, rfl, by go_num, by omega, hexAt_long (by omega), rfl⟩
                        case measure => simp [intOf]; omega
                      · generalize bt t k = z at *
                        go_wp2_with (first
                            | (go_at_call 55; refine (l00Digit_any _ _).mono ?_; rintro e w' ⟨rfl, rfl⟩)
                            | (go_at_call 76; refine (l01Upper_any _ _).mono ?_; rintro e w' ⟨rfl, rfl⟩))
                        go_round
                        case rel => exact ⟨k + 1, _, false, rfl, rfl, by go_num, by omega, hexAt_long (by omega), rfl⟩
                        case measure => simp [intOf]; omega
                    · generalize bt t k = z at *
                      go_wp2_with (first
                          | (go_at_call 55; refine (l00Digit_any _ _).mono ?_; rintro e w' ⟨rfl, rfl⟩)
                          | (go_at_call 76; refine (l01Upper_any _ _).mono ?_; rintro e w' ⟨rfl, rfl⟩))
                      go_round
                      case rel => exact ⟨k + 1, _, false, rfl, rfl, by go_num, by omega, hexAt_long (by omega), rfl⟩
                      case measure => simp [intOf]; omega
                  · have hk1 : k = t.size - 1 := by omega
                    have m1 : ¬ (k : Int) + 1 < t.size := by omega
                    obtain ⟨hend, hendC⟩ := hexAt_end (hk1 ▸ Hhx.out) HX.out
                    have Hend : Hid (hexOK t = false) := hend
                    clear hend hendC hk1
                    go_wp2_with (first
                        | (go_at_call 29; refine (charOK_spec _ _).mono ?_; rintro e w' ⟨rfl, rfl⟩)
                        | (go_at_call 58; refine (fail_any 4 p (Hsc.out.drewN _)).mono ?_; rintro e w' ⟨rfl, h', _⟩))
                    refine bodyPost_ret (results_none rfl _ _ _) rfl ?_
                    refine ⟨rfl, ?_⟩
                    rw [He.out, Ht.out]
                    exact .inr (.inr ⟨Hk0.out, Hend.out, h'⟩)
        ·   have e88 : (bt t (t.size - 1) == 88) = false := by rw [beq_eq_false_iff_ne]; exact hX
            have hh0 : hexOK t = false := hexOK_noX hX
            have Hh0 : Hid (hexOK t = false) := hh0
            clear hX hh0 Hx
            generalize bt t (t.size - 1) = y2 at *
            have Hnum : Hid (∀ w, Calls Tryd.prog 77 #[.string t] w fun e w' => e = .returned (.tuple #[.int .i64 (numV t), .bool (numOK t)]) ∧ w = w') := fun w => l00Number_any t w (by unfold maxLen; omega) Hm45.out ht1
            cases hok : numOK t
            · have hv : numV t = 0 := by unfold numV; rw [hok]; rfl
              rw [hok, hv] at Hnum
              have Hok : Hid (numOK t = false) := hok
              clear hok hv
              go_wp2
              go_quiet (fail)
              go_wp2
              go_quiet (fail)
              go_wp2_with (first
                | (go_at_call 77; refine (Hnum.out _).mono ?_; rintro e w' ⟨rfl, rfl⟩)
                | (go_at_call 58; refine (fail_any 4 p (Hsc.out.drewN _)).mono ?_; rintro e w' ⟨rfl, h', _⟩))
              refine bodyPost_ret (results_none rfl _ _ _) rfl ?_
              refine ⟨rfl, ?_⟩
              rw [He.out, Ht.out]
              exact .inr (.inr ⟨Hok.out, Hh0.out, h'⟩)
            · have hv : numV t = numF t t.size := by unfold numV; rw [hok]; rfl
              rw [hok, hv] at Hnum
              have Hok : Hid (numOK t = true) := hok
              clear hok hv
              obtain ⟨V, hV⟩ : ∃ V, numF t t.size = V := ⟨_, rfl⟩
              have HV : Hid (numF t t.size = V) := hV
              rw [hV] at Hnum
              clear hV
              go_wp2
              go_quiet (fail)
              go_wp2
              go_quiet (fail)
              go_wp2_with (first
                | (go_at_call 77; refine (Hnum.out _).mono ?_; rintro e w' ⟨rfl, rfl⟩)
                | (go_at_call 59; refine (add_either 3 V ⟨#[]⟩ p (Hsc.out.drewN _) hl).mono ?_; rintro e w' ⟨rfl, h', _⟩))
              go_end0
              refine ⟨rfl, ?_⟩
              rw [He.out, Ht.out]
              exact .inl ⟨Hok.out, by rw [HV.out]; exact h'⟩
end Go.Proofs.YtoocnpkhgnbepadDoor
