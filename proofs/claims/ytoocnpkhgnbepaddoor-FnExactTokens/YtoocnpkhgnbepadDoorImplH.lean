/- The program's quoted characters, and the first token of a text. -/
import Derived.Test.YtoocnpkhgnbepadDoorImplG
namespace Go.Proofs.YtoocnpkhgnbepadDoor
open Go.RowKit Go.PlainAid

theorem tabs_below {g3 g4 : Nat} {w w' : World} (h : Lib.Utf8Tabs g3 g4 w) (bel : Below w.heap.size w w') : Lib.Utf8Tabs g3 g4 w' :=
  ⟨fun c hc => cell_later bel (h.1 c hc), fun i hi => ⟨cell_later bel (h.2 i hi).1, cell_later bel (h.2 i hi).2⟩⟩
theorem bang_get (t : ByteArray) (k : Nat) (h : k < t.size) : t.get! k = t[k]'h := by
  show t.get! k = _
  simp [ByteArray.get!, getElem!_pos, h]
  rfl
theorem bang_out (t : ByteArray) (k : Nat) (h : ¬ k < t.size) : t.get! k = default := by
  have h' : t.data.size ≤ k := Nat.le_of_not_lt h
  show t.data[k]! = default
  rw [getElem!_def, Array.getElem?_eq_none h']
theorem bang_rest (s : ByteArray) (p k : Nat) (hp : p ≤ s.size) : (s.extract p s.size).get! k = s.get! (p + k) := by
  by_cases h : p + k < s.size
  · have h1 : k < (s.extract p s.size).size := by rw [rest_size s p hp]; omega
    rw [bang_get _ _ h1, bang_get _ _ h, ByteArray.getElem_extract]
  · have h1 : ¬ k < (s.extract p s.size).size := by rw [rest_size s p hp]; omega
    rw [bang_out _ _ h1, bang_out _ _ h]
theorem decode_rest (s : ByteArray) (p k : Nat) (hp : p ≤ s.size) : Utf8.decode (s.extract p s.size) k = Utf8.decode s (p + k) := by
  unfold Utf8.decode
  have hc : ∀ j, (decide (k + j < (s.extract p s.size).size)) = (decide (p + k + j < s.size)) := fun j => by rw [rest_size s p hp]; exact decide_eq_decide.2 (by omega)
  simp only [bang_rest s p _ hp, hc, Nat.add_assoc]

/-- The character behind the first byte, and its width. -/
def qd (r : ByteArray) : Nat × Nat := if r.size ≤ 1 then (65533, 0) else Utf8.decode r 1
theorem decodeGo_rest (r : ByteArray) (h : 1 ≤ r.size) : Lib.decodeGo (r.extract 1 r.size) = qd r := by
  unfold Lib.decodeGo qd
  rw [rest_size r 1 h]
  by_cases q : r.size ≤ 1
  · rw [if_pos q, if_pos (by omega)]
  · rw [if_neg q, if_neg (by omega), decode_rest r 1 0 h]
/-- No character stands there. -/
def brokenB (q : Nat × Nat) : Bool := decide (q.1 = 65533 ∧ q.2 < 2)
def quotedTok (r : ByteArray) : Int × Int × ByteArray × Nat :=
  if (brokenB (qd r) || numB ((qd r).1 : Int) || !(bt r (1 + (qd r).2) == 34)) = true then noTok else (4, ((qd r).1 : Int), ⟨#[]⟩, (qd r).2 + 2)
theorem decode_w (s : ByteArray) (pos : Nat) : (Utf8.decode s pos).2 ≤ 4 := by
  unfold Utf8.decode
  simp only []
  repeat' split
  all_goals simp
theorem qd_w (r : ByteArray) : (qd r).2 ≤ 4 := by
  unfold qd
  split
  · decide
  · exact decode_w r 1
theorem qd_le (r : ByteArray) (hb : brokenB (qd r) = false) : 1 + (qd r).2 ≤ r.size ∧ ((qd r).1 : Int) ≤ 2147483647 := by
  unfold qd at hb ⊢
  by_cases q : r.size ≤ 1
  · rw [if_pos q] at hb; exact absurd hb (by decide)
  · rw [if_neg q]
    refine ⟨?_, by have := decode_le r 1; omega⟩
    by_cases hl : bt r 1 < 128
    · have hg := get_bt r 1 (by omega)
      rw [decode_ascii r 1 (by omega) (by rw [← hg] at hl; omega)]
      omega
    · exact (decode_run r 1 (by omega) hl).2.1

set_option maxHeartbeats 1600000 in
theorem quotedToken_any (r : ByteArray) (w : World) (hs : r.size ≤ maxLen) (h1 : 1 ≤ r.size) (hT : Lib.Utf8Tabs 4 5 w) :
    Calls Tryd.prog 41 #[.string r] w fun e w' => e = .returned (tokVal (quotedTok r)) ∧ Below w.heap.size w w' := by
  have hm := hs
  unfold maxLen at hm
  have HT : Hid (Lib.Utf8Tabs 4 5 w) := hT
  clear hT
  have hdec : ∀ w1, Below w.heap.size w w1 → Calls Tryd.prog 65 #[.string (r.extract 1 r.size)] w1 fun e w' => e = .returned (.tuple #[.int .i32 ((qd r).1 : Int), .int .i64 ((qd r).2 : Int)]) ∧ Below w1.heap.size w1 w' := fun w1 b1 => by
    have := Tryd.utf8_DecodeRuneInString (r.extract 1 r.size) w1 (tabs_below HT.out b1)
    rw [decodeGo_rest r h1] at this
    exact this
  have Hdec : Hid (∀ w1, Below w.heap.size w w1 → Calls Tryd.prog 65 #[.string (r.extract 1 r.size)] w1 fun e w' => e = .returned (.tuple #[.int .i32 ((qd r).1 : Int), .int .i64 ((qd r).2 : Int)]) ∧ Below w1.heap.size w1 w') := hdec
  clear hdec
  by_cases b : brokenB (qd r) = true
  · have hfin : quotedTok r = noTok := by unfold quotedTok; rw [b]; rfl
    rw [hfin]
    have hb := of_decide_eq_true b
    obtain ⟨b1, b2⟩ := hb
    have b3 : (((qd r).1 : Int) == 65533) = true := by simp; omega
    clear hfin b b1
    go_enter Tryd.func41, Tryd.ntmps41
    go_wp2_with (go_at_call 65; refine (Hdec.out _ ((Below.refl _ _).alloc (Nat.le_refl _) _)).mono ?_; rintro e w' ⟨rfl, bel⟩; obtain ⟨tc, tf, tz, tb⟩ := own_block bel; clear bel)
    exact bodyPost_ret (v := tokVal noTok) (by simp [results, Tryd.results41, go_sem, tokVal, noTok, tc]) rfl ⟨rfl, (((tb.setCell (Nat.le_refl _) _).setCell (Nat.le_refl _) _).setCell (Nat.le_refl _) _).setCell (Nat.le_refl _) _⟩
  · have hb' : brokenB (qd r) = false := by simpa using b
    obtain ⟨q1, q2⟩ := qd_le r hb'
    have q3 := qd_w r
    have hnb : ¬ ((qd r).1 = 65533 ∧ (qd r).2 < 2) := fun q => b (decide_eq_true q)
    have hpre : Lib.hasPrefix (r.extract (1 + (qd r).2) r.size).data.toList (⟨#[34]⟩ : ByteArray).data.toList = (bt r (1 + (qd r).2) == 34) := by
      rw [show (⟨#[34]⟩ : ByteArray).data.toList = [34] from rfl, prefix_one _ _ (by decide), bt_rest r _ 0 q1]; rfl
    have hfin : quotedTok r = if (numB ((qd r).1 : Int) || !(bt r (1 + (qd r).2) == 34)) = true then noTok else (4, ((qd r).1 : Int), ⟨#[]⟩, (qd r).2 + 2) := by
      unfold quotedTok; rw [hb']; rfl
    rw [hfin]
    clear hfin hb' b
    generalize qd r = q at *
    obtain ⟨c, n⟩ := q
    simp only [] at *
    have Hpre : Hid (Lib.hasPrefix (r.extract (1 + n) r.size).data.toList (⟨#[34]⟩ : ByteArray).data.toList = (bt r (1 + n) == 34)) := hpre
    clear hpre
    generalize hN : numB (c : Int) = nb at *
    generalize hE : (bt r (1 + n) == 34) = eb at *
    have HN : Hid (numB (c : Int) = nb) := hN
    clear hN hE
    have hc1 : c = 65533 ∨ ¬ c = 65533 := Decidable.em _
    rcases hc1 with hc1 | hc1
    · have hn2 : ¬ n < 2 := fun q => hnb ⟨hc1, q⟩
      have b3 : ((c : Int) == 65533) = true := by simp; omega
      clear hnb hc1
      cases nb
      · cases eb
        · go_enter Tryd.func41, Tryd.ntmps41
          go_wp2_with (first
            | (go_at_call 65; refine (Hdec.out _ ((Below.refl _ _).alloc (Nat.le_refl _) _)).mono ?_; rintro e w' ⟨rfl, bel⟩; obtain ⟨tc, tf, tz, tb⟩ := own_block bel; clear bel)
            | (go_at_call 32; refine (needsNumber_any _ _).mono ?_; rintro e w' ⟨he, rfl⟩; rw [HN.out] at he; subst he)
            | (go_at_call 23; refine (Tryd.strings_HasPrefix _ _ _).mono ?_; rintro e w' ⟨he, rfl⟩; rw [Hpre.out] at he; subst he))
          exact bodyPost_ret (v := tokVal noTok) (by simp [results, Tryd.results41, go_sem, tokVal, noTok, tc]) rfl ⟨by simp, (((tb.setCell (Nat.le_refl _) _).setCell (Nat.le_refl _) _).setCell (Nat.le_refl _) _).setCell (Nat.le_refl _) _⟩
        · go_enter Tryd.func41, Tryd.ntmps41
          go_wp2_with (first
            | (go_at_call 65; refine (Hdec.out _ ((Below.refl _ _).alloc (Nat.le_refl _) _)).mono ?_; rintro e w' ⟨rfl, bel⟩; obtain ⟨tc, tf, tz, tb⟩ := own_block bel; clear bel)
            | (go_at_call 32; refine (needsNumber_any _ _).mono ?_; rintro e w' ⟨he, rfl⟩; rw [HN.out] at he; subst he)
            | (go_at_call 23; refine (Tryd.strings_HasPrefix _ _ _).mono ?_; rintro e w' ⟨he, rfl⟩; rw [Hpre.out] at he; subst he))
          exact bodyPost_ret (v := tokVal (4, (c : Int), ⟨#[]⟩, n + 2)) (by simp [results, Tryd.results41, go_sem, tokVal, tc]) rfl ⟨by simp, (((tb.setCell (Nat.le_refl _) _).setCell (Nat.le_refl _) _).setCell (Nat.le_refl _) _).setCell (Nat.le_refl _) _⟩
      · go_enter Tryd.func41, Tryd.ntmps41
        go_wp2_with (first
          | (go_at_call 65; refine (Hdec.out _ ((Below.refl _ _).alloc (Nat.le_refl _) _)).mono ?_; rintro e w' ⟨rfl, bel⟩; obtain ⟨tc, tf, tz, tb⟩ := own_block bel; clear bel)
          | (go_at_call 32; refine (needsNumber_any _ _).mono ?_; rintro e w' ⟨he, rfl⟩; rw [HN.out] at he; subst he)
          | (go_at_call 23; refine (Tryd.strings_HasPrefix _ _ _).mono ?_; rintro e w' ⟨he, rfl⟩; rw [Hpre.out] at he; subst he))
        exact bodyPost_ret (v := tokVal noTok) (by simp [results, Tryd.results41, go_sem, tokVal, noTok, tc]) rfl ⟨by simp, (((tb.setCell (Nat.le_refl _) _).setCell (Nat.le_refl _) _).setCell (Nat.le_refl _) _).setCell (Nat.le_refl _) _⟩
    · have b3 : ((c : Int) == 65533) = false := by simp; omega
      clear hnb hc1
      cases nb
      · cases eb
        · go_enter Tryd.func41, Tryd.ntmps41
          go_wp2_with (first
            | (go_at_call 65; refine (Hdec.out _ ((Below.refl _ _).alloc (Nat.le_refl _) _)).mono ?_; rintro e w' ⟨rfl, bel⟩; obtain ⟨tc, tf, tz, tb⟩ := own_block bel; clear bel)
            | (go_at_call 32; refine (needsNumber_any _ _).mono ?_; rintro e w' ⟨he, rfl⟩; rw [HN.out] at he; subst he)
            | (go_at_call 23; refine (Tryd.strings_HasPrefix _ _ _).mono ?_; rintro e w' ⟨he, rfl⟩; rw [Hpre.out] at he; subst he))
          exact bodyPost_ret (v := tokVal noTok) (by simp [results, Tryd.results41, go_sem, tokVal, noTok, tc]) rfl ⟨by simp, (((tb.setCell (Nat.le_refl _) _).setCell (Nat.le_refl _) _).setCell (Nat.le_refl _) _).setCell (Nat.le_refl _) _⟩
        · go_enter Tryd.func41, Tryd.ntmps41
          go_wp2_with (first
            | (go_at_call 65; refine (Hdec.out _ ((Below.refl _ _).alloc (Nat.le_refl _) _)).mono ?_; rintro e w' ⟨rfl, bel⟩; obtain ⟨tc, tf, tz, tb⟩ := own_block bel; clear bel)
            | (go_at_call 32; refine (needsNumber_any _ _).mono ?_; rintro e w' ⟨he, rfl⟩; rw [HN.out] at he; subst he)
            | (go_at_call 23; refine (Tryd.strings_HasPrefix _ _ _).mono ?_; rintro e w' ⟨he, rfl⟩; rw [Hpre.out] at he; subst he))
          exact bodyPost_ret (v := tokVal (4, (c : Int), ⟨#[]⟩, n + 2)) (by simp [results, Tryd.results41, go_sem, tokVal, tc]) rfl ⟨by simp, (((tb.setCell (Nat.le_refl _) _).setCell (Nat.le_refl _) _).setCell (Nat.le_refl _) _).setCell (Nat.le_refl _) _⟩
      · go_enter Tryd.func41, Tryd.ntmps41
        go_wp2_with (first
          | (go_at_call 65; refine (Hdec.out _ ((Below.refl _ _).alloc (Nat.le_refl _) _)).mono ?_; rintro e w' ⟨rfl, bel⟩; obtain ⟨tc, tf, tz, tb⟩ := own_block bel; clear bel)
          | (go_at_call 32; refine (needsNumber_any _ _).mono ?_; rintro e w' ⟨he, rfl⟩; rw [HN.out] at he; subst he)
          | (go_at_call 23; refine (Tryd.strings_HasPrefix _ _ _).mono ?_; rintro e w' ⟨he, rfl⟩; rw [Hpre.out] at he; subst he))
        exact bodyPost_ret (v := tokVal noTok) (by simp [results, Tryd.results41, go_sem, tokVal, noTok, tc]) rfl ⟨by simp, (((tb.setCell (Nat.le_refl _) _).setCell (Nat.le_refl _) _).setCell (Nat.le_refl _) _).setCell (Nat.le_refl _) _⟩
end Go.Proofs.YtoocnpkhgnbepadDoor
