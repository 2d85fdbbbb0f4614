/- The model's remarks, and its way to a character of the text. -/
import Derived.Test.YtoocnpkhgnbepadDoorSpecS
import Derived.Test.YtoocnpkhgnbepadDoorSpecU
import Derived.Deep.QuietTactic
import Derived.BigQuiet
namespace Go.Proofs.YtoocnpkhgnbepadDoor
open Go.RowKit Go.PlainAid

variable {B : Nat} {w0 w : World} {s : ByteArray} {p : Nat} {l : List Tok} {c : Int} {q : Nat}

/-! ### Two bytes at a time -/
theorem toList_inj {a b : ByteArray} (h : a.toList = b.toList) : a = b := by
  rw [ByteArray.toList_eq, ByteArray.toList_eq] at h
  cases a; cases b; simp only [] at h
  rw [Array.toList_inj.1 h]
theorem two_eq (s : ByteArray) (k : Nat) (a b : UInt8) (h : k + 2 ≤ s.size) : ((s.extract k (k + 2)).toList == [a, b]) = (bt s k == (a.toNat : Int) && bt s (k + 1) == (b.toNat : Int)) := by
  rw [Bool.eq_iff_iff]
  simp only [Bool.and_eq_true, beq_iff_eq]
  have s0 := bt_slice s k 2 0 h (by omega)
  have s1 := bt_slice s k 2 1 h (by omega)
  have e0 : bt (⟨#[a, b]⟩ : ByteArray) 0 = (a.toNat : Int) := rfl
  have e1 : bt (⟨#[a, b]⟩ : ByteArray) 1 = (b.toNat : Int) := rfl
  constructor
  · intro e
    have e : s.extract k (k + 2) = ⟨#[a, b]⟩ := toList_inj (by rw [e, ByteArray.toList_eq])
    rw [e] at s0 s1
    exact ⟨s0.symm.trans e0, s1.symm.trans e1⟩
  · rintro ⟨h0, h1⟩
    have e : (⟨#[a, b]⟩ : ByteArray) = s.extract k (k + 2) := eq_slice h (by rfl) fun j hj => by
      match j, hj with
      | 0, _ => exact e0.trans h0.symm
      | 1, _ => exact e1.trans h1.symm
    rw [← e, ByteArray.toList_eq]
theorem rem_pair_open {s : ByteArray} {k d : Nat} (h : k + 1 < s.size) (h0 : bt s k = 40) (h1 : bt s (k + 1) = 42) : remB s k 0 d = remB s (k + 2) 0 (d + 1) := by
  rw [remB_pass (by omega) (by omega) (by omega), h0, remB_open h h1]
theorem rem_pair_shut {s : ByteArray} {k d : Nat} (h : k + 1 < s.size) (h0 : bt s k = 42) (h1 : bt s (k + 1) = 41) : remB s k 0 d = if d = 1 then k + 2 else remB s (k + 2) 0 (d - 1) := by
  rw [remB_pass (by omega) (by omega) (by omega), h0, remB_shut h h1]
  split
  · rfl
  · exact remB_any (by omega) (by omega)
theorem rem_pair_none {s : ByteArray} {k d : Nat} (h : k + 1 < s.size) (h0 : ¬ (bt s k = 40 ∧ bt s (k + 1) = 42)) (h1 : ¬ (bt s k = 42 ∧ bt s (k + 1) = 41)) : remB s k 0 d = remB s (k + 1) 0 d := by
  rw [remB_pass (by omega) (by omega) (by omega), remB_pass h h0 h1, remB_pass h (by omega) (by omega)]
theorem rem_last {s : ByteArray} {k d : Nat} (h : s.size ≤ k + 1) : remB s k 0 d = 0 := by
  by_cases q : k < s.size
  · rw [remB_pass q (by omega) (by omega), remB_end (by omega)]
  · exact remB_end (by omega)

/-- What the scanner is behind a remark that began at p. -/
def RemDone (B : Nat) (w0 w' : World) (s : ByteArray) (p : Nat) (l : List Tok) (q : Nat) : Prop :=
  (remB s p 0 0 = 0 ∧ Sc B w0 w' s s.size l 4 p) ∨ (¬ remB s p 0 0 = 0 ∧ Sc B w0 w' s (remB s p 0 0) l 0 q)

/-- Where a scanner's memory says that it stands. -/
def posOf (B : Nat) (w : World) : Nat := match w.cell? ⟨B, 1, none⟩ with | some v => (intOf v).toNat | none => 0
theorem Sc.posOf (h : Sc B w0 w s p l c q) : posOf B w = p := by unfold Go.Proofs.YtoocnpkhgnbepadDoor.posOf; rw [h.k1]; simp [intOf]
/-- What a round of the remark's loop knows. -/
def RemIn (s : ByteArray) (p pos d : Nat) : Prop := remB s p 0 0 = remB s pos 0 d ∧ ((pos = p ∧ d = 0) ∨ 1 ≤ d) ∧ d ≤ pos ∧ pos ≤ s.size

set_option maxRecDepth 100000 in
set_option maxHeartbeats 4000000 in
theorem remark_any (hs : s.size ≤ 4000) (h : Sc B w0 w s p l 0 q) (hp : bt s p = 40 ∧ bt s (p + 1) = 42) (hps : p + 1 < s.size) :
    Calls Tryd.prog 54 #[.pointer (some ⟨B, 0, none⟩)] w fun e w' => e = .returned (.tuple #[]) ∧ RemDone B w0 w' s p l q := by
  have H : Hid (Sc B w0 w s p l 0 q) := h
  have HP : Hid (bt s p = 40 ∧ bt s (p + 1) = 42) := hp
  have k1 := h.k1
  clear h hp
  go_enter Tryd.func54, Tryd.ntmps54
  go_wp2
  clear k1
  go_loopw [3, 4] (fun d t wr => ∃ pos dd : Nat, d = .int .i64 dd ∧ Sc B w0 wr s pos l 0 q ∧ Hid (RemIn s p pos dd)) (fun _ _ wr => s.size + 1 - posOf B wr)
  case atStart => exact ⟨p, 0, rfl, H.out, rfl, .inl ⟨rfl, rfl⟩, by omega, by omega⟩
  case round =>
    obtain ⟨pos, dd, rfl, hsc, Hin⟩ := hrel
    obtain ⟨r1, r2, r3, r4⟩ := Hin.out
    have Hsc : Hid (Sc B w0 _ s pos l 0 q) := hsc
    have k0 := hsc.k0
    have k1 := hsc.k1
    have f1 := hsc.fz 1
    have hpo := hsc.posOf
    have hq : pos ≤ s.size := r4
    clear hsc
    by_cases hlt : pos + 1 < s.size
    · have h2 : (pos : Int) + 1 < s.size := by omega
      have t1 := two_eq s pos 40 42 (by omega)
      have t2 := two_eq s pos 42 41 (by omega)
      by_cases c1 : bt s pos = 40 ∧ bt s (pos + 1) = 42
      · have e1 : ((s.extract pos (pos + 2)).toList == [40, 42]) = true := by rw [t1, c1.1, c1.2]; rfl
        have z1 : ((dd : Int) + 1 == 0) = false := by rw [beq_eq_false_iff_ne]; omega
        have hnew : RemIn s p (pos + 2) (dd + 1) := ⟨by rw [r1, rem_pair_open hlt c1.1 c1.2], .inr (by omega), by omega, by omega⟩
        have Hnew : Hid (RemIn s p (pos + 2) (dd + 1)) := hnew
        clear t1 t2 c1 r1 r2 hnew
        go_wp2
        go_quiet (fail)
        go_wp2
        go_quiet (fail)
        go_wp2
        go_roundw
        case rel => exact ⟨pos + 2, dd + 1, by go_num, (Hsc.out.drewN _).at1 _ (pos + 2) (by omega), Hnew⟩
        case measure => rw [((Hsc.out.drewN _).at1 _ (pos + 2) (by omega)).posOf, hpo]; omega
      · by_cases c2 : bt s pos = 42 ∧ bt s (pos + 1) = 41
        · have e1 : ((s.extract pos (pos + 2)).toList == [40, 42]) = false := by rw [t1, c2.1, c2.2]; rfl
          have e2 : ((s.extract pos (pos + 2)).toList == [42, 41]) = true := by rw [t2, c2.1, c2.2]; rfl
          have hd : 1 ≤ dd := by
            rcases r2 with ⟨rfl, _⟩ | r2
            · have := HP.out; omega
            · exact r2
          by_cases d1 : dd = 1
          · have z1 : ((dd : Int) - 1 == 0) = true := by rw [beq_iff_eq]; omega
            have hnew : remB s p 0 0 = pos + 2 := by rw [r1, rem_pair_shut hlt c2.1 c2.2, if_pos d1]
            have Hnew : Hid (remB s p 0 0 = pos + 2) := hnew
            clear t1 t2 c1 c2 r1 r2 hnew d1
            go_wp2
            go_quiet (fail)
            go_wp2
            go_quiet (fail)
            go_wp2
            refine bodyPost_ret (results_none rfl _ _ _) rfl ?_
            exact ⟨rfl, .inr ⟨by rw [Hnew.out]; omega, by rw [Hnew.out]; exact (Hsc.out.drewN _).at1 _ (pos + 2) (by omega)⟩⟩
          · have z1 : ((dd : Int) - 1 == 0) = false := by rw [beq_eq_false_iff_ne]; omega
            have hnew : RemIn s p (pos + 2) (dd - 1) := ⟨by rw [r1, rem_pair_shut hlt c2.1 c2.2, if_neg d1], .inr (by omega), by omega, by omega⟩
            have Hnew : Hid (RemIn s p (pos + 2) (dd - 1)) := hnew
            clear t1 t2 c1 c2 r1 r2 hnew d1
            go_wp2
            go_quiet (fail)
            go_wp2
            go_quiet (fail)
            go_wp2
            go_roundw
            case rel => exact ⟨pos + 2, dd - 1, by congr 1; omega, (Hsc.out.drewN _).at1 _ (pos + 2) (by omega), Hnew⟩
            case measure => rw [((Hsc.out.drewN _).at1 _ (pos + 2) (by omega)).posOf, hpo]; omega
        · have e1 : ((s.extract pos (pos + 2)).toList == [40, 42]) = false := by
            rw [t1, Bool.eq_false_iff]; simpa using c1
          have e2 : ((s.extract pos (pos + 2)).toList == [42, 41]) = false := by
            rw [t2, Bool.eq_false_iff]; simpa using c2
          have hd : 1 ≤ dd := by
            rcases r2 with ⟨rfl, _⟩ | r2
            · exact absurd HP.out c1
            · exact r2
          have z1 : ((dd : Int) == 0) = false := by rw [beq_eq_false_iff_ne]; omega
          have hnew : RemIn s p (pos + 1) dd := ⟨by rw [r1, rem_pair_none hlt c1 c2], .inr hd, by omega, by omega⟩
          have Hnew : Hid (RemIn s p (pos + 1) dd) := hnew
          clear t1 t2 c1 c2 r1 r2 hnew
          go_wp2
          go_quiet (fail)
          go_wp2
          go_quiet (fail)
          go_wp2
          go_roundw
          case rel => exact ⟨pos + 1, dd, rfl, (Hsc.out.drewN _).at1 _ (pos + 1) (by omega), Hnew⟩
          case measure => rw [((Hsc.out.drewN _).at1 _ (pos + 1) (by omega)).posOf, hpo]; omega
    · have h2 : ¬ (pos : Int) + 1 < s.size := by omega
      have hz : remB s p 0 0 = 0 := by rw [r1]; exact rem_last (by omega)
      have Hz : Hid (remB s p 0 0 = 0) := hz
      clear r1 r2 hz
      go_wp2
      go_quiet (fail)
      go_wp2_with (go_at_call 58; refine (fail_any 4 p (Hsc.out.drewN _)).mono ?_; rintro e w' ⟨rfl, h', _⟩; have g0 := h'.k0; have g1 := h'.k1; have g2 := h'.fz 1; have Hh := (show Hid (Sc B w0 w' s pos l 4 p) from h'); clear h')
      go_end0
      exact ⟨rfl, .inl ⟨Hz.out, Hh.out.at1 _ s.size rfl⟩⟩
end Go.Proofs.YtoocnpkhgnbepadDoor
