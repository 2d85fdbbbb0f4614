/- The tokens of a text, as a plain function; how a scan goes on by one step. -/
import Derived.Test.YtoocnpkhgnbepadDoorImplI
namespace Go.Proofs.YtoocnpkhgnbepadDoor
open Go.RowKit Go.PlainAid

/-- A token: kind, number, text, place. -/
abbrev Tok := Int × Int × ByteArray × Nat
def rest (s : ByteArray) (p : Nat) : ByteArray := s.extract p s.size
/-- What a scan gives: the tokens, a code, a place. -/
abbrev Scanned := List Tok × Int × Nat
def scanF (s : ByteArray) : Nat → Nat → List Tok → Scanned
  | 0, _, l => (l, 0, 0)
  | f + 1, p, l =>
    if s.size ≤ p then (l, 0, 0)
    else if blankB (bt s p) = true then scanF s f (p + 1) l
    else if bt s p = 40 ∧ bt s (p + 1) = 42 then (if remB s p 0 0 = 0 then ([], 4, p) else scanF s f (remB s p 0 0) l)
    else if (firstTok (rest s p)).2.2.2 = 0 then ([], 4, p)
    else if l.length = 1200 then ([], 13, p)
    else scanF s f (p + (firstTok (rest s p)).2.2.2) (l ++ [((firstTok (rest s p)).1, (firstTok (rest s p)).2.1, (firstTok (rest s p)).2.2.1, p)])
theorem rem_fwd {s : ByteArray} {p : Nat} (h : ¬ remB s p 0 0 = 0) : p < remB s p 0 0 ∧ remB s p 0 0 ≤ s.size ∧ bt s (remB s p 0 0 - 1) = 41 := remB_spec s (s.size - p) p 0 0 rfl h
theorem scanF_enough (s : ByteArray) : ∀ (f g p : Nat) (l : List Tok), s.size - p < f → s.size - p < g → scanF s f p l = scanF s g p l
  | 0, _, _, _, h, _ => absurd h (by omega)
  | _, 0, _, _, _, h => absurd h (by omega)
  | f + 1, g + 1, p, l, hf, hg => by
    simp only [scanF]
    by_cases a : s.size ≤ p
    · rw [if_pos a, if_pos a]
    rw [if_neg a, if_neg a]
    by_cases b : blankB (bt s p) = true
    · rw [if_pos b, if_pos b]; exact scanF_enough s f g _ _ (by omega) (by omega)
    rw [if_neg b, if_neg b]
    by_cases c : bt s p = 40 ∧ bt s (p + 1) = 42
    · rw [if_pos c, if_pos c]
      by_cases d : remB s p 0 0 = 0
      · rw [if_pos d, if_pos d]
      · rw [if_neg d, if_neg d]
        have := (rem_fwd d).1
        exact scanF_enough s f g _ _ (by omega) (by omega)
    rw [if_neg c, if_neg c]
    by_cases d : (firstTok (rest s p)).2.2.2 = 0
    · rw [if_pos d, if_pos d]
    rw [if_neg d, if_neg d]
    by_cases e : l.length = 1200
    · rw [if_pos e, if_pos e]
    rw [if_neg e, if_neg e]
    exact scanF_enough s f g _ _ (by omega) (by omega)
def scan (s : ByteArray) (p : Nat) (l : List Tok) : Scanned := scanF s (s.size + 1 - p) p l
theorem scan_end {s : ByteArray} {p : Nat} {l : List Tok} (h : s.size ≤ p) : scan s p l = (l, 0, 0) := by
  unfold scan
  cases e : s.size + 1 - p with
  | zero => rfl
  | succ f => simp only [scanF]; rw [if_pos h]
/-- A token lies within the text, and its last byte is below 128. -/
theorem firstTok_in (r : ByteArray) (h0 : 0 < r.size) (hl : ¬ (firstTok r).2.2.2 = 0) : (firstTok r).2.2.2 ≤ r.size ∧ bt r ((firstTok r).2.2.2 - 1) < 128 := by
  have hw := wEnd_spec r r.size 0 (by omega) (by omega)
  have wlow : ∀ e, e = wEnd r 0 → ¬ e = 0 → bt r (e - 1) < 128 := fun e he hn => (wordB_low (hw.2.2.1 (e - 1) (by omega) (by omega))).2
  unfold firstTok at hl ⊢
  by_cases f1 : letB (bt r 0) = true
  · rw [if_pos f1] at hl ⊢
    unfold wordTok at hl ⊢
    by_cases c : 40 < wEnd r 0
    · rw [if_pos c] at hl; exact absurd rfl hl
    · rw [if_neg c] at hl ⊢
      by_cases k : keyB (r.extract 0 (wEnd r 0)) = true
      · rw [if_pos k] at hl ⊢; exact ⟨hw.2.1, wlow _ rfl hl⟩
      · rw [if_neg k] at hl ⊢; exact ⟨hw.2.1, wlow _ rfl hl⟩
  rw [if_neg f1] at hl ⊢
  by_cases f2 : digB (bt r 0) = true
  · rw [if_pos f2] at hl ⊢
    unfold digitTok at hl ⊢
    by_cases c : numOK (r.extract 0 (wEnd r 0)) = true
    · rw [if_pos c] at hl ⊢; exact ⟨hw.2.1, wlow _ rfl hl⟩
    · rw [if_neg c] at hl ⊢
      by_cases k : hexOK (r.extract 0 (wEnd r 0)) = true
      · rw [if_pos k] at hl ⊢; exact ⟨hw.2.1, wlow _ rfl hl⟩
      · rw [if_neg k] at hl; exact absurd rfl hl
  rw [if_neg f2] at hl ⊢
  by_cases f3 : (bt r 0 == 34) = true
  · rw [if_pos f3] at hl ⊢
    unfold quotedTok at hl ⊢
    by_cases c : (brokenB (qd r) || numB ((qd r).1 : Int) || !(bt r (1 + (qd r).2) == 34)) = true
    · rw [if_pos c] at hl; exact absurd rfl hl
    · rw [if_neg c]
      have c' : bt r (1 + (qd r).2) = 34 := by
        simp at c; exact c.2
      have hin : 1 + (qd r).2 < r.size := by
        by_cases q : 1 + (qd r).2 < r.size
        · exact q
        · rw [bt_end r (by omega)] at c'; omega
      refine ⟨by simp only []; omega, ?_⟩
      have e : (qd r).2 + 2 - 1 = 1 + (qd r).2 := by omega
      simp only []
      rw [e, c']; decide
  rw [if_neg f3] at hl ⊢
  refine ⟨sgnLen_le r h0, ?_⟩
  simp only [] at hl ⊢
  unfold sgnLen at hl ⊢
  by_cases c : (twoB (bt r 0) && bt r 1 == 61) = true
  · rw [if_pos c]
    have : bt r 1 = 61 := by simp at c; exact c.2
    show bt r 1 < 128
    omega
  · rw [if_neg c] at hl ⊢
    by_cases d : oneB (bt r 0) = true
    · rw [if_pos d]
      have := of_decide_eq_true d
      show bt r 0 < 128
      omega
    · rw [if_neg d] at hl; exact absurd rfl hl

theorem scan_step {s : ByteArray} {p : Nat} {l : List Tok} (h : p < s.size) : scan s p l =
    if blankB (bt s p) = true then scan s (p + 1) l
    else if bt s p = 40 ∧ bt s (p + 1) = 42 then (if remB s p 0 0 = 0 then ([], 4, p) else scan s (remB s p 0 0) l)
    else if (firstTok (rest s p)).2.2.2 = 0 then ([], 4, p)
    else if l.length = 1200 then ([], 13, p)
    else scan s (p + (firstTok (rest s p)).2.2.2) (l ++ [((firstTok (rest s p)).1, (firstTok (rest s p)).2.1, (firstTok (rest s p)).2.2.1, p)]) := by
  unfold scan
  obtain ⟨f, hf⟩ : ∃ f, s.size + 1 - p = f + 1 := ⟨s.size - p, by omega⟩
  rw [hf]
  simp only [scanF]
  rw [if_neg (by omega)]
  by_cases b : blankB (bt s p) = true
  · rw [if_pos b, if_pos b, show s.size + 1 - (p + 1) = f by omega]
  rw [if_neg b, if_neg b]
  by_cases c : bt s p = 40 ∧ bt s (p + 1) = 42
  · rw [if_pos c, if_pos c]
    by_cases d : remB s p 0 0 = 0
    · rw [if_pos d, if_pos d]
    · rw [if_neg d, if_neg d]
      have := rem_fwd d
      exact scanF_enough s _ _ _ _ (by omega) (by omega)
  rw [if_neg c, if_neg c]
  by_cases d : (firstTok (rest s p)).2.2.2 = 0
  · rw [if_pos d, if_pos d]
  rw [if_neg d, if_neg d]
  by_cases e : l.length = 1200
  · rw [if_pos e, if_pos e]
  rw [if_neg e, if_neg e]
  have hr := rest_size s p (by omega)
  have hin := (firstTok_in (rest s p) (by unfold rest; omega) d).1
  unfold rest at hin
  rw [hr] at hin
  unfold rest at d ⊢
  exact scanF_enough s _ _ _ _ (by omega) (by omega)
end Go.Proofs.YtoocnpkhgnbepadDoor
