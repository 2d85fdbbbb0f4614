/- What one step of the scan is, at each kind of text. Plain but for the scanner's memory. -/
import Derived.Test.YtoocnpkhgnbepadDoorSpecN
namespace Go.Proofs.YtoocnpkhgnbepadDoor
open Go.RowKit Go.PlainAid

variable {B : Nat} {w0 w : World} {s : ByteArray} {p : Nat} {l : List Tok} {c : Int} {q : Nat} {x : Tok}
/-- What the scanner is behind one step: further on, or at its end with a code. -/
def Step (B : Nat) (w0 w : World) (s : ByteArray) (p : Nat) (l : List Tok) : Prop :=
  ∃ p' l' c' q', Sc B w0 w s p' l' c' q' ∧ ((c' = 0 ∧ p < p' ∧ p' ≤ s.size ∧ l'.length ≤ 1200 ∧ scan s p l = scan s p' l') ∨ (¬ c' = 0 ∧ scan s p l = ([], c', q')))
theorem step_blank (hp : p < s.size) (hb : blankB (bt s p) = true) (hl : l.length ≤ 1200) (h : Sc B w0 w s (p + 1) l 0 q) : Step B w0 w s p l :=
  ⟨p + 1, l, 0, q, h, .inl ⟨rfl, by omega, by omega, hl, by rw [scan_step hp, if_pos hb]⟩⟩
theorem step_rem (hp : p < s.size) (hb : blankB (bt s p) = false) (hc : bt s p = 40 ∧ bt s (p + 1) = 42) (hl : l.length ≤ 1200) (h : RemDone B w0 w s p l q) : Step B w0 w s p l := by
  have e : scan s p l = if remB s p 0 0 = 0 then ([], 4, p) else scan s (remB s p 0 0) l := by
    rw [scan_step hp, if_neg (by rw [hb]; decide), if_pos hc]
  rcases h with ⟨hz, h⟩ | ⟨hz, h⟩
  · exact ⟨s.size, l, 4, p, h, .inr ⟨by decide, by rw [e, if_pos hz]⟩⟩
  · obtain ⟨a, b, _⟩ := rem_fwd hz
    exact ⟨_, l, 0, q, h, .inl ⟨rfl, a, b, hl, by rw [e, if_neg hz]⟩⟩
theorem step_bad {p' : Nat} (hp : p < s.size) (hb : blankB (bt s p) = false) (hc : ¬ (bt s p = 40 ∧ bt s (p + 1) = 42)) (hm : (firstTok (rest s p)).2.2.2 = 0) (h : Sc B w0 w s p' l 4 p) : Step B w0 w s p l :=
  ⟨p', l, 4, p, h, .inr ⟨by decide, by rw [scan_step hp, if_neg (by rw [hb]; decide), if_neg hc, if_pos hm]⟩⟩
theorem step_tok {k n : Int} {y : ByteArray} {m : Nat} (hp : p < s.size) (hb : blankB (bt s p) = false) (hc : ¬ (bt s p = 40 ∧ bt s (p + 1) = 42)) (ht : firstTok (rest s p) = (k, n, y, m)) (hm : ¬ m = 0) (h : Added B w0 w s (p + m) l q (k, n, y, p)) : Step B w0 w s p l := by
  have hr : (rest s p).size = s.size - p := rest_size s p (by omega)
  have hin := (firstTok_in (rest s p) (by omega) (by rw [ht]; exact hm)).1
  rw [ht, hr] at hin
  have e := scan_step (l := l) hp
  rw [if_neg (by rw [hb]; decide), if_neg hc, ht, if_neg hm] at e
  rcases h with ⟨hl, h⟩ | ⟨hl, h⟩
  · exact ⟨_, l, 13, p, h, .inr ⟨by decide, by rw [e, if_pos hl]⟩⟩
  · have hl2 : ¬ l.length = 1200 := by omega
    exact ⟨_, _, 0, q, h, .inl ⟨rfl, by omega, by simp only [] at hin; omega, by simp; omega, by rw [e, if_neg hl2]⟩⟩

theorem rest_head (s : ByteArray) (p m : Nat) (h : p + m ≤ s.size) : (rest s p).extract 0 m = s.extract p (p + m) := by
  have hr : (rest s p).size = s.size - p := rest_size s p (by omega)
  refine eq_slice h (by rw [ByteArray.size_extract, hr]; omega) fun j hj => ?_
  rw [bt_head (rest s p) m j (by rw [hr]; omega) hj]
  exact bt_rest s p j (by omega)
theorem rest_wEnd (s : ByteArray) (p : Nat) (h : p ≤ s.size) : wEnd (rest s p) 0 + p = wEnd s p := wEnd_rest s p 0 h (by omega)
theorem wEnd_in (s : ByteArray) (p : Nat) (h : p ≤ s.size) : p ≤ wEnd s p ∧ wEnd s p ≤ s.size := by
  obtain ⟨a, b, _⟩ := wEnd_spec s (s.size - p) p rfl h
  exact ⟨a, b⟩
theorem rest_at (s : ByteArray) (p k : Nat) (h : p ≤ s.size) : bt (rest s p) k = bt s (p + k) := bt_rest s p k h
theorem rest_word (s : ByteArray) (p : Nat) (h : p ≤ s.size) : (rest s p).extract 0 (wEnd (rest s p) 0) = s.extract p (wEnd s p) := by
  have e := rest_wEnd s p h
  have i := wEnd_in s p h
  rw [rest_head s p _ (by omega), show p + wEnd (rest s p) 0 = wEnd s p by omega]
/-- A number, or a character by its number. -/
theorem step_num (hp : p < s.size) (hb : blankB (bt s p) = false) (hc : ¬ (bt s p = 40 ∧ bt s (p + 1) = 42)) (hlet : letB (bt s p) = false) (hd : digB (bt s p) = true) (h : NumDone B w0 w s (s.extract p (wEnd s p)) p (wEnd s p) l q) : Step B w0 w s p l := by
  have e := rest_wEnd s p (by omega)
  have i := wEnd_in s p (by omega)
  have h1 : p < wEnd s p := by
    have := wEnd_go hp (show wordB (bt s p) = true by unfold wordB; rw [hd]; simp)
    have i2 := wEnd_in s (p + 1) (by omega)
    omega
  have hsz : (s.extract p (wEnd s p)).size = wEnd (rest s p) 0 := by rw [ByteArray.size_extract]; omega
  have ft : firstTok (rest s p) = digitTok (rest s p) := by
    unfold firstTok
    rw [rest_at s p 0 (by omega), Nat.add_zero, hlet, hd, if_neg (by decide), if_pos rfl]
  unfold digitTok at ft
  rw [rest_word s p (by omega), ← hsz] at ft
  generalize s.extract p (wEnd s p) = t at *
  have em : p + t.size = wEnd s p := by omega
  rcases h with ⟨a, h⟩ | ⟨a, b, h⟩ | ⟨a, b, h⟩
  · rw [if_pos a] at ft
    exact step_tok hp hb hc ft (by omega) (by rw [em]; exact h)
  · rw [if_neg (by rw [a]; decide), if_pos b] at ft
    exact step_tok hp hb hc ft (by omega) (by rw [em]; exact h)
  · rw [if_neg (by rw [a]; decide), if_neg (by rw [b]; decide)] at ft
    exact step_bad hp hb hc (by rw [ft]; rfl) h
/-- What the scanner is behind a word that began at p. -/
def WordDone (B : Nat) (w0 w' : World) (s t : ByteArray) (p e : Nat) (l : List Tok) (q : Nat) : Prop :=
  (40 < t.size ∧ Sc B w0 w' s e l 4 p) ∨ (t.size ≤ 40 ∧ Added B w0 w' s e l q (if keyB t = true then 2 else 1, 0, t, p))
theorem step_word (hp : p < s.size) (hb : blankB (bt s p) = false) (hc : ¬ (bt s p = 40 ∧ bt s (p + 1) = 42)) (hlet : letB (bt s p) = true) (h : WordDone B w0 w s (s.extract p (wEnd s p)) p (wEnd s p) l q) : Step B w0 w s p l := by
  have e := rest_wEnd s p (by omega)
  have i := wEnd_in s p (by omega)
  have h1 : p < wEnd s p := by
    have := wEnd_go hp (show wordB (bt s p) = true by unfold wordB; rw [hlet]; rfl)
    have i2 := wEnd_in s (p + 1) (by omega)
    omega
  have hsz : (s.extract p (wEnd s p)).size = wEnd (rest s p) 0 := by rw [ByteArray.size_extract]; omega
  have ft : firstTok (rest s p) = wordTok (rest s p) := by
    unfold firstTok
    rw [rest_at s p 0 (by omega), Nat.add_zero, hlet, if_pos rfl]
  unfold wordTok at ft
  rw [rest_word s p (by omega), ← hsz] at ft
  generalize s.extract p (wEnd s p) = t at *
  have em : p + t.size = wEnd s p := by omega
  rcases h with ⟨a, h⟩ | ⟨a, h⟩
  · rw [if_pos a] at ft
    exact step_bad hp hb hc (by rw [ft]; rfl) h
  · rw [if_neg (by omega)] at ft
    by_cases k : keyB t = true
    · rw [if_pos k] at ft h
      exact step_tok hp hb hc ft (by omega) (by rw [em]; exact h)
    · rw [if_neg k] at ft h
      exact step_tok hp hb hc ft (by omega) (by rw [em]; exact h)
/-- A sign. -/
theorem step_sign (hp : p < s.size) (hb : blankB (bt s p) = false) (hc : ¬ (bt s p = 40 ∧ bt s (p + 1) = 42)) (hlet : letB (bt s p) = false) (hd : digB (bt s p) = false) (hq : (bt s p == 34) = false)
    (h : (sgnLen (bt s p) (bt s (p + 1)) = 0 ∧ Sc B w0 w s p l 4 p) ∨ (1 ≤ sgnLen (bt s p) (bt s (p + 1)) ∧ Added B w0 w s (p + sgnLen (bt s p) (bt s (p + 1))) l q (5, 0, s.extract p (p + sgnLen (bt s p) (bt s (p + 1))), p))) : Step B w0 w s p l := by
  have hr : (rest s p).size = s.size - p := rest_size s p (by omega)
  have hle := sgnLen_le (rest s p) (by omega)
  have ft : firstTok (rest s p) = (5, 0, (rest s p).extract 0 (sgnLen (bt (rest s p) 0) (bt (rest s p) 1)), sgnLen (bt (rest s p) 0) (bt (rest s p) 1)) := by
    have h0 := rest_at s p 0 (by omega)
    rw [Nat.add_zero] at h0
    unfold firstTok
    rw [h0, hlet, hd, hq, if_neg (by decide), if_neg (by decide), if_neg (by decide)]
  rw [rest_at s p 0 (by omega), rest_at s p 1 (by omega), Nat.add_zero] at ft hle
  rw [rest_head s p _ (by omega)] at ft
  rcases h with ⟨a, h⟩ | ⟨a, h⟩
  · exact step_bad hp hb hc (by rw [ft]; exact a) h
  · exact step_tok hp hb hc ft (by omega) h
/-- What stands behind a quote is a character, and a quote behind it. -/
def Quoted (s : ByteArray) (p : Nat) (R : Int) (N : Nat) : Prop := ¬ N = 0 ∧ ¬ R < 32 ∧ ¬ R = 34 ∧ ¬ R = 127 ∧ p + 1 + N < s.size ∧ bt s (p + 1 + N) = 34
theorem step_quote (hp : p < s.size) (hb : blankB (bt s p) = false) (hc : ¬ (bt s p = 40 ∧ bt s (p + 1) = 42)) (hq : bt s p = 34)
    (h : (¬ Quoted s p (runeAt s (p + 1)).1 (runeAt s (p + 1)).2 ∧ Sc B w0 w s p l 4 p) ∨ (Quoted s p (runeAt s (p + 1)).1 (runeAt s (p + 1)).2 ∧ Added B w0 w s (p + ((runeAt s (p + 1)).2 + 2)) l q (4, (runeAt s (p + 1)).1, ⟨#[]⟩, p))) : Step B w0 w s p l := by
  have hr : (rest s p).size = s.size - p := rest_size s p (by omega)
  have ft : firstTok (rest s p) = quotedTok (rest s p) := by
    have h0 := rest_at s p 0 (by omega)
    rw [Nat.add_zero] at h0
    unfold firstTok
    rw [h0, hq, if_neg (by decide), if_neg (by decide), if_pos (by decide)]
  have hqd : qd (rest s p) = if s.size ≤ p + 1 then (65533, 0) else Utf8.decode s (p + 1) := by
    unfold qd
    rw [hr]
    by_cases a : s.size ≤ p + 1
    · rw [if_pos a, if_pos (by omega)]
    · rw [if_neg a, if_neg (by omega)]; exact decode_rest s p 1 (by omega)
  have hbad : brokenB (qd (rest s p)) = true → ¬ Quoted s p (runeAt s (p + 1)).1 (runeAt s (p + 1)).2 := fun hk hQ => by
    apply hQ.1
    unfold runeAt
    by_cases a : s.size ≤ p + 1
    · rw [if_neg (by omega)]
    · rw [hqd, if_neg a] at hk
      rw [if_neg (by rw [hk]; simp)]
  have hgood : brokenB (qd (rest s p)) = false → runeAt s (p + 1) = (((qd (rest s p)).1 : Int), (qd (rest s p)).2) ∧ 1 ≤ (qd (rest s p)).2 := fun hk => by
    by_cases a : s.size ≤ p + 1
    · rw [hqd, if_pos a] at hk; exact absurd hk (by decide)
    · rw [hqd, if_neg a] at hk ⊢
      exact ⟨by unfold runeAt; rw [if_pos ⟨by omega, hk⟩], (fits_bwd s (p + 1) (by omega) hk).1⟩
  have hiff : (brokenB (qd (rest s p)) || numB ((qd (rest s p)).1 : Int) || !(bt (rest s p) (1 + (qd (rest s p)).2) == 34)) = true ↔ ¬ Quoted s p (runeAt s (p + 1)).1 (runeAt s (p + 1)).2 := by
    cases hk : brokenB (qd (rest s p))
    · obtain ⟨g1, g2⟩ := hgood hk
      rw [g1, rest_at s p _ (by omega), show p + (1 + (qd (rest s p)).2) = p + 1 + (qd (rest s p)).2 by omega]
      generalize (qd (rest s p)).2 = N at *
      generalize ((qd (rest s p)).1 : Int) = R at *
      unfold numB Quoted
      simp only [Bool.false_or, Bool.or_eq_true, decide_eq_true_eq, Bool.not_eq_true', beq_eq_false_iff_ne, ne_eq]
      constructor
      · rintro (h | h) ⟨a, b, d, e, f, g⟩
        · omega
        · exact h g
      · intro h
        by_cases a : R < 32 ∨ R = 127 ∨ R = 34
        · exact .inl a
        · refine .inr fun g => h ⟨by omega, by omega, by omega, by omega, ?_, g⟩
          by_cases f : p + 1 + N < s.size
          · exact f
          · rw [bt_end s (by omega)] at g; omega
    · simp only [Bool.true_or, true_iff]
      exact hbad hk
  unfold quotedTok at ft
  rcases h with ⟨a, h⟩ | ⟨a, h⟩
  · rw [if_pos (hiff.2 a)] at ft
    exact step_bad hp hb hc (by rw [ft]; rfl) h
  · rw [if_neg (fun e => hiff.1 e a)] at ft
    have hk : brokenB (qd (rest s p)) = false := by
      cases e : brokenB (qd (rest s p))
      · rfl
      · exact absurd a (hbad e)
    obtain ⟨g1, g2⟩ := hgood hk
    rw [g1] at h
    exact step_tok hp hb hc ft (by omega) h
end Go.Proofs.YtoocnpkhgnbepadDoor
