/- Tokens, told once as a function of the text's bytes ('bt s k': byte k as a number, 0 behind the end). Plain: no program. -/
import Derived.Test.YtoocnpkhgnbepadDoorLetters
import Derived.Test.YtoocnpkhgnbepadDoorChars0
import Derived.Test.YtoocnpkhgnbepadDoorShelf
import Derived.PlainAid
namespace Go.Proofs.YtoocnpkhgnbepadDoor
open Go.RowKit Go.PlainAid

/-! ### Words -/
def wordB (n : Int) : Bool := letB n || digB n
def wordAux (s : ByteArray) : Nat → Nat → Nat
  | 0, k => k
  | f + 1, k => if wordB (bt s k) = true then wordAux s f (k + 1) else k
/-- Where the letters and digits from k on end. -/
def wEnd (s : ByteArray) (k : Nat) : Nat := wordAux s (s.size + 1 - k) k
theorem wEnd_go {s : ByteArray} {k : Nat} (hk : k < s.size) (h : wordB (bt s k) = true) : wEnd s k = wEnd s (k + 1) := by
  unfold wEnd
  obtain ⟨f, hf⟩ : ∃ f, s.size + 1 - k = f + 1 := ⟨s.size - k, by omega⟩
  have e : s.size + 1 - (k + 1) = f := by omega
  rw [hf, e]; simp only [wordAux]; rw [if_pos h]
theorem wEnd_stop {s : ByteArray} {k : Nat} (hk : k ≤ s.size) (h : wordB (bt s k) = false) : wEnd s k = k := by
  unfold wEnd
  obtain ⟨f, hf⟩ : ∃ f, s.size + 1 - k = f + 1 := ⟨s.size - k, by omega⟩
  rw [hf]; simp only [wordAux]; rw [if_neg (by rw [h]; decide)]
theorem wordB_zero : wordB 0 = false := by decide
theorem wordB_end {s : ByteArray} {k : Nat} (h : s.size ≤ k) : wordB (bt s k) = false := by rw [bt_end s h]; exact wordB_zero
theorem wordB_low {n : Int} (h : wordB n = true) : 48 ≤ n ∧ n < 128 := by
  unfold wordB letB digB at h; simp at h; omega
theorem wordB_high {n : Int} (h : 128 ≤ n) : wordB n = false := by
  cases e : wordB n with
  | false => rfl
  | true => have := wordB_low e; omega
/-- What the end of a word is. -/
theorem wEnd_spec (s : ByteArray) : ∀ (f k : Nat), s.size - k = f → k ≤ s.size → k ≤ wEnd s k ∧ wEnd s k ≤ s.size ∧ (∀ j, k ≤ j → j < wEnd s k → wordB (bt s j) = true) ∧ wordB (bt s (wEnd s k)) = false
  | 0, k, hf, hk => by
    have e : k = s.size := by omega
    have hw := wordB_end (s := s) (k := k) (by omega)
    rw [wEnd_stop hk hw]
    exact ⟨Nat.le_refl _, hk, fun j h1 h2 => by omega, hw⟩
  | f + 1, k, hf, hk => by
    cases h : wordB (bt s k) with
    | false =>
      rw [wEnd_stop hk h]
      exact ⟨Nat.le_refl _, hk, fun j h1 h2 => by omega, h⟩
    | true =>
      rw [wEnd_go (by omega) h]
      obtain ⟨a, b, c, d⟩ := wEnd_spec s f (k + 1) (by omega) (by omega)
      refine ⟨by omega, b, fun j h1 h2 => ?_, d⟩
      by_cases e : j = k
      · subst e; exact h
      · exact c j (by omega) h2

/-! ### Remarks -/
def remAux (s : ByteArray) : Nat → Nat → Int → Nat → Nat
  | 0, _, _, _ => 0
  | f + 1, p, last, d =>
    if s.size ≤ p then 0
    else if last = 40 ∧ bt s p = 42 then remAux s f (p + 1) 0 (d + 1)
    else if last = 42 ∧ bt s p = 41 then (if d = 1 then p + 1 else remAux s f (p + 1) 41 (d - 1))
    else remAux s f (p + 1) (bt s p) d
/-- Where a remark ends that is d deep at byte p, the byte last ahead of it; 0 if nowhere. -/
def remB (s : ByteArray) (p : Nat) (last : Int) (d : Nat) : Nat := remAux s (s.size + 1 - p) p last d
theorem remB_end {s : ByteArray} {p : Nat} {last : Int} {d : Nat} (h : s.size ≤ p) : remB s p last d = 0 := by
  unfold remB
  cases e : s.size + 1 - p with
  | zero => rfl
  | succ f => simp only [remAux]; rw [if_pos h]
theorem remB_step {s : ByteArray} {p : Nat} {last : Int} {d : Nat} (h : p < s.size) : remB s p last d =
    if last = 40 ∧ bt s p = 42 then remB s (p + 1) 0 (d + 1) else if last = 42 ∧ bt s p = 41 then (if d = 1 then p + 1 else remB s (p + 1) 41 (d - 1)) else remB s (p + 1) (bt s p) d := by
  unfold remB
  obtain ⟨f, hf⟩ : ∃ f, s.size + 1 - p = f + 1 := ⟨s.size - p, by omega⟩
  have e : s.size + 1 - (p + 1) = f := by omega
  rw [hf, e]; simp only [remAux]; rw [if_neg (by omega)]
theorem remB_open {s : ByteArray} {p : Nat} {d : Nat} (h : p < s.size) (hb : bt s p = 42) : remB s p 40 d = remB s (p + 1) 0 (d + 1) := by
  rw [remB_step h, if_pos ⟨rfl, hb⟩]
theorem remB_shut {s : ByteArray} {p : Nat} {d : Nat} (h : p < s.size) (hb : bt s p = 41) : remB s p 42 d = if d = 1 then p + 1 else remB s (p + 1) 41 (d - 1) := by
  rw [remB_step h, if_neg (by omega), if_pos ⟨rfl, hb⟩]
theorem remB_pass {s : ByteArray} {p : Nat} {last : Int} {d : Nat} (h : p < s.size) (h1 : ¬ (last = 40 ∧ bt s p = 42)) (h2 : ¬ (last = 42 ∧ bt s p = 41)) : remB s p last d = remB s (p + 1) (bt s p) d := by
  rw [remB_step h, if_neg h1, if_neg h2]
/-- What stands ahead matters only where it is one of two signs. -/
theorem remB_any {s : ByteArray} {p : Nat} {x y : Int} {d : Nat} (hx : x ≠ 40 ∧ x ≠ 42) (hy : y ≠ 40 ∧ y ≠ 42) : remB s p x d = remB s p y d := by
  by_cases h : p < s.size
  · rw [remB_pass h (by omega) (by omega), remB_pass h (by omega) (by omega)]
  · rw [remB_end (by omega), remB_end (by omega)]
/-- Bytes of more than 127 are passed. -/
theorem remB_high (s : ByteArray) : ∀ (n p : Nat) (last : Int) (d : Nat) (y : Int), (∀ j, p ≤ j → j < p + (n + 1) → 128 ≤ bt s j) → p + (n + 1) ≤ s.size → (y ≠ 40 ∧ y ≠ 42) → remB s p last d = remB s (p + (n + 1)) y d
  | 0, p, last, d, y, h, hp, hy => by
    have h0 := h p (by omega) (by omega)
    rw [remB_pass (by omega) (by omega) (by omega)]
    exact remB_any (by omega) hy
  | n + 1, p, last, d, y, h, hp, hy => by
    have h0 := h p (by omega) (by omega)
    rw [remB_pass (by omega) (by omega) (by omega), remB_high s n (p + 1) _ d y (fun j a b => h j (by omega) (by omega)) (by omega) hy]
    rw [show p + 1 + (n + 1) = p + (n + 1 + 1) by omega]
/-- Where a remark ends lies within the text, behind a closing sign. -/
theorem remB_spec (s : ByteArray) : ∀ (f p : Nat) (last : Int) (d : Nat), s.size - p = f → remB s p last d ≠ 0 → p < remB s p last d ∧ remB s p last d ≤ s.size ∧ bt s (remB s p last d - 1) = 41
  | 0, p, last, d, hf, h => absurd (remB_end (by omega)) h
  | f + 1, p, last, d, hf, h => by
    have hp : p < s.size := by omega
    rw [remB_step hp] at h ⊢
    by_cases a : last = 40 ∧ bt s p = 42
    · rw [if_pos a] at h ⊢
      obtain ⟨x, y, z⟩ := remB_spec s f (p + 1) 0 (d + 1) (by omega) h
      exact ⟨by omega, y, z⟩
    · rw [if_neg a] at h ⊢
      by_cases b : last = 42 ∧ bt s p = 41
      · rw [if_pos b] at h ⊢
        by_cases c : d = 1
        · rw [if_pos c]
          exact ⟨by omega, by omega, by simpa using b.2⟩
        · rw [if_neg c] at h ⊢
          obtain ⟨x, y, z⟩ := remB_spec s f (p + 1) 41 (d - 1) (by omega) h
          exact ⟨by omega, y, z⟩
      · rw [if_neg b] at h ⊢
        obtain ⟨x, y, z⟩ := remB_spec s f (p + 1) (bt s p) d (by omega) h
        exact ⟨by omega, y, z⟩

/-! ### Numbers -/
/-- What the first k digits come to. -/
def numF (t : ByteArray) : Nat → Int
  | 0 => 0
  | k + 1 => numF t k * 10 + (bt t k - 48)
def allDig (t : ByteArray) : Bool := (List.range t.size).all fun j => digB (bt t j)
def numOK (t : ByteArray) : Bool := decide (1 ≤ t.size) && decide (t.size ≤ 18) && (decide (t.size = 1) || !(bt t 0 == 48)) && allDig t
def pw10 : Nat → Int
  | 0 => 1
  | k + 1 => pw10 k * 10
theorem allDig_iff {t : ByteArray} : allDig t = true ↔ ∀ j, j < t.size → digB (bt t j) = true := by
  unfold allDig; rw [List.all_eq_true]
  exact ⟨fun h j hj => h j (by simpa using hj), fun h j hj => h j (by simpa using hj)⟩
theorem digB_iff {n : Int} : digB n = true ↔ 48 ≤ n ∧ n ≤ 57 := by unfold digB; simp
theorem numF_bound {t : ByteArray} : ∀ k, (∀ j, j < k → digB (bt t j) = true) → 0 ≤ numF t k ∧ numF t k < pw10 k
  | 0, _ => by simp [numF, pw10]
  | k + 1, h => by
    have := numF_bound k (fun j hj => h j (by omega))
    have hd := digB_iff.1 (h k (by omega))
    simp only [numF, pw10]
    omega
theorem pw10_17 : ∀ k : Fin 18, pw10 k.val ≤ 100000000000000000 := by decide +kernel
theorem pw10_18 : ∀ k : Fin 19, pw10 k.val ≤ 1000000000000000000 := by decide +kernel

/-! ### Characters by number -/
def hexB (n : Int) : Bool := digB n || decide (65 ≤ n ∧ n ≤ 70)
def hexV (n : Int) : Int := if digB n = true then n - 48 else n - 55
def hexF (t : ByteArray) : Nat → Int
  | 0 => 0
  | k + 1 => hexF t k * 16 + hexV (bt t k)
def allHex (t : ByteArray) (n : Nat) : Bool := (List.range n).all fun j => hexB (bt t j)
theorem allHex_iff {t : ByteArray} {n : Nat} : allHex t n = true ↔ ∀ j, j < n → hexB (bt t j) = true := by
  unfold allHex; rw [List.all_eq_true]
  exact ⟨fun h j hj => h j (by simpa using hj), fun h j hj => h j (by simpa using hj)⟩
def lastX (t : ByteArray) : Bool := decide (1 ≤ t.size) && (bt t (t.size - 1) == 88)
def hexOK (t : ByteArray) : Bool := lastX t && decide (2 ≤ t.size) && decide (t.size ≤ 8) && allHex t (t.size - 1) && charB (hexF t (t.size - 1))
def pw16 : Nat → Int
  | 0 => 1
  | k + 1 => pw16 k * 16
theorem hexB_val {n : Int} (h : hexB n = true) : 0 ≤ hexV n ∧ hexV n ≤ 15 := by
  unfold hexB at h
  unfold hexV
  cases e : digB n
  · rw [e] at h; simp at h; rw [if_neg (by decide)]; omega
  · have := digB_iff.1 e; rw [if_pos rfl]; omega
theorem hexF_bound {t : ByteArray} : ∀ k, (∀ j, j < k → hexB (bt t j) = true) → 0 ≤ hexF t k ∧ hexF t k < pw16 k
  | 0, _ => by simp [hexF, pw16]
  | k + 1, h => by
    have := hexF_bound k (fun j hj => h j (by omega))
    have hd := hexB_val (h k (by omega))
    simp only [hexF, pw16]
    omega
theorem pw16_8 : ∀ k : Fin 9, pw16 k.val ≤ 4294967296 := by decide +kernel

/-! ### The rest of a text -/
theorem rest_size (s : ByteArray) (p : Nat) (hp : p ≤ s.size) : (s.extract p s.size).size = s.size - p := by
  rw [ByteArray.size_extract]; omega
theorem bt_rest (s : ByteArray) (p k : Nat) (hp : p ≤ s.size) : bt (s.extract p s.size) k = bt s (p + k) := by
  by_cases h : p + k < s.size
  · have h1 : k < (s.extract p s.size).size := by rw [rest_size s p hp]; omega
    rw [← get_bt s (p + k) h, ← get_bt _ k h1, ByteArray.getElem_extract]
  · rw [bt_end s (by omega), bt_end _ (by rw [rest_size s p hp]; omega)]
theorem wordAux_rest (s : ByteArray) (p : Nat) (hp : p ≤ s.size) : ∀ f k, wordAux (s.extract p s.size) f k + p = wordAux s f (p + k)
  | 0, k => by simp only [wordAux]; omega
  | f + 1, k => by
    simp only [wordAux]
    rw [bt_rest s p k hp]
    by_cases h : wordB (bt s (p + k)) = true
    · rw [if_pos h, if_pos h, wordAux_rest s p hp f (k + 1)]; rfl
    · rw [if_neg h, if_neg h]; omega
theorem wEnd_rest (s : ByteArray) (p k : Nat) (hp : p ≤ s.size) (hk : p + k ≤ s.size) : wEnd (s.extract p s.size) k + p = wEnd s (p + k) := by
  unfold wEnd
  rw [rest_size s p hp, show s.size - p + 1 - k = s.size + 1 - (p + k) by omega]
  exact wordAux_rest s p hp _ k
def shiftN (p v : Nat) : Nat := if v = 0 then 0 else p + v
theorem remAux_rest (s : ByteArray) (p : Nat) (hp : p ≤ s.size) : ∀ f k last d, remAux s f (p + k) last d = shiftN p (remAux (s.extract p s.size) f k last d)
  | 0, k, last, d => by simp [remAux, shiftN]
  | f + 1, k, last, d => by
    simp only [remAux]
    rw [bt_rest s p k hp, rest_size s p hp]
    by_cases h : s.size ≤ p + k
    · rw [if_pos h, if_pos (show s.size - p ≤ k by omega)]; rfl
    · rw [if_neg h, if_neg (show ¬ s.size - p ≤ k by omega)]
      by_cases a : last = 40 ∧ bt s (p + k) = 42
      · rw [if_pos a, if_pos a]; exact remAux_rest s p hp f (k + 1) 0 (d + 1)
      · rw [if_neg a, if_neg a]
        by_cases b : last = 42 ∧ bt s (p + k) = 41
        · rw [if_pos b, if_pos b]
          by_cases c : d = 1
          · rw [if_pos c, if_pos c]; unfold shiftN; rw [if_neg (by omega)]; rfl
          · rw [if_neg c, if_neg c]; exact remAux_rest s p hp f (k + 1) 41 (d - 1)
        · rw [if_neg b, if_neg b]; exact remAux_rest s p hp f (k + 1) _ d
theorem remB_rest (s : ByteArray) (p k : Nat) (last : Int) (d : Nat) (hp : p ≤ s.size) (_hk : p + k ≤ s.size) :
    remB s (p + k) last d = shiftN p (remB (s.extract p s.size) k last d) := by
  unfold remB
  rw [rest_size s p hp, show s.size - p + 1 - k = s.size + 1 - (p + k) by omega]
  exact remAux_rest s p hp _ k last d
end Go.Proofs.YtoocnpkhgnbepadDoor
