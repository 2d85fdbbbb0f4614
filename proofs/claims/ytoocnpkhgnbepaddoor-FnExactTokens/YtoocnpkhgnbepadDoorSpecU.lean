/- Which character stands at a place: the way that tries one, two, three and four bytes, and the way that decodes. Plain: no program. -/
import Derived.Test.YtoocnpkhgnbepadDoorImplH
import Derived.Lib.MapLaws
namespace Go.Proofs.YtoocnpkhgnbepadDoor
open Go.RowKit Go.PlainAid

def lead (b : Int) : Int := if b < 128 then b else if 240 ≤ b then b % 8 else if 224 ≤ b then b % 16 else b % 32
/-- What k bytes behind the first come to, with it. -/
def candL (t : ByteArray) (p : Nat) : Nat → Int
  | 0 => lead (bt t p)
  | k + 1 => candL t p k * 64 + bt t (p + k + 1) % 64
theorem candL_lo (t : ByteArray) (p : Nat) : ∀ k, 0 ≤ candL t p k
  | 0 => by
    have := bt_nonneg t p
    unfold candL lead
    repeat' split
    all_goals omega
  | k + 1 => by
    have := candL_lo t p k
    have := bt_nonneg t (p + k + 1)
    simp only [candL]; omega
theorem lead_hi (t : ByteArray) (p : Nat) : lead (bt t p) ≤ 127 := by
  have := bt_nonneg t p
  unfold lead
  repeat' split
  all_goals omega
theorem candL_hi (t : ByteArray) (p : Nat) (k : Nat) (h : k < 4) : candL t p k ≤ 40000000 := by
  have h0 := lead_hi t p
  have h1 := bt_le t (p + 0 + 1)
  have h2 := bt_le t (p + 1 + 1)
  have h3 := bt_le t (p + 2 + 1)
  match k, h with
  | 0, _ => simp only [candL]; omega
  | 1, _ => simp only [candL]; omega
  | 2, _ => simp only [candL]; omega
  | 3, _ => simp only [candL]; omega

theorem bt_slice (t : ByteArray) (p n j : Nat) (h : p + n ≤ t.size) (hj : j < n) : bt (t.extract p (p + n)) j = bt t (p + j) := by
  have h1 : j < (t.extract p (p + n)).size := by rw [ByteArray.size_extract]; omega
  rw [← get_bt t (p + j) (by omega), ← get_bt _ j h1, ByteArray.getElem_extract]
theorem slice_size (t : ByteArray) (p n : Nat) (h : p + n ≤ t.size) : (t.extract p (p + n)).size = n := by rw [ByteArray.size_extract]; omega
theorem eq_slice {a t : ByteArray} {p n : Nat} (h : p + n ≤ t.size) (hs : a.size = n) (hb : ∀ j, j < n → bt a j = bt t (p + j)) : a = t.extract p (p + n) := by
  apply ByteArray.ext_getElem
  · rw [hs, slice_size t p n h]
  · intro j h1 h2
    have e := hb j (by omega)
    rw [← bt_slice t p n j h (by omega), ← get_bt _ j h1, ← get_bt _ j h2] at e
    exact UInt8.toNat_inj.1 (by omega)
theorem ofNat_toNat {a : Int} (h0 : 0 ≤ a) (h1 : a ≤ 255) : ((UInt8.ofNat a.toNat).toNat : Int) = a := by
  have e : (UInt8.ofNat a.toNat).toNat = a.toNat % 256 := rfl
  rw [e]; omega
theorem bt_lit (l : List Int) (k : Nat) (a : Int) (hk : l[k]? = some a) (h0 : 0 ≤ a) (h1 : a ≤ 255) : bt ⟨(l.map fun n => UInt8.ofNat n.toNat).toArray⟩ k = a := by
  rw [bt_list]
  simp only [List.getElem?_map, hk, Option.map_some]
  exact ofNat_toNat h0 h1
theorem bt_lits (l : List Int) (m : ByteArray) (hm : m = ⟨(l.map fun n => UInt8.ofNat n.toNat).toArray⟩) (k : Nat) (a : Int) (hk : l[k]? = some a) (h0 : 0 ≤ a) (h1 : a ≤ 255) : bt m k = a := by
  rw [hm]; exact bt_lit l k a hk h0 h1
theorem size_lits (l : List Int) (m : ByteArray) (hm : m = ⟨(l.map fun n => UInt8.ofNat n.toNat).toArray⟩) : m.size = l.length := by
  rw [hm]; simp [ByteArray.size]
set_option maxRecDepth 100000 in
set_option maxHeartbeats 1600000 in
theorem enc_bytes {c : Int} (h : charB c = true) :
    (0 ≤ c ∧ c < 128 ∧ (Utf8.encode c).size = 1 ∧ bt (Utf8.encode c) 0 = c) ∨
    (128 ≤ c ∧ c < 2048 ∧ (Utf8.encode c).size = 2 ∧ bt (Utf8.encode c) 0 = 192 + c / 64 ∧ bt (Utf8.encode c) 1 = 128 + c % 64) ∨
    (2048 ≤ c ∧ c < 65536 ∧ (Utf8.encode c).size = 3 ∧ bt (Utf8.encode c) 0 = 224 + c / 4096 ∧ bt (Utf8.encode c) 1 = 128 + c / 64 % 64 ∧ bt (Utf8.encode c) 2 = 128 + c % 64) ∨
    (65536 ≤ c ∧ c ≤ 1114111 ∧ (Utf8.encode c).size = 4 ∧ bt (Utf8.encode c) 0 = 240 + c / 262144 ∧ bt (Utf8.encode c) 1 = 128 + c / 4096 % 64 ∧ bt (Utf8.encode c) 2 = 128 + c / 64 % 64 ∧ bt (Utf8.encode c) 3 = 128 + c % 64) := by
  have hr := charB_iff.1 h
  by_cases h1 : c < 128
  · have e := enc1 h (by omega) h1
    have b := bt_lits [c] _ e
    exact .inl ⟨by omega, h1, size_lits [c] _ e, b 0 _ rfl (by omega) (by omega)⟩
  by_cases h2 : c < 2048
  · have e := enc2 h (by omega) h2
    have b := bt_lits [192 + c / 64, 128 + c % 64] _ e
    exact .inr (.inl ⟨by omega, h2, size_lits [192 + c / 64, 128 + c % 64] _ e, b 0 _ rfl (by omega) (by omega), b 1 _ rfl (by omega) (by omega)⟩)
  by_cases h3 : c < 65536
  · have e := enc3 h (by omega) h3
    have b := bt_lits [224 + c / 4096, 128 + c / 64 % 64, 128 + c % 64] _ e
    exact .inr (.inr (.inl ⟨by omega, h3, size_lits [224 + c / 4096, 128 + c / 64 % 64, 128 + c % 64] _ e, b 0 _ rfl (by omega) (by omega), b 1 _ rfl (by omega) (by omega), b 2 _ rfl (by omega) (by omega)⟩))
  · have e := enc4 h (by omega) (by omega)
    have b := bt_lits [240 + c / 262144, 128 + c / 4096 % 64, 128 + c / 64 % 64, 128 + c % 64] _ e
    exact .inr (.inr (.inr ⟨by omega, by omega, size_lits [240 + c / 262144, 128 + c / 4096 % 64, 128 + c / 64 % 64, 128 + c % 64] _ e, b 0 _ rfl (by omega) (by omega), b 1 _ rfl (by omega) (by omega), b 2 _ rfl (by omega) (by omega), b 3 _ rfl (by omega) (by omega)⟩))

/-- The four bytes of a place as numbers. -/
theorem bang_bt (t : ByteArray) (k : Nat) : ((t.get! k).toNat : Int) = bt t k := by
  by_cases h : k < t.size
  · exact get_bang t k h
  · rw [bang_out t k h, bt_end t (by omega)]; rfl
/-- A try of n bytes that fits. -/
def Fits (t : ByteArray) (p n : Nat) : Prop := charB (candL t p (n - 1)) = true ∧ Utf8.encode (candL t p (n - 1)) = t.extract p (p + n)
set_option maxRecDepth 100000 in
set_option maxHeartbeats 1600000 in
theorem fits_fwd (t : ByteArray) (p n : Nat) (h1 : 1 ≤ n) (h4 : n ≤ 4) (h : p + n ≤ t.size) (hf : Fits t p n) : brokenB (Utf8.decode t p) = false ∧ (Utf8.decode t p).2 = n ∧ ((Utf8.decode t p).1 : Int) = candL t p (n - 1) := by
  obtain ⟨hc, he⟩ := hf
  have hs : (Utf8.encode (candL t p (n - 1))).size = n := by rw [he, slice_size t p n h]
  have hb : ∀ j, j < n → bt (Utf8.encode (candL t p (n - 1))) j = bt t (p + j) := fun j hj => by rw [he, bt_slice t p n j h hj]
  have hr := charB_iff.1 hc
  have he := enc_bytes hc
  rw [Lib.decode_at]
  have g0 := bang_bt t p
  have g1 := bang_bt t (p + 1)
  have g2 := bang_bt t (p + 2)
  have g3 := bang_bt t (p + 3)
  have l0 := bt_le t p
  have l1 := bt_le t (p + 1)
  have l2 := bt_le t (p + 2)
  have l3 := bt_le t (p + 3)
  generalize (t.get! p).toNat = b0 at *
  generalize (t.get! (p + 1)).toNat = b1 at *
  generalize (t.get! (p + 2)).toNat = b2 at *
  generalize (t.get! (p + 3)).toNat = b3 at *
  have e0 := hb 0 (by omega)
  rw [Nat.add_zero, ← g0] at e0
  match n, h1, h4 with
  | 1, _, _ =>
    have hl : candL t p (1 - 1) = lead b0 := by rw [g0]; rfl
    rw [hl] at *
    rcases he with ⟨_, a2, _, a4⟩ | ⟨_, _, a3, _⟩ | ⟨_, _, a3, _⟩ | ⟨_, _, a3, _⟩
    · rw [a4] at e0
      have hlt : b0 < 128 := by omega
      rw [Lib.decodeN_ascii _ _ _ _ _ hlt]
      refine ⟨?_, rfl, by show (b0 : Int) = lead b0; unfold lead; rw [if_pos (by omega)]⟩
      unfold brokenB; simp; omega
    all_goals omega
  | 2, _, _ =>
    have e1 := hb 1 (by omega)
    rw [← g1] at e1
    have hl : candL t p (2 - 1) = lead b0 * 64 + (b1 : Int) % 64 := by rw [g0, g1]; rfl
    rw [hl] at *
    rcases he with ⟨_, _, a3, _⟩ | ⟨a1, a2, _, a4, a5⟩ | ⟨_, _, a3, _⟩ | ⟨_, _, a3, _⟩
    · omega
    · rw [a4] at e0
      rw [a5] at e1
      have hb0 : 192 ≤ b0 ∧ b0 < 224 := by omega
      have hv : lead b0 = (b0 : Int) % 32 := by unfold lead; rw [if_neg (by omega), if_neg (by omega), if_neg (by omega)]
      rw [hv] at *
      have hd : Lib.decodeN (t.size - p) b0 b1 b2 b3 = (b0 % 32 * 64 + b1 % 64, 2) := by
        unfold Lib.decodeN
        rw [if_neg (by omega), if_pos (by omega), if_pos (by omega)]
      rw [hd]
      refine ⟨?_, rfl, by simp only []; omega⟩
      unfold brokenB; simp
    all_goals omega
  | 3, _, _ =>
    have e1 := hb 1 (by omega)
    rw [← g1] at e1
    have e2 := hb 2 (by omega)
    rw [← g2] at e2
    have hl : candL t p (3 - 1) = (lead b0 * 64 + (b1 : Int) % 64) * 64 + (b2 : Int) % 64 := by rw [g0, g1, g2]; rfl
    rw [hl] at *
    rcases he with ⟨_, _, a3, _⟩ | ⟨_, _, a3, _⟩ | ⟨a1, a2, _, a4, a5, a6⟩ | ⟨_, _, a3, _⟩
    · omega
    · omega
    · rw [a4] at e0
      rw [a5] at e1
      rw [a6] at e2
      have hb0 : 224 ≤ b0 ∧ b0 < 240 := by omega
      have hv : lead b0 = (b0 : Int) % 16 := by unfold lead; rw [if_neg (by omega), if_neg (by omega), if_pos (by omega)]
      rw [hv] at *
      have hd : Lib.decodeN (t.size - p) b0 b1 b2 b3 = (b0 % 16 * 4096 + b1 % 64 * 64 + b2 % 64, 3) := by
        unfold Lib.decodeN
        rw [if_neg (by omega), if_neg (by omega), if_pos (by omega), if_pos (by omega)]
      rw [hd]
      refine ⟨?_, rfl, by simp only []; omega⟩
      unfold brokenB; simp
    · omega
  | 4, _, _ =>
    have e1 := hb 1 (by omega)
    rw [← g1] at e1
    have e2 := hb 2 (by omega)
    rw [← g2] at e2
    have e3 := hb 3 (by omega)
    rw [← g3] at e3
    have hl : candL t p (4 - 1) = ((lead b0 * 64 + (b1 : Int) % 64) * 64 + (b2 : Int) % 64) * 64 + (b3 : Int) % 64 := by rw [g0, g1, g2, g3]; rfl
    rw [hl] at *
    rcases he with ⟨_, _, a3, _⟩ | ⟨_, _, a3, _⟩ | ⟨_, _, a3, _⟩ | ⟨a1, a2, _, a4, a5, a6, a7⟩
    · omega
    · omega
    · omega
    · rw [a4] at e0
      rw [a5] at e1
      rw [a6] at e2
      rw [a7] at e3
      have hb0 : 240 ≤ b0 ∧ b0 < 248 := by omega
      have hv : lead b0 = (b0 : Int) % 8 := by unfold lead; rw [if_neg (by omega), if_pos (by omega)]
      rw [hv] at *
      have hd : Lib.decodeN (t.size - p) b0 b1 b2 b3 = (b0 % 8 * 262144 + b1 % 64 * 4096 + b2 % 64 * 64 + b3 % 64, 4) := by
        unfold Lib.decodeN
        rw [if_neg (by omega), if_neg (by omega), if_neg (by omega), if_pos (by omega), if_pos (by omega)]
      rw [hd]
      refine ⟨?_, rfl, by simp only []; omega⟩
      unfold brokenB; simp
set_option maxRecDepth 100000 in
set_option maxHeartbeats 1600000 in
theorem fits_bwd (t : ByteArray) (p : Nat) (h : p < t.size) (hb : brokenB (Utf8.decode t p) = false) : 1 ≤ (Utf8.decode t p).2 ∧ (Utf8.decode t p).2 ≤ 4 ∧ p + (Utf8.decode t p).2 ≤ t.size ∧ Fits t p (Utf8.decode t p).2 := by
  rw [Lib.decode_at] at hb ⊢
  have g0 := bang_bt t p
  have g1 := bang_bt t (p + 1)
  have g2 := bang_bt t (p + 2)
  have g3 := bang_bt t (p + 3)
  have l0 := bt_le t p
  have l1 := bt_le t (p + 1)
  have l2 := bt_le t (p + 2)
  have l3 := bt_le t (p + 3)
  generalize (t.get! p).toNat = b0 at *
  generalize (t.get! (p + 1)).toNat = b1 at *
  generalize (t.get! (p + 2)).toNat = b2 at *
  generalize (t.get! (p + 3)).toNat = b3 at *
  rcases Lib.decodeN_shape (t.size - p) b0 b1 b2 b3 with ⟨a1, e⟩ | ⟨a1, a2, a3, a4, e⟩ | ⟨a1, a2, a3, a4, a5, a6, e⟩ | ⟨a1, a2, a3, a4, a5, a6, a7, e⟩ | e
  · rw [e]
    refine ⟨by omega, by omega, by omega, ?_⟩
    have hl : candL t p (1 - 1) = (b0 : Int) := by
      show lead (bt t p) = _
      rw [← g0]; unfold lead; rw [if_pos (by omega)]
    have hc : charB (candL t p (1 - 1)) = true := by rw [hl]; exact charB_iff.2 (by omega)
    refine ⟨hc, ?_⟩
    have he := enc_bytes hc
    rw [hl] at he
    rcases he with ⟨_, _, c3, c4⟩ | ⟨c1, _⟩ | ⟨c1, _⟩ | ⟨c1, _⟩
    · rw [hl]
      refine eq_slice (by omega) c3 fun j hj => ?_
      match j, hj with
      | 0, _ => rw [c4]; exact g0
    all_goals omega
  · rw [e]
    refine ⟨by omega, by omega, by simp only []; omega, ?_⟩
    have hl : candL t p (2 - 1) = (b0 : Int) % 32 * 64 + (b1 : Int) % 64 := by
      show lead (bt t p) * 64 + bt t (p + 1) % 64 = _
      rw [← g0, ← g1]; unfold lead; rw [if_neg (by omega), if_neg (by omega), if_neg (by omega)]
    have hc : charB (candL t p (2 - 1)) = true := by rw [hl]; exact charB_iff.2 (by omega)
    refine ⟨hc, ?_⟩
    have he := enc_bytes hc
    rw [hl] at he
    rcases he with ⟨_, c1, _⟩ | ⟨_, _, c3, c4, c5⟩ | ⟨c1, _⟩ | ⟨c1, _⟩
    · omega
    · rw [hl]
      refine eq_slice (by simp only []; omega) c3 fun j hj => ?_
      match j, hj with
      | 0, _ => rw [c4, Nat.add_zero, ← g0]; omega
      | 1, _ => rw [c5, ← g1]; omega
    all_goals omega
  · rw [e]
    refine ⟨by omega, by omega, by simp only []; omega, ?_⟩
    have hl : candL t p (3 - 1) = ((b0 : Int) % 16 * 64 + (b1 : Int) % 64) * 64 + (b2 : Int) % 64 := by
      show (lead (bt t p) * 64 + bt t (p + 1) % 64) * 64 + bt t (p + 2) % 64 = _
      rw [← g0, ← g1, ← g2]; unfold lead; rw [if_neg (by omega), if_neg (by omega), if_pos (by omega)]
    have hc : charB (candL t p (3 - 1)) = true := by rw [hl]; exact charB_iff.2 (by omega)
    refine ⟨hc, ?_⟩
    have he := enc_bytes hc
    rw [hl] at he
    rcases he with ⟨_, c1, _⟩ | ⟨_, c1, _⟩ | ⟨_, _, c3, c4, c5, c6⟩ | ⟨c1, _⟩
    · omega
    · omega
    · rw [hl]
      refine eq_slice (by simp only []; omega) c3 fun j hj => ?_
      match j, hj with
      | 0, _ => rw [c4, Nat.add_zero, ← g0]; omega
      | 1, _ => rw [c5, ← g1]; omega
      | 2, _ => rw [c6, ← g2]; omega
    · omega
  · rw [e]
    refine ⟨by omega, by omega, by simp only []; omega, ?_⟩
    have hl : candL t p (4 - 1) = (((b0 : Int) % 8 * 64 + (b1 : Int) % 64) * 64 + (b2 : Int) % 64) * 64 + (b3 : Int) % 64 := by
      show ((lead (bt t p) * 64 + bt t (p + 1) % 64) * 64 + bt t (p + 2) % 64) * 64 + bt t (p + 3) % 64 = _
      rw [← g0, ← g1, ← g2, ← g3]; unfold lead; rw [if_neg (by omega), if_pos (by omega)]
    have hc : charB (candL t p (4 - 1)) = true := by rw [hl]; exact charB_iff.2 (by omega)
    refine ⟨hc, ?_⟩
    have he := enc_bytes hc
    rw [hl] at he
    rcases he with ⟨_, c1, _⟩ | ⟨_, c1, _⟩ | ⟨_, c1, _⟩ | ⟨_, _, c3, c4, c5, c6, c7⟩
    · omega
    · omega
    · omega
    · rw [hl]
      refine eq_slice (by simp only []; omega) c3 fun j hj => ?_
      match j, hj with
      | 0, _ => rw [c4, Nat.add_zero, ← g0]; omega
      | 1, _ => rw [c5, ← g1]; omega
      | 2, _ => rw [c6, ← g2]; omega
      | 3, _ => rw [c7, ← g3]; omega
  · rw [e] at hb
    exact absurd hb (by decide)
end Go.Proofs.YtoocnpkhgnbepadDoor
