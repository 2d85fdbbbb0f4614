/- A character's bytes: the model's arithmetic and Go's own conversion are one, at every character. -/
import Derived.Test.YtlmkpngaiilldaaDoorConv
namespace Go.Proofs.YtlmkpngaiilldaaDoor
open Go.RowKit

/-- A number that is a character. -/
def charB (n : Int) : Bool := decide ((0 ≤ n ∧ n ≤ 55295) ∨ (57344 ≤ n ∧ n ≤ 1114111))
theorem charB_iff {n : Int} : charB n = true ↔ (0 ≤ n ∧ n ≤ 55295) ∨ (57344 ≤ n ∧ n ≤ 1114111) := by unfold charB; simp
theorem valid_of {c : Int} (h : charB c = true) : Utf8.valid c = true := by
  rw [charB_iff] at h
  unfold Utf8.valid
  simp
  omega

theorem enc1 {c : Int} (h : charB c = true) (h0 : 0 ≤ c) (h1 : c < 128) : Utf8.encode c = ⟨#[UInt8.ofNat c.toNat]⟩ := by
  unfold Utf8.encode
  rw [if_pos (valid_of h), if_pos (by omega)]
theorem enc2 {c : Int} (h : charB c = true) (h0 : 128 ≤ c) (h1 : c < 2048) : Utf8.encode c = ⟨#[UInt8.ofNat (192 + c / 64).toNat, UInt8.ofNat (128 + c % 64).toNat]⟩ := by
  unfold Utf8.encode
  obtain ⟨k, rfl⟩ := Int.eq_ofNat_of_zero_le (show 0 ≤ c by omega)
  rw [if_pos (valid_of h), if_neg (by omega), if_pos (by omega)]
  have e1 : (192 + (k : Int) / 64).toNat = 192 + (k : Int).toNat / 64 := by omega
  have e2 : (128 + (k : Int) % 64).toNat = 128 + (k : Int).toNat % 64 := by omega
  rw [e1, e2]
theorem enc3 {c : Int} (h : charB c = true) (h0 : 2048 ≤ c) (h1 : c < 65536) : Utf8.encode c = ⟨#[UInt8.ofNat (224 + c / 4096).toNat, UInt8.ofNat (128 + c / 64 % 64).toNat, UInt8.ofNat (128 + c % 64).toNat]⟩ := by
  unfold Utf8.encode
  obtain ⟨k, rfl⟩ := Int.eq_ofNat_of_zero_le (show 0 ≤ c by omega)
  rw [if_pos (valid_of h), if_neg (by omega), if_neg (by omega), if_pos (by omega)]
  have e1 : (224 + (k : Int) / 4096).toNat = 224 + (k : Int).toNat / 4096 := by omega
  have e2 : (128 + (k : Int) / 64 % 64).toNat = 128 + (k : Int).toNat / 64 % 64 := by omega
  have e3 : (128 + (k : Int) % 64).toNat = 128 + (k : Int).toNat % 64 := by omega
  rw [e1, e2, e3]
theorem enc4 {c : Int} (h : charB c = true) (h0 : 65536 ≤ c) (h1 : c ≤ 1114111) : Utf8.encode c = ⟨#[UInt8.ofNat (240 + c / 262144).toNat, UInt8.ofNat (128 + c / 4096 % 64).toNat, UInt8.ofNat (128 + c / 64 % 64).toNat, UInt8.ofNat (128 + c % 64).toNat]⟩ := by
  unfold Utf8.encode
  obtain ⟨k, rfl⟩ := Int.eq_ofNat_of_zero_le (show 0 ≤ c by omega)
  rw [if_pos (valid_of h), if_neg (by omega), if_neg (by omega), if_neg (by omega)]
  have e1 : (240 + (k : Int) / 262144).toNat = 240 + (k : Int).toNat / 262144 := by omega
  have e2 : (128 + (k : Int) / 4096 % 64).toNat = 128 + (k : Int).toNat / 4096 % 64 := by omega
  have e3 : (128 + (k : Int) / 64 % 64).toNat = 128 + (k : Int).toNat / 64 % 64 := by omega
  have e4 : (128 + (k : Int) % 64).toNat = 128 + (k : Int).toNat % 64 := by omega
  rw [e1, e2, e3, e4]

set_option maxRecDepth 100000 in
set_option maxHeartbeats 1600000 in
theorem l01Utf8_any (c : Int) (w : World) (h : charB c = true) : Calls Tryd.prog 45 #[.int .i64 c] w fun e w' => e = .returned (.string (Utf8.encode c)) ∧ Below w.heap.size w w' := by
  have hr := charB_iff.1 h
  have H : Hid (charB c = true) := h
  clear h
  have k1 := conv1
  have k2 := conv2
  have k3 := conv3
  have k4 := conv4
  have b0 : 0 ≤ c := by omega
  have b1 : c ≤ 1114111 := by omega
  clear hr
  by_cases h1 : c < 128
  · go_enter Tryd.func45, Tryd.ntmps45
    go_wp2
    go_ret
    exact ⟨ret_string (enc1 H.out b0 h1).symm, (Below.refl _ _).alloc (Nat.le_refl _) _⟩
  by_cases h2 : c < 2048
  · go_enter Tryd.func45, Tryd.ntmps45
    go_wp2
    go_ret
    exact ⟨ret_string (enc2 H.out (by omega) h2).symm, (Below.refl _ _).alloc (Nat.le_refl _) _⟩
  by_cases h3 : c < 65536
  · go_enter Tryd.func45, Tryd.ntmps45
    go_wp2
    go_ret
    exact ⟨ret_string (enc3 H.out (by omega) h3).symm, (Below.refl _ _).alloc (Nat.le_refl _) _⟩
  · go_enter Tryd.func45, Tryd.ntmps45
    go_wp2
    go_ret
    exact ⟨ret_string (enc4 H.out (by omega) b1).symm, (Below.refl _ _).alloc (Nat.le_refl _) _⟩
end Go.Proofs.YtlmkpngaiilldaaDoor
