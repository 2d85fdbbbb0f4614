/- The sum of bytes: the program's, of 32 bits that wrap, and the model's, with its remainder. No condition. -/
import Derived.Test.YtoomnimbokbadaaDoorZByt
import Derived.Laws.BitsAllLaws
namespace Go.Proofs.YtoomnimbokbadaaDoor
open Go.RowKit

theorem i64_xor_nat (a b : Nat) (ha : a < 4294967296) (hb : b < 4294967296) : bits .xor .i64 (a : Int) (b : Int) = ((a ^^^ b : Nat) : Int) := by
  have hx : a ^^^ b < 2 ^ 32 := Nat.xor_lt_two_pow (by omega) (by omega)
  show IntKind.i64.wrap ((BitVec.ofInt 64 (a : Int) ^^^ BitVec.ofInt 64 (b : Int)).toNat : Int) = _
  simp only [BitVec.ofInt_natCast, BitVec.toNat_xor, BitVec.toNat_ofNat]
  rw [Nat.mod_eq_of_lt (show a < 2 ^ 64 by omega), Nat.mod_eq_of_lt (show b < 2 ^ 64 by omega), IntKind.wrap_i64]
  omega
def sumStep (x y : Int) : Int := ((x.toNat ^^^ y.toNat : Nat) : Int) * 16777619 % 4294967296
def sumF (l : List Int) : Int := l.foldl sumStep 2166136261
theorem sumStep_in (x y : Int) : 0 ≤ sumStep x y ∧ sumStep x y ≤ 4294967295 := by unfold sumStep; omega
theorem sum_u32 {x y : Int} (x0 : 0 ≤ x) (x1 : x ≤ 4294967295) (y0 : 0 ≤ y) (y1 : y ≤ 255) : bits .xor .u32 x y * 16777619 % 4294967296 = sumStep x y := by
  rw [u32_xor x y x0 (by omega) y0 (by omega)]
  rfl
theorem sum_i64 {x y : Int} (x0 : 0 ≤ x) (x1 : x ≤ 4294967295) (y0 : 0 ≤ y) (y1 : y ≤ 255) : (wrap64 (bits .xor .i64 x y * 16777619)).tmod 4294967296 = sumStep x y := by
  obtain ⟨A, rfl⟩ := Int.eq_ofNat_of_zero_le x0
  obtain ⟨B, rfl⟩ := Int.eq_ofNat_of_zero_le y0
  rw [i64_xor_nat A B (by omega) (by omega)]
  have hx : A ^^^ B < 2 ^ 32 := Nat.xor_lt_two_pow (by omega) (by omega)
  unfold sumStep
  simp only [Int.toNat_natCast]
  generalize A ^^^ B = c at *
  have hw : wrap64 ((c : Int) * 16777619) = (c : Int) * 16777619 := by unfold wrap64; omega
  have h0 : (0 : Int) ≤ (c : Int) * 16777619 := by omega
  rw [hw, Int.tmod_eq_emod_of_nonneg h0]
theorem ret_i64s {a b : Int} (h : a = b) : Ending.returned (.int .i64 a) = .returned (.int .i64 b) := by rw [h]
theorem sum_take {l : List Int} {k : Nat} (h : k < l.length) : sumF (l.take (k + 1)) = sumStep (sumF (l.take k)) l[k] := by
  unfold sumF
  rw [List.take_succ_eq_append_getElem h, List.foldl_append]
  rfl
def BytesAt (w : World) (a : Option Addr) (l : List Int) : Prop := ∀ i (h : i < l.length), ∃ b, a = some ⟨b, 0, none⟩ ∧ b < w.heap.size ∧ w.cell? ⟨b, i, none⟩ = some (.int .u8 l[i]) ∧ 0 ≤ l[i] ∧ l[i] ≤ 255
set_option maxHeartbeats 4000000 in
theorem sumOf_any (a : Option Addr) (c : Nat) (l : List Int) (w : World) (hl : l.length ≤ 1099511627776) (h : BytesAt w a l) :
    Calls Tryd.prog 29 #[.slice a l.length c] w fun e w' => e = .returned (.int .i64 (sumF l)) ∧ w = w' := by
  have H := hide h
  obtain ⟨n, hn⟩ : ∃ n, l.length = n := ⟨_, rfl⟩
  have HN := hide hn
  rw [hn] at hl ⊢
  clear h hn
  go_enter Tryd.func29, Tryd.ntmps29
  go_wp2
  go_loop [3, 8] (fun s i => ∃ (k : Nat) (x : Int), i = .int .i64 k ∧ k ≤ n ∧ s = .int .u32 x ∧ 0 ≤ x ∧ x ≤ 4294967295 ∧ Hid (x = sumF (l.take k))) (fun _ i => n - (intOf i).toNat)
  case atStart => exact ⟨0, _, rfl, by omega, rfl, by omega, by omega, rfl⟩
  case round =>
    obtain ⟨k, x, rfl, hk, rfl, x0, x1, Hx⟩ := hrel
    by_cases hp : k < n
    · have i1 : (k : Int) < n := by omega
      obtain ⟨b, rfl, _, hc, y0, y1⟩ := H.out k (by rw [HN.out]; exact hp)
      have HT := hide (sum_take (l := l) (k := k) (by rw [HN.out]; exact hp))
      rw [← Hx.out] at HT
      generalize l[k]'(by rw [HN.out]; exact hp) = y at *
      go_wp2
      go_round
      case rel =>
        have := sumStep_in x y
        exact ⟨k + 1, sumStep x y, by go_num, by omega, by rw [sum_u32 x0 x1 y0 y1], this.1, this.2, HT.out.symm⟩
      case measure => simp [intOf]; omega
    · have i1 : ¬ (k : Int) < n := by omega
      go_wp2
      go_ret
      refine ⟨ret_i64s ?_, rfl⟩
      rw [Hx.out, List.take_of_length_le (by have := HN.out; omega)]
set_option maxHeartbeats 4000000 in
theorem l03Sum_any (a : Option Addr) (c : Nat) (l : List Int) (w : World) (hl : l.length ≤ 1099511627776) (h : BytesAt w a l) :
    Calls Tryd.prog 30 #[.slice a l.length c] w fun e w' => e = .returned (.int .i64 (sumF l)) ∧ w = w' := by
  have H := hide h
  obtain ⟨n, hn⟩ : ∃ n, l.length = n := ⟨_, rfl⟩
  have HN := hide hn
  rw [hn] at hl ⊢
  clear h hn
  go_enter Tryd.func30, Tryd.ntmps30
  go_wp2
  go_loop [3, 4] (fun s i => ∃ (k : Nat) (x : Int), i = .int .i64 k ∧ k ≤ n ∧ s = .int .i64 x ∧ 0 ≤ x ∧ x ≤ 4294967295 ∧ Hid (x = sumF (l.take k))) (fun _ i => n - (intOf i).toNat)
  case atStart => exact ⟨0, _, rfl, by omega, rfl, by omega, by omega, rfl⟩
  case round =>
    obtain ⟨k, x, rfl, hk, rfl, x0, x1, Hx⟩ := hrel
    by_cases hp : k < n
    · have i1 : (k : Int) < n := by omega
      obtain ⟨b, rfl, _, hc, y0, y1⟩ := H.out k (by rw [HN.out]; exact hp)
      have HT := hide (sum_take (l := l) (k := k) (by rw [HN.out]; exact hp))
      rw [← Hx.out] at HT
      generalize l[k]'(by rw [HN.out]; exact hp) = y at *
      go_wp2
      go_round
      case rel =>
        have := sumStep_in x y
        exact ⟨k + 1, sumStep x y, by go_num, by omega, by rw [sum_i64 x0 x1 y0 y1], this.1, this.2, HT.out.symm⟩
      case measure => simp [intOf]; omega
    · have i1 : ¬ (k : Int) < n := by omega
      go_wp2
      go_ret
      refine ⟨ret_i64s ?_, rfl⟩
      rw [Hx.out, List.take_of_length_le (by have := HN.out; omega)]
end Go.Proofs.YtoomnimbokbadaaDoor
