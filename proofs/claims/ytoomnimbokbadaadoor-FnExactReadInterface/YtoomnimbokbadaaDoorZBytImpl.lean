/- The program's ways to lay texts and numbers into bytes. No condition. -/
import Derived.Test.YtoomnimbokbadaaDoorZByt
import Derived.Test.YtoomnimbokbadaaDoorZFac
namespace Go.Proofs.YtoomnimbokbadaaDoor
open Go.RowKit

def txtB (s : ByteArray) : List Int := ((s.size : Int) % 256) :: sb s
set_option maxHeartbeats 1000000 in
theorem appendText_any (B : Nat) (v : Value) (l : List Int) (s : ByteArray) (w : World) (h : Own w B v l) (hB : B ≤ w.heap.size) (hl : l.length ≤ 1099511627776) (hs : s.size ≤ 1099511627776) :
    Calls Tryd.prog 49 #[v, .string s] w fun e w' => (∃ u, e = .returned u ∧ Own w' B u (l ++ txtB s)) ∧ Kp B w w' := by
  have H := hide h
  clear h
  go_enter Tryd.func49, Tryd.ntmps49
  go_wp2_with (first
    | (at_builtin; refine wp_append_bytes rfl _ _ rfl B v l rfl (H.out.alloc _) ⟨w.heap.size, 0, none⟩ 1 1 [(s.size : Int) % 256] rfl rfl (one_new _ _ _) (by omega) (by simp; omega) ?_; intro v1 w1 h1 b1)
    | (at_builtin; refine wp_append_text rfl _ _ rfl B v1 _ rfl h1 s rfl (by simp; omega) (by have := b1.size; simp at this; omega) ?_; intro v2 w2 h2 b2))
  go_ret
  refine ⟨⟨_, rfl, ?_⟩, ((Kp.refl _ _).alloc hB _).trans (b1.trans b2)⟩
  unfold txtB
  rw [List.append_assoc] at h2
  exact h2
set_option maxHeartbeats 1000000 in
theorem appendText_full (B : Nat) (v : Value) (l : List Int) (s : ByteArray) (w : World) (h : Full w v l) (hB : B ≤ w.heap.size) (hl : l.length ≤ 1099511627776) (hs : s.size ≤ 1099511627776) :
    Calls Tryd.prog 49 #[v, .string s] w fun e w' => (∃ u, e = .returned u ∧ Own w' B u (l ++ txtB s)) ∧ Kp B w w' := by
  have H := hide h
  clear h
  go_enter Tryd.func49, Tryd.ntmps49
  go_wp2_with (first
    | (at_builtin; refine wp_append_full rfl _ _ rfl B v l rfl (H.out.alloc _) ⟨w.heap.size, 0, none⟩ 1 1 [(s.size : Int) % 256] rfl rfl (one_new _ _ _) (by decide) (by omega) (by simp; omega) ?_; intro v1 w1 h1 b1)
    | (at_builtin; refine wp_append_text rfl _ _ rfl B v1 _ rfl h1 s rfl (by simp; omega) (by have := b1.size; simp at this; omega) ?_; intro v2 w2 h2 b2))
  go_ret
  refine ⟨⟨_, rfl, ?_⟩, ((Kp.refl _ _).alloc hB _).trans (b1.trans b2)⟩
  unfold txtB
  rw [List.append_assoc] at h2
  exact h2
def numB (n : Int) : List Int := [n / 72057594037927936 % 256, n / 281474976710656 % 256, n / 1099511627776 % 256, n / 4294967296 % 256, n / 16777216 % 256, n / 65536 % 256, n / 256 % 256, n % 256]
theorem numB_len (n : Int) : (numB n).length = 8 := rfl
theorem own_step {w : World} {B : Nat} {v : Value} {l r : List Int} {k : Nat} {x : Int} (h : Own w B v (l ++ r.take k ++ [x])) (hk : k < r.length) (e : r[k] = x) : Own w B v (l ++ r.take (k + 1)) := by
  rw [List.take_succ_eq_append_getElem hk, e, ← List.append_assoc]
  exact h
set_option maxHeartbeats 4000000 in
theorem appendNumber_any (B : Nat) (v : Value) (l : List Int) (n : Int) (w : World) (h : Own w B v l) (hB : B ≤ w.heap.size) (hl : l.length ≤ 1099511627776) :
    Calls Tryd.prog 50 #[v, .int .i64 n] w fun e w' => (∃ u, e = .returned u ∧ Own w' B u (l ++ numB n)) ∧ Kp B w w' := by
  have H := hide h
  clear h
  go_enter Tryd.func50, Tryd.ntmps50
  go_wp2
  go_loopw [0, 5] (fun b i wr => ∃ k : Nat, k ≤ 8 ∧ i = .int .i64 (56 - 8 * (k : Int)) ∧ Hid (Own wr B b (l ++ (numB n).take k)) ∧ Kp B w wr) (fun _ i _ => (intOf i + 8).toNat)
  case atStart => exact ⟨0, by omega, rfl, by rw [List.take_zero, List.append_nil]; exact H.out, Kp.refl _ _⟩
  case round =>
    obtain ⟨k, hk, rfl, Hk, hbw⟩ := hrel
    have hB' : B ≤ wr.heap.size := Nat.le_trans hB hbw.size
    match k, hk with
    | 0, _ =>
      rw [show (56 : Int) - 8 * ((0 : Nat) : Int) = 56 from rfl]
      go_wp2_with (at_builtin; refine wp_append_bytes rfl _ _ rfl B _ _ rfl (Hk.out.alloc _) ⟨wr.heap.size, 0, none⟩ 1 1 [n / 72057594037927936 % 256] rfl rfl (one_new _ _ _) (by simp [numB]; omega) (by simp; omega) ?_; intro v1 w1 h1 b1)
      have HO := hide (own_step h1 (by rw [numB_len]; omega) rfl)
      have hbw1 := (hbw.alloc hB' _).trans b1
      clear h1 b1
      go_roundw
      case rel => exact ⟨1, by omega, rfl, HO, hbw1⟩
      case measure => simp [intOf]
    | 1, _ =>
      rw [show (56 : Int) - 8 * ((1 : Nat) : Int) = 48 from rfl]
      go_wp2_with (at_builtin; refine wp_append_bytes rfl _ _ rfl B _ _ rfl (Hk.out.alloc _) ⟨wr.heap.size, 0, none⟩ 1 1 [n / 281474976710656 % 256] rfl rfl (one_new _ _ _) (by simp [numB]; omega) (by simp; omega) ?_; intro v1 w1 h1 b1)
      have HO := hide (own_step h1 (by rw [numB_len]; omega) rfl)
      have hbw1 := (hbw.alloc hB' _).trans b1
      clear h1 b1
      go_roundw
      case rel => exact ⟨2, by omega, rfl, HO, hbw1⟩
      case measure => simp [intOf]
    | 2, _ =>
      rw [show (56 : Int) - 8 * ((2 : Nat) : Int) = 40 from rfl]
      go_wp2_with (at_builtin; refine wp_append_bytes rfl _ _ rfl B _ _ rfl (Hk.out.alloc _) ⟨wr.heap.size, 0, none⟩ 1 1 [n / 1099511627776 % 256] rfl rfl (one_new _ _ _) (by simp [numB]; omega) (by simp; omega) ?_; intro v1 w1 h1 b1)
      have HO := hide (own_step h1 (by rw [numB_len]; omega) rfl)
      have hbw1 := (hbw.alloc hB' _).trans b1
      clear h1 b1
      go_roundw
      case rel => exact ⟨3, by omega, rfl, HO, hbw1⟩
      case measure => simp [intOf]
    | 3, _ =>
      rw [show (56 : Int) - 8 * ((3 : Nat) : Int) = 32 from rfl]
      go_wp2_with (at_builtin; refine wp_append_bytes rfl _ _ rfl B _ _ rfl (Hk.out.alloc _) ⟨wr.heap.size, 0, none⟩ 1 1 [n / 4294967296 % 256] rfl rfl (one_new _ _ _) (by simp [numB]; omega) (by simp; omega) ?_; intro v1 w1 h1 b1)
      have HO := hide (own_step h1 (by rw [numB_len]; omega) rfl)
      have hbw1 := (hbw.alloc hB' _).trans b1
      clear h1 b1
      go_roundw
      case rel => exact ⟨4, by omega, rfl, HO, hbw1⟩
      case measure => simp [intOf]
    | 4, _ =>
      rw [show (56 : Int) - 8 * ((4 : Nat) : Int) = 24 from rfl]
      go_wp2_with (at_builtin; refine wp_append_bytes rfl _ _ rfl B _ _ rfl (Hk.out.alloc _) ⟨wr.heap.size, 0, none⟩ 1 1 [n / 16777216 % 256] rfl rfl (one_new _ _ _) (by simp [numB]; omega) (by simp; omega) ?_; intro v1 w1 h1 b1)
      have HO := hide (own_step h1 (by rw [numB_len]; omega) rfl)
      have hbw1 := (hbw.alloc hB' _).trans b1
      clear h1 b1
      go_roundw
      case rel => exact ⟨5, by omega, rfl, HO, hbw1⟩
      case measure => simp [intOf]
    | 5, _ =>
      rw [show (56 : Int) - 8 * ((5 : Nat) : Int) = 16 from rfl]
      go_wp2_with (at_builtin; refine wp_append_bytes rfl _ _ rfl B _ _ rfl (Hk.out.alloc _) ⟨wr.heap.size, 0, none⟩ 1 1 [n / 65536 % 256] rfl rfl (one_new _ _ _) (by simp [numB]; omega) (by simp; omega) ?_; intro v1 w1 h1 b1)
      have HO := hide (own_step h1 (by rw [numB_len]; omega) rfl)
      have hbw1 := (hbw.alloc hB' _).trans b1
      clear h1 b1
      go_roundw
      case rel => exact ⟨6, by omega, rfl, HO, hbw1⟩
      case measure => simp [intOf]
    | 6, _ =>
      rw [show (56 : Int) - 8 * ((6 : Nat) : Int) = 8 from rfl]
      go_wp2_with (at_builtin; refine wp_append_bytes rfl _ _ rfl B _ _ rfl (Hk.out.alloc _) ⟨wr.heap.size, 0, none⟩ 1 1 [n / 256 % 256] rfl rfl (one_new _ _ _) (by simp [numB]; omega) (by simp; omega) ?_; intro v1 w1 h1 b1)
      have HO := hide (own_step h1 (by rw [numB_len]; omega) rfl)
      have hbw1 := (hbw.alloc hB' _).trans b1
      clear h1 b1
      go_roundw
      case rel => exact ⟨7, by omega, rfl, HO, hbw1⟩
      case measure => simp [intOf]
    | 7, _ =>
      rw [show (56 : Int) - 8 * ((7 : Nat) : Int) = 0 from rfl]
      go_wp2_with (at_builtin; refine wp_append_bytes rfl _ _ rfl B _ _ rfl (Hk.out.alloc _) ⟨wr.heap.size, 0, none⟩ 1 1 [n % 256] rfl rfl (one_new _ _ _) (by simp [numB]; omega) (by simp; omega) ?_; intro v1 w1 h1 b1)
      have HO := hide (own_step h1 (by rw [numB_len]; omega) rfl)
      have hbw1 := (hbw.alloc hB' _).trans b1
      clear h1 b1
      go_roundw
      case rel => exact ⟨8, by omega, rfl, HO, hbw1⟩
      case measure => simp [intOf]
    | 8, _ =>
      rw [show (56 : Int) - 8 * ((8 : Nat) : Int) = -8 from rfl]
      go_wp2
      go_ret
      exact ⟨⟨_, rfl, Hk.out⟩, hbw⟩
    | k + 9, hk => exact absurd hk (by omega)
set_option maxHeartbeats 1000000 in
theorem paramByte_any (a : Int) (t : Bool) (w : World) : Calls Tryd.prog 51 #[.agg #[.int .i64 a, .bool t]] w fun e w' => e = .returned (.int .u8 (if t then (a % 256 + 8) % 256 else a % 256)) ∧ Below w.heap.size w w' := by
  cases t
  · go_enter Tryd.func51, Tryd.ntmps51
    go_wp2
    go_ret
    exact ⟨rfl, (Below.refl _ _).alloc (Nat.le_refl _) _⟩
  · go_enter Tryd.func51, Tryd.ntmps51
    go_wp2
    go_ret
    exact ⟨rfl, (Below.refl _ _).alloc (Nat.le_refl _) _⟩
end Go.Proofs.YtoomnimbokbadaaDoor
