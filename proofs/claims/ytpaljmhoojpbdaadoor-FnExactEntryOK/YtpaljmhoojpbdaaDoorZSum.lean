/- The sum of bytes: the program's, of 32 bits that wrap, and the model's, with its remainder. No condition. -/
import Derived.Test.YtpaljmhoojpbdaaDoorZBytA
import Derived.Deep.RegionHeld3
import Derived.Deep.AppendLies
import Derived.Laws.BitsAllLaws
/- The model's ways to lay texts and numbers into bytes; appending in a statement whose order is open. No condition. -/
namespace Go.Proofs.YtpaljmhoojpbdaaDoor
open Go.RowKit

theorem Own.form {w : World} {B : Nat} {v : Value} {l : List Int} (h : Own w B v l) (hl : 0 < l.length) : ∃ g c, v = .slice (some ⟨g, 0, none⟩) l.length c ∧ B ≤ g ∧ g < w.heap.size := World.ownsRow.form h hl
theorem Own.kept {w w' : World} {B : Nat} {u v : Value} {r : List Int} (h : Own w B u r) (hg : w.grownBy w' v.ownBlock) (hv : ∀ k, v.ownBlock = some k → k < B) : Own w' B u r := by
  refine ⟨h.1, ?_⟩
  rcases h.2 with h2 | ⟨g, cap, cur, e, hb, hgg, rr⟩
  · exact .inl h2
  · exact .inr ⟨g, cap, cur, e, hb, (hg.block g (Array.getElem?_eq_some_iff.1 hgg).1 (fun e => by have := hv g e.symm; omega)).trans hgg, rr⟩
theorem Own.block_lt {w : World} {B : Nat} {v : Value} {l : List Int} (h : Own w B v l) : ∀ k, v.ownBlock = some k → k < w.heap.size := by
  intro k hk
  rcases h.2 with ⟨rfl, _⟩ | ⟨g, cap, cur, rfl, hb, hg, _⟩
  · cases hk
  · cases hk
    exact (Array.getElem?_eq_some_iff.1 hg).1
theorem Own.drewn {w : World} {B : Nat} {v : Value} {l : List Int} (h : Own w B v l) : Own w.drew B v l := h
theorem three_drew {w : World} {b : Nat} (hb : b = w.heap.size) (x y z : Int) (T : TypeId) : ∀ j u, (bc [x, y, z])[j]? = some u → (w.alloc (.cells #[.int .u8 x, .int .u8 y, .int .u8 z] T)).drew.cell? ((⟨b, 0, none⟩ : Addr).add j) = some u := three_at hb x y z T
theorem one_drew {w : World} {b : Nat} (hb : b = w.heap.size) (x : Int) (T : TypeId) : ∀ j u, (bc [x])[j]? = some u → (w.alloc (.cells #[.int .u8 x] T)).drew.cell? ((⟨b, 0, none⟩ : Addr).add j) = some u := one_at hb x T
theorem step_bytes {w : World} {ops : Array Oper} {o : Oper} {a : Act} {K : Act → World → Prop} {Q : Exit → Act → World → Prop} {E : Prop} (hgd : o.guard = none) (s x : Operand)
    (ho : o.op = .call { callee := .builtin .append, args := #[s, x], argTypes := #[88, 88] }) (base : Nat) (v : Value) (l : List Int) (hs : a.eval s = v) (hown : Own w base v l)
    (ad : Addr) (m c : Nat) (new : List Int) (hx : a.eval x = .slice (some ad) m c) (hl : new.length = m) (hnews : ∀ j u, (bc new)[j]? = some u → w.cell? (ad.add j) = some u) (hm : 0 < m) (hb : l.length + m ≤ 140737488355328) (hbase : base ≤ w.heap.size)
    (h : ∀ g cap w', Own w' base (.slice (some ⟨g, 0, none⟩) (l.length + m) cap) (l ++ new) → w.grownBy w' v.ownBlock → Kp base w w' → K (a.put o.dst (.slice (some ⟨g, 0, none⟩) (l.length + m) cap)) w') :
    if Region.wanted o (yielded ops a.tmps) = true then Oper.wp Tryd.prog o a w K Q else E := by
  obtain ⟨i, hi, hz0, hz1, hz2⟩ := info_parts u8Info
  refine step_append_lies w hgd s x _ ho base 5 i (.int .u8 0) 1 1 Tryd.underlying88 hi hz0 hz1 hz2 rfl (by decide) v l.length (bc l) hs hown ad m c (bc new) hx (by rw [bc_len, hl, Nat.mul_one]) hnews (bc_one _) hm (by unfold maxLen; omega) (by omega) hbase _ rfl fun g cap w' h2 h3 _ _ => ?_
  refine h g cap w' ?_ h3 (Kp.of_grown h3 hown hbase)
  have e : (l ++ new).length = l.length + m := by rw [List.length_append, hl]
  unfold Own
  rw [e, bc_app]
  exact h2
set_option maxHeartbeats 4000000 in
theorem l03Eight_any (n : Int) (w : World) :
    Calls Tryd.prog 66 #[.int .i64 n] w fun e w' => (∃ u, e = .returned u ∧ Own w' w.heap.size u (numB n)) ∧ Below w.heap.size w w' := by
  have H := hide (Own.made w w.heap.size [] (Nat.le_refl _) (by unfold maxLen; simp))
  go_enter Tryd.func66, Tryd.ntmps66
  go_wp2
  go_loopw [3, 4] (fun b i wr => ∃ k : Nat, k ≤ 8 ∧ i = .int .i64 (7 - (k : Int)) ∧ Hid (Own wr w.heap.size b ((numB n).take k)) ∧ Kp w.heap.size w wr) (fun _ i _ => (intOf i + 1).toNat)
  case atStart => exact ⟨0, by omega, rfl, H.out, (Kp.refl _ _).alloc (Nat.le_refl _) _⟩
  case round =>
    obtain ⟨k, hk, rfl, Hk, hbw⟩ := hrel
    have hB' : w.heap.size ≤ wr.heap.size := hbw.size
    match k, hk with
    | 0, _ =>
      rw [show (7 : Int) - ((0 : Nat) : Int) = 7 from rfl]
      go_wp2_with (at_builtin; refine wp_append_bytes rfl _ _ rfl w.heap.size _ _ rfl (Hk.out.alloc _) ⟨wr.heap.size, 0, none⟩ 1 1 [n / 72057594037927936 % 256] rfl rfl (one_new _ _ _) (by simp [numB]) (by simp; omega) ?_; intro v1 w1 h1 b1)
      have HO := hide (show Own w1 w.heap.size v1 ((numB n).take 1) from own_step (l := []) (r := numB n) (k := 0) h1 (by rw [numB_len]; omega) rfl)
      have hbw1 := (hbw.alloc hB' _).trans b1
      clear h1 b1
      go_roundw
      case rel => exact ⟨1, by omega, rfl, HO, hbw1⟩
      case measure => simp [intOf]
    | 1, _ =>
      rw [show (7 : Int) - ((1 : Nat) : Int) = 6 from rfl]
      go_wp2_with (at_builtin; refine wp_append_bytes rfl _ _ rfl w.heap.size _ _ rfl (Hk.out.alloc _) ⟨wr.heap.size, 0, none⟩ 1 1 [n / 281474976710656 % 256] rfl rfl (one_new _ _ _) (by simp [numB]) (by simp; omega) ?_; intro v1 w1 h1 b1)
      have HO := hide (show Own w1 w.heap.size v1 ((numB n).take 2) from own_step (l := []) (r := numB n) (k := 1) h1 (by rw [numB_len]; omega) rfl)
      have hbw1 := (hbw.alloc hB' _).trans b1
      clear h1 b1
      go_roundw
      case rel => exact ⟨2, by omega, rfl, HO, hbw1⟩
      case measure => simp [intOf]
    | 2, _ =>
      rw [show (7 : Int) - ((2 : Nat) : Int) = 5 from rfl]
      go_wp2_with (at_builtin; refine wp_append_bytes rfl _ _ rfl w.heap.size _ _ rfl (Hk.out.alloc _) ⟨wr.heap.size, 0, none⟩ 1 1 [n / 1099511627776 % 256] rfl rfl (one_new _ _ _) (by simp [numB]) (by simp; omega) ?_; intro v1 w1 h1 b1)
      have HO := hide (show Own w1 w.heap.size v1 ((numB n).take 3) from own_step (l := []) (r := numB n) (k := 2) h1 (by rw [numB_len]; omega) rfl)
      have hbw1 := (hbw.alloc hB' _).trans b1
      clear h1 b1
      go_roundw
      case rel => exact ⟨3, by omega, rfl, HO, hbw1⟩
      case measure => simp [intOf]
    | 3, _ =>
      rw [show (7 : Int) - ((3 : Nat) : Int) = 4 from rfl]
      go_wp2_with (at_builtin; refine wp_append_bytes rfl _ _ rfl w.heap.size _ _ rfl (Hk.out.alloc _) ⟨wr.heap.size, 0, none⟩ 1 1 [n / 4294967296 % 256] rfl rfl (one_new _ _ _) (by simp [numB]) (by simp; omega) ?_; intro v1 w1 h1 b1)
      have HO := hide (show Own w1 w.heap.size v1 ((numB n).take 4) from own_step (l := []) (r := numB n) (k := 3) h1 (by rw [numB_len]; omega) rfl)
      have hbw1 := (hbw.alloc hB' _).trans b1
      clear h1 b1
      go_roundw
      case rel => exact ⟨4, by omega, rfl, HO, hbw1⟩
      case measure => simp [intOf]
    | 4, _ =>
      rw [show (7 : Int) - ((4 : Nat) : Int) = 3 from rfl]
      go_wp2_with (at_builtin; refine wp_append_bytes rfl _ _ rfl w.heap.size _ _ rfl (Hk.out.alloc _) ⟨wr.heap.size, 0, none⟩ 1 1 [n / 16777216 % 256] rfl rfl (one_new _ _ _) (by simp [numB]) (by simp; omega) ?_; intro v1 w1 h1 b1)
      have HO := hide (show Own w1 w.heap.size v1 ((numB n).take 5) from own_step (l := []) (r := numB n) (k := 4) h1 (by rw [numB_len]; omega) rfl)
      have hbw1 := (hbw.alloc hB' _).trans b1
      clear h1 b1
      go_roundw
      case rel => exact ⟨5, by omega, rfl, HO, hbw1⟩
      case measure => simp [intOf]
    | 5, _ =>
      rw [show (7 : Int) - ((5 : Nat) : Int) = 2 from rfl]
      go_wp2_with (at_builtin; refine wp_append_bytes rfl _ _ rfl w.heap.size _ _ rfl (Hk.out.alloc _) ⟨wr.heap.size, 0, none⟩ 1 1 [n / 65536 % 256] rfl rfl (one_new _ _ _) (by simp [numB]) (by simp; omega) ?_; intro v1 w1 h1 b1)
      have HO := hide (show Own w1 w.heap.size v1 ((numB n).take 6) from own_step (l := []) (r := numB n) (k := 5) h1 (by rw [numB_len]; omega) rfl)
      have hbw1 := (hbw.alloc hB' _).trans b1
      clear h1 b1
      go_roundw
      case rel => exact ⟨6, by omega, rfl, HO, hbw1⟩
      case measure => simp [intOf]
    | 6, _ =>
      rw [show (7 : Int) - ((6 : Nat) : Int) = 1 from rfl]
      go_wp2_with (at_builtin; refine wp_append_bytes rfl _ _ rfl w.heap.size _ _ rfl (Hk.out.alloc _) ⟨wr.heap.size, 0, none⟩ 1 1 [n / 256 % 256] rfl rfl (one_new _ _ _) (by simp [numB]) (by simp; omega) ?_; intro v1 w1 h1 b1)
      have HO := hide (show Own w1 w.heap.size v1 ((numB n).take 7) from own_step (l := []) (r := numB n) (k := 6) h1 (by rw [numB_len]; omega) rfl)
      have hbw1 := (hbw.alloc hB' _).trans b1
      clear h1 b1
      go_roundw
      case rel => exact ⟨7, by omega, rfl, HO, hbw1⟩
      case measure => simp [intOf]
    | 7, _ =>
      rw [show (7 : Int) - ((7 : Nat) : Int) = 0 from rfl]
      go_wp2_with (at_builtin; refine wp_append_bytes rfl _ _ rfl w.heap.size _ _ rfl (Hk.out.alloc _) ⟨wr.heap.size, 0, none⟩ 1 1 [n % 256] rfl rfl (one_new _ _ _) (by simp [numB]) (by simp; omega) ?_; intro v1 w1 h1 b1)
      have HO := hide (show Own w1 w.heap.size v1 ((numB n).take 8) from own_step (l := []) (r := numB n) (k := 7) h1 (by rw [numB_len]; omega) rfl)
      have hbw1 := (hbw.alloc hB' _).trans b1
      clear h1 b1
      go_roundw
      case rel => exact ⟨8, by omega, rfl, HO, hbw1⟩
      case measure => simp [intOf]
    | 8, _ =>
      rw [show (7 : Int) - ((8 : Nat) : Int) = -1 from rfl]
      go_wp2
      go_ret
      exact ⟨⟨_, rfl, Hk.out⟩, hbw.bel⟩
    | k + 9, hk => exact absurd hk (by omega)
end Go.Proofs.YtpaljmhoojpbdaaDoor

namespace Go.Proofs.YtpaljmhoojpbdaaDoor
open Go.RowKit

theorem i64_xor_nat (a b : Nat) (ha : a < 4294967296) (hb : b < 4294967296) : bits .xor .i64 (a : Int) (b : Int) = ((a ^^^ b : Nat) : Int) := by
  have hx : a ^^^ b < 2 ^ 32 := Nat.xor_lt_two_pow (by omega) (by omega)
  show IntKind.i64.wrap ((BitVec.ofInt 64 (a : Int) ^^^ BitVec.ofInt 64 (b : Int)).toNat : Int) = _
  simp only [BitVec.ofInt_natCast, BitVec.toNat_xor, BitVec.toNat_ofNat]
  rw [Nat.mod_eq_of_lt (show a < 2 ^ 64 by omega), Nat.mod_eq_of_lt (show b < 2 ^ 64 by omega), IntKind.wrap_i64]
  omega
def sumStep (x y : Int) : Int := ((x.toNat ^^^ y.toNat : Nat) : Int) * 16777619 % 4294967296
def sumF (l : List Int) : Int := l.foldl sumStep 2166136261
theorem sumStep_in (x y : Int) : 0 ≤ sumStep x y ∧ sumStep x y ≤ 4294967295 := by unfold sumStep; omega
theorem sum_u32 {x y : Int} (x0 : 0 ≤ x) (x1 : x ≤ 4294967295) (y0 : 0 ≤ y) (y1 : y ≤ 255) : bits .xor .u32 x y * 16777619 % 4294967296 = sumStep x y := by
  rw [u32_xor x y x0 (by omega) y0 (by omega)]
  rfl
theorem sum_i64 {x y : Int} (x0 : 0 ≤ x) (x1 : x ≤ 4294967295) (y0 : 0 ≤ y) (y1 : y ≤ 255) : (wrap64 (bits .xor .i64 x y * 16777619)).tmod 4294967296 = sumStep x y := by
  obtain ⟨A, rfl⟩ := Int.eq_ofNat_of_zero_le x0
  obtain ⟨B, rfl⟩ := Int.eq_ofNat_of_zero_le y0
  rw [i64_xor_nat A B (by omega) (by omega)]
  have hx : A ^^^ B < 2 ^ 32 := Nat.xor_lt_two_pow (by omega) (by omega)
  unfold sumStep
  simp only [Int.toNat_natCast]
  generalize A ^^^ B = c at *
  have hw : wrap64 ((c : Int) * 16777619) = (c : Int) * 16777619 := by unfold wrap64; omega
  have h0 : (0 : Int) ≤ (c : Int) * 16777619 := by omega
  rw [hw, Int.tmod_eq_emod_of_nonneg h0]
theorem ret_i64s {a b : Int} (h : a = b) : Ending.returned (.int .i64 a) = .returned (.int .i64 b) := by rw [h]
theorem sum_take {l : List Int} {k : Nat} (h : k < l.length) : sumF (l.take (k + 1)) = sumStep (sumF (l.take k)) l[k] := by
  unfold sumF
  rw [List.take_succ_eq_append_getElem h, List.foldl_append]
  rfl
def BytesAt (w : World) (a : Option Addr) (l : List Int) : Prop := ∀ i (h : i < l.length), ∃ b, a = some ⟨b, 0, none⟩ ∧ b < w.heap.size ∧ w.cell? ⟨b, i, none⟩ = some (.int .u8 l[i]) ∧ 0 ≤ l[i] ∧ l[i] ≤ 255
set_option maxHeartbeats 4000000 in
theorem sumOf_any (a : Option Addr) (c : Nat) (l : List Int) (w : World) (hl : l.length ≤ 1099511627776) (h : BytesAt w a l) :
    Calls Tryd.prog 104 #[.slice a l.length c] w fun e w' => e = .returned (.int .i64 (sumF l)) ∧ w = w' := by
  have H := hide h
  obtain ⟨n, hn⟩ : ∃ n, l.length = n := ⟨_, rfl⟩
  have HN := hide hn
  rw [hn] at hl ⊢
  clear h hn
  go_enter Tryd.func104, Tryd.ntmps104
  go_wp2
  go_loop [3, 8] (fun s i => ∃ (k : Nat) (x : Int), i = .int .i64 k ∧ k ≤ n ∧ s = .int .u32 x ∧ 0 ≤ x ∧ x ≤ 4294967295 ∧ Hid (x = sumF (l.take k))) (fun _ i => n - (intOf i).toNat)
  case atStart => exact ⟨0, _, rfl, by omega, rfl, by omega, by omega, rfl⟩
  case round =>
    obtain ⟨k, x, rfl, hk, rfl, x0, x1, Hx⟩ := hrel
    by_cases hp : k < n
    · have i1 : (k : Int) < n := by omega
      obtain ⟨b, rfl, _, hc, y0, y1⟩ := H.out k (by rw [HN.out]; exact hp)
      have HT := hide (sum_take (l := l) (k := k) (by rw [HN.out]; exact hp))
      rw [← Hx.out] at HT
      generalize l[k]'(by rw [HN.out]; exact hp) = y at *
      go_wp2
      go_round
      case rel =>
        have := sumStep_in x y
        exact ⟨k + 1, sumStep x y, by go_num, by omega, by rw [sum_u32 x0 x1 y0 y1], this.1, this.2, HT.out.symm⟩
      case measure => simp [intOf]; omega
    · have i1 : ¬ (k : Int) < n := by omega
      go_wp2
      go_ret
      refine ⟨ret_i64s ?_, rfl⟩
      rw [Hx.out, List.take_of_length_le (by have := HN.out; omega)]
set_option maxHeartbeats 4000000 in
theorem l03Sum_any (a : Option Addr) (c : Nat) (l : List Int) (w : World) (hl : l.length ≤ 1099511627776) (h : BytesAt w a l) :
    Calls Tryd.prog 67 #[.slice a l.length c] w fun e w' => e = .returned (.int .i64 (sumF l)) ∧ w = w' := by
  have H := hide h
  obtain ⟨n, hn⟩ : ∃ n, l.length = n := ⟨_, rfl⟩
  have HN := hide hn
  rw [hn] at hl ⊢
  clear h hn
  go_enter Tryd.func67, Tryd.ntmps67
  go_wp2
  go_loop [3, 4] (fun s i => ∃ (k : Nat) (x : Int), i = .int .i64 k ∧ k ≤ n ∧ s = .int .i64 x ∧ 0 ≤ x ∧ x ≤ 4294967295 ∧ Hid (x = sumF (l.take k))) (fun _ i => n - (intOf i).toNat)
  case atStart => exact ⟨0, _, rfl, by omega, rfl, by omega, by omega, rfl⟩
  case round =>
    obtain ⟨k, x, rfl, hk, rfl, x0, x1, Hx⟩ := hrel
    by_cases hp : k < n
    · have i1 : (k : Int) < n := by omega
      obtain ⟨b, rfl, _, hc, y0, y1⟩ := H.out k (by rw [HN.out]; exact hp)
      have HT := hide (sum_take (l := l) (k := k) (by rw [HN.out]; exact hp))
      rw [← Hx.out] at HT
      generalize l[k]'(by rw [HN.out]; exact hp) = y at *
      go_wp2
      go_round
      case rel =>
        have := sumStep_in x y
        exact ⟨k + 1, sumStep x y, by go_num, by omega, by rw [sum_i64 x0 x1 y0 y1], this.1, this.2, HT.out.symm⟩
      case measure => simp [intOf]; omega
    · have i1 : ¬ (k : Int) < n := by omega
      go_wp2
      go_ret
      refine ⟨ret_i64s ?_, rfl⟩
      rw [Hx.out, List.take_of_length_le (by have := HN.out; omega)]
end Go.Proofs.YtpaljmhoojpbdaaDoor
