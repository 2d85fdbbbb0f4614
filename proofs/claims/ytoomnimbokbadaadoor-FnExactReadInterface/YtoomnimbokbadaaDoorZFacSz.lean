/- The law's own measure of an interface: what it lets through is small. No condition. -/
import Derived.Test.YtoomnimbokbadaaDoorZFac
namespace Go.Proofs.YtoomnimbokbadaaDoor
open Go.RowKit

theorem szParamS_any (a : Option Addr) (n c : Nat) (left : Int) (w : World) (h0 : 0 ≤ left) (h1 : left ≤ 1048576) (hn : n ≤ maxLen) :
    Calls Tryd.prog 74 #[.slice a n c, .int .i64 left] w fun e w' => (∃ k : Int, e = .returned (.int .i64 k) ∧ -1 ≤ k ∧ k ≤ left ∧ (0 ≤ k → (n : Int) ≤ left)) ∧ w = w' := by
  unfold maxLen at hn
  by_cases h : left - n < 0
  · go_enter Tryd.func74, Tryd.ntmps74
    go_wp2
    go_ret
    exact ⟨⟨-1, rfl, by omega, by omega, by omega⟩, rfl⟩
  · go_enter Tryd.func74, Tryd.ntmps74
    go_wp2
    go_ret
    exact ⟨⟨_, rfl, by omega, by omega, by omega⟩, rfl⟩
set_option maxHeartbeats 1000000 in
theorem szItem_any (x0 x1 x2 x3 : Int) (s : ByteArray) (a : Option Addr) (n c : Nat) (left : Int) (w : World) (h0 : 0 ≤ left) (h1 : left ≤ 1048576) (hs : s.size ≤ maxLen) (hn : n ≤ maxLen) :
    Calls Tryd.prog 58 #[.agg #[.int .i64 x0, .int .i64 x1, .int .i64 x2, .int .i64 x3, .string s, .slice a n c], .int .i64 left] w fun e w' => (∃ k : Int, e = .returned (.int .i64 k) ∧ -1 ≤ k ∧ k ≤ left ∧ (0 ≤ k → (n : Int) ≤ left)) ∧ Below w.heap.size w w' := by
  have hs' := hs
  unfold maxLen at hs'
  by_cases h : left - s.size < 0
  · go_enter Tryd.func58, Tryd.ntmps58
    go_wp2
    go_ret
    exact ⟨⟨-1, rfl, by omega, by omega, by omega⟩, (Below.refl _ _).alloc (Nat.le_refl _) _⟩
  · go_enter Tryd.func58, Tryd.ntmps58
    go_wp2_with (go_at_call 74; refine (szParamS_any _ _ _ _ _ (by omega) (by omega) hn).mono ?_; rintro e w' ⟨⟨k, rfl, k1, k2, k3⟩, rfl⟩; by_cases hk : k < 0)
    · go_wp2
      go_ret
      exact ⟨⟨-1, rfl, by omega, by omega, by omega⟩, (Below.refl _ _).alloc (Nat.le_refl _) _⟩
    · go_wp2
      go_ret
      exact ⟨⟨_, rfl, by omega, by omega, by omega⟩, (Below.refl _ _).alloc (Nat.le_refl _) _⟩
set_option maxHeartbeats 4000000 in
theorem szItemS_any (v : Value) (m : Md) (l : List Itm) (left : Int) (w : World) (h0 : 0 ≤ left) (h1 : left ≤ 1048576) (hn : l.length ≤ maxLen) (h : SlAt ItmAt 6 w m v l) (hm : m.hi ≤ w.heap.size) :
    Calls Tryd.prog 34 #[v, .int .i64 left] w fun e w' => (∃ k : Int, e = .returned (.int .i64 k) ∧ -1 ≤ k ∧ k ≤ left ∧ (0 ≤ k → (l.length : Int) ≤ left ∧ ∀ x ∈ l, (x.params.length : Int) ≤ left)) ∧ Below w.heap.size w w' := by
  unfold maxLen at hn
  obtain ⟨a, c, rfl, h⟩ := h
  have H : Hid (∀ i (h : i < l.length), ∃ b o, a = some ⟨b, o, none⟩ ∧ (m.lo ≤ b ∧ l.length ≤ c) ∧ b < m.hi ∧ (m.made = true → ∀ j, w.frozen? ⟨b, j, none⟩ = false) ∧ ItmAt (fun j => w.cell? ⟨b, o + i * 6 + j, none⟩) w (m.inner b) l[i]) := h
  obtain ⟨n, hl⟩ : ∃ n, l.length = n := ⟨_, rfl⟩
  have HN : Hid (l.length = n) := hl
  rw [hl] at hn ⊢
  clear h hl
  by_cases hb : left - n < 0
  · go_enter Tryd.func34, Tryd.ntmps34
    go_wp2
    go_ret
    exact ⟨⟨-1, rfl, by omega, by omega, by omega⟩, Below.refl _ _⟩
  · go_enter Tryd.func34, Tryd.ntmps34
    go_wp2
    go_loopw [1, 5] (fun q i wr => ∃ (k : Nat) (L : Int), i = .int .i64 k ∧ q = .int .i64 L ∧ k ≤ n ∧ 0 ≤ L ∧ L ≤ left - n ∧ Hid (∀ x ∈ l.take k, (x.params.length : Int) ≤ left) ∧ Below w.heap.size w wr) (fun _ i _ => n - (intOf i).toNat)
    case atStart => exact ⟨0, _, rfl, rfl, by omega, by omega, by omega, (fun x hx => by simp at hx), Below.refl _ _⟩
    case round =>
      obtain ⟨k, L, rfl, rfl, hk, hL, hL2, Hs, hbw⟩ := hrel
      by_cases hp : k < n
      · have i1 : (k : Int) < n := by omega
        obtain ⟨x, hx⟩ : ∃ x, l[k]'(by rw [HN.out]; exact hp) = x := ⟨_, rfl⟩
        obtain ⟨b, o, rfl, hb1, hb2, _, he⟩ := rows_on ItmAt.stays H.out (hbw.mono hm) k (by rw [HN.out]; exact hp)
        have HX : Hid (l[k]'(by rw [HN.out]; exact hp) = x) := hx
        rw [hx] at he
        clear hx
        obtain ⟨⟨c0, c1, c2, c3, c4⟩, ⟨_, _, _, _, r4, r5⟩, u, c5, a', c', rfl, _⟩ := he
        simp only [Nat.add_zero] at c0
        go_wp2_with (go_at_call 58; refine (szItem_any _ _ _ _ _ _ _ _ _ _ hL (by omega) r4 r5).mono ?_; rintro e w' ⟨⟨q, rfl, q1, q2, q3⟩, bel⟩; by_cases hq : q < 0)
        · go_wp2
          go_ret
          exact ⟨⟨-1, rfl, by omega, by omega, by omega⟩, hbw.trans (bel.mono hbw.size)⟩
        · go_wp2
          go_roundw
          case rel =>
            refine ⟨k + 1, q, by go_num, rfl, by omega, by omega, by omega, fun y hy => ?_, hbw.trans (bel.mono hbw.size)⟩
            rw [List.take_succ_eq_append_getElem (by rw [HN.out]; exact hp), HX.out] at hy
            rcases List.mem_append.1 hy with e | e
            · exact Hs.out y e
            · obtain rfl := List.mem_singleton.1 e
              have := q3 (by omega)
              omega
          case measure => simp [intOf]; omega
      · have i1 : ¬ (k : Int) < n := by omega
        go_wp2
        go_ret
        exact ⟨⟨L, rfl, by omega, by omega, fun _ => ⟨by omega, fun y hy => Hs.out y (by rw [List.take_of_length_le (by have := HN.out; omega)]; exact hy)⟩⟩, hbw⟩
/-- What the measure lets through. -/
def Small (x : Fac) : Prop := x.items.length ≤ 1048576 ∧ ∀ y ∈ x.items, y.params.length ≤ 1048576
set_option maxHeartbeats 1000000 in
theorem szInterface_any (v : Value) (m : Md) (x : Fac) (w : World) (h : FacAt w m v x) (hm : m.hi ≤ w.heap.size) :
    Calls Tryd.prog 14 #[v, .int .i64 1048576] w fun e w' => (∃ k : Int, e = .returned (.int .i64 k) ∧ (0 ≤ k → Small x)) ∧ Below w.heap.size w w' := by
  obtain ⟨u, rfl, hs, hn, hu⟩ := h
  obtain ⟨s, hsx⟩ : ∃ s, x.module = s := ⟨_, rfl⟩
  have hs' := hs
  unfold maxLen at hs'
  rw [hsx] at hs hs' ⊢
  clear hsx
  by_cases h : 1048576 - (s.size : Int) < 0
  · go_enter Tryd.func14, Tryd.ntmps14
    go_wp2
    go_ret
    exact ⟨⟨-1, rfl, by omega⟩, (Below.refl _ _).alloc (Nat.le_refl _) _⟩
  · go_enter Tryd.func14, Tryd.ntmps14
    go_wp2_with (go_at_call 34; refine (szItemS_any _ m x.items _ _ (by omega) (by omega) hn (hu.on ItmAt.stays (((Below.refl _ _).alloc (Nat.le_refl _) _).mono hm)) (by simp; omega)).mono ?_; rintro e w' ⟨⟨k, rfl, k1, k2, k3⟩, bel⟩; by_cases hk : k < 0)
    · go_wp2
      go_ret
      exact ⟨⟨-1, rfl, by omega⟩, ((Below.refl _ _).alloc (Nat.le_refl _) _).trans (bel.mono (by simp))⟩
    · go_wp2
      go_ret
      exact ⟨⟨_, rfl, fun h => ⟨by have := (k3 (by omega)).1; omega, fun y hy => by have := (k3 (by omega)).2 y hy; omega⟩⟩, ((Below.refl _ _).alloc (Nat.le_refl _) _).trans (bel.mono (by simp))⟩
end Go.Proofs.YtoomnimbokbadaaDoor
