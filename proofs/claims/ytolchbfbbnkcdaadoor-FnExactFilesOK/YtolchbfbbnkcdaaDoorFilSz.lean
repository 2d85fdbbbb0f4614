/- The law's own measure: what it lets through is small. No condition. -/
import Derived.Test.YtolchbfbbnkcdaaDoorFilD
namespace Go.Proofs.YtolchbfbbnkcdaaDoor
open Go.RowKit

def FileSm (_ : FileD) : Prop := True
set_option maxHeartbeats 4000000 in
theorem szFile_any (v : Value) (m : Md) (x : FileD) (left : Int) (w : World) (h0 : 0 ≤ left) (h1 : left ≤ 1048576) (h : FileVal w m v x) (_ : m.hi ≤ w.heap.size) :
    Calls Tryd.prog 9 #[v, .int .i64 left] w fun e w' => (∃ k : Int, e = .returned (.int .i64 k) ∧ -1 ≤ k ∧ k ≤ left ∧ (0 ≤ k → FileSm x)) ∧ Below w.heap.size w w' := by
  obtain ⟨rfl, hb⟩ := h
  obtain ⟨lb0, lb1⟩ := hb
  unfold maxLen at lb0
  unfold maxLen at lb1
  by_cases g0 : left - (x.name.size : Int) < 0
  · go_enter Tryd.func9, Tryd.ntmps9
    go_wp2
    go_ret
    exact ⟨⟨-1, rfl, by omega, by omega, by omega⟩, (Below.refl w.heap.size w).alloc (Nat.le_refl _) _⟩
  · by_cases g1 : (left - (x.name.size : Int)) - (x.text.size : Int) < 0
    · go_enter Tryd.func9, Tryd.ntmps9
      go_wp2
      go_ret
      exact ⟨⟨-1, rfl, by omega, by omega, by omega⟩, (Below.refl w.heap.size w).alloc (Nat.le_refl _) _⟩
    · go_enter Tryd.func9, Tryd.ntmps9
      go_wp2
      go_ret
      exact ⟨⟨_, rfl, by omega, by omega, fun hk0 => trivial⟩, (Below.refl w.heap.size w).alloc (Nat.le_refl _) _⟩
set_option maxHeartbeats 4000000 in
theorem szFileS_any (v : Value) (m : Md) (l : List FileD) (left : Int) (w : World) (h0 : 0 ≤ left) (h1 : left ≤ 1048576) (hn : l.length ≤ maxLen) (h : SlAt FileAt 2 w m v l) (hm : m.hi ≤ w.heap.size) :
    Calls Tryd.prog 4 #[v, .int .i64 left] w fun e w' => (∃ k : Int, e = .returned (.int .i64 k) ∧ -1 ≤ k ∧ k ≤ left ∧ (0 ≤ k → (l.length : Int) ≤ left ∧ ∀ x ∈ l, FileSm x)) ∧ Below w.heap.size w w' := by
  unfold maxLen at hn
  have HS := hide h
  obtain ⟨a, c, rfl, -⟩ := h
  obtain ⟨n, hl⟩ : ∃ n, l.length = n := ⟨_, rfl⟩
  have HN := hide hl
  rw [hl] at hn ⊢
  clear hl
  by_cases hb : left - n < 0
  · go_enter Tryd.func4, Tryd.ntmps4
    go_wp2
    go_ret
    exact ⟨⟨-1, rfl, by omega, by omega, by omega⟩, Below.refl _ _⟩
  · go_enter Tryd.func4, Tryd.ntmps4
    go_wp2
    go_loopw [1, 5] (fun q i wr => ∃ (k : Nat) (L : Int), i = .int .i64 k ∧ q = .int .i64 L ∧ k ≤ n ∧ 0 ≤ L ∧ L ≤ left - n ∧ Hid (∀ x ∈ l.take k, FileSm x) ∧ Below w.heap.size w wr) (fun _ i _ => n - (intOf i).toNat)
    case atStart => exact ⟨0, _, rfl, rfl, by omega, by omega, by omega, hide (fun x hx => by simp at hx), Below.refl _ _⟩
    case round =>
      obtain ⟨k, L, rfl, rfl, hk, hL, hL2, Hs, hbw⟩ := hrel
      by_cases hp : k < n
      · have i1 : (k : Int) < n := by omega
        obtain ⟨x, hx⟩ : ∃ x, l[k]'(by rw [HN.out]; exact hp) = x := ⟨_, rfl⟩
        obtain ⟨a', c', e', hrows⟩ := HS.out.on FileAt.stays (hbw.mono hm)
        cases e'
        obtain ⟨b, o, rfl, hb1, hb2, -, he⟩ := hrows k (by rw [HN.out]; exact hp)
        have HX := hide hx
        rw [hx] at he
        clear hx hrows
        obtain ⟨⟨d0, d1⟩, hbd⟩ := he
        have HVal := hide (show FileVal wr (m.inner b) (.agg #[.string (x.name), .string (x.text)]) x from ⟨rfl, hbd⟩)
        simp only [Nat.add_zero] at d0 d1
        clear hbd
        go_wp2_with (go_at_call 9; refine (szFile_any _ (m.inner b) x L wr hL (by omega) HVal.out (by rw [Md.inner_hi]; exact Nat.le_trans hm hbw.size)).mono ?_; rintro e w' ⟨⟨q, rfl, q1, q2, q3⟩, bel⟩; by_cases hq : q < 0)
        · go_wp2
          go_ret
          exact ⟨⟨-1, rfl, by omega, by omega, by omega⟩, hbw.trans (bel.mono hbw.size)⟩
        · go_wp2
          go_roundw
          case rel =>
            refine ⟨k + 1, q, by go_num, rfl, by omega, by omega, by omega, hide fun y hy => ?_, hbw.trans (bel.mono hbw.size)⟩
            rw [List.take_succ_eq_append_getElem (by rw [HN.out]; exact hp), HX.out] at hy
            rcases List.mem_append.1 hy with e | e
            · exact Hs.out y e
            · obtain rfl := List.mem_singleton.1 e
              exact q3 (by omega)
          case measure => simp [intOf]; omega
      · have i1 : ¬ (k : Int) < n := by omega
        go_wp2
        go_ret
        exact ⟨⟨L, rfl, by omega, by omega, fun _ => ⟨by omega, fun y hy => Hs.out y (by rw [List.take_of_length_le (by have := HN.out; omega)]; exact hy)⟩⟩, hbw⟩
end Go.Proofs.YtolchbfbbnkcdaaDoor
