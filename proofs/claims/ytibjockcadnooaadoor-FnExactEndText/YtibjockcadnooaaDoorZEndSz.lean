/- The law's own measure: what it lets through is small. No condition. -/
import Derived.Test.YtibjockcadnooaaDoorZEndD
namespace Go.Proofs.YtibjockcadnooaaDoor
open Go.RowKit

def OutSm (_ : OutD) : Prop := True
set_option maxHeartbeats 4000000 in
theorem szOutS_any (v : Value) (m : Md) (l : List OutD) (left : Int) (w : World) (h0 : 0 ≤ left) (h1 : left ≤ 1048576) (hn : l.length ≤ maxLen) (h : SlAt OutAt 2 w m v l) (_ : m.hi ≤ w.heap.size) :
    Calls Tryd.prog 9 #[v, .int .i64 left] w fun e w' => (∃ k : Int, e = .returned (.int .i64 k) ∧ -1 ≤ k ∧ k ≤ left ∧ (0 ≤ k → (l.length : Int) ≤ left ∧ ∀ x ∈ l, OutSm x)) ∧ Below w.heap.size w w' := by
  unfold maxLen at hn
  have HS := hide h
  obtain ⟨a, c, rfl, -⟩ := h
  obtain ⟨n, hl⟩ : ∃ n, l.length = n := ⟨_, rfl⟩
  have HN := hide hl
  rw [hl] at hn ⊢
  clear hl
  by_cases hb : left - n < 0
  · go_enter Tryd.func9, Tryd.ntmps9
    go_wp2
    go_ret
    exact ⟨⟨-1, rfl, by omega, by omega, by omega⟩, Below.refl _ _⟩
  · go_enter Tryd.func9, Tryd.ntmps9
    go_wp2
    go_ret
    exact ⟨⟨_, rfl, by omega, by omega, fun _ => ⟨by omega, fun _ _ => trivial⟩⟩, Below.refl _ _⟩
def ResultSm (x : ResultD) : Prop := x.out.length ≤ 1048576
set_option maxHeartbeats 4000000 in
theorem szResult_any (v : Value) (m : Md) (x : ResultD) (left : Int) (w : World) (h0 : 0 ≤ left) (h1 : left ≤ 1048576) (h : ResultVal w m v x) (hm : m.hi ≤ w.heap.size) :
    Calls Tryd.prog 4 #[v, .int .i64 left] w fun e w' => (∃ k : Int, e = .returned (.int .i64 k) ∧ -1 ≤ k ∧ k ≤ left ∧ (0 ≤ k → ResultSm x)) ∧ Below w.heap.size w w' := by
  obtain ⟨u2, rfl, hb, s2⟩ := h
  have HS2 := hide s2
  obtain ⟨p2, c2, rfl, -⟩ := s2
  obtain ⟨-, -, lb2, -⟩ := hb
  go_enter Tryd.func4, Tryd.ntmps4
  go_wp2_with (go_at_call 9; refine (szOutS_any _ m x.out _ _ (by omega) (by omega) lb2 (HS2.out.on OutAt.stays (Below.mono ((Below.refl w.heap.size w).alloc (Nat.le_refl _) _) hm)) (Nat.le_trans hm (Below.size ((Below.refl w.heap.size w).alloc (Nat.le_refl _) _)))).mono ?_; rintro e w2' ⟨⟨k2, rfl, ka2, kb2, kc2⟩, bel2⟩; have z2 : w.heap.size < w2'.heap.size := Nat.lt_of_lt_of_le (by simp) bel2.size; by_cases gk2 : k2 < 0)
  · go_wp2
    go_ret
    exact ⟨⟨-1, rfl, by omega, by omega, by omega⟩, (Below.trans ((Below.refl w.heap.size w).alloc (Nat.le_refl _) _) (Below.mono bel2 (Below.size ((Below.refl w.heap.size w).alloc (Nat.le_refl _) _))))⟩
  · go_wp2
    go_ret
    exact ⟨⟨_, rfl, by omega, by omega, fun hk0 => by
      unfold ResultSm
      exact by have := (kc2 (by omega)).1; omega⟩, (Below.trans ((Below.refl w.heap.size w).alloc (Nat.le_refl _) _) (Below.mono bel2 (Below.size ((Below.refl w.heap.size w).alloc (Nat.le_refl _) _))))⟩
end Go.Proofs.YtibjockcadnooaaDoor
