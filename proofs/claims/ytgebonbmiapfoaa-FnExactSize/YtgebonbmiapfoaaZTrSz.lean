/- The law's measure of a tree. No condition. -/
import Derived.Test.YtgebonbmiapfoaaZTrD
namespace Go.Proofs.Ytgebonbmiapfoaa
open Go.ChangeShapes Go.WideShapes Go.ChangeAt Go.RowKit Go.Deep

/-- The measure of a tree: what is left tells how many nodes it has. -/
def SzN (h : Nat) : Prop := ∀ (v : Value) (m : Md) (x : NodeD) (left : Int) (w : World), 0 ≤ left → left ≤ 1048576 → NodeVal h w m v x → m.hi ≤ w.heap.size →
    Calls Try.prog 4 #[v, .int .i64 left] w fun e w' => (∃ k : Int, e = .returned (.int .i64 k) ∧ -1 ≤ k ∧ k ≤ left ∧ (0 ≤ k → k + (kidsSz x.kids : Int) ≤ left)) ∧ Below w.heap.size w w'
def SzNS (h : Nat) : Prop := ∀ (v : Value) (m : Md) (l : List NodeD) (left : Int) (w : World), 0 ≤ left → left ≤ 1048576 → l.length ≤ maxLen → SlAt (NodeAt h) 5 w m v l → m.hi ≤ w.heap.size →
    Calls Try.prog 9 #[v, .int .i64 left] w fun e w' => (∃ k : Int, e = .returned (.int .i64 k) ∧ -1 ≤ k ∧ k ≤ left ∧ (0 ≤ k → k + (kidsSz l : Int) ≤ left)) ∧ Below w.heap.size w w'
set_option maxHeartbeats 4000000 in
theorem szNode_of (h : Nat) (hS : SzNS h) : SzN h := by
  intro v m x left w h0 h1 hv hm
  obtain ⟨u4, rfl, hb, s4⟩ := hv
  have HS4 := hide s4
  obtain ⟨p4, c4, rfl, -⟩ := s4
  obtain ⟨-, -, lb2, lb3, lb4⟩ := hb
  unfold maxLen at lb2
  unfold maxLen at lb3
  by_cases g2 : left - (x.name.size : Int) < 0
  · go_enter Try.func4, Try.ntmps4
    go_wp2
    go_ret
    exact ⟨⟨-1, rfl, by omega, by omega, by omega⟩, (Below.refl w.heap.size w).alloc (Nat.le_refl _) _⟩
  · by_cases g3 : (left - (x.name.size : Int)) - (x.of.size : Int) < 0
    · go_enter Try.func4, Try.ntmps4
      go_wp2
      go_ret
      exact ⟨⟨-1, rfl, by omega, by omega, by omega⟩, (Below.refl w.heap.size w).alloc (Nat.le_refl _) _⟩
    · go_enter Try.func4, Try.ntmps4
      go_wp2_with (go_at_call 9; refine (hS _ m x.kids _ _ (by omega) (by omega) lb4 (HS4.out.on (NodeAt.stays h) (Below.mono ((Below.refl w.heap.size w).alloc (Nat.le_refl _) _) hm)) (Nat.le_trans hm (Below.size ((Below.refl w.heap.size w).alloc (Nat.le_refl _) _)))).mono ?_; rintro e w4' ⟨⟨k4, rfl, ka4, kb4, kc4⟩, bel4⟩; have z4 : w.heap.size < w4'.heap.size := Nat.lt_of_lt_of_le (by simp) bel4.size; by_cases gk4 : k4 < 0)
      · go_wp2
        go_ret
        exact ⟨⟨-1, rfl, by omega, by omega, by omega⟩, (Below.trans ((Below.refl w.heap.size w).alloc (Nat.le_refl _) _) (Below.mono bel4 (Below.size ((Below.refl w.heap.size w).alloc (Nat.le_refl _) _))))⟩
      · go_wp2
        go_ret
        exact ⟨⟨_, rfl, by omega, by omega, fun hk0 => by have := kc4 (by omega); omega⟩, (Below.trans ((Below.refl w.heap.size w).alloc (Nat.le_refl _) _) (Below.mono bel4 (Below.size ((Below.refl w.heap.size w).alloc (Nat.le_refl _) _))))⟩
set_option maxHeartbeats 4000000 in
theorem szNodeS_of (h : Nat) (ih : ∀ k, h = k + 1 → SzN k) : SzNS h := by
  intro v m l left w h0 h1 hn hv hm
  unfold maxLen at hn
  have HS := hide hv
  obtain ⟨a, c, rfl, -⟩ := hv
  obtain ⟨n, hl⟩ : ∃ n, l.length = n := ⟨_, rfl⟩
  have HN := hide hl
  rw [hl] at hn ⊢
  clear hl
  by_cases hb : left - n < 0
  · go_enter Try.func9, Try.ntmps9
    go_wp2
    go_ret
    exact ⟨⟨-1, rfl, by omega, by omega, by omega⟩, Below.refl _ _⟩
  · go_enter Try.func9, Try.ntmps9
    go_wp2
    go_loopw [1, 5] (fun q i wr => ∃ (k : Nat) (L : Int), i = .int .i64 k ∧ q = .int .i64 L ∧ k ≤ n ∧ 0 ≤ L ∧ L ≤ left - n ∧ Hid (L + (kidsSz (l.take k) : Int) + n ≤ left + k) ∧ Below w.heap.size w wr) (fun _ i _ => n - (intOf i).toNat)
    case atStart => exact ⟨0, _, rfl, rfl, by omega, by omega, by omega, hide (by rw [List.take_zero, kidsSz_nil]; omega), Below.refl _ _⟩
    case round =>
      obtain ⟨k, L, rfl, rfl, hk, hL, hL2, Hs, hbw⟩ := hrel
      by_cases hp : k < n
      · have i1 : (k : Int) < n := by omega
        obtain ⟨x, hx⟩ : ∃ x, l[k]'(by rw [HN.out]; exact hp) = x := ⟨_, rfl⟩
        obtain ⟨a', c', e', hrows⟩ := HS.out.on (NodeAt.stays h) (hbw.mono hm)
        cases e'
        obtain ⟨b, o, rfl, hb1, hb2, -, he⟩ := hrows k (by rw [HN.out]; exact hp)
        have HX := hide hx
        rw [hx] at he
        clear hx hrows
        rcases h with _ | h
        · exact he.elim
        obtain ⟨⟨d0, d1, d2, d3⟩, hbd, u4, d4, s4⟩ := he
        have HVal := hide (show NodeVal h _ _ (.agg #[.int .i64 (x.kind), .int .i64 (x.n), .string (x.name), .string (x.of), u4]) x from ⟨u4, rfl, hbd, s4⟩)
        obtain ⟨p4, c4, rfl, -⟩ := s4
        simp only [Nat.add_zero] at d0 d1 d2 d3 d4
        clear hbd
        go_wp2_with (go_at_call 4; refine (ih h rfl _ (m.inner b) x L wr hL (by omega) HVal.out (by rw [Md.inner_hi]; exact Nat.le_trans hm hbw.size)).mono ?_; rintro e w' ⟨⟨q, rfl, q1, q2, q3⟩, bel⟩; by_cases hq : q < 0)
        · go_wp2
          go_ret
          exact ⟨⟨-1, rfl, by omega, by omega, by omega⟩, hbw.trans (bel.mono hbw.size)⟩
        · go_wp2
          go_roundw
          case rel =>
            refine ⟨k + 1, q, by go_num, rfl, by omega, by omega, by omega, hide ?_, hbw.trans (bel.mono hbw.size)⟩
            have h3 := q3 (by omega)
            have h4 := Hs.out
            rw [kidsSz_take l (by rw [HN.out]; exact hp), HX.out, nodeSz_eq]
            omega
          case measure => simp [intOf]; omega
      · have i1 : ¬ (k : Int) < n := by omega
        go_wp2
        go_ret
        exact ⟨⟨L, rfl, by omega, by omega, fun _ => by
          have h4 := Hs.out
          have h5 : l.take k = l := List.take_of_length_le (by have := HN.out; omega)
          rw [h5] at h4
          omega⟩, hbw⟩
theorem szNode_any : ∀ h, SzN h
  | 0 => szNode_of 0 (szNodeS_of 0 fun k e => by cases e)
  | h + 1 => szNode_of (h + 1) (szNodeS_of (h + 1) fun k e => by cases e; exact szNode_any h)
theorem szNodeS_any (h : Nat) : SzNS h := szNodeS_of h fun k _ => szNode_any k
end Go.Proofs.Ytgebonbmiapfoaa
