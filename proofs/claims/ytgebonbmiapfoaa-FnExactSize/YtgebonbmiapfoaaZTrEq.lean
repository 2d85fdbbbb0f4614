/- The law's comparison of trees. No condition. -/
import Derived.Test.YtgebonbmiapfoaaZTrD
import Derived.Deep.RegionWith
namespace Go.Proofs.Ytgebonbmiapfoaa
open Go.ChangeShapes Go.WideShapes Go.ChangeAt Go.RowKit Go.Deep

/-- Trees told the same. -/
def EqN (h : Nat) : Prop := ∀ (h2 : Nat) (v v' : Value) (m m' : Md) (x : NodeD) (w : World), NodeVal h w m v x → NodeVal h2 w m' v' x → m.hi ≤ w.heap.size → m'.hi ≤ w.heap.size →
    Calls Try.prog 8 #[v, v'] w fun e w' => e = .returned (.bool true) ∧ Below w.heap.size w w'
def EqNS (h : Nat) : Prop := ∀ (h2 : Nat) (v v' : Value) (m m' : Md) (l : List NodeD) (w : World), l.length ≤ maxLen → SlAt (NodeAt h) 5 w m v l → SlAt (NodeAt h2) 5 w m' v' l → m.hi ≤ w.heap.size → m'.hi ≤ w.heap.size →
    Calls Try.prog 13 #[v, v'] w fun e w' => e = .returned (.bool true) ∧ Below w.heap.size w w'
set_option maxHeartbeats 4000000 in
theorem eqNode_of (h : Nat) (hS : EqNS h) : EqN h := by
  intro h2 v v' m m' x w hv hv' hm hm'
  obtain ⟨u4, rfl, hb, s4⟩ := hv
  have HS4 := hide s4
  obtain ⟨p4, c4, rfl, -⟩ := s4
  obtain ⟨u4q, rfl, -, s4q⟩ := hv'
  have HS4q := hide s4q
  obtain ⟨p4q, c4q, rfl, -⟩ := s4q
  obtain ⟨-, -, -, -, lb4⟩ := hb
  go_enter Try.func8, Try.ntmps8
  go_wp2_with fail
  refine (hS h2 (.slice p4 x.kids.length c4) (.slice p4q x.kids.length c4q) m m' x.kids _ lb4 (HS4.out.on (NodeAt.stays h) (Below.mono (((Below.refl _ _).alloc (Nat.le_refl _) _).alloc (by simp) _) hm)) (HS4q.out.on (NodeAt.stays h2) (Below.mono (((Below.refl _ _).alloc (Nat.le_refl _) _).alloc (by simp) _) hm')) (Nat.le_trans hm (Below.size (((Below.refl _ _).alloc (Nat.le_refl _) _).alloc (by simp) _))) (Nat.le_trans hm' (Below.size (((Below.refl _ _).alloc (Nat.le_refl _) _).alloc (by simp) _)))).mono ?_
  rintro e w4' ⟨rfl, bel4⟩
  go_wp2
  go_ret
  exact ⟨rfl, (Below.trans (((Below.refl _ _).alloc (Nat.le_refl _) _).alloc (by simp) _) (Below.mono bel4 (Below.size (((Below.refl _ _).alloc (Nat.le_refl _) _).alloc (by simp) _))))⟩
set_option maxHeartbeats 4000000 in
theorem eqNodeS_of (h : Nat) (ih : ∀ k, h = k + 1 → EqN k) : EqNS h := by
  intro h2 v v' m m' l w hn hv hv' hm hm'
  unfold maxLen at hn
  have HS := hide hv
  have HS' := hide hv'
  obtain ⟨a, c, rfl, -⟩ := hv
  obtain ⟨a', c', rfl, -⟩ := hv'
  obtain ⟨n, hl⟩ : ∃ n, l.length = n := ⟨_, rfl⟩
  have HN := hide hl
  rw [hl] at hn ⊢
  clear hl
  go_enter Try.func13, Try.ntmps13
  go_wp2
  go_loopw [5] (fun i wr => ∃ k : Nat, i = .int .i64 k ∧ k ≤ n ∧ Below w.heap.size w wr) (fun i _ => n - (intOf i).toNat)
  case atStart => exact ⟨0, rfl, by omega, Below.refl _ _⟩
  case round =>
    obtain ⟨k, rfl, hk, hbw⟩ := hrel
    by_cases hp : k < n
    · have i1 : (k : Int) < n := by omega
      obtain ⟨x, hx⟩ : ∃ x, l[k]'(by rw [HN.out]; exact hp) = x := ⟨_, rfl⟩
      obtain ⟨a1, c1', e1, hrows⟩ := HS.out.on (NodeAt.stays h) (hbw.mono hm)
      cases e1
      obtain ⟨b, o, rfl, hb1, hb2, -, he⟩ := hrows k (by rw [HN.out]; exact hp)
      obtain ⟨a2, c2', e2, hrows'⟩ := HS'.out.on (NodeAt.stays h2) (hbw.mono hm')
      cases e2
      obtain ⟨b', o', rfl, hb1', hb2', -, heq⟩ := hrows' k (by rw [HN.out]; exact hp)
      rw [hx] at he heq
      clear hx hrows hrows'
      rcases h with _ | h
      · exact he.elim
      rcases h2 with _ | h2
      · exact heq.elim
      obtain ⟨⟨d0, d1, d2, d3⟩, hbd, u4, d4, s4⟩ := he
      have HVal := hide (show NodeVal h _ _ (.agg #[.int .i64 (x.kind), .int .i64 (x.n), .string (x.name), .string (x.of), u4]) x from ⟨u4, rfl, hbd, s4⟩)
      obtain ⟨p4, c4, rfl, -⟩ := s4
      simp only [Nat.add_zero] at d0 d1 d2 d3 d4
      clear hbd
      obtain ⟨⟨d0q, d1q, d2q, d3q⟩, hbdq, u4q, d4q, s4q⟩ := heq
      have HValq := hide (show NodeVal h2 _ _ (.agg #[.int .i64 (x.kind), .int .i64 (x.n), .string (x.name), .string (x.of), u4q]) x from ⟨u4q, rfl, hbdq, s4q⟩)
      obtain ⟨p4q, c4q, rfl, -⟩ := s4q
      simp only [Nat.add_zero] at d0q d1q d2q d3q d4q
      clear hbdq
      have HEQ : Hid (∀ w', Below wr.heap.size wr w' → Calls Try.prog 8 #[.agg #[.int .i64 (x.kind), .int .i64 (x.n), .string (x.name), .string (x.of), .slice p4 x.kids.length c4], .agg #[.int .i64 (x.kind), .int .i64 (x.n), .string (x.name), .string (x.of), .slice p4q x.kids.length c4q]] w' fun e w2 => e = .returned (.bool true) ∧ Below w'.heap.size w' w2) := hide fun w' bel =>
        ih h rfl h2 _ _ (m.inner b) (m'.inner b') x w' (HVal.out.on (bel.mono (by rw [Md.inner_hi]; exact Nat.le_trans hm hbw.size))) (HValq.out.on (bel.mono (by rw [Md.inner_hi]; exact Nat.le_trans hm' hbw.size))) (by rw [Md.inner_hi]; exact Nat.le_trans hm (Nat.le_trans hbw.size bel.size)) (by rw [Md.inner_hi]; exact Nat.le_trans hm' (Nat.le_trans hbw.size bel.size))
      go_wp2
      go_region_with (go_at_call 8; refine (HEQ.out _ (Below.refl _ _).drew).mono ?_; rintro e w' ⟨rfl, bel⟩)
      all_goals go_wp2
      all_goals go_roundw
      all_goals first
        | exact ⟨k + 1, by go_num, by omega, hbw.drew.trans (bel.mono (show w.heap.size ≤ wr.drew.heap.size from hbw.size))⟩
        | (simp [intOf]; omega)
    · have i1 : ¬ (k : Int) < n := by omega
      go_wp2
      go_ret
      exact ⟨rfl, hbw⟩
theorem eqNode_any : ∀ h, EqN h
  | 0 => eqNode_of 0 (eqNodeS_of 0 fun k e => by cases e)
  | h + 1 => eqNode_of (h + 1) (eqNodeS_of (h + 1) fun k e => by cases e; exact eqNode_any h)
theorem eqNodeS_any (h : Nat) : EqNS h := eqNodeS_of h fun k _ => eqNode_any k
end Go.Proofs.Ytgebonbmiapfoaa
