/- What holds the same is told the same by the law's own way to compare. No condition. -/
import Derived.Test.YtfbglokjehmgeaaGreatDoorZObjTo
import Derived.Deep.RegionWith
namespace Go.Proofs.YtfbglokjehmgeaaGreatDoor
open Go.RowKit

set_option maxHeartbeats 4000000 in
theorem eqIns_same (v v' : Value) (m m' : Md) (x : InsD) (w : World) (h : InsVal w m v x) (h' : InsVal w m' v' x) (_ : m.hi ≤ w.heap.size) (_ : m'.hi ≤ w.heap.size) :
    Calls Tryz.prog 111 #[v, v'] w fun e w' => e = .returned (.bool true) ∧ Below w.heap.size w w' := by
  obtain ⟨rfl, -⟩ := h
  obtain ⟨rfl, -⟩ := h'
  go_enter Tryz.func111, Tryz.ntmps111
  go_wp2
  go_ret
  exact ⟨rfl, ((Below.refl _ _).alloc (Nat.le_refl _) _).alloc (by simp) _⟩
set_option maxHeartbeats 4000000 in
theorem eqInsS_same (v v' : Value) (m m' : Md) (l : List InsD) (w : World) (hn : l.length ≤ maxLen) (h : SlAt InsAt 5 w m v l) (h' : SlAt InsAt 5 w m' v' l) (hm : m.hi ≤ w.heap.size) (hm' : m'.hi ≤ w.heap.size) :
    Calls Tryz.prog 95 #[v, v'] w fun e w' => e = .returned (.bool true) ∧ Below w.heap.size w w' := by
  unfold maxLen at hn
  have HS := hide h
  have HS' := hide h'
  obtain ⟨a, c, rfl, -⟩ := h
  obtain ⟨a', c', rfl, -⟩ := h'
  obtain ⟨n, hl⟩ : ∃ n, l.length = n := ⟨_, rfl⟩
  have HN := hide hl
  rw [hl] at hn ⊢
  clear hl
  go_enter Tryz.func95, Tryz.ntmps95
  go_wp2
  go_loopw [5] (fun i wr => ∃ k : Nat, i = .int .i64 k ∧ k ≤ n ∧ Below w.heap.size w wr) (fun i _ => n - (intOf i).toNat)
  case atStart => exact ⟨0, rfl, by omega, Below.refl _ _⟩
  case round =>
    obtain ⟨k, rfl, hk, hbw⟩ := hrel
    by_cases hp : k < n
    · have i1 : (k : Int) < n := by omega
      obtain ⟨x, hx⟩ : ∃ x, l[k]'(by rw [HN.out]; exact hp) = x := ⟨_, rfl⟩
      obtain ⟨a1, c1', e1, hrows⟩ := HS.out.on InsAt.stays (hbw.mono hm)
      cases e1
      obtain ⟨b, o, rfl, hb1, hb2, -, he⟩ := hrows k (by rw [HN.out]; exact hp)
      obtain ⟨a2, c2', e2, hrows'⟩ := HS'.out.on InsAt.stays (hbw.mono hm')
      cases e2
      obtain ⟨b', o', rfl, hb1', hb2', -, heq⟩ := hrows' k (by rw [HN.out]; exact hp)
      rw [hx] at he heq
      clear hx hrows hrows'
      obtain ⟨⟨d0, d1, d2, d3, d4⟩, hbd⟩ := he
      have HVal := hide (show InsVal wr (m.inner b) (.agg #[.int .i64 (x.op), .int .i64 (x.a), .int .i64 (x.b), .string (x.mod), .string (x.name)]) x from ⟨rfl, hbd⟩)
      simp only [Nat.add_zero] at d0 d1 d2 d3 d4
      clear hbd
      obtain ⟨⟨d0q, d1q, d2q, d3q, d4q⟩, hbdq⟩ := heq
      have HValq := hide (show InsVal wr (m'.inner b') (.agg #[.int .i64 (x.op), .int .i64 (x.a), .int .i64 (x.b), .string (x.mod), .string (x.name)]) x from ⟨rfl, hbdq⟩)
      simp only [Nat.add_zero] at d0q d1q d2q d3q d4q
      clear hbdq
      have HEQ : Hid (∀ w', Below wr.heap.size wr w' → Calls Tryz.prog 111 #[.agg #[.int .i64 (x.op), .int .i64 (x.a), .int .i64 (x.b), .string (x.mod), .string (x.name)], .agg #[.int .i64 (x.op), .int .i64 (x.a), .int .i64 (x.b), .string (x.mod), .string (x.name)]] w' fun e w2 => e = .returned (.bool true) ∧ Below w'.heap.size w' w2) := hide fun w' bel =>
        eqIns_same _ _ (m.inner b) (m'.inner b') x w' (HVal.out.on (bel.mono (by rw [Md.inner_hi]; exact Nat.le_trans hm hbw.size))) (HValq.out.on (bel.mono (by rw [Md.inner_hi]; exact Nat.le_trans hm' hbw.size))) (by rw [Md.inner_hi]; exact Nat.le_trans hm (Nat.le_trans hbw.size bel.size)) (by rw [Md.inner_hi]; exact Nat.le_trans hm' (Nat.le_trans hbw.size bel.size))
      go_wp2
      go_region_with (go_at_call 111; refine (HEQ.out _ (Below.refl _ _).drew).mono ?_; rintro e w' ⟨rfl, bel⟩)
      all_goals go_wp2
      all_goals go_roundw
      all_goals first
        | exact ⟨k + 1, by go_num, by omega, hbw.drew.trans (bel.mono (show w.heap.size ≤ wr.drew.heap.size from hbw.size))⟩
        | (simp [intOf]; omega)
    · have i1 : ¬ (k : Int) < n := by omega
      go_wp2
      go_ret
      exact ⟨rfl, hbw⟩
set_option maxHeartbeats 4000000 in
theorem eqCode_same (v v' : Value) (m m' : Md) (x : CodeD) (w : World) (h : CodeVal w m v x) (h' : CodeVal w m' v' x) (hm : m.hi ≤ w.heap.size) (hm' : m'.hi ≤ w.heap.size) :
    Calls Tryz.prog 69 #[v, v'] w fun e w' => e = .returned (.bool true) ∧ Below w.heap.size w w' := by
  obtain ⟨u4, rfl, hb, s4⟩ := h
  have HS4 := hide s4
  obtain ⟨p4, c4, rfl, -⟩ := s4
  obtain ⟨u4q, rfl, -, s4q⟩ := h'
  have HS4q := hide s4q
  obtain ⟨p4q, c4q, rfl, -⟩ := s4q
  obtain ⟨-, -, -, -, lb4⟩ := hb
  go_enter Tryz.func69, Tryz.ntmps69
  go_wp2_with fail
  refine (eqInsS_same (.slice p4 x.list.length c4) (.slice p4q x.list.length c4q) m m' x.list _ lb4 (HS4.out.on InsAt.stays (Below.mono (((Below.refl _ _).alloc (Nat.le_refl _) _).alloc (by simp) _) hm)) (HS4q.out.on InsAt.stays (Below.mono (((Below.refl _ _).alloc (Nat.le_refl _) _).alloc (by simp) _) hm')) (Nat.le_trans hm (Below.size (((Below.refl _ _).alloc (Nat.le_refl _) _).alloc (by simp) _))) (Nat.le_trans hm' (Below.size (((Below.refl _ _).alloc (Nat.le_refl _) _).alloc (by simp) _)))).mono ?_
  rintro e w4' ⟨rfl, bel4⟩
  go_wp2
  go_ret
  exact ⟨rfl, (Below.trans (((Below.refl _ _).alloc (Nat.le_refl _) _).alloc (by simp) _) (Below.mono bel4 (Below.size (((Below.refl _ _).alloc (Nat.le_refl _) _).alloc (by simp) _))))⟩
set_option maxHeartbeats 4000000 in
theorem eqCodeS_same (v v' : Value) (m m' : Md) (l : List CodeD) (w : World) (hn : l.length ≤ maxLen) (h : SlAt CodeAt 5 w m v l) (h' : SlAt CodeAt 5 w m' v' l) (hm : m.hi ≤ w.heap.size) (hm' : m'.hi ≤ w.heap.size) :
    Calls Tryz.prog 26 #[v, v'] w fun e w' => e = .returned (.bool true) ∧ Below w.heap.size w w' := by
  unfold maxLen at hn
  have HS := hide h
  have HS' := hide h'
  obtain ⟨a, c, rfl, -⟩ := h
  obtain ⟨a', c', rfl, -⟩ := h'
  obtain ⟨n, hl⟩ : ∃ n, l.length = n := ⟨_, rfl⟩
  have HN := hide hl
  rw [hl] at hn ⊢
  clear hl
  go_enter Tryz.func26, Tryz.ntmps26
  go_wp2
  go_loopw [5] (fun i wr => ∃ k : Nat, i = .int .i64 k ∧ k ≤ n ∧ Below w.heap.size w wr) (fun i _ => n - (intOf i).toNat)
  case atStart => exact ⟨0, rfl, by omega, Below.refl _ _⟩
  case round =>
    obtain ⟨k, rfl, hk, hbw⟩ := hrel
    by_cases hp : k < n
    · have i1 : (k : Int) < n := by omega
      obtain ⟨x, hx⟩ : ∃ x, l[k]'(by rw [HN.out]; exact hp) = x := ⟨_, rfl⟩
      obtain ⟨a1, c1', e1, hrows⟩ := HS.out.on CodeAt.stays (hbw.mono hm)
      cases e1
      obtain ⟨b, o, rfl, hb1, hb2, -, he⟩ := hrows k (by rw [HN.out]; exact hp)
      obtain ⟨a2, c2', e2, hrows'⟩ := HS'.out.on CodeAt.stays (hbw.mono hm')
      cases e2
      obtain ⟨b', o', rfl, hb1', hb2', -, heq⟩ := hrows' k (by rw [HN.out]; exact hp)
      rw [hx] at he heq
      clear hx hrows hrows'
      obtain ⟨⟨d0, d1, d2, d3⟩, hbd, u4, d4, s4⟩ := he
      have HVal := hide (show CodeVal _ _ (.agg #[.string (x.name), .int .i64 (x.params), .int .i64 (x.cells), .int .i64 (x.result), u4]) x from ⟨u4, rfl, hbd, s4⟩)
      obtain ⟨p4, c4, rfl, -⟩ := s4
      simp only [Nat.add_zero] at d0 d1 d2 d3 d4
      clear hbd
      obtain ⟨⟨d0q, d1q, d2q, d3q⟩, hbdq, u4q, d4q, s4q⟩ := heq
      have HValq := hide (show CodeVal _ _ (.agg #[.string (x.name), .int .i64 (x.params), .int .i64 (x.cells), .int .i64 (x.result), u4q]) x from ⟨u4q, rfl, hbdq, s4q⟩)
      obtain ⟨p4q, c4q, rfl, -⟩ := s4q
      simp only [Nat.add_zero] at d0q d1q d2q d3q d4q
      clear hbdq
      have HEQ : Hid (∀ w', Below wr.heap.size wr w' → Calls Tryz.prog 69 #[.agg #[.string (x.name), .int .i64 (x.params), .int .i64 (x.cells), .int .i64 (x.result), .slice p4 x.list.length c4], .agg #[.string (x.name), .int .i64 (x.params), .int .i64 (x.cells), .int .i64 (x.result), .slice p4q x.list.length c4q]] w' fun e w2 => e = .returned (.bool true) ∧ Below w'.heap.size w' w2) := hide fun w' bel =>
        eqCode_same _ _ (m.inner b) (m'.inner b') x w' (HVal.out.on (bel.mono (by rw [Md.inner_hi]; exact Nat.le_trans hm hbw.size))) (HValq.out.on (bel.mono (by rw [Md.inner_hi]; exact Nat.le_trans hm' hbw.size))) (by rw [Md.inner_hi]; exact Nat.le_trans hm (Nat.le_trans hbw.size bel.size)) (by rw [Md.inner_hi]; exact Nat.le_trans hm' (Nat.le_trans hbw.size bel.size))
      go_wp2
      go_region_with (go_at_call 69; refine (HEQ.out _ (Below.refl _ _).drew).mono ?_; rintro e w' ⟨rfl, bel⟩)
      all_goals go_wp2
      all_goals go_roundw
      all_goals first
        | exact ⟨k + 1, by go_num, by omega, hbw.drew.trans (bel.mono (show w.heap.size ≤ wr.drew.heap.size from hbw.size))⟩
        | (simp [intOf]; omega)
    · have i1 : ¬ (k : Int) < n := by omega
      go_wp2
      go_ret
      exact ⟨rfl, hbw⟩
set_option maxHeartbeats 4000000 in
theorem eqNeed_same (v v' : Value) (m m' : Md) (x : NeedD) (w : World) (h : NeedVal w m v x) (h' : NeedVal w m' v' x) (_ : m.hi ≤ w.heap.size) (_ : m'.hi ≤ w.heap.size) :
    Calls Tryz.prog 96 #[v, v'] w fun e w' => e = .returned (.bool true) ∧ Below w.heap.size w w' := by
  obtain ⟨rfl, -⟩ := h
  obtain ⟨rfl, -⟩ := h'
  go_enter Tryz.func96, Tryz.ntmps96
  go_wp2
  go_ret
  exact ⟨rfl, ((Below.refl _ _).alloc (Nat.le_refl _) _).alloc (by simp) _⟩
set_option maxHeartbeats 4000000 in
theorem eqNeedS_same (v v' : Value) (m m' : Md) (l : List NeedD) (w : World) (hn : l.length ≤ maxLen) (h : SlAt NeedAt 2 w m v l) (h' : SlAt NeedAt 2 w m' v' l) (hm : m.hi ≤ w.heap.size) (hm' : m'.hi ≤ w.heap.size) :
    Calls Tryz.prog 70 #[v, v'] w fun e w' => e = .returned (.bool true) ∧ Below w.heap.size w w' := by
  unfold maxLen at hn
  have HS := hide h
  have HS' := hide h'
  obtain ⟨a, c, rfl, -⟩ := h
  obtain ⟨a', c', rfl, -⟩ := h'
  obtain ⟨n, hl⟩ : ∃ n, l.length = n := ⟨_, rfl⟩
  have HN := hide hl
  rw [hl] at hn ⊢
  clear hl
  go_enter Tryz.func70, Tryz.ntmps70
  go_wp2
  go_loopw [5] (fun i wr => ∃ k : Nat, i = .int .i64 k ∧ k ≤ n ∧ Below w.heap.size w wr) (fun i _ => n - (intOf i).toNat)
  case atStart => exact ⟨0, rfl, by omega, Below.refl _ _⟩
  case round =>
    obtain ⟨k, rfl, hk, hbw⟩ := hrel
    by_cases hp : k < n
    · have i1 : (k : Int) < n := by omega
      obtain ⟨x, hx⟩ : ∃ x, l[k]'(by rw [HN.out]; exact hp) = x := ⟨_, rfl⟩
      obtain ⟨a1, c1', e1, hrows⟩ := HS.out.on NeedAt.stays (hbw.mono hm)
      cases e1
      obtain ⟨b, o, rfl, hb1, hb2, -, he⟩ := hrows k (by rw [HN.out]; exact hp)
      obtain ⟨a2, c2', e2, hrows'⟩ := HS'.out.on NeedAt.stays (hbw.mono hm')
      cases e2
      obtain ⟨b', o', rfl, hb1', hb2', -, heq⟩ := hrows' k (by rw [HN.out]; exact hp)
      rw [hx] at he heq
      clear hx hrows hrows'
      obtain ⟨⟨d0, d1⟩, hbd⟩ := he
      have HVal := hide (show NeedVal wr (m.inner b) (.agg #[.string (x.module), .int .i64 (x.print)]) x from ⟨rfl, hbd⟩)
      simp only [Nat.add_zero] at d0 d1
      clear hbd
      obtain ⟨⟨d0q, d1q⟩, hbdq⟩ := heq
      have HValq := hide (show NeedVal wr (m'.inner b') (.agg #[.string (x.module), .int .i64 (x.print)]) x from ⟨rfl, hbdq⟩)
      simp only [Nat.add_zero] at d0q d1q
      clear hbdq
      have HEQ : Hid (∀ w', Below wr.heap.size wr w' → Calls Tryz.prog 96 #[.agg #[.string (x.module), .int .i64 (x.print)], .agg #[.string (x.module), .int .i64 (x.print)]] w' fun e w2 => e = .returned (.bool true) ∧ Below w'.heap.size w' w2) := hide fun w' bel =>
        eqNeed_same _ _ (m.inner b) (m'.inner b') x w' (HVal.out.on (bel.mono (by rw [Md.inner_hi]; exact Nat.le_trans hm hbw.size))) (HValq.out.on (bel.mono (by rw [Md.inner_hi]; exact Nat.le_trans hm' hbw.size))) (by rw [Md.inner_hi]; exact Nat.le_trans hm (Nat.le_trans hbw.size bel.size)) (by rw [Md.inner_hi]; exact Nat.le_trans hm' (Nat.le_trans hbw.size bel.size))
      go_wp2
      go_region_with (go_at_call 96; refine (HEQ.out _ (Below.refl _ _).drew).mono ?_; rintro e w' ⟨rfl, bel⟩)
      all_goals go_wp2
      all_goals go_roundw
      all_goals first
        | exact ⟨k + 1, by go_num, by omega, hbw.drew.trans (bel.mono (show w.heap.size ≤ wr.drew.heap.size from hbw.size))⟩
        | (simp [intOf]; omega)
    · have i1 : ¬ (k : Int) < n := by omega
      go_wp2
      go_ret
      exact ⟨rfl, hbw⟩
set_option maxHeartbeats 4000000 in
theorem eqGlobal_same (v v' : Value) (m m' : Md) (x : GlobalD) (w : World) (h : GlobalVal w m v x) (h' : GlobalVal w m' v' x) (_ : m.hi ≤ w.heap.size) (_ : m'.hi ≤ w.heap.size) :
    Calls Tryz.prog 97 #[v, v'] w fun e w' => e = .returned (.bool true) ∧ Below w.heap.size w w' := by
  obtain ⟨rfl, -⟩ := h
  obtain ⟨rfl, -⟩ := h'
  go_enter Tryz.func97, Tryz.ntmps97
  go_wp2
  go_ret
  exact ⟨rfl, ((Below.refl _ _).alloc (Nat.le_refl _) _).alloc (by simp) _⟩
set_option maxHeartbeats 4000000 in
theorem eqGlobalS_same (v v' : Value) (m m' : Md) (l : List GlobalD) (w : World) (hn : l.length ≤ maxLen) (h : SlAt GlobalAt 2 w m v l) (h' : SlAt GlobalAt 2 w m' v' l) (hm : m.hi ≤ w.heap.size) (hm' : m'.hi ≤ w.heap.size) :
    Calls Tryz.prog 71 #[v, v'] w fun e w' => e = .returned (.bool true) ∧ Below w.heap.size w w' := by
  unfold maxLen at hn
  have HS := hide h
  have HS' := hide h'
  obtain ⟨a, c, rfl, -⟩ := h
  obtain ⟨a', c', rfl, -⟩ := h'
  obtain ⟨n, hl⟩ : ∃ n, l.length = n := ⟨_, rfl⟩
  have HN := hide hl
  rw [hl] at hn ⊢
  clear hl
  go_enter Tryz.func71, Tryz.ntmps71
  go_wp2
  go_loopw [5] (fun i wr => ∃ k : Nat, i = .int .i64 k ∧ k ≤ n ∧ Below w.heap.size w wr) (fun i _ => n - (intOf i).toNat)
  case atStart => exact ⟨0, rfl, by omega, Below.refl _ _⟩
  case round =>
    obtain ⟨k, rfl, hk, hbw⟩ := hrel
    by_cases hp : k < n
    · have i1 : (k : Int) < n := by omega
      obtain ⟨x, hx⟩ : ∃ x, l[k]'(by rw [HN.out]; exact hp) = x := ⟨_, rfl⟩
      obtain ⟨a1, c1', e1, hrows⟩ := HS.out.on GlobalAt.stays (hbw.mono hm)
      cases e1
      obtain ⟨b, o, rfl, hb1, hb2, -, he⟩ := hrows k (by rw [HN.out]; exact hp)
      obtain ⟨a2, c2', e2, hrows'⟩ := HS'.out.on GlobalAt.stays (hbw.mono hm')
      cases e2
      obtain ⟨b', o', rfl, hb1', hb2', -, heq⟩ := hrows' k (by rw [HN.out]; exact hp)
      rw [hx] at he heq
      clear hx hrows hrows'
      obtain ⟨⟨d0, d1⟩, hbd⟩ := he
      have HVal := hide (show GlobalVal wr (m.inner b) (.agg #[.string (x.name), .int .i64 (x.length)]) x from ⟨rfl, hbd⟩)
      simp only [Nat.add_zero] at d0 d1
      clear hbd
      obtain ⟨⟨d0q, d1q⟩, hbdq⟩ := heq
      have HValq := hide (show GlobalVal wr (m'.inner b') (.agg #[.string (x.name), .int .i64 (x.length)]) x from ⟨rfl, hbdq⟩)
      simp only [Nat.add_zero] at d0q d1q
      clear hbdq
      have HEQ : Hid (∀ w', Below wr.heap.size wr w' → Calls Tryz.prog 97 #[.agg #[.string (x.name), .int .i64 (x.length)], .agg #[.string (x.name), .int .i64 (x.length)]] w' fun e w2 => e = .returned (.bool true) ∧ Below w'.heap.size w' w2) := hide fun w' bel =>
        eqGlobal_same _ _ (m.inner b) (m'.inner b') x w' (HVal.out.on (bel.mono (by rw [Md.inner_hi]; exact Nat.le_trans hm hbw.size))) (HValq.out.on (bel.mono (by rw [Md.inner_hi]; exact Nat.le_trans hm' hbw.size))) (by rw [Md.inner_hi]; exact Nat.le_trans hm (Nat.le_trans hbw.size bel.size)) (by rw [Md.inner_hi]; exact Nat.le_trans hm' (Nat.le_trans hbw.size bel.size))
      go_wp2
      go_region_with (go_at_call 97; refine (HEQ.out _ (Below.refl _ _).drew).mono ?_; rintro e w' ⟨rfl, bel⟩)
      all_goals go_wp2
      all_goals go_roundw
      all_goals first
        | exact ⟨k + 1, by go_num, by omega, hbw.drew.trans (bel.mono (show w.heap.size ≤ wr.drew.heap.size from hbw.size))⟩
        | (simp [intOf]; omega)
    · have i1 : ¬ (k : Int) < n := by omega
      go_wp2
      go_ret
      exact ⟨rfl, hbw⟩
set_option maxHeartbeats 4000000 in
theorem eqObject_same (v v' : Value) (m m' : Md) (x : ObjectD) (w : World) (h : ObjectVal w m v x) (h' : ObjectVal w m' v' x) (hm : m.hi ≤ w.heap.size) (hm' : m'.hi ≤ w.heap.size) :
    Calls Tryz.prog 29 #[v, v'] w fun e w' => e = .returned (.bool true) ∧ Below w.heap.size w w' := by
  obtain ⟨u2, u3, u4, rfl, hb, s2, s3, s4⟩ := h
  have HS2 := hide s2
  obtain ⟨p2, c2, rfl, -⟩ := s2
  have HS3 := hide s3
  obtain ⟨p3, c3, rfl, -⟩ := s3
  have HS4 := hide s4
  obtain ⟨p4, c4, rfl, -⟩ := s4
  obtain ⟨u2q, u3q, u4q, rfl, -, s2q, s3q, s4q⟩ := h'
  have HS2q := hide s2q
  obtain ⟨p2q, c2q, rfl, -⟩ := s2q
  have HS3q := hide s3q
  obtain ⟨p3q, c3q, rfl, -⟩ := s3q
  have HS4q := hide s4q
  obtain ⟨p4q, c4q, rfl, -⟩ := s4q
  obtain ⟨-, -, lb2, lb3, lb4⟩ := hb
  go_enter Tryz.func29, Tryz.ntmps29
  go_wp2_with fail
  refine (eqNeedS_same (.slice p2 x.needs.length c2) (.slice p2q x.needs.length c2q) m m' x.needs _ lb2 (HS2.out.on NeedAt.stays (Below.mono (((Below.refl _ _).alloc (Nat.le_refl _) _).alloc (by simp) _) hm)) (HS2q.out.on NeedAt.stays (Below.mono (((Below.refl _ _).alloc (Nat.le_refl _) _).alloc (by simp) _) hm')) (Nat.le_trans hm (Below.size (((Below.refl _ _).alloc (Nat.le_refl _) _).alloc (by simp) _))) (Nat.le_trans hm' (Below.size (((Below.refl _ _).alloc (Nat.le_refl _) _).alloc (by simp) _)))).mono ?_
  rintro e w2' ⟨rfl, bel2⟩
  have z2 : w.heap.size + 2 ≤ w2'.heap.size := Nat.le_trans (by first | omega | (simp <;> omega)) bel2.size
  have f2_3 := (bel2.cell (p := ⟨w.heap.size, 3, none⟩) (by first | omega | (simp <;> omega))).trans (show _ = some (Value.slice p3 x.globals.length c3) by simp [go_sem])
  have f2_3q := (bel2.cell (p := ⟨w.heap.size + 1, 3, none⟩) (by first | omega | (simp <;> omega))).trans (show _ = some (Value.slice p3q x.globals.length c3q) by simp [go_sem])
  have f2_4 := (bel2.cell (p := ⟨w.heap.size, 4, none⟩) (by first | omega | (simp <;> omega))).trans (show _ = some (Value.slice p4 x.procs.length c4) by simp [go_sem])
  have f2_4q := (bel2.cell (p := ⟨w.heap.size + 1, 4, none⟩) (by first | omega | (simp <;> omega))).trans (show _ = some (Value.slice p4q x.procs.length c4q) by simp [go_sem])
  go_wp2_with fail
  refine (eqGlobalS_same (.slice p3 x.globals.length c3) (.slice p3q x.globals.length c3q) m m' x.globals _ lb3 (HS3.out.on GlobalAt.stays (Below.mono (Below.trans (((Below.refl _ _).alloc (Nat.le_refl _) _).alloc (by simp) _) (Below.mono bel2 (Below.size (((Below.refl _ _).alloc (Nat.le_refl _) _).alloc (by simp) _)))) hm)) (HS3q.out.on GlobalAt.stays (Below.mono (Below.trans (((Below.refl _ _).alloc (Nat.le_refl _) _).alloc (by simp) _) (Below.mono bel2 (Below.size (((Below.refl _ _).alloc (Nat.le_refl _) _).alloc (by simp) _)))) hm')) (Nat.le_trans hm (Below.size (Below.trans (((Below.refl _ _).alloc (Nat.le_refl _) _).alloc (by simp) _) (Below.mono bel2 (Below.size (((Below.refl _ _).alloc (Nat.le_refl _) _).alloc (by simp) _)))))) (Nat.le_trans hm' (Below.size (Below.trans (((Below.refl _ _).alloc (Nat.le_refl _) _).alloc (by simp) _) (Below.mono bel2 (Below.size (((Below.refl _ _).alloc (Nat.le_refl _) _).alloc (by simp) _))))))).mono ?_
  rintro e w3' ⟨rfl, bel3⟩
  have z3 : w.heap.size + 2 ≤ w3'.heap.size := Nat.le_trans (by first | omega | (simp <;> omega)) bel3.size
  have f3_4 := (bel3.cell (p := ⟨w.heap.size, 4, none⟩) (by show w.heap.size < _; first | omega | (simp <;> omega))).trans f2_4
  have f3_4q := (bel3.cell (p := ⟨w.heap.size + 1, 4, none⟩) (by show w.heap.size + 1 < _; first | omega | (simp <;> omega))).trans f2_4q
  go_wp2_with fail
  refine (eqCodeS_same (.slice p4 x.procs.length c4) (.slice p4q x.procs.length c4q) m m' x.procs _ lb4 (HS4.out.on CodeAt.stays (Below.mono (Below.trans (Below.trans (((Below.refl _ _).alloc (Nat.le_refl _) _).alloc (by simp) _) (Below.mono bel2 (Below.size (((Below.refl _ _).alloc (Nat.le_refl _) _).alloc (by simp) _)))) (Below.mono bel3 (Below.size (Below.trans (((Below.refl _ _).alloc (Nat.le_refl _) _).alloc (by simp) _) (Below.mono bel2 (Below.size (((Below.refl _ _).alloc (Nat.le_refl _) _).alloc (by simp) _))))))) hm)) (HS4q.out.on CodeAt.stays (Below.mono (Below.trans (Below.trans (((Below.refl _ _).alloc (Nat.le_refl _) _).alloc (by simp) _) (Below.mono bel2 (Below.size (((Below.refl _ _).alloc (Nat.le_refl _) _).alloc (by simp) _)))) (Below.mono bel3 (Below.size (Below.trans (((Below.refl _ _).alloc (Nat.le_refl _) _).alloc (by simp) _) (Below.mono bel2 (Below.size (((Below.refl _ _).alloc (Nat.le_refl _) _).alloc (by simp) _))))))) hm')) (Nat.le_trans hm (Below.size (Below.trans (Below.trans (((Below.refl _ _).alloc (Nat.le_refl _) _).alloc (by simp) _) (Below.mono bel2 (Below.size (((Below.refl _ _).alloc (Nat.le_refl _) _).alloc (by simp) _)))) (Below.mono bel3 (Below.size (Below.trans (((Below.refl _ _).alloc (Nat.le_refl _) _).alloc (by simp) _) (Below.mono bel2 (Below.size (((Below.refl _ _).alloc (Nat.le_refl _) _).alloc (by simp) _))))))))) (Nat.le_trans hm' (Below.size (Below.trans (Below.trans (((Below.refl _ _).alloc (Nat.le_refl _) _).alloc (by simp) _) (Below.mono bel2 (Below.size (((Below.refl _ _).alloc (Nat.le_refl _) _).alloc (by simp) _)))) (Below.mono bel3 (Below.size (Below.trans (((Below.refl _ _).alloc (Nat.le_refl _) _).alloc (by simp) _) (Below.mono bel2 (Below.size (((Below.refl _ _).alloc (Nat.le_refl _) _).alloc (by simp) _)))))))))).mono ?_
  rintro e w4' ⟨rfl, bel4⟩
  go_wp2
  go_ret
  exact ⟨rfl, (Below.trans (Below.trans (Below.trans (((Below.refl _ _).alloc (Nat.le_refl _) _).alloc (by simp) _) (Below.mono bel2 (Below.size (((Below.refl _ _).alloc (Nat.le_refl _) _).alloc (by simp) _)))) (Below.mono bel3 (Below.size (Below.trans (((Below.refl _ _).alloc (Nat.le_refl _) _).alloc (by simp) _) (Below.mono bel2 (Below.size (((Below.refl _ _).alloc (Nat.le_refl _) _).alloc (by simp) _))))))) (Below.mono bel4 (Below.size (Below.trans (Below.trans (((Below.refl _ _).alloc (Nat.le_refl _) _).alloc (by simp) _) (Below.mono bel2 (Below.size (((Below.refl _ _).alloc (Nat.le_refl _) _).alloc (by simp) _)))) (Below.mono bel3 (Below.size (Below.trans (((Below.refl _ _).alloc (Nat.le_refl _) _).alloc (by simp) _) (Below.mono bel2 (Below.size (((Below.refl _ _).alloc (Nat.le_refl _) _).alloc (by simp) _))))))))))⟩
end Go.Proofs.YtfbglokjehmgeaaGreatDoor
