/- What holds the same is told the same by the law's own way to compare. No condition. -/
import Derived.Test.YtibjockcadnooaaDoorZEndTo
import Derived.Deep.RegionWith
namespace Go.Proofs.YtibjockcadnooaaDoor
open Go.RowKit

set_option maxHeartbeats 4000000 in
theorem eqOut_same (v v' : Value) (m m' : Md) (x : OutD) (w : World) (h : OutVal w m v x) (h' : OutVal w m' v' x) (_ : m.hi ≤ w.heap.size) (_ : m'.hi ≤ w.heap.size) :
    Calls Tryd.prog 17 #[v, v'] w fun e w' => e = .returned (.bool true) ∧ Below w.heap.size w w' := by
  obtain ⟨rfl, -⟩ := h
  obtain ⟨rfl, -⟩ := h'
  go_enter Tryd.func17, Tryd.ntmps17
  go_wp2
  go_ret
  exact ⟨rfl, ((Below.refl _ _).alloc (Nat.le_refl _) _).alloc (by simp) _⟩
set_option maxHeartbeats 4000000 in
theorem eqOutS_same (v v' : Value) (m m' : Md) (l : List OutD) (w : World) (hn : l.length ≤ maxLen) (h : SlAt OutAt 2 w m v l) (h' : SlAt OutAt 2 w m' v' l) (hm : m.hi ≤ w.heap.size) (hm' : m'.hi ≤ w.heap.size) :
    Calls Tryd.prog 14 #[v, v'] w fun e w' => e = .returned (.bool true) ∧ Below w.heap.size w w' := by
  unfold maxLen at hn
  have HS := hide h
  have HS' := hide h'
  obtain ⟨a, c, rfl, -⟩ := h
  obtain ⟨a', c', rfl, -⟩ := h'
  obtain ⟨n, hl⟩ : ∃ n, l.length = n := ⟨_, rfl⟩
  have HN := hide hl
  rw [hl] at hn ⊢
  clear hl
  go_enter Tryd.func14, Tryd.ntmps14
  go_wp2
  go_loopw [5] (fun i wr => ∃ k : Nat, i = .int .i64 k ∧ k ≤ n ∧ Below w.heap.size w wr) (fun i _ => n - (intOf i).toNat)
  case atStart => exact ⟨0, rfl, by omega, Below.refl _ _⟩
  case round =>
    obtain ⟨k, rfl, hk, hbw⟩ := hrel
    by_cases hp : k < n
    · have i1 : (k : Int) < n := by omega
      obtain ⟨x, hx⟩ : ∃ x, l[k]'(by rw [HN.out]; exact hp) = x := ⟨_, rfl⟩
      obtain ⟨a1, c1', e1, hrows⟩ := HS.out.on OutAt.stays (hbw.mono hm)
      cases e1
      obtain ⟨b, o, rfl, hb1, hb2, -, he⟩ := hrows k (by rw [HN.out]; exact hp)
      obtain ⟨a2, c2', e2, hrows'⟩ := HS'.out.on OutAt.stays (hbw.mono hm')
      cases e2
      obtain ⟨b', o', rfl, hb1', hb2', -, heq⟩ := hrows' k (by rw [HN.out]; exact hp)
      rw [hx] at he heq
      clear hx hrows hrows'
      obtain ⟨⟨d0, d1⟩, hbd⟩ := he
      have HVal := hide (show OutVal wr (m.inner b) (.agg #[.int .i64 (x.ty), .int .i64 (x.value)]) x from ⟨rfl, hbd⟩)
      simp only [Nat.add_zero] at d0 d1
      clear hbd
      obtain ⟨⟨d0q, d1q⟩, hbdq⟩ := heq
      have HValq := hide (show OutVal wr (m'.inner b') (.agg #[.int .i64 (x.ty), .int .i64 (x.value)]) x from ⟨rfl, hbdq⟩)
      simp only [Nat.add_zero] at d0q d1q
      clear hbdq
      have HEQ : Hid (∀ w', Below wr.heap.size wr w' → Calls Tryd.prog 17 #[.agg #[.int .i64 (x.ty), .int .i64 (x.value)], .agg #[.int .i64 (x.ty), .int .i64 (x.value)]] w' fun e w2 => e = .returned (.bool true) ∧ Below w'.heap.size w' w2) := hide fun w' bel =>
        eqOut_same _ _ (m.inner b) (m'.inner b') x w' (HVal.out.on (bel.mono (by rw [Md.inner_hi]; exact Nat.le_trans hm hbw.size))) (HValq.out.on (bel.mono (by rw [Md.inner_hi]; exact Nat.le_trans hm' hbw.size))) (by rw [Md.inner_hi]; exact Nat.le_trans hm (Nat.le_trans hbw.size bel.size)) (by rw [Md.inner_hi]; exact Nat.le_trans hm' (Nat.le_trans hbw.size bel.size))
      go_wp2
      go_region_with (go_at_call 17; refine (HEQ.out _ (Below.refl _ _).drew).mono ?_; rintro e w' ⟨rfl, bel⟩)
      all_goals go_wp2
      all_goals go_roundw
      all_goals first
        | exact ⟨k + 1, by go_num, by omega, hbw.drew.trans (bel.mono (show w.heap.size ≤ wr.drew.heap.size from hbw.size))⟩
        | (simp [intOf]; omega)
    · have i1 : ¬ (k : Int) < n := by omega
      go_wp2
      go_ret
      exact ⟨rfl, hbw⟩
set_option maxHeartbeats 4000000 in
theorem eqResult_same (v v' : Value) (m m' : Md) (x : ResultD) (w : World) (h : ResultVal w m v x) (h' : ResultVal w m' v' x) (hm : m.hi ≤ w.heap.size) (hm' : m'.hi ≤ w.heap.size) :
    Calls Tryd.prog 8 #[v, v'] w fun e w' => e = .returned (.bool true) ∧ Below w.heap.size w w' := by
  obtain ⟨u2, rfl, hb, s2⟩ := h
  have HS2 := hide s2
  obtain ⟨p2, c2, rfl, -⟩ := s2
  obtain ⟨u2q, rfl, -, s2q⟩ := h'
  have HS2q := hide s2q
  obtain ⟨p2q, c2q, rfl, -⟩ := s2q
  obtain ⟨-, -, lb2, -⟩ := hb
  go_enter Tryd.func8, Tryd.ntmps8
  go_wp2_with fail
  have b0 : Below w.heap.size w ((w.alloc (.cells #[.int .i64 x.en, .int .i64 x.trap, .slice p2 x.out.length c2, .int .i64 x.used] 30)).alloc (.cells #[.int .i64 x.en, .int .i64 x.trap, .slice p2q x.out.length c2q, .int .i64 x.used] 30)) := ((Below.refl _ _).alloc (Nat.le_refl _) _).alloc (by simp) _
  refine (eqOutS_same (.slice p2 x.out.length c2) (.slice p2q x.out.length c2q) m m' x.out _ lb2 (HS2.out.on OutAt.stays (Below.mono b0 hm)) (HS2q.out.on OutAt.stays (Below.mono b0 hm')) (Nat.le_trans hm (Below.size b0)) (Nat.le_trans hm' (Below.size b0))).mono ?_
  rintro e w2' ⟨rfl, bel2⟩
  have k0 : w2'.cell? ⟨w.heap.size, 3, none⟩ = some (.int .i64 x.used) := (bel2.cell (p := ⟨w.heap.size, 3, none⟩) (by simp; omega)).trans (by go_simp)
  have k1 : w2'.cell? ⟨w.heap.size + 1, 3, none⟩ = some (.int .i64 x.used) := (bel2.cell (p := ⟨w.heap.size + 1, 3, none⟩) (by simp)).trans (by go_simp)
  go_wp2
  go_ret
  exact ⟨rfl, (Below.trans b0 (Below.mono bel2 (Below.size b0)))⟩
end Go.Proofs.YtibjockcadnooaaDoor
