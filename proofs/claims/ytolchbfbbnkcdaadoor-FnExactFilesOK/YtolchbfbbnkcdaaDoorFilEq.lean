/- What holds the same is told the same by the law's own way to compare. No condition. -/
import Derived.Test.YtolchbfbbnkcdaaDoorFilTo
import Derived.Deep.RegionWith
namespace Go.Proofs.YtolchbfbbnkcdaaDoor
open Go.RowKit

set_option maxHeartbeats 4000000 in
theorem eqFile_same (v v' : Value) (m m' : Md) (x : FileD) (w : World) (h : FileVal w m v x) (h' : FileVal w m' v' x) (_ : m.hi ≤ w.heap.size) (_ : m'.hi ≤ w.heap.size) :
    Calls Tryd.prog 13 #[v, v'] w fun e w' => e = .returned (.bool true) ∧ Below w.heap.size w w' := by
  obtain ⟨rfl, -⟩ := h
  obtain ⟨rfl, -⟩ := h'
  go_enter Tryd.func13, Tryd.ntmps13
  go_wp2
  go_ret
  exact ⟨rfl, ((Below.refl _ _).alloc (Nat.le_refl _) _).alloc (by simp) _⟩
set_option maxHeartbeats 4000000 in
theorem eqFileS_same (v v' : Value) (m m' : Md) (l : List FileD) (w : World) (hn : l.length ≤ maxLen) (h : SlAt FileAt 2 w m v l) (h' : SlAt FileAt 2 w m' v' l) (hm : m.hi ≤ w.heap.size) (hm' : m'.hi ≤ w.heap.size) :
    Calls Tryd.prog 8 #[v, v'] w fun e w' => e = .returned (.bool true) ∧ Below w.heap.size w w' := by
  unfold maxLen at hn
  have HS := hide h
  have HS' := hide h'
  obtain ⟨a, c, rfl, -⟩ := h
  obtain ⟨a', c', rfl, -⟩ := h'
  obtain ⟨n, hl⟩ : ∃ n, l.length = n := ⟨_, rfl⟩
  have HN := hide hl
  rw [hl] at hn ⊢
  clear hl
  go_enter Tryd.func8, Tryd.ntmps8
  go_wp2
  go_loopw [5] (fun i wr => ∃ k : Nat, i = .int .i64 k ∧ k ≤ n ∧ Below w.heap.size w wr) (fun i _ => n - (intOf i).toNat)
  case atStart => exact ⟨0, rfl, by omega, Below.refl _ _⟩
  case round =>
    obtain ⟨k, rfl, hk, hbw⟩ := hrel
    by_cases hp : k < n
    · have i1 : (k : Int) < n := by omega
      obtain ⟨x, hx⟩ : ∃ x, l[k]'(by rw [HN.out]; exact hp) = x := ⟨_, rfl⟩
      obtain ⟨a1, c1', e1, hrows⟩ := HS.out.on FileAt.stays (hbw.mono hm)
      cases e1
      obtain ⟨b, o, rfl, hb1, hb2, -, he⟩ := hrows k (by rw [HN.out]; exact hp)
      obtain ⟨a2, c2', e2, hrows'⟩ := HS'.out.on FileAt.stays (hbw.mono hm')
      cases e2
      obtain ⟨b', o', rfl, hb1', hb2', -, heq⟩ := hrows' k (by rw [HN.out]; exact hp)
      rw [hx] at he heq
      clear hx hrows hrows'
      obtain ⟨⟨d0, d1⟩, hbd⟩ := he
      have HVal := hide (show FileVal wr (m.inner b) (.agg #[.string (x.name), .string (x.text)]) x from ⟨rfl, hbd⟩)
      simp only [Nat.add_zero] at d0 d1
      clear hbd
      obtain ⟨⟨d0q, d1q⟩, hbdq⟩ := heq
      have HValq := hide (show FileVal wr (m'.inner b') (.agg #[.string (x.name), .string (x.text)]) x from ⟨rfl, hbdq⟩)
      simp only [Nat.add_zero] at d0q d1q
      clear hbdq
      have HEQ : Hid (∀ w', Below wr.heap.size wr w' → Calls Tryd.prog 13 #[.agg #[.string (x.name), .string (x.text)], .agg #[.string (x.name), .string (x.text)]] w' fun e w2 => e = .returned (.bool true) ∧ Below w'.heap.size w' w2) := hide fun w' bel =>
        eqFile_same _ _ (m.inner b) (m'.inner b') x w' (HVal.out.on (bel.mono (by rw [Md.inner_hi]; exact Nat.le_trans hm hbw.size))) (HValq.out.on (bel.mono (by rw [Md.inner_hi]; exact Nat.le_trans hm' hbw.size))) (by rw [Md.inner_hi]; exact Nat.le_trans hm (Nat.le_trans hbw.size bel.size)) (by rw [Md.inner_hi]; exact Nat.le_trans hm' (Nat.le_trans hbw.size bel.size))
      go_wp2
      go_region_with (go_at_call 13; refine (HEQ.out _ (Below.refl _ _).drew).mono ?_; rintro e w' ⟨rfl, bel⟩)
      all_goals go_wp2
      all_goals go_roundw
      all_goals first
        | exact ⟨k + 1, by go_num, by omega, hbw.drew.trans (bel.mono (show w.heap.size ≤ wr.drew.heap.size from hbw.size))⟩
        | (simp [intOf]; omega)
    · have i1 : ¬ (k : Int) < n := by omega
      go_wp2
      go_ret
      exact ⟨rfl, hbw⟩
end Go.Proofs.YtolchbfbbnkcdaaDoor
