/- The law's own copies: a copy holds what the argument holds, in memory of its own. No condition. -/
import Derived.Test.YtibjockcadnooaaDoorZEndSz
namespace Go.Proofs.YtibjockcadnooaaDoor
open Go.RowKit

set_option maxHeartbeats 4000000 in
theorem toOut_any (v : Value) (m : Md) (x : OutD) (w : World) (_ : OutSm x) (h : OutVal w m v x) (_ : m.hi ≤ w.heap.size) :
    Calls Tryd.prog 15 #[v] w fun e w' => (∃ u, e = .returned u ∧ Hid (OutVal w' ⟨w.heap.size, w'.heap.size, true⟩ u x)) ∧ Below w.heap.size w w' := by
  obtain ⟨rfl, hb⟩ := h
  have HB := hide hb
  clear hb
  go_enter Tryd.func15, Tryd.ntmps15
  go_wp2
  refine bodyPost_ret (v := .agg #[.int .i64 (x.ty), .int .i64 (x.value)]) (by simp [results, Tryd.results15, go_sem]) rfl ⟨⟨_, rfl, hide ⟨rfl, HB.out⟩⟩, ?_⟩
  exact (((Below.refl _ _).alloc (Nat.le_refl _) _).alloc (by simp) _).alloc (by simp; omega) _
set_option maxHeartbeats 4000000 in
theorem toOutS_any (v : Value) (m : Md) (l : List OutD) (w : World) (hn : l.length ≤ 1048576) (h : SlAt OutAt 2 w m v l) (hm : m.hi ≤ w.heap.size) :
    Calls Tryd.prog 12 #[v] w fun e w' => (∃ u, e = .returned u ∧ Hid (SlAt OutAt 2 w' ⟨w.heap.size, w'.heap.size, true⟩ u l)) ∧ Below w.heap.size w w' := by
  have HS := hide h
  obtain ⟨a, c, rfl, -⟩ := h
  obtain ⟨n, hl⟩ : ∃ n, l.length = n := ⟨_, rfl⟩
  have HN := hide hl
  rw [hl] at hn ⊢
  clear hl
  have hmk := run_make_many (P := Tryd.prog) 28 44 (.agg #[.int .i64 0, .int .i64 0]) 2 16 Tryd.underlying28 (by kernel_rfl) n (by omega) (by omega)
  go_enter Tryd.func12, Tryd.ntmps12
  go_wp2
  go_loopw [4] (fun i wr => ∃ (k : Nat) (C : Array Value), i = .int .i64 k ∧ k ≤ n ∧ wr.heap[w.heap.size]? = some (.cells C 44 (0, 0)) ∧ C.size = n * 2 ∧ Hid (∀ i (h : i < l.length), i < k → OutAt (fun j => C[i * 2 + j]?) wr ⟨w.heap.size + 1, wr.heap.size, true⟩ l[i]) ∧ Below w.heap.size w wr) (fun i _ => n - (intOf i).toNat)
  case atStart => exact ⟨0, _, rfl, by omega, Deep.blk_alloc_new _ _, size_madeCells _ _, hide (fun i _ hi => absurd hi (by omega)), (Below.refl _ _).alloc (Nat.le_refl _) _⟩
  case round =>
    obtain ⟨k, C, rfl, hk, hC, hsz, Hs, hbw⟩ := hrel
    by_cases hp : k < n
    · have i1 : (k : Int) < n := by omega
      obtain ⟨x, hx⟩ : ∃ x, l[k]'(by rw [HN.out]; exact hp) = x := ⟨_, rfl⟩
      obtain ⟨a', c', e', hrows⟩ := HS.out.on OutAt.stays (hbw.mono hm)
      cases e'
      obtain ⟨b, o, rfl, hb1, hb2, -, he⟩ := hrows k (by rw [HN.out]; exact hp)
      have HX := hide hx
      rw [hx] at he
      clear hx hrows
      obtain ⟨⟨d0, d1⟩, hbd⟩ := he
      have HVal := hide (show OutVal wr (m.inner b) (.agg #[.int .i64 (x.ty), .int .i64 (x.value)]) x from ⟨rfl, hbd⟩)
      simp only [Nat.add_zero] at d0 d1
      clear hbd
      have HC := hide hC
      clear hC
      go_wp2_with fail
      refine (toOut_any _ (m.inner b) x wr trivial HVal.out (by rw [Md.inner_hi]; exact Nat.le_trans hm hbw.size)).mono ?_
      rintro e w1 ⟨⟨u, rfl, hu⟩, bel⟩
      obtain ⟨rfl, hbr⟩ := id hu.out
      have HBr := hide hbr
      have hC1 := (bel.block w.heap.size (Array.getElem?_eq_some_iff.1 HC.out).1).trans HC.out
      obtain ⟨s1, s2⟩ := heapCells hC1
      obtain ⟨y0, g0⟩ : ∃ y, w1.cell? ⟨w.heap.size, k * 2, none⟩ = some y := by rw [s1]; exact ⟨_, Array.getElem?_eq_getElem (by omega)⟩
      have f0 := s2 (k * 2)
      obtain ⟨y1, g1⟩ : ∃ y, w1.cell? ⟨w.heap.size, k * 2 + 1, none⟩ = some y := by rw [s1]; exact ⟨_, Array.getElem?_eq_getElem (by omega)⟩
      have f1 := s2 (k * 2 + 1)
      have HC1 := hide hC1
      clear s1 s2 hC1 hbr hu
      go_wp2
      go_roundw
      case rel =>
        have hbw1 := hbw.trans (bel.mono hbw.size)
        exact ⟨k + 1, _, by go_num, by omega, setRow_heap (o := k * 2) [.int .i64 (x.ty), .int .i64 (x.value)] HC1.out, by rw [putRow_size]; exact hsz,
          hide (rows_step OutAt.loc OutAt.stays OutAt.widens rfl (by rw [HN.out]; exact hp) HX.out (by rw [HN.out]; omega) Hs.out bel ⟨⟨rfl, rfl⟩, HBr.out⟩), setRow_below [.int .i64 (x.ty), .int .i64 (x.value)] hbw1 (Nat.le_refl _)⟩
      case measure => simp [intOf]; omega
    · have i1 : ¬ (k : Int) < n := by omega
      go_wp2
      go_ret
      refine ⟨⟨_, rfl, ?_⟩, hbw⟩
      have := SlAt.of_row (E := OutAt) (m := ⟨w.heap.size, wr.heap.size, true⟩) (c := n) (l := l) hC (Nat.le_refl _) (Array.getElem?_eq_some_iff.1 hC).1 (by rw [HN.out]; exact Nat.le_refl _) (fun i h => Hs.out i h (by have := HN.out; omega))
      rw [HN.out] at this
      exact hide this
set_option maxHeartbeats 4000000 in
theorem toResult_any (v : Value) (m : Md) (x : ResultD) (w : World) (hs : ResultSm x) (h : ResultVal w m v x) (hm : m.hi ≤ w.heap.size) :
    Calls Tryd.prog 6 #[v] w fun e w' => (∃ u, e = .returned u ∧ Hid (ResultVal w' ⟨w.heap.size, w'.heap.size, true⟩ u x)) ∧ Below w.heap.size w w' := by
  obtain ⟨u2, rfl, hb, s2⟩ := h
  have HS2 := hide s2
  obtain ⟨p2, c2, rfl, -⟩ := s2
  have HB := hide hb
  unfold ResultSm at hs
  have sm2 := hs
  clear hb
  go_enter Tryd.func6, Tryd.ntmps6
  go_wp2_with fail
  refine (toOutS_any (.slice p2 x.out.length c2) m x.out _ sm2 (HS2.out.on OutAt.stays (Below.mono ((((Below.refl _ _).alloc (Nat.le_refl _) _).alloc (by simp) _).alloc (by first | omega | (simp <;> omega)) _) hm)) (Nat.le_trans hm (Below.size ((((Below.refl _ _).alloc (Nat.le_refl _) _).alloc (by simp) _).alloc (by first | omega | (simp <;> omega)) _)))).mono ?_
  rintro e w2' ⟨⟨r2, rfl, hr2⟩, bel2⟩
  obtain ⟨q2, k2, rfl, -⟩ := id hr2.out
  have z2 : w.heap.size + 3 ≤ w2'.heap.size := Nat.le_trans (by simp) bel2.size
  obtain ⟨hc2, hf2⟩ := bcell bel2
  have m2_0 := fun o => hc2 (w.heap.size) o (by first | omega | (simp <;> omega))
  have n2_0 := fun o => hf2 (w.heap.size) o (by first | omega | (simp <;> omega))
  have m2_1 := fun o => hc2 (w.heap.size + 1) o (by first | omega | (simp <;> omega))
  have n2_1 := fun o => hf2 (w.heap.size + 1) o (by first | omega | (simp <;> omega))
  have m2_2 := fun o => hc2 (w.heap.size + 2) o (by first | omega | (simp <;> omega))
  have n2_2 := fun o => hf2 (w.heap.size + 2) o (by first | omega | (simp <;> omega))
  clear hc2 hf2
  go_wp2
  refine bodyPost_ret (v := .agg #[.int .i64 (x.en), .int .i64 (x.trap), .slice q2 x.out.length k2, .int .i64 (x.used)]) (by simp [results, Tryd.results6, go_sem, m2_1]) rfl ⟨⟨_, rfl, hide ⟨_, rfl, HB.out, ?_⟩⟩, ?_⟩
  · refine (hr2.out.same OutAt.stays ?_).wid OutAt.widens (by first | omega | (simp <;> omega)) (by first | omega | (simp <;> omega)) rfl
    repeat (refine Same.setCell ?_ (by first | omega | (simp <;> omega)) _)
    exact Same.refl _ _ _
  · repeat (refine Below.setCell ?_ (by first | omega | (simp <;> omega)) _)
    refine Below.trans ?_ (bel2.mono (B' := w.heap.size) (by first | omega | (simp <;> omega)))
    repeat (refine Below.setCell ?_ (by first | omega | (simp <;> omega)) _)
    exact (((Below.refl _ _).alloc (Nat.le_refl _) _).alloc (by simp) _).alloc (by first | omega | (simp <;> omega)) _
end Go.Proofs.YtibjockcadnooaaDoor
