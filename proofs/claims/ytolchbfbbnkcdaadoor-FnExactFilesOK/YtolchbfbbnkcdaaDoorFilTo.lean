/- The law's own copies: a copy holds what the argument holds, in memory of its own. No condition. -/
import Derived.Test.YtolchbfbbnkcdaaDoorFilSz
namespace Go.Proofs.YtolchbfbbnkcdaaDoor
open Go.RowKit

set_option maxHeartbeats 4000000 in
theorem toFile_any (v : Value) (m : Md) (x : FileD) (w : World) (_ : FileSm x) (h : FileVal w m v x) (_ : m.hi ≤ w.heap.size) :
    Calls Tryd.prog 11 #[v] w fun e w' => (∃ u, e = .returned u ∧ Hid (FileVal w' ⟨w.heap.size, w'.heap.size, true⟩ u x)) ∧ Below w.heap.size w w' := by
  obtain ⟨rfl, hb⟩ := h
  have HB := hide hb
  clear hb
  go_enter Tryd.func11, Tryd.ntmps11
  go_wp2
  refine bodyPost_ret (v := .agg #[.string (x.name), .string (x.text)]) (by simp [results, Tryd.results11, go_sem]) rfl ⟨⟨_, rfl, hide ⟨rfl, HB.out⟩⟩, ?_⟩
  exact (((Below.refl _ _).alloc (Nat.le_refl _) _).alloc (by simp) _).alloc (by simp; omega) _
set_option maxHeartbeats 4000000 in
theorem toFileS_any (v : Value) (m : Md) (l : List FileD) (w : World) (hn : l.length ≤ 1048576) (h : SlAt FileAt 2 w m v l) (hm : m.hi ≤ w.heap.size) :
    Calls Tryd.prog 6 #[v] w fun e w' => (∃ u, e = .returned u ∧ Hid (SlAt FileAt 2 w' ⟨w.heap.size, w'.heap.size, true⟩ u l)) ∧ Below w.heap.size w w' := by
  have HS := hide h
  obtain ⟨a, c, rfl, -⟩ := h
  obtain ⟨n, hl⟩ : ∃ n, l.length = n := ⟨_, rfl⟩
  have HN := hide hl
  rw [hl] at hn ⊢
  clear hl
  have hmk := run_make_many (P := Tryd.prog) 25 33 (.agg #[.string ⟨#[]⟩, .string ⟨#[]⟩]) 2 32 Tryd.underlying25 (by kernel_rfl) n (by omega) (by omega)
  go_enter Tryd.func6, Tryd.ntmps6
  go_wp2
  go_loopw [4] (fun i wr => ∃ (k : Nat) (C : Array Value), i = .int .i64 k ∧ k ≤ n ∧ wr.heap[w.heap.size]? = some (.cells C 33 (0, 0)) ∧ C.size = n * 2 ∧ Hid (∀ i (h : i < l.length), i < k → FileAt (fun j => C[i * 2 + j]?) wr ⟨w.heap.size + 1, wr.heap.size, true⟩ l[i]) ∧ Below w.heap.size w wr) (fun i _ => n - (intOf i).toNat)
  case atStart => exact ⟨0, _, rfl, by omega, Deep.blk_alloc_new _ _, size_madeCells _ _, hide (fun i _ hi => absurd hi (by omega)), (Below.refl _ _).alloc (Nat.le_refl _) _⟩
  case round =>
    obtain ⟨k, C, rfl, hk, hC, hsz, Hs, hbw⟩ := hrel
    by_cases hp : k < n
    · have i1 : (k : Int) < n := by omega
      obtain ⟨x, hx⟩ : ∃ x, l[k]'(by rw [HN.out]; exact hp) = x := ⟨_, rfl⟩
      obtain ⟨a', c', e', hrows⟩ := HS.out.on FileAt.stays (hbw.mono hm)
      cases e'
      obtain ⟨b, o, rfl, hb1, hb2, -, he⟩ := hrows k (by rw [HN.out]; exact hp)
      have HX := hide hx
      rw [hx] at he
      clear hx hrows
      obtain ⟨⟨d0, d1⟩, hbd⟩ := he
      have HVal := hide (show FileVal wr (m.inner b) (.agg #[.string (x.name), .string (x.text)]) x from ⟨rfl, hbd⟩)
      simp only [Nat.add_zero] at d0 d1
      clear hbd
      have HC := hide hC
      clear hC
      go_wp2_with fail
      refine (toFile_any _ (m.inner b) x wr trivial HVal.out (by rw [Md.inner_hi]; exact Nat.le_trans hm hbw.size)).mono ?_
      rintro e w1 ⟨⟨u, rfl, hu⟩, bel⟩
      obtain ⟨rfl, hbr⟩ := id hu.out
      have HBr := hide hbr
      have hC1 := (bel.block w.heap.size (Array.getElem?_eq_some_iff.1 HC.out).1).trans HC.out
      obtain ⟨s1, s2⟩ := heapCells hC1
      obtain ⟨y0, g0⟩ : ∃ y, w1.cell? ⟨w.heap.size, k * 2, none⟩ = some y := by rw [s1]; exact ⟨_, Array.getElem?_eq_getElem (by omega)⟩
      have f0 := s2 (k * 2)
      obtain ⟨y1, g1⟩ : ∃ y, w1.cell? ⟨w.heap.size, k * 2 + 1, none⟩ = some y := by rw [s1]; exact ⟨_, Array.getElem?_eq_getElem (by omega)⟩
      have f1 := s2 (k * 2 + 1)
      have HC1 := hide hC1
      clear s1 s2 hC1 hbr hu
      go_wp2
      go_roundw
      case rel =>
        have hbw1 := hbw.trans (bel.mono hbw.size)
        exact ⟨k + 1, _, by go_num, by omega, setRow_heap (o := k * 2) [.string (x.name), .string (x.text)] HC1.out, by rw [putRow_size]; exact hsz,
          hide (rows_step FileAt.loc FileAt.stays FileAt.widens rfl (by rw [HN.out]; exact hp) HX.out (by rw [HN.out]; omega) Hs.out bel ⟨⟨rfl, rfl⟩, HBr.out⟩), setRow_below [.string (x.name), .string (x.text)] hbw1 (Nat.le_refl _)⟩
      case measure => simp [intOf]; omega
    · have i1 : ¬ (k : Int) < n := by omega
      go_wp2
      go_ret
      refine ⟨⟨_, rfl, ?_⟩, hbw⟩
      have := SlAt.of_row (E := FileAt) (m := ⟨w.heap.size, wr.heap.size, true⟩) (c := n) (l := l) hC (Nat.le_refl _) (Array.getElem?_eq_some_iff.1 hC).1 (by rw [HN.out]; exact Nat.le_refl _) (fun i h => Hs.out i h (by have := HN.out; omega))
      rw [HN.out] at this
      exact hide this
end Go.Proofs.YtolchbfbbnkcdaaDoor
