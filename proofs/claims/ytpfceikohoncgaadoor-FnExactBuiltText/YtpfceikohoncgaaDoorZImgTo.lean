/- The law's own copies: a copy holds what the argument holds, in memory of its own. No condition. -/
import Derived.Test.YtpfceikohoncgaaDoorZImgSz
namespace Go.Proofs.YtpfceikohoncgaaDoor
open Go.RowKit

set_option maxHeartbeats 4000000 in
theorem toIns_any (v : Value) (m : Md) (x : InsD) (w : World) (_ : InsSm x) (h : InsVal w m v x) (_ : m.hi ≤ w.heap.size) :
    Calls Tryd.prog 50 #[v] w fun e w' => (∃ u, e = .returned u ∧ Hid (InsVal w' ⟨w.heap.size, w'.heap.size, true⟩ u x)) ∧ Below w.heap.size w w' := by
  obtain ⟨rfl, hb⟩ := h
  have HB := hide hb
  clear hb
  go_enter Tryd.func50, Tryd.ntmps50
  go_wp2
  refine bodyPost_ret (v := .agg #[.int .i64 (x.op), .int .i64 (x.a), .int .i64 (x.b), .string (x.mod), .string (x.name)]) (by simp [results, Tryd.results50, go_sem]) rfl ⟨⟨_, rfl, hide ⟨rfl, HB.out⟩⟩, ?_⟩
  exact (((Below.refl _ _).alloc (Nat.le_refl _) _).alloc (by simp) _).alloc (by simp; omega) _
set_option maxHeartbeats 4000000 in
theorem toInsS_any (v : Value) (m : Md) (l : List InsD) (w : World) (hn : l.length ≤ 1048576) (h : SlAt InsAt 5 w m v l) (hm : m.hi ≤ w.heap.size) :
    Calls Tryd.prog 41 #[v] w fun e w' => (∃ u, e = .returned u ∧ Hid (SlAt InsAt 5 w' ⟨w.heap.size, w'.heap.size, true⟩ u l)) ∧ Below w.heap.size w w' := by
  have HS := hide h
  obtain ⟨a, c, rfl, -⟩ := h
  obtain ⟨n, hl⟩ : ∃ n, l.length = n := ⟨_, rfl⟩
  have HN := hide hl
  rw [hl] at hn ⊢
  clear hl
  have hmk := run_make_many (P := Tryd.prog) 66 94 (.agg #[.int .i64 0, .int .i64 0, .int .i64 0, .string ⟨#[]⟩, .string ⟨#[]⟩]) 5 56 Tryd.underlying66 (by kernel_rfl) n (by omega) (by omega)
  go_enter Tryd.func41, Tryd.ntmps41
  go_wp2
  go_loopw [4] (fun i wr => ∃ (k : Nat) (C : Array Value), i = .int .i64 k ∧ k ≤ n ∧ wr.heap[w.heap.size]? = some (.cells C 94 (0, 0)) ∧ C.size = n * 5 ∧ Hid (∀ i (h : i < l.length), i < k → InsAt (fun j => C[i * 5 + j]?) wr ⟨w.heap.size + 1, wr.heap.size, true⟩ l[i]) ∧ Below w.heap.size w wr) (fun i _ => n - (intOf i).toNat)
  case atStart => exact ⟨0, _, rfl, by omega, Deep.blk_alloc_new _ _, size_madeCells _ _, hide (fun i _ hi => absurd hi (by omega)), (Below.refl _ _).alloc (Nat.le_refl _) _⟩
  case round =>
    obtain ⟨k, C, rfl, hk, hC, hsz, Hs, hbw⟩ := hrel
    by_cases hp : k < n
    · have i1 : (k : Int) < n := by omega
      obtain ⟨x, hx⟩ : ∃ x, l[k]'(by rw [HN.out]; exact hp) = x := ⟨_, rfl⟩
      obtain ⟨a', c', e', hrows⟩ := HS.out.on InsAt.stays (hbw.mono hm)
      cases e'
      obtain ⟨b, o, rfl, hb1, hb2, -, he⟩ := hrows k (by rw [HN.out]; exact hp)
      have HX := hide hx
      rw [hx] at he
      clear hx hrows
      obtain ⟨⟨d0, d1, d2, d3, d4⟩, hbd⟩ := he
      have HVal := hide (show InsVal wr (m.inner b) (.agg #[.int .i64 (x.op), .int .i64 (x.a), .int .i64 (x.b), .string (x.mod), .string (x.name)]) x from ⟨rfl, hbd⟩)
      simp only [Nat.add_zero] at d0 d1 d2 d3 d4
      clear hbd
      have HC := hide hC
      clear hC
      go_wp2_with fail
      refine (toIns_any _ (m.inner b) x wr trivial HVal.out (by rw [Md.inner_hi]; exact Nat.le_trans hm hbw.size)).mono ?_
      rintro e w1 ⟨⟨u, rfl, hu⟩, bel⟩
      obtain ⟨rfl, hbr⟩ := id hu.out
      have HBr := hide hbr
      have hC1 := (bel.block w.heap.size (Array.getElem?_eq_some_iff.1 HC.out).1).trans HC.out
      obtain ⟨s1, s2⟩ := heapCells hC1
      obtain ⟨y0, g0⟩ : ∃ y, w1.cell? ⟨w.heap.size, k * 5, none⟩ = some y := by rw [s1]; exact ⟨_, Array.getElem?_eq_getElem (by omega)⟩
      have f0 := s2 (k * 5)
      obtain ⟨y1, g1⟩ : ∃ y, w1.cell? ⟨w.heap.size, k * 5 + 1, none⟩ = some y := by rw [s1]; exact ⟨_, Array.getElem?_eq_getElem (by omega)⟩
      have f1 := s2 (k * 5 + 1)
      obtain ⟨y2, g2⟩ : ∃ y, w1.cell? ⟨w.heap.size, k * 5 + 2, none⟩ = some y := by rw [s1]; exact ⟨_, Array.getElem?_eq_getElem (by omega)⟩
      have f2 := s2 (k * 5 + 2)
      obtain ⟨y3, g3⟩ : ∃ y, w1.cell? ⟨w.heap.size, k * 5 + 3, none⟩ = some y := by rw [s1]; exact ⟨_, Array.getElem?_eq_getElem (by omega)⟩
      have f3 := s2 (k * 5 + 3)
      obtain ⟨y4, g4⟩ : ∃ y, w1.cell? ⟨w.heap.size, k * 5 + 4, none⟩ = some y := by rw [s1]; exact ⟨_, Array.getElem?_eq_getElem (by omega)⟩
      have f4 := s2 (k * 5 + 4)
      have HC1 := hide hC1
      clear s1 s2 hC1 hbr hu
      go_wp2
      go_roundw
      case rel =>
        have hbw1 := hbw.trans (bel.mono hbw.size)
        exact ⟨k + 1, _, by go_num, by omega, setRow_heap (o := k * 5) [.int .i64 (x.op), .int .i64 (x.a), .int .i64 (x.b), .string (x.mod), .string (x.name)] HC1.out, by rw [putRow_size]; exact hsz,
          hide (rows_step InsAt.loc InsAt.stays InsAt.widens rfl (by rw [HN.out]; exact hp) HX.out (by rw [HN.out]; omega) Hs.out bel ⟨⟨rfl, rfl, rfl, rfl, rfl⟩, HBr.out⟩), setRow_below [.int .i64 (x.op), .int .i64 (x.a), .int .i64 (x.b), .string (x.mod), .string (x.name)] hbw1 (Nat.le_refl _)⟩
      case measure => simp [intOf]; omega
    · have i1 : ¬ (k : Int) < n := by omega
      go_wp2
      go_ret
      refine ⟨⟨_, rfl, ?_⟩, hbw⟩
      have := SlAt.of_row (E := InsAt) (m := ⟨w.heap.size, wr.heap.size, true⟩) (c := n) (l := l) hC (Nat.le_refl _) (Array.getElem?_eq_some_iff.1 hC).1 (by rw [HN.out]; exact Nat.le_refl _) (fun i h => Hs.out i h (by have := HN.out; omega))
      rw [HN.out] at this
      exact hide this
set_option maxHeartbeats 4000000 in
theorem toCode_any (v : Value) (m : Md) (x : CodeD) (w : World) (hs : CodeSm x) (h : CodeVal w m v x) (hm : m.hi ≤ w.heap.size) :
    Calls Tryd.prog 34 #[v] w fun e w' => (∃ u, e = .returned u ∧ Hid (CodeVal w' ⟨w.heap.size, w'.heap.size, true⟩ u x)) ∧ Below w.heap.size w w' := by
  obtain ⟨u4, rfl, hb, s4⟩ := h
  have HS4 := hide s4
  obtain ⟨p4, c4, rfl, -⟩ := s4
  have HB := hide hb
  unfold CodeSm at hs
  have sm4 := hs
  clear hb
  go_enter Tryd.func34, Tryd.ntmps34
  go_wp2_with fail
  refine (toInsS_any (.slice p4 x.list.length c4) m x.list _ sm4 (HS4.out.on InsAt.stays (Below.mono ((((Below.refl _ _).alloc (Nat.le_refl _) _).alloc (by simp) _).alloc (by first | omega | (simp <;> omega)) _) hm)) (Nat.le_trans hm (Below.size ((((Below.refl _ _).alloc (Nat.le_refl _) _).alloc (by simp) _).alloc (by first | omega | (simp <;> omega)) _)))).mono ?_
  rintro e w4' ⟨⟨r4, rfl, hr4⟩, bel4⟩
  obtain ⟨q4, k4, rfl, -⟩ := id hr4.out
  have z4 : w.heap.size + 3 ≤ w4'.heap.size := Nat.le_trans (by simp) bel4.size
  obtain ⟨hc4, hf4⟩ := bcell bel4
  have m4_0 := fun o => hc4 (w.heap.size) o (by first | omega | (simp <;> omega))
  have n4_0 := fun o => hf4 (w.heap.size) o (by first | omega | (simp <;> omega))
  have m4_1 := fun o => hc4 (w.heap.size + 1) o (by first | omega | (simp <;> omega))
  have n4_1 := fun o => hf4 (w.heap.size + 1) o (by first | omega | (simp <;> omega))
  have m4_2 := fun o => hc4 (w.heap.size + 2) o (by first | omega | (simp <;> omega))
  have n4_2 := fun o => hf4 (w.heap.size + 2) o (by first | omega | (simp <;> omega))
  clear hc4 hf4
  go_wp2
  refine bodyPost_ret (v := .agg #[.string (x.name), .int .i64 (x.params), .int .i64 (x.cells), .int .i64 (x.result), .slice q4 x.list.length k4]) (by simp [results, Tryd.results34, go_sem, m4_1]) rfl ⟨⟨_, rfl, hide ⟨_, rfl, HB.out, ?_⟩⟩, ?_⟩
  · refine (hr4.out.same InsAt.stays ?_).wid InsAt.widens (by first | omega | (simp <;> omega)) (by first | omega | (simp <;> omega)) rfl
    repeat (refine Same.setCell ?_ (by first | omega | (simp <;> omega)) _)
    exact Same.refl _ _ _
  · repeat (refine Below.setCell ?_ (by first | omega | (simp <;> omega)) _)
    refine Below.trans ?_ (bel4.mono (B' := w.heap.size) (by first | omega | (simp <;> omega)))
    repeat (refine Below.setCell ?_ (by first | omega | (simp <;> omega)) _)
    exact (((Below.refl _ _).alloc (Nat.le_refl _) _).alloc (by simp) _).alloc (by first | omega | (simp <;> omega)) _
set_option maxHeartbeats 4000000 in
theorem toCodeS_any (v : Value) (m : Md) (l : List CodeD) (w : World) (hn : l.length ≤ 1048576) (hsn : ∀ x ∈ l, CodeSm x) (h : SlAt CodeAt 5 w m v l) (hm : m.hi ≤ w.heap.size) :
    Calls Tryd.prog 26 #[v] w fun e w' => (∃ u, e = .returned u ∧ Hid (SlAt CodeAt 5 w' ⟨w.heap.size, w'.heap.size, true⟩ u l)) ∧ Below w.heap.size w w' := by
  have HS := hide h
  have HSN := hide hsn
  obtain ⟨a, c, rfl, -⟩ := h
  obtain ⟨n, hl⟩ : ∃ n, l.length = n := ⟨_, rfl⟩
  have HN := hide hl
  rw [hl] at hn ⊢
  clear hl hsn
  have hmk := run_make_many (P := Tryd.prog) 32 68 (.agg #[.string ⟨#[]⟩, .int .i64 0, .int .i64 0, .int .i64 0, .slice none 0 0]) 5 64 Tryd.underlying32 (by kernel_rfl) n (by omega) (by omega)
  go_enter Tryd.func26, Tryd.ntmps26
  go_wp2
  go_loopw [4] (fun i wr => ∃ (k : Nat) (C : Array Value), i = .int .i64 k ∧ k ≤ n ∧ wr.heap[w.heap.size]? = some (.cells C 68 (0, 0)) ∧ C.size = n * 5 ∧ Hid (∀ i (h : i < l.length), i < k → CodeAt (fun j => C[i * 5 + j]?) wr ⟨w.heap.size + 1, wr.heap.size, true⟩ l[i]) ∧ Below w.heap.size w wr) (fun i _ => n - (intOf i).toNat)
  case atStart => exact ⟨0, _, rfl, by omega, Deep.blk_alloc_new _ _, size_madeCells _ _, hide (fun i _ hi => absurd hi (by omega)), (Below.refl _ _).alloc (Nat.le_refl _) _⟩
  case round =>
    obtain ⟨k, C, rfl, hk, hC, hsz, Hs, hbw⟩ := hrel
    by_cases hp : k < n
    · have i1 : (k : Int) < n := by omega
      obtain ⟨x, hx⟩ : ∃ x, l[k]'(by rw [HN.out]; exact hp) = x := ⟨_, rfl⟩
      obtain ⟨a', c', e', hrows⟩ := HS.out.on CodeAt.stays (hbw.mono hm)
      cases e'
      obtain ⟨b, o, rfl, hb1, hb2, -, he⟩ := hrows k (by rw [HN.out]; exact hp)
      have HX := hide hx
      rw [hx] at he
      clear hx hrows
      obtain ⟨⟨d0, d1, d2, d3⟩, hbd, u4, d4, s4⟩ := he
      have HVal := hide (show CodeVal _ _ (.agg #[.string (x.name), .int .i64 (x.params), .int .i64 (x.cells), .int .i64 (x.result), u4]) x from ⟨u4, rfl, hbd, s4⟩)
      obtain ⟨p4, c4, rfl, -⟩ := s4
      simp only [Nat.add_zero] at d0 d1 d2 d3 d4
      clear hbd
      have HC := hide hC
      clear hC
      go_wp2_with fail
      refine (toCode_any _ (m.inner b) x wr (HSN.out x (by rw [← HX.out]; exact List.getElem_mem _)) HVal.out (by rw [Md.inner_hi]; exact Nat.le_trans hm hbw.size)).mono ?_
      rintro e w1 ⟨⟨u, rfl, hu⟩, bel⟩
      obtain ⟨u4r, rfl, hbr, s4r⟩ := id hu.out
      have HSr4 := hide s4r
      obtain ⟨p4r, c4r, rfl, -⟩ := s4r
      have HBr := hide hbr
      have hC1 := (bel.block w.heap.size (Array.getElem?_eq_some_iff.1 HC.out).1).trans HC.out
      obtain ⟨s1, s2⟩ := heapCells hC1
      obtain ⟨y0, g0⟩ : ∃ y, w1.cell? ⟨w.heap.size, k * 5, none⟩ = some y := by rw [s1]; exact ⟨_, Array.getElem?_eq_getElem (by omega)⟩
      have f0 := s2 (k * 5)
      obtain ⟨y1, g1⟩ : ∃ y, w1.cell? ⟨w.heap.size, k * 5 + 1, none⟩ = some y := by rw [s1]; exact ⟨_, Array.getElem?_eq_getElem (by omega)⟩
      have f1 := s2 (k * 5 + 1)
      obtain ⟨y2, g2⟩ : ∃ y, w1.cell? ⟨w.heap.size, k * 5 + 2, none⟩ = some y := by rw [s1]; exact ⟨_, Array.getElem?_eq_getElem (by omega)⟩
      have f2 := s2 (k * 5 + 2)
      obtain ⟨y3, g3⟩ : ∃ y, w1.cell? ⟨w.heap.size, k * 5 + 3, none⟩ = some y := by rw [s1]; exact ⟨_, Array.getElem?_eq_getElem (by omega)⟩
      have f3 := s2 (k * 5 + 3)
      obtain ⟨y4, g4⟩ : ∃ y, w1.cell? ⟨w.heap.size, k * 5 + 4, none⟩ = some y := by rw [s1]; exact ⟨_, Array.getElem?_eq_getElem (by omega)⟩
      have f4 := s2 (k * 5 + 4)
      have HC1 := hide hC1
      clear s1 s2 hC1 hbr hu
      go_wp2
      go_roundw
      case rel =>
        have hbw1 := hbw.trans (bel.mono hbw.size)
        exact ⟨k + 1, _, by go_num, by omega, setRow_heap (o := k * 5) [.string (x.name), .int .i64 (x.params), .int .i64 (x.cells), .int .i64 (x.result), .slice p4r x.list.length c4r] HC1.out, by rw [putRow_size]; exact hsz,
          hide (rows_step CodeAt.loc CodeAt.stays CodeAt.widens rfl (by rw [HN.out]; exact hp) HX.out (by rw [HN.out]; omega) Hs.out bel ⟨⟨rfl, rfl, rfl, rfl⟩, HBr.out, _, rfl, HSr4.out.wid InsAt.widens (by show w.heap.size + 1 ≤ wr.heap.size; have := (Array.getElem?_eq_some_iff.1 HC.out).1; omega) (Nat.le_refl _) rfl⟩), setRow_below [.string (x.name), .int .i64 (x.params), .int .i64 (x.cells), .int .i64 (x.result), .slice p4r x.list.length c4r] hbw1 (Nat.le_refl _)⟩
      case measure => simp [intOf]; omega
    · have i1 : ¬ (k : Int) < n := by omega
      go_wp2
      go_ret
      refine ⟨⟨_, rfl, ?_⟩, hbw⟩
      have := SlAt.of_row (E := CodeAt) (m := ⟨w.heap.size, wr.heap.size, true⟩) (c := n) (l := l) hC (Nat.le_refl _) (Array.getElem?_eq_some_iff.1 hC).1 (by rw [HN.out]; exact Nat.le_refl _) (fun i h => Hs.out i h (by have := HN.out; omega))
      rw [HN.out] at this
      exact hide this
set_option maxHeartbeats 4000000 in
theorem toImage_any (v : Value) (m : Md) (x : ImageD) (w : World) (hs : ImageSm x) (h : ImageVal w m v x) (hm : m.hi ≤ w.heap.size) :
    Calls Tryd.prog 13 #[v] w fun e w' => (∃ u, e = .returned u ∧ Hid (ImageVal w' ⟨w.heap.size, w'.heap.size, true⟩ u x)) ∧ Below w.heap.size w w' := by
  obtain ⟨u1, u2, u3, rfl, hb, s1, s2, s3⟩ := h
  have HS1 := hide s1
  obtain ⟨p1, c1, rfl, -⟩ := s1
  have HS2 := hide s2
  obtain ⟨p2, c2, rfl, -⟩ := s2
  have HS3 := hide s3
  obtain ⟨p3, c3, rfl, -⟩ := s3
  have HB := hide hb
  unfold ImageSm at hs
  obtain ⟨sm1, sn1, sm2, sm3⟩ := hs
  clear hb
  go_enter Tryd.func13, Tryd.ntmps13
  go_wp2_with fail
  refine (toCodeS_any (.slice p1 x.procs.length c1) m x.procs _ sm1 sn1 (HS1.out.on CodeAt.stays (Below.mono ((((Below.refl _ _).alloc (Nat.le_refl _) _).alloc (by simp) _).alloc (by first | omega | (simp <;> omega)) _) hm)) (Nat.le_trans hm (Below.size ((((Below.refl _ _).alloc (Nat.le_refl _) _).alloc (by simp) _).alloc (by first | omega | (simp <;> omega)) _)))).mono ?_
  rintro e w1' ⟨⟨r1, rfl, hr1⟩, bel1⟩
  obtain ⟨q1, k1, rfl, -⟩ := id hr1.out
  have z1 : w.heap.size + 3 ≤ w1'.heap.size := Nat.le_trans (by simp) bel1.size
  obtain ⟨hc1, hf1⟩ := bcell bel1
  have m1_0 := fun o => hc1 (w.heap.size) o (by first | omega | (simp <;> omega))
  have n1_0 := fun o => hf1 (w.heap.size) o (by first | omega | (simp <;> omega))
  have m1_1 := fun o => hc1 (w.heap.size + 1) o (by first | omega | (simp <;> omega))
  have n1_1 := fun o => hf1 (w.heap.size + 1) o (by first | omega | (simp <;> omega))
  have m1_2 := fun o => hc1 (w.heap.size + 2) o (by first | omega | (simp <;> omega))
  have n1_2 := fun o => hf1 (w.heap.size + 2) o (by first | omega | (simp <;> omega))
  clear hc1 hf1
  go_wp2_with fail
  refine (toStringS_any (.slice p2 x.names.length c2) m x.names _ sm2 (HS2.out.on StringAt.stays (Below.mono (Below.setCell (Below.trans ((((Below.refl _ _).alloc (Nat.le_refl _) _).alloc (by simp) _).alloc (by first | omega | (simp <;> omega)) _) (Below.mono bel1 (by first | omega | (simp <;> omega)))) (p := ⟨w.heap.size + 2, 1, none⟩) (by first | omega | (simp <;> omega)) (.slice q1 x.procs.length k1)) hm)) (Nat.le_trans hm (Below.size (Below.setCell (Below.trans ((((Below.refl _ _).alloc (Nat.le_refl _) _).alloc (by simp) _).alloc (by first | omega | (simp <;> omega)) _) (Below.mono bel1 (by first | omega | (simp <;> omega)))) (p := ⟨w.heap.size + 2, 1, none⟩) (by first | omega | (simp <;> omega)) (.slice q1 x.procs.length k1))))).mono ?_
  rintro e w2' ⟨⟨r2, rfl, hr2⟩, bel2⟩
  obtain ⟨q2, k2, rfl, -⟩ := id hr2.out
  have z2 : w.heap.size + 3 ≤ w2'.heap.size := Nat.le_trans (by first | omega | (simp <;> omega)) bel2.size
  have y2 : w1'.heap.size ≤ w2'.heap.size := Nat.le_trans (by first | omega | (simp <;> omega)) bel2.size
  obtain ⟨hc2, hf2⟩ := bcell bel2
  have m2_0 := fun o => hc2 (w.heap.size) o (by first | omega | (simp <;> omega))
  have n2_0 := fun o => hf2 (w.heap.size) o (by first | omega | (simp <;> omega))
  have m2_1 := fun o => hc2 (w.heap.size + 1) o (by first | omega | (simp <;> omega))
  have n2_1 := fun o => hf2 (w.heap.size + 1) o (by first | omega | (simp <;> omega))
  have m2_2 := fun o => hc2 (w.heap.size + 2) o (by first | omega | (simp <;> omega))
  have n2_2 := fun o => hf2 (w.heap.size + 2) o (by first | omega | (simp <;> omega))
  clear hc2 hf2
  go_wp2_with fail
  refine (toIntS_any (.slice p3 x.start.length c3) m x.start _ sm3 (HS3.out.on IntAt.stays (Below.mono (Below.setCell (Below.trans (Below.setCell (Below.trans ((((Below.refl _ _).alloc (Nat.le_refl _) _).alloc (by simp) _).alloc (by first | omega | (simp <;> omega)) _) (Below.mono bel1 (by first | omega | (simp <;> omega)))) (p := ⟨w.heap.size + 2, 1, none⟩) (by first | omega | (simp <;> omega)) (.slice q1 x.procs.length k1)) (Below.mono bel2 (by first | omega | (simp <;> omega)))) (p := ⟨w.heap.size + 2, 2, none⟩) (by first | omega | (simp <;> omega)) (.slice q2 x.names.length k2)) hm)) (Nat.le_trans hm (Below.size (Below.setCell (Below.trans (Below.setCell (Below.trans ((((Below.refl _ _).alloc (Nat.le_refl _) _).alloc (by simp) _).alloc (by first | omega | (simp <;> omega)) _) (Below.mono bel1 (by first | omega | (simp <;> omega)))) (p := ⟨w.heap.size + 2, 1, none⟩) (by first | omega | (simp <;> omega)) (.slice q1 x.procs.length k1)) (Below.mono bel2 (by first | omega | (simp <;> omega)))) (p := ⟨w.heap.size + 2, 2, none⟩) (by first | omega | (simp <;> omega)) (.slice q2 x.names.length k2))))).mono ?_
  rintro e w3' ⟨⟨r3, rfl, hr3⟩, bel3⟩
  obtain ⟨q3, k3, rfl, -⟩ := id hr3.out
  have z3 : w.heap.size + 3 ≤ w3'.heap.size := Nat.le_trans (by first | omega | (simp <;> omega)) bel3.size
  have y3 : w2'.heap.size ≤ w3'.heap.size := Nat.le_trans (by first | omega | (simp <;> omega)) bel3.size
  obtain ⟨hc3, hf3⟩ := bcell bel3
  have m3_0 := fun o => hc3 (w.heap.size) o (by first | omega | (simp <;> omega))
  have n3_0 := fun o => hf3 (w.heap.size) o (by first | omega | (simp <;> omega))
  have m3_1 := fun o => hc3 (w.heap.size + 1) o (by first | omega | (simp <;> omega))
  have n3_1 := fun o => hf3 (w.heap.size + 1) o (by first | omega | (simp <;> omega))
  have m3_2 := fun o => hc3 (w.heap.size + 2) o (by first | omega | (simp <;> omega))
  have n3_2 := fun o => hf3 (w.heap.size + 2) o (by first | omega | (simp <;> omega))
  clear hc3 hf3
  go_wp2
  refine bodyPost_ret (v := .agg #[.int .i64 (x.globals), .slice q1 x.procs.length k1, .slice q2 x.names.length k2, .slice q3 x.start.length k3]) (by simp [results, Tryd.results13, go_sem, m1_1, m2_1, m3_1]) rfl ⟨⟨_, rfl, hide ⟨_, _, _, rfl, HB.out, ?_, ?_, ?_⟩⟩, ?_⟩
  · refine (hr1.out.same CodeAt.stays ?_).wid CodeAt.widens (by first | omega | (simp <;> omega)) (by first | omega | (simp <;> omega)) rfl
    repeat (refine Same.setCell ?_ (by first | omega | (simp <;> omega)) _)
    refine Same.trans ?_ (Same.of_below bel3 (by first | omega | (simp <;> omega)))
    repeat (refine Same.setCell ?_ (by first | omega | (simp <;> omega)) _)
    refine Same.trans ?_ (Same.of_below bel2 (by first | omega | (simp <;> omega)))
    repeat (refine Same.setCell ?_ (by first | omega | (simp <;> omega)) _)
    exact Same.refl _ _ _
  · refine (hr2.out.same StringAt.stays ?_).wid StringAt.widens (by first | omega | (simp <;> omega)) (by first | omega | (simp <;> omega)) rfl
    repeat (refine Same.setCell ?_ (by first | omega | (simp <;> omega)) _)
    refine Same.trans ?_ (Same.of_below bel3 (by first | omega | (simp <;> omega)))
    repeat (refine Same.setCell ?_ (by first | omega | (simp <;> omega)) _)
    exact Same.refl _ _ _
  · refine (hr3.out.same IntAt.stays ?_).wid IntAt.widens (by first | omega | (simp <;> omega)) (by first | omega | (simp <;> omega)) rfl
    repeat (refine Same.setCell ?_ (by first | omega | (simp <;> omega)) _)
    exact Same.refl _ _ _
  · repeat (refine Below.setCell ?_ (by first | omega | (simp <;> omega)) _)
    refine Below.trans ?_ (bel3.mono (B' := w.heap.size) (by first | omega | (simp <;> omega)))
    repeat (refine Below.setCell ?_ (by first | omega | (simp <;> omega)) _)
    refine Below.trans ?_ (bel2.mono (B' := w.heap.size) (by first | omega | (simp <;> omega)))
    repeat (refine Below.setCell ?_ (by first | omega | (simp <;> omega)) _)
    refine Below.trans ?_ (bel1.mono (B' := w.heap.size) (by first | omega | (simp <;> omega)))
    repeat (refine Below.setCell ?_ (by first | omega | (simp <;> omega)) _)
    exact (((Below.refl _ _).alloc (Nat.le_refl _) _).alloc (by simp) _).alloc (by first | omega | (simp <;> omega)) _
end Go.Proofs.YtpfceikohoncgaaDoor
