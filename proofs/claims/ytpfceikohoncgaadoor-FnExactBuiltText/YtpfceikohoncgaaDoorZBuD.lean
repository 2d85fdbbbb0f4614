/- A build's answer as plain data, how it lies in memory, and the law's own ways with it: measure, copy, comparison. No condition. -/
import Derived.Test.YtpfceikohoncgaaDoorZImgEq
namespace Go.Proofs.YtpfceikohoncgaaDoor
open Go.ChangeShapes Go.WideShapes Go.ChangeAt Go.RowKit Go.Deep

structure BuiltD where
  code : Int
  place : Int
  module : ByteArray
  image : ImageD
  made : List StringD
def BuiltVal (w : World) (m : Md) (v : Value) (x : BuiltD) : Prop := ∃ u4 u5 u6 u7, v = .agg #[.int .i64 x.code, .int .i64 x.place, .string x.module, .int .i64 x.image.globals, u4, u5, u6, u7] ∧ (I64 x.code ∧ I64 x.place ∧ x.module.size ≤ maxLen ∧ x.made.length ≤ maxLen) ∧ ImageVal w m (.agg #[.int .i64 x.image.globals, u4, u5, u6]) x.image ∧ SlAt StringAt 1 w m u7 x.made
theorem BuiltVal.same {w w' : World} {m : Md} {v : Value} {x : BuiltD} (h : BuiltVal w m v x) (s : Same m.lo m.hi w w') : BuiltVal w' m v x := by
  obtain ⟨u4, u5, u6, u7, e, hb, h1, h2⟩ := h
  exact ⟨u4, u5, u6, u7, e, hb, h1.same s, h2.same StringAt.stays s⟩
theorem BuiltVal.on {w w' : World} {m : Md} {v : Value} {x : BuiltD} (h : BuiltVal w m v x) (bel : Below m.hi w w') : BuiltVal w' m v x := h.same (.of_below bel (Nat.le_refl _))
def BuiltSm (x : BuiltD) : Prop := ImageSm x.image ∧ x.made.length ≤ 1048576
theorem image_slices {w : World} {m : Md} {g : Int} {u4 u5 u6 : Value} {x : ImageD} (h : ImageVal w m (.agg #[.int .i64 g, u4, u5, u6]) x) :
    g = x.globals ∧ (∃ p c, u4 = .slice p x.procs.length c) ∧ (∃ p c, u5 = .slice p x.names.length c) ∧ ∃ p c, u6 = .slice p x.start.length c := by
  obtain ⟨a, b, c, e, -, ⟨p1, c1, e1, -⟩, ⟨p2, c2, e2, -⟩, ⟨p3, c3, e3, -⟩⟩ := h
  cases e
  exact ⟨rfl, ⟨p1, c1, e1⟩, ⟨p2, c2, e2⟩, ⟨p3, c3, e3⟩⟩
theorem image_slices' {w : World} {m : Md} {u : Value} {x : ImageD} (h : ImageVal w m u x) :
    ∃ p4 c4 p5 c5 p6 c6, u = .agg #[.int .i64 x.globals, .slice p4 x.procs.length c4, .slice p5 x.names.length c5, .slice p6 x.start.length c6] := by
  obtain ⟨a, b, c, e, -, ⟨p1, c1, e1, -⟩, ⟨p2, c2, e2, -⟩, ⟨p3, c3, e3, -⟩⟩ := h
  subst e1 e2 e3
  exact ⟨p1, c1, p2, c2, p3, c3, e⟩
section
variable {H : Type} {enc : TypeId × Value → H} {w : World}
set_option maxRecDepth 100000 in
theorem open_built {r : Reach} {b0 : Nat} {v : Value} {d : DataW H} {ps : List MemPlace} (hval : Value.okWide Tryd.prog w r b0 28 v) (h : DataW.Trod enc Tryd.prog w 0 (fun _ => true) true 28 v d ps) : ∃ x, BuiltVal w ⟨0, w.heap.size, false⟩ v x := by
  obtain ⟨cs, rfl, _⟩ := okWide_struct Tryd.underlying28 hval
  obtain ⟨fuel, h⟩ := h
  obtain ⟨xs, n, _, _, hl, hxl, hf⟩ := DataW.trod_struct Tryd.underlying28 h
  obtain ⟨l, rfl⟩ : ∃ l : List Value, cs = l.toArray := ⟨cs.toList, by simp⟩
  have hz : Tryd.prog.cellsOf 28 = 8 := by kernel_rfl
  have hl' : l.length = 8 := by rw [hz] at hl; simpa [Value.cells] using hl
  match l, hl' with
  | [a, b, c, d, e, f, g, h], _ =>
    have z0 : Tryd.prog.cellsOf 3 = 1 := by kernel_rfl
    have z2 : Tryd.prog.cellsOf 9 = 1 := by kernel_rfl
    have z3 : Tryd.prog.cellsOf 26 = 4 := by kernel_rfl
    have z4 : Tryd.prog.cellsOf 23 = 1 := by kernel_rfl
    obtain ⟨y0, t0⟩ : ∃ y, DataW.trod enc Tryd.prog w 0 (fun _ => true) true n 3 ([a, b, c, d, e, f, g, h].drop 0 |>.take (Tryd.prog.cellsOf 3)) = some y := by
      have h0 := hf 0 _ rfl
      rw [List.getElem?_eq_getElem (by rw [hxl]; decide)] at h0
      exact ⟨_, h0⟩
    obtain ⟨y1, t1⟩ : ∃ y, DataW.trod enc Tryd.prog w 0 (fun _ => true) true n 3 ([a, b, c, d, e, f, g, h].drop 1 |>.take (Tryd.prog.cellsOf 3)) = some y := by
      have h0 := hf 1 _ rfl
      rw [List.getElem?_eq_getElem (by rw [hxl]; decide)] at h0
      exact ⟨_, h0⟩
    obtain ⟨y2, t2⟩ : ∃ y, DataW.trod enc Tryd.prog w 0 (fun _ => true) true n 9 ([a, b, c, d, e, f, g, h].drop 2 |>.take (Tryd.prog.cellsOf 9)) = some y := by
      have h0 := hf 2 _ rfl
      rw [List.getElem?_eq_getElem (by rw [hxl]; decide)] at h0
      exact ⟨_, h0⟩
    obtain ⟨y3, t3⟩ : ∃ y, DataW.trod enc Tryd.prog w 0 (fun _ => true) true n 26 ([a, b, c, d, e, f, g, h].drop 3 |>.take (Tryd.prog.cellsOf 26)) = some y := by
      have h0 := hf 3 _ rfl
      rw [List.getElem?_eq_getElem (by rw [hxl]; decide)] at h0
      exact ⟨_, h0⟩
    obtain ⟨y4, t4⟩ : ∃ y, DataW.trod enc Tryd.prog w 0 (fun _ => true) true n 23 ([a, b, c, d, e, f, g, h].drop 7 |>.take (Tryd.prog.cellsOf 23)) = some y := by
      have h0 := hf 4 _ rfl
      rw [List.getElem?_eq_getElem (by rw [hxl]; decide)] at h0
      exact ⟨_, h0⟩
    simp only [z0, z2, z3, z4, List.drop_zero, List.drop_succ_cons, List.take_succ_cons, List.take_zero] at t0 t1 t2 t3 t4
    obtain ⟨a0, e0, _, w0⟩ := DataW.trod_int Tryd.underlying3 t0
    obtain ⟨a1, e1, _, w1⟩ := DataW.trod_int Tryd.underlying3 t1
    obtain ⟨a2, e2, _, w2⟩ := DataW.trod_string Tryd.underlying9 t2
    obtain ⟨x, hx⟩ := opens_Image _ _ _ t3
    obtain ⟨b4, a4, e4, s4, w4⟩ := opens_slice Tryd.underlying23 (of_decide_eq_true (by kernel_rfl)) opens_String t4
    rw [z2] at s4
    obtain ⟨c0, hr, u1, u2, u3, ⟨c1, c2, c3⟩, h1, h2, h3⟩ := hx (fun j => [d, e, f, g][j]?) (fun j hj => rfl)
    simp only [List.getElem?_cons_zero, List.getElem?_cons_succ, Option.some.injEq] at c0 c1 c2 c3
    simp only [List.cons.injEq, and_true] at e0 e1 e2 e4
    subst e0 e1 e2 e4 c0 c1 c2 c3
    exact ⟨⟨a0, a1, a2, x, a4⟩, _, _, _, _, rfl, ⟨I64.of_wf w0, I64.of_wf w1, w2, w4⟩, ⟨_, _, _, rfl, hr, h1, h2, h3⟩, s4⟩
end
set_option maxHeartbeats 4000000 in
theorem szBuilt_any (v : Value) (m : Md) (x : BuiltD) (left : Int) (w : World) (h0 : 0 ≤ left) (h1 : left ≤ 1048576) (h : BuiltVal w m v x) (hm : m.hi ≤ w.heap.size) :
    Calls Tryd.prog 4 #[v, .int .i64 left] w fun e w' => (∃ k : Int, e = .returned (.int .i64 k) ∧ -1 ≤ k ∧ k ≤ left ∧ (0 ≤ k → BuiltSm x ∧ x.module.size ≤ 1048576)) ∧ Below w.heap.size w w' := by
  obtain ⟨u4, u5, u6, u7, rfl, hb, hi, s7⟩ := h
  have HI := hide hi
  have HS := hide s7
  obtain ⟨-, ⟨p4, c4, rfl⟩, ⟨p5, c5, rfl⟩, ⟨p6, c6, rfl⟩⟩ := image_slices hi
  obtain ⟨p7, c7, rfl, -⟩ := s7
  obtain ⟨-, -, lb2, lb7⟩ := hb
  obtain ⟨gv, hgv⟩ : ∃ k, x.image.globals = k := ⟨_, rfl⟩
  obtain ⟨n4, hn4⟩ : ∃ k, x.image.procs.length = k := ⟨_, rfl⟩
  obtain ⟨n5, hn5⟩ : ∃ k, x.image.names.length = k := ⟨_, rfl⟩
  obtain ⟨n6, hn6⟩ : ∃ k, x.image.start.length = k := ⟨_, rfl⟩
  rw [hgv, hn4, hn5, hn6] at HI
  rw [hgv, hn4, hn5, hn6]
  clear hi hgv hn4 hn5 hn6
  have HL7 := hide lb7
  unfold maxLen at lb2
  clear lb7
  have b0 : Below w.heap.size w (w.alloc (.cells #[.int .i64 x.code, .int .i64 x.place, .string x.module, .int .i64 gv, .slice p4 n4 c4, .slice p5 n5 c5, .slice p6 n6 c6, .slice p7 x.made.length c7] 28)) := (Below.refl _ _).alloc (Nat.le_refl _) _
  have HB0 := hide b0
  clear b0
  by_cases g2 : left - (x.module.size : Int) < 0
  · go_enter Tryd.func4, Tryd.ntmps4
    go_wp2
    go_ret
    exact ⟨⟨-1, rfl, by omega, by omega, by omega⟩, HB0.out⟩
  · go_enter Tryd.func4, Tryd.ntmps4
    go_wp2_with fail
    refine (szImage_any _ m x.image _ _ (by omega) (by omega) (HI.out.on (HB0.out.mono hm)) (Nat.le_trans hm HB0.out.size)).mono ?_
    rintro e w1 ⟨⟨k1, rfl, ka1, kb1, kc1⟩, bel1⟩
    have b1 := HB0.out.trans (bel1.mono HB0.out.size)
    have f7 : w1.cell? ⟨w.heap.size, 7, none⟩ = some (.slice p7 x.made.length c7) := (bel1.cell (p := ⟨w.heap.size, 7, none⟩) (by simp)).trans (by simp [go_sem])
    by_cases gk1 : k1 < 0
    · go_wp2
      go_ret
      exact ⟨⟨-1, rfl, by omega, by omega, by omega⟩, b1⟩
    · go_wp2_with fail
      refine (szStringS_any _ m x.made _ _ (by omega) (by omega) HL7.out (HS.out.on StringAt.stays (b1.mono hm)) (Nat.le_trans hm b1.size)).mono ?_
      rintro e w2 ⟨⟨k2, rfl, ka2, kb2, kc2⟩, bel2⟩
      have b2 := b1.trans (bel2.mono b1.size)
      by_cases gk2 : k2 < 0
      · go_wp2
        go_ret
        exact ⟨⟨-1, rfl, by omega, by omega, by omega⟩, b2⟩
      · go_wp2
        go_ret
        exact ⟨⟨_, rfl, by omega, by omega, fun _ => ⟨⟨kc1 (by omega), by have := (kc2 (by omega)).1; omega⟩, by omega⟩⟩, b2⟩
set_option maxHeartbeats 4000000 in
theorem eqBuilt_same (v v' : Value) (m m' : Md) (x : BuiltD) (w : World) (h : BuiltVal w m v x) (h' : BuiltVal w m' v' x) (hm : m.hi ≤ w.heap.size) (hm' : m'.hi ≤ w.heap.size) :
    Calls Tryd.prog 8 #[v, v'] w fun e w' => e = .returned (.bool true) ∧ Below w.heap.size w w' := by
  obtain ⟨u4, u5, u6, u7, rfl, hb, hi, s7⟩ := h
  have HI := hide hi
  have HS := hide s7
  obtain ⟨-, ⟨p4, c4, rfl⟩, ⟨p5, c5, rfl⟩, ⟨p6, c6, rfl⟩⟩ := image_slices hi
  obtain ⟨p7, c7, rfl, -⟩ := s7
  obtain ⟨u4, u5, u6, u7, rfl, -, hiq, s7q⟩ := h'
  have HIq := hide hiq
  have HSq := hide s7q
  obtain ⟨-, ⟨p4q, c4q, rfl⟩, ⟨p5q, c5q, rfl⟩, ⟨p6q, c6q, rfl⟩⟩ := image_slices hiq
  obtain ⟨p7q, c7q, rfl, -⟩ := s7q
  obtain ⟨-, -, -, lb7⟩ := hb
  obtain ⟨gv, hgv⟩ : ∃ k, x.image.globals = k := ⟨_, rfl⟩
  obtain ⟨n4, hn4⟩ : ∃ k, x.image.procs.length = k := ⟨_, rfl⟩
  obtain ⟨n5, hn5⟩ : ∃ k, x.image.names.length = k := ⟨_, rfl⟩
  obtain ⟨n6, hn6⟩ : ∃ k, x.image.start.length = k := ⟨_, rfl⟩
  rw [hgv, hn4, hn5, hn6] at HI HIq
  rw [hgv, hn4, hn5, hn6]
  clear hi hiq hgv hn4 hn5 hn6
  have HL7 := hide lb7
  clear lb7
  have b0 : Below w.heap.size w ((w.alloc (.cells #[.int .i64 x.code, .int .i64 x.place, .string x.module, .int .i64 gv, .slice p4 n4 c4, .slice p5 n5 c5, .slice p6 n6 c6, .slice p7 x.made.length c7] 36)).alloc (.cells #[.int .i64 x.code, .int .i64 x.place, .string x.module, .int .i64 gv, .slice p4q n4 c4q, .slice p5q n5 c5q, .slice p6q n6 c6q, .slice p7q x.made.length c7q] 36)) := ((Below.refl _ _).alloc (Nat.le_refl _) _).alloc (by simp) _
  have HB0 := hide b0
  clear b0
  go_enter Tryd.func8, Tryd.ntmps8
  go_wp2_with fail
  refine (eqImage_same _ _ m m' x.image _ (HI.out.on (HB0.out.mono hm)) (HIq.out.on (HB0.out.mono hm')) (Nat.le_trans hm HB0.out.size) (Nat.le_trans hm' HB0.out.size)).mono ?_
  rintro e w1 ⟨rfl, bel1⟩
  have b1 := HB0.out.trans (bel1.mono HB0.out.size)
  have f7 : w1.cell? ⟨w.heap.size, 7, none⟩ = some (.slice p7 x.made.length c7) := (bel1.cell (p := ⟨w.heap.size, 7, none⟩) (by simp; omega)).trans (by simp [go_sem])
  have f7q : w1.cell? ⟨w.heap.size + 1, 7, none⟩ = some (.slice p7q x.made.length c7q) := (bel1.cell (p := ⟨w.heap.size + 1, 7, none⟩) (by simp)).trans (by simp [go_sem])
  go_wp2_with fail
  refine (eqStringS_same _ _ m m' x.made _ HL7.out (HS.out.on StringAt.stays (b1.mono hm)) (HSq.out.on StringAt.stays (b1.mono hm')) (Nat.le_trans hm b1.size) (Nat.le_trans hm' b1.size)).mono ?_
  rintro e w2 ⟨rfl, bel2⟩
  go_wp2
  go_ret
  exact ⟨rfl, b1.trans (bel2.mono b1.size)⟩
set_option maxRecDepth 100000 in
set_option maxHeartbeats 8000000 in
theorem toBuilt_any (v : Value) (m : Md) (x : BuiltD) (w : World) (hs : BuiltSm x) (h : BuiltVal w m v x) (hm : m.hi ≤ w.heap.size) :
    Calls Tryd.prog 6 #[v] w fun e w' => (∃ u, e = .returned u ∧ Hid (BuiltVal w' ⟨w.heap.size, w'.heap.size, true⟩ u x)) ∧ Below w.heap.size w w' := by
  obtain ⟨u4, u5, u6, u7, rfl, hb, hi, s7⟩ := h
  have HBd := hide hb
  have HI := hide hi
  have HS := hide s7
  obtain ⟨-, ⟨p4, c4, rfl⟩, ⟨p5, c5, rfl⟩, ⟨p6, c6, rfl⟩⟩ := image_slices hi
  obtain ⟨p7, c7, rfl, -⟩ := s7
  obtain ⟨sm1, sm2⟩ := hs
  have HSm := hide sm1
  have HSm2 := hide sm2
  obtain ⟨gv, hgv⟩ : ∃ k, x.image.globals = k := ⟨_, rfl⟩
  obtain ⟨n4, hn4⟩ : ∃ k, x.image.procs.length = k := ⟨_, rfl⟩
  obtain ⟨n5, hn5⟩ : ∃ k, x.image.names.length = k := ⟨_, rfl⟩
  obtain ⟨n6, hn6⟩ : ∃ k, x.image.start.length = k := ⟨_, rfl⟩
  have HRes : Hid (∀ w2 m2 p4 c4 p5 c5 p6 c6 u7, ImageVal w2 m2 (.agg #[.int .i64 gv, .slice p4 n4 c4, .slice p5 n5 c5, .slice p6 n6 c6]) x.image → SlAt StringAt 1 w2 m2 u7 x.made → BuiltVal w2 m2 (.agg #[.int .i64 x.code, .int .i64 x.place, .string x.module, .int .i64 gv, .slice p4 n4 c4, .slice p5 n5 c5, .slice p6 n6 c6, u7]) x) := hide fun w2 m2 p4 c4 p5 c5 p6 c6 u7 h1 h2 => by
    subst hgv hn4 hn5 hn6
    exact ⟨_, _, _, _, rfl, HBd.out, h1, h2⟩
  have HTo : Hid (∀ w' v', ImageVal w' m v' x.image → m.hi ≤ w'.heap.size → Calls Tryd.prog 13 #[v'] w' fun e w2 => (∃ p4 c4 p5 c5 p6 c6, e = .returned (.agg #[.int .i64 gv, .slice p4 n4 c4, .slice p5 n5 c5, .slice p6 n6 c6]) ∧ Hid (ImageVal w2 ⟨w'.heap.size, w2.heap.size, true⟩ (.agg #[.int .i64 gv, .slice p4 n4 c4, .slice p5 n5 c5, .slice p6 n6 c6]) x.image)) ∧ Below w'.heap.size w' w2) := hide fun w' v' hv' hm' => (toImage_any v' m x.image w' HSm.out hv' hm').mono fun e w2 ⟨⟨u, e1, hu⟩, b⟩ => by
    obtain ⟨p4, c4, p5, c5, p6, c6, e2⟩ := image_slices' hu.out
    rw [hgv, hn4, hn5, hn6] at e2
    subst e2
    exact ⟨⟨p4, c4, p5, c5, p6, c6, e1, hu⟩, b⟩
  rw [hgv, hn4, hn5, hn6] at HI
  rw [hgv, hn4, hn5, hn6]
  clear hi hgv hn4 hn5 hn6 hb sm1 sm2
  have b0 : Below w.heap.size w (((w.alloc (.cells #[.int .i64 x.code, .int .i64 x.place, .string x.module, .int .i64 gv, .slice p4 n4 c4, .slice p5 n5 c5, .slice p6 n6 c6, .slice p7 x.made.length c7] 28)).alloc (.cells #[.int .i64 0, .int .i64 0, .string ⟨#[]⟩, .int .i64 0, .slice none 0 0, .slice none 0 0, .slice none 0 0, .slice none 0 0] 36)).alloc (.cells #[.int .i64 x.code, .int .i64 x.place, .string x.module, .int .i64 0, .slice none 0 0, .slice none 0 0, .slice none 0 0, .slice none 0 0] 36)) := (((Below.refl _ _).alloc (Nat.le_refl _) _).alloc (by simp) _).alloc (by simp; omega) _
  have HB0 := hide b0
  clear b0
  go_enter Tryd.func6, Tryd.ntmps6
  go_wp2_with fail
  refine (HTo.out _ _ (HI.out.on (HB0.out.mono hm)) (Nat.le_trans hm HB0.out.size)).mono ?_
  rintro e w1' ⟨⟨q4, k4, q5, k5, q6, k6, rfl, hr1⟩, bel1⟩
  have z1 : w.heap.size + 3 ≤ w1'.heap.size := Nat.le_trans (by simp) bel1.size
  obtain ⟨hc1, hf1⟩ := bcell bel1
  have m1_0 := fun o => hc1 (w.heap.size) o (by first | omega | (simp <;> omega))
  have n1_0 := fun o => hf1 (w.heap.size) o (by first | omega | (simp <;> omega))
  have m1_1 := fun o => hc1 (w.heap.size + 1) o (by first | omega | (simp <;> omega))
  have n1_1 := fun o => hf1 (w.heap.size + 1) o (by first | omega | (simp <;> omega))
  have m1_2 := fun o => hc1 (w.heap.size + 2) o (by first | omega | (simp <;> omega))
  have n1_2 := fun o => hf1 (w.heap.size + 2) o (by first | omega | (simp <;> omega))
  clear hc1 hf1
  have bT : Below w.heap.size w w1' := HB0.out.trans (bel1.mono HB0.out.size)
  go_wp2_with fail
  have bT2 : Below w.heap.size w ((((w1'.setCell ⟨w.heap.size + 1 + 1, 3, none⟩ (.int .i64 gv)).setCell ⟨w.heap.size + 1 + 1, 4, none⟩ (.slice q4 n4 k4)).setCell ⟨w.heap.size + 1 + 1, 5, none⟩ (.slice q5 n5 k5)).setCell ⟨w.heap.size + 1 + 1, 6, none⟩ (.slice q6 n6 k6)) := by
    repeat (refine Below.setCell ?_ (by first | omega | (simp <;> omega)) _)
    exact bT
  refine (toStringS_any (.slice p7 x.made.length c7) m x.made _ HSm2.out (HS.out.on StringAt.stays (bT2.mono hm)) (Nat.le_trans hm bT2.size)).mono ?_
  rintro e w2' ⟨⟨r7, rfl, hr7⟩, bel2⟩
  obtain ⟨q7, k7, rfl, -⟩ := id hr7.out
  have z2 : w.heap.size + 3 ≤ w2'.heap.size := Nat.le_trans (by first | omega | (simp <;> omega)) bel2.size
  have y2 : w1'.heap.size ≤ w2'.heap.size := Nat.le_trans (by first | omega | (simp <;> omega)) bel2.size
  obtain ⟨hc2, hf2⟩ := bcell bel2
  have m2_0 := fun o => hc2 (w.heap.size) o (by first | omega | (simp <;> omega))
  have n2_0 := fun o => hf2 (w.heap.size) o (by first | omega | (simp <;> omega))
  have m2_1 := fun o => hc2 (w.heap.size + 1) o (by first | omega | (simp <;> omega))
  have n2_1 := fun o => hf2 (w.heap.size + 1) o (by first | omega | (simp <;> omega))
  have m2_2 := fun o => hc2 (w.heap.size + 2) o (by first | omega | (simp <;> omega))
  have n2_2 := fun o => hf2 (w.heap.size + 2) o (by first | omega | (simp <;> omega))
  clear hc2 hf2
  have HB2 := hide bT2
  have HT := hide bT
  clear bT bT2
  go_wp2
  refine bodyPost_ret (v := .agg #[.int .i64 x.code, .int .i64 x.place, .string x.module, .int .i64 gv, .slice q4 n4 k4, .slice q5 n5 k5, .slice q6 n6 k6, .slice q7 x.made.length k7]) (by simp [results, Tryd.results6, go_sem, m1_1, m2_1]) rfl ⟨⟨_, rfl, hide (HRes.out _ _ _ _ _ _ _ _ _ ?_ ?_)⟩, ?_⟩
  · refine (hr1.out.same ?_).wid (by first | omega | (simp <;> omega)) (by first | omega | (simp <;> omega)) rfl
    repeat (refine Same.setCell ?_ (by first | omega | (simp <;> omega)) _)
    refine Same.trans ?_ (Same.of_below bel2 (by first | omega | (simp <;> omega)))
    repeat (refine Same.setCell ?_ (by first | omega | (simp <;> omega)) _)
    exact Same.refl _ _ _
  · refine (hr7.out.same StringAt.stays ?_).wid StringAt.widens (by first | omega | (simp <;> omega)) (by first | omega | (simp <;> omega)) rfl
    repeat (refine Same.setCell ?_ (by first | omega | (simp <;> omega)) _)
    exact Same.refl _ _ _
  · repeat (refine Below.setCell ?_ (by first | omega | (simp <;> omega)) _)
    exact HB2.out.trans (bel2.mono HB2.out.size)
end Go.Proofs.YtpfceikohoncgaaDoor
