/- Structs as plain data, and how they lie in memory; how the row's own reading of an argument gives it. No condition. -/
import Derived.Test.YtpfceikohoncgaaDoorZStrI
namespace Go.Proofs.YtpfceikohoncgaaDoor
open Go.ChangeShapes Go.WideShapes Go.ChangeAt Go.RowKit Go.Deep

structure InsD where
  op : Int
  a : Int
  b : Int
  mod : ByteArray
  name : ByteArray
def InsAt : Elem InsD := fun cf _ _ x => (cf 0 = some (.int .i64 (x.op)) ∧ cf 1 = some (.int .i64 (x.a)) ∧ cf 2 = some (.int .i64 (x.b)) ∧ cf 3 = some (.string (x.mod)) ∧ cf 4 = some (.string (x.name))) ∧ (I64 x.op ∧ I64 x.a ∧ I64 x.b ∧ x.mod.size ≤ maxLen ∧ x.name.size ≤ maxLen)
theorem InsAt.stays : Stays InsAt := fun _ _ _ _ _ h _ => h
theorem InsAt.widens : Widens InsAt := fun _ _ _ _ _ h _ _ _ => h
theorem InsAt.loc : Loc InsAt 5 := fun _ _ _ _ _ e ⟨⟨c0, c1, c2, c3, c4⟩, hr⟩ => ⟨⟨(e 0 (by omega)).trans c0, (e 1 (by omega)).trans c1, (e 2 (by omega)).trans c2, (e 3 (by omega)).trans c3, (e 4 (by omega)).trans c4⟩, hr⟩
structure CodeD where
  name : ByteArray
  params : Int
  cells : Int
  result : Int
  list : List InsD
def CodeAt : Elem CodeD := fun cf w m x => (cf 0 = some (.string (x.name)) ∧ cf 1 = some (.int .i64 (x.params)) ∧ cf 2 = some (.int .i64 (x.cells)) ∧ cf 3 = some (.int .i64 (x.result))) ∧ (x.name.size ≤ maxLen ∧ I64 x.params ∧ I64 x.cells ∧ I64 x.result ∧ x.list.length ≤ maxLen) ∧ ∃ u4, (cf 4 = some u4) ∧ SlAt InsAt 5 w m u4 x.list
theorem CodeAt.stays : Stays CodeAt := fun _ _ _ _ _ ⟨h, hr, u4, hc, h4⟩ s => ⟨h, hr, u4, hc, h4.same InsAt.stays s⟩
theorem CodeAt.widens : Widens CodeAt := fun _ _ _ _ _ ⟨h, hr, u4, hc, h4⟩ a b c => ⟨h, hr, u4, hc, h4.wid InsAt.widens a b c⟩
theorem CodeAt.loc : Loc CodeAt 5 := fun _ _ _ _ _ e ⟨⟨c0, c1, c2, c3⟩, hr, u4, k4, hs⟩ => ⟨⟨(e 0 (by omega)).trans c0, (e 1 (by omega)).trans c1, (e 2 (by omega)).trans c2, (e 3 (by omega)).trans c3⟩, hr, u4, (e 4 (by omega)).trans k4, hs⟩
structure ImageD where
  globals : Int
  procs : List CodeD
  names : List StringD
  start : List IntD
def ImageAt : Elem ImageD := fun cf w m x => (cf 0 = some (.int .i64 (x.globals))) ∧ (I64 x.globals ∧ x.procs.length ≤ maxLen ∧ x.names.length ≤ maxLen ∧ x.start.length ≤ maxLen) ∧ ∃ u1 u2 u3, (cf 1 = some u1 ∧ cf 2 = some u2 ∧ cf 3 = some u3) ∧ SlAt CodeAt 5 w m u1 x.procs ∧ SlAt StringAt 1 w m u2 x.names ∧ SlAt IntAt 1 w m u3 x.start
theorem ImageAt.stays : Stays ImageAt := fun _ _ _ _ _ ⟨h, hr, u1, u2, u3, hc, h1, h2, h3⟩ s => ⟨h, hr, u1, u2, u3, hc, h1.same CodeAt.stays s, h2.same StringAt.stays s, h3.same IntAt.stays s⟩
theorem ImageAt.widens : Widens ImageAt := fun _ _ _ _ _ ⟨h, hr, u1, u2, u3, hc, h1, h2, h3⟩ a b c => ⟨h, hr, u1, u2, u3, hc, h1.wid CodeAt.widens a b c, h2.wid StringAt.widens a b c, h3.wid IntAt.widens a b c⟩
theorem ImageAt.loc : Loc ImageAt 4 := fun _ _ _ _ _ e ⟨c0, hr, u1, u2, u3, ⟨k1, k2, k3⟩, hs⟩ => ⟨(e 0 (by omega)).trans c0, hr, u1, u2, u3, ⟨(e 1 (by omega)).trans k1, (e 2 (by omega)).trans k2, (e 3 (by omega)).trans k3⟩, hs⟩
section
variable {H : Type} {enc : TypeId × Value → H} {w : World}
theorem opens_Ins : Opens enc Tryd.prog w 93 InsAt := by
  intro fuel cs y h
  obtain ⟨hl, hf⟩ := open_fields Tryd.underlying93 (hone_of (by kernel_rfl)) (by kernel_rfl) h
  obtain ⟨v0, n0, z0, c0, t0⟩ := hf 0 _ rfl
  obtain ⟨v1, n1, z1, c1, t1⟩ := hf 1 _ rfl
  obtain ⟨v2, n2, z2, c2, t2⟩ := hf 2 _ rfl
  obtain ⟨v3, n3, z3, c3, t3⟩ := hf 3 _ rfl
  obtain ⟨v4, n4, z4, c4, t4⟩ := hf 4 _ rfl
  obtain ⟨a0, e0, _, w0⟩ := DataW.trod_int Tryd.underlying3 t0
  obtain ⟨a1, e1, _, w1⟩ := DataW.trod_int Tryd.underlying3 t1
  obtain ⟨a2, e2, _, w2⟩ := DataW.trod_int Tryd.underlying3 t2
  obtain ⟨a3, e3, _, w3⟩ := DataW.trod_string Tryd.underlying9 t3
  obtain ⟨a4, e4, _, w4⟩ := DataW.trod_string Tryd.underlying9 t4
  simp only [List.cons.injEq, and_true] at e0 e1 e2 e3 e4
  subst e0 e1 e2 e3 e4
  have hc : Tryd.prog.cellsOf 93 = 5 := by kernel_rfl
  refine ⟨⟨a0, a1, a2, a3, a4⟩, fun cf hcell => ⟨⟨?_, ?_, ?_, ?_, ?_⟩, ⟨I64.of_wf w0, I64.of_wf w1, I64.of_wf w2, w3, w4⟩⟩⟩
  · have := hcell 0 (by omega); rwa [c0] at this
  · have := hcell 1 (by omega); rwa [c1] at this
  · have := hcell 2 (by omega); rwa [c2] at this
  · have := hcell 3 (by omega); rwa [c3] at this
  · have := hcell 4 (by omega); rwa [c4] at this
theorem opens_Code : Opens enc Tryd.prog w 64 CodeAt := by
  intro fuel cs y h
  obtain ⟨hl, hf⟩ := open_fields Tryd.underlying64 (hone_of (by kernel_rfl)) (by kernel_rfl) h
  obtain ⟨v0, n0, z0, c0, t0⟩ := hf 0 _ rfl
  obtain ⟨v1, n1, z1, c1, t1⟩ := hf 1 _ rfl
  obtain ⟨v2, n2, z2, c2, t2⟩ := hf 2 _ rfl
  obtain ⟨v3, n3, z3, c3, t3⟩ := hf 3 _ rfl
  obtain ⟨v4, n4, z4, c4, t4⟩ := hf 4 _ rfl
  obtain ⟨a0, e0, _, w0⟩ := DataW.trod_string Tryd.underlying9 t0
  obtain ⟨a1, e1, _, w1⟩ := DataW.trod_int Tryd.underlying3 t1
  obtain ⟨a2, e2, _, w2⟩ := DataW.trod_int Tryd.underlying3 t2
  obtain ⟨a3, e3, _, w3⟩ := DataW.trod_int Tryd.underlying3 t3
  obtain ⟨b4, a4, e4, s4, w4⟩ := opens_slice Tryd.underlying62 (of_decide_eq_true (by kernel_rfl)) opens_Ins t4
  simp only [List.cons.injEq, and_true] at e0 e1 e2 e3 e4
  subst e0 e1 e2 e3 e4
  have hc : Tryd.prog.cellsOf 64 = 5 := by kernel_rfl
  have hp4 : Tryd.prog.cellsOf 93 = 5 := by kernel_rfl
  rw [hp4] at s4
  refine ⟨⟨a0, a1, a2, a3, a4⟩, fun cf hcell => ⟨⟨?_, ?_, ?_, ?_⟩, ⟨w0, I64.of_wf w1, I64.of_wf w2, I64.of_wf w3, w4⟩, _, ?_, s4⟩⟩
  · have := hcell 0 (by omega); rwa [c0] at this
  · have := hcell 1 (by omega); rwa [c1] at this
  · have := hcell 2 (by omega); rwa [c2] at this
  · have := hcell 3 (by omega); rwa [c3] at this
  · have := hcell 4 (by omega); rwa [c4] at this
theorem opens_Image : Opens enc Tryd.prog w 26 ImageAt := by
  intro fuel cs y h
  obtain ⟨hl, hf⟩ := open_fields Tryd.underlying26 (hone_of (by kernel_rfl)) (by kernel_rfl) h
  obtain ⟨v0, n0, z0, c0, t0⟩ := hf 0 _ rfl
  obtain ⟨v1, n1, z1, c1, t1⟩ := hf 1 _ rfl
  obtain ⟨v2, n2, z2, c2, t2⟩ := hf 2 _ rfl
  obtain ⟨v3, n3, z3, c3, t3⟩ := hf 3 _ rfl
  obtain ⟨a0, e0, _, w0⟩ := DataW.trod_int Tryd.underlying3 t0
  obtain ⟨b1, a1, e1, s1, w1⟩ := opens_slice Tryd.underlying22 (of_decide_eq_true (by kernel_rfl)) opens_Code t1
  obtain ⟨b2, a2, e2, s2, w2⟩ := opens_slice Tryd.underlying23 (of_decide_eq_true (by kernel_rfl)) opens_String t2
  obtain ⟨b3, a3, e3, s3, w3⟩ := opens_slice Tryd.underlying24 (of_decide_eq_true (by kernel_rfl)) opens_Int t3
  simp only [List.cons.injEq, and_true] at e0 e1 e2 e3
  subst e0 e1 e2 e3
  have hc : Tryd.prog.cellsOf 26 = 4 := by kernel_rfl
  have hp1 : Tryd.prog.cellsOf 64 = 5 := by kernel_rfl
  rw [hp1] at s1
  have hp2 : Tryd.prog.cellsOf 9 = 1 := by kernel_rfl
  rw [hp2] at s2
  have hp3 : Tryd.prog.cellsOf 3 = 1 := by kernel_rfl
  rw [hp3] at s3
  refine ⟨⟨a0, a1, a2, a3⟩, fun cf hcell => ⟨?_, ⟨I64.of_wf w0, w1, w2, w3⟩, _, _, _, ⟨?_, ?_, ?_⟩, s1, s2, s3⟩⟩
  · have := hcell 0 (by omega); rwa [c0] at this
  · have := hcell 1 (by omega); rwa [c1] at this
  · have := hcell 2 (by omega); rwa [c2] at this
  · have := hcell 3 (by omega); rwa [c3] at this
end
def InsVal (_ : World) (_ : Md) (v : Value) (x : InsD) : Prop := v = .agg #[.int .i64 (x.op), .int .i64 (x.a), .int .i64 (x.b), .string (x.mod), .string (x.name)] ∧ (I64 x.op ∧ I64 x.a ∧ I64 x.b ∧ x.mod.size ≤ maxLen ∧ x.name.size ≤ maxLen)
theorem InsVal.same {w w' : World} {m : Md} {v : Value} {x : InsD} (h : InsVal w m v x) (_ : Same m.lo m.hi w w') : InsVal w' m v x := h
theorem InsVal.wid {w : World} {m m' : Md} {v : Value} {x : InsD} (h : InsVal w m v x) (_ : m'.lo ≤ m.lo) (_ : m.hi ≤ m'.hi) (_ : m'.made = m.made) : InsVal w m' v x := h
theorem InsVal.on {w w' : World} {m : Md} {v : Value} {x : InsD} (h : InsVal w m v x) (bel : Below m.hi w w') : InsVal w' m v x := h.same (.of_below bel (Nat.le_refl _))
/-- A struct's value that is the data. -/
def CodeVal (w : World) (m : Md) (v : Value) (x : CodeD) : Prop := ∃ u4, v = .agg #[.string (x.name), .int .i64 (x.params), .int .i64 (x.cells), .int .i64 (x.result), u4] ∧ (x.name.size ≤ maxLen ∧ I64 x.params ∧ I64 x.cells ∧ I64 x.result ∧ x.list.length ≤ maxLen) ∧ SlAt InsAt 5 w m u4 x.list
theorem CodeVal.same {w w' : World} {m : Md} {v : Value} {x : CodeD} (h : CodeVal w m v x) (s : Same m.lo m.hi w w') : CodeVal w' m v x := by
  obtain ⟨u4, e, hb, h4⟩ := h
  exact ⟨u4, e, hb, h4.same InsAt.stays s⟩
theorem CodeVal.wid {w : World} {m m' : Md} {v : Value} {x : CodeD} (h : CodeVal w m v x) (a : m'.lo ≤ m.lo) (b : m.hi ≤ m'.hi) (c : m'.made = m.made) : CodeVal w m' v x := by
  obtain ⟨u4, e, hb, h4⟩ := h
  exact ⟨u4, e, hb, h4.wid InsAt.widens a b c⟩
theorem CodeVal.on {w w' : World} {m : Md} {v : Value} {x : CodeD} (h : CodeVal w m v x) (bel : Below m.hi w w') : CodeVal w' m v x := h.same (.of_below bel (Nat.le_refl _))
/-- A struct's value that is the data. -/
def ImageVal (w : World) (m : Md) (v : Value) (x : ImageD) : Prop := ∃ u1 u2 u3, v = .agg #[.int .i64 (x.globals), u1, u2, u3] ∧ (I64 x.globals ∧ x.procs.length ≤ maxLen ∧ x.names.length ≤ maxLen ∧ x.start.length ≤ maxLen) ∧ SlAt CodeAt 5 w m u1 x.procs ∧ SlAt StringAt 1 w m u2 x.names ∧ SlAt IntAt 1 w m u3 x.start
theorem ImageVal.same {w w' : World} {m : Md} {v : Value} {x : ImageD} (h : ImageVal w m v x) (s : Same m.lo m.hi w w') : ImageVal w' m v x := by
  obtain ⟨u1, u2, u3, e, hb, h1, h2, h3⟩ := h
  exact ⟨u1, u2, u3, e, hb, h1.same CodeAt.stays s, h2.same StringAt.stays s, h3.same IntAt.stays s⟩
theorem ImageVal.wid {w : World} {m m' : Md} {v : Value} {x : ImageD} (h : ImageVal w m v x) (a : m'.lo ≤ m.lo) (b : m.hi ≤ m'.hi) (c : m'.made = m.made) : ImageVal w m' v x := by
  obtain ⟨u1, u2, u3, e, hb, h1, h2, h3⟩ := h
  exact ⟨u1, u2, u3, e, hb, h1.wid CodeAt.widens a b c, h2.wid StringAt.widens a b c, h3.wid IntAt.widens a b c⟩
theorem ImageVal.on {w w' : World} {m : Md} {v : Value} {x : ImageD} (h : ImageVal w m v x) (bel : Below m.hi w w') : ImageVal w' m v x := h.same (.of_below bel (Nat.le_refl _))
end Go.Proofs.YtpfceikohoncgaaDoor
