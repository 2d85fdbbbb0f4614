/- Structs as plain data, and how they lie in memory; how the row's own reading of an argument gives it. No condition. -/
import Derived.Test.YtpaljmhoojpbdaaDoorZRd
namespace Go.Proofs.YtpaljmhoojpbdaaDoor
open Go.ChangeShapes Go.WideShapes Go.ChangeAt Go.RowKit Go.Deep

def I64 (n : Int) : Prop := -9223372036854775808 ≤ n ∧ n ≤ 9223372036854775807
theorem I64.of_wf {n : Int} (h : (Lit.int .i64 n).wf = true) : I64 n := by
  simp only [Lit.wf, Bool.and_eq_true, decide_eq_true_eq] at h
  exact h
structure InsD where
  op : Int
  a : Int
  b : Int
  mod : ByteArray
  name : ByteArray
def InsAt : Elem InsD := fun cf _ _ x => (cf 0 = some (.int .i64 (x.op)) ∧ cf 1 = some (.int .i64 (x.a)) ∧ cf 2 = some (.int .i64 (x.b)) ∧ cf 3 = some (.string (x.mod)) ∧ cf 4 = some (.string (x.name))) ∧ (I64 x.op ∧ I64 x.a ∧ I64 x.b ∧ x.mod.size ≤ maxLen ∧ x.name.size ≤ maxLen)
theorem InsAt.stays : Stays InsAt := fun _ _ _ _ _ h _ => h
theorem InsAt.widens : Widens InsAt := fun _ _ _ _ _ h _ _ _ => h
theorem InsAt.loc : Loc InsAt 5 := fun _ _ _ _ _ e ⟨⟨c0, c1, c2, c3, c4⟩, hr⟩ => ⟨⟨(e 0 (by omega)).trans c0, (e 1 (by omega)).trans c1, (e 2 (by omega)).trans c2, (e 3 (by omega)).trans c3, (e 4 (by omega)).trans c4⟩, hr⟩
structure CodeD where
  name : ByteArray
  params : Int
  cells : Int
  result : Int
  list : List InsD
def CodeAt : Elem CodeD := fun cf w m x => (cf 0 = some (.string (x.name)) ∧ cf 1 = some (.int .i64 (x.params)) ∧ cf 2 = some (.int .i64 (x.cells)) ∧ cf 3 = some (.int .i64 (x.result))) ∧ (x.name.size ≤ maxLen ∧ I64 x.params ∧ I64 x.cells ∧ I64 x.result ∧ x.list.length ≤ maxLen) ∧ ∃ u4, (cf 4 = some u4) ∧ SlAt InsAt 5 w m u4 x.list
theorem CodeAt.stays : Stays CodeAt := fun _ _ _ _ _ ⟨h, hr, u4, hc, h4⟩ s => ⟨h, hr, u4, hc, h4.same InsAt.stays s⟩
theorem CodeAt.widens : Widens CodeAt := fun _ _ _ _ _ ⟨h, hr, u4, hc, h4⟩ a b c => ⟨h, hr, u4, hc, h4.wid InsAt.widens a b c⟩
theorem CodeAt.loc : Loc CodeAt 5 := fun _ _ _ _ _ e ⟨⟨c0, c1, c2, c3⟩, hr, u4, k4, hs⟩ => ⟨⟨(e 0 (by omega)).trans c0, (e 1 (by omega)).trans c1, (e 2 (by omega)).trans c2, (e 3 (by omega)).trans c3⟩, hr, u4, (e 4 (by omega)).trans k4, hs⟩
structure NeedD where
  module : ByteArray
  print : Int
def NeedAt : Elem NeedD := fun cf _ _ x => (cf 0 = some (.string (x.module)) ∧ cf 1 = some (.int .i64 (x.print))) ∧ (x.module.size ≤ maxLen ∧ I64 x.print)
theorem NeedAt.stays : Stays NeedAt := fun _ _ _ _ _ h _ => h
theorem NeedAt.widens : Widens NeedAt := fun _ _ _ _ _ h _ _ _ => h
theorem NeedAt.loc : Loc NeedAt 2 := fun _ _ _ _ _ e ⟨⟨c0, c1⟩, hr⟩ => ⟨⟨(e 0 (by omega)).trans c0, (e 1 (by omega)).trans c1⟩, hr⟩
structure GlobalD where
  name : ByteArray
  length : Int
def GlobalAt : Elem GlobalD := fun cf _ _ x => (cf 0 = some (.string (x.name)) ∧ cf 1 = some (.int .i64 (x.length))) ∧ (x.name.size ≤ maxLen ∧ I64 x.length)
theorem GlobalAt.stays : Stays GlobalAt := fun _ _ _ _ _ h _ => h
theorem GlobalAt.widens : Widens GlobalAt := fun _ _ _ _ _ h _ _ _ => h
theorem GlobalAt.loc : Loc GlobalAt 2 := fun _ _ _ _ _ e ⟨⟨c0, c1⟩, hr⟩ => ⟨⟨(e 0 (by omega)).trans c0, (e 1 (by omega)).trans c1⟩, hr⟩
structure ObjectD where
  module : ByteArray
  print : Int
  needs : List NeedD
  globals : List GlobalD
  procs : List CodeD
def ObjectAt : Elem ObjectD := fun cf w m x => (cf 0 = some (.string (x.module)) ∧ cf 1 = some (.int .i64 (x.print))) ∧ (x.module.size ≤ maxLen ∧ I64 x.print ∧ x.needs.length ≤ maxLen ∧ x.globals.length ≤ maxLen ∧ x.procs.length ≤ maxLen) ∧ ∃ u2 u3 u4, (cf 2 = some u2 ∧ cf 3 = some u3 ∧ cf 4 = some u4) ∧ SlAt NeedAt 2 w m u2 x.needs ∧ SlAt GlobalAt 2 w m u3 x.globals ∧ SlAt CodeAt 5 w m u4 x.procs
theorem ObjectAt.stays : Stays ObjectAt := fun _ _ _ _ _ ⟨h, hr, u2, u3, u4, hc, h2, h3, h4⟩ s => ⟨h, hr, u2, u3, u4, hc, h2.same NeedAt.stays s, h3.same GlobalAt.stays s, h4.same CodeAt.stays s⟩
theorem ObjectAt.widens : Widens ObjectAt := fun _ _ _ _ _ ⟨h, hr, u2, u3, u4, hc, h2, h3, h4⟩ a b c => ⟨h, hr, u2, u3, u4, hc, h2.wid NeedAt.widens a b c, h3.wid GlobalAt.widens a b c, h4.wid CodeAt.widens a b c⟩
theorem ObjectAt.loc : Loc ObjectAt 5 := fun _ _ _ _ _ e ⟨⟨c0, c1⟩, hr, u2, u3, u4, ⟨k2, k3, k4⟩, hs⟩ => ⟨⟨(e 0 (by omega)).trans c0, (e 1 (by omega)).trans c1⟩, hr, u2, u3, u4, ⟨(e 2 (by omega)).trans k2, (e 3 (by omega)).trans k3, (e 4 (by omega)).trans k4⟩, hs⟩
section
variable {H : Type} {enc : TypeId × Value → H} {w : World}
theorem opens_Ins : Opens enc Tryd.prog w 92 InsAt := by
  intro fuel cs y h
  obtain ⟨hl, hf⟩ := open_fields Tryd.underlying92 (hone_of (by kernel_rfl)) (by kernel_rfl) h
  obtain ⟨v0, n0, z0, c0, t0⟩ := hf 0 _ rfl
  obtain ⟨v1, n1, z1, c1, t1⟩ := hf 1 _ rfl
  obtain ⟨v2, n2, z2, c2, t2⟩ := hf 2 _ rfl
  obtain ⟨v3, n3, z3, c3, t3⟩ := hf 3 _ rfl
  obtain ⟨v4, n4, z4, c4, t4⟩ := hf 4 _ rfl
  obtain ⟨a0, e0, _, w0⟩ := DataW.trod_int Tryd.underlying3 t0
  obtain ⟨a1, e1, _, w1⟩ := DataW.trod_int Tryd.underlying3 t1
  obtain ⟨a2, e2, _, w2⟩ := DataW.trod_int Tryd.underlying3 t2
  obtain ⟨a3, e3, _, w3⟩ := DataW.trod_string Tryd.underlying9 t3
  obtain ⟨a4, e4, _, w4⟩ := DataW.trod_string Tryd.underlying9 t4
  simp only [List.cons.injEq, and_true] at e0 e1 e2 e3 e4
  subst e0 e1 e2 e3 e4
  have hc : Tryd.prog.cellsOf 92 = 5 := by kernel_rfl
  refine ⟨⟨a0, a1, a2, a3, a4⟩, fun cf hcell => ⟨⟨?_, ?_, ?_, ?_, ?_⟩, ⟨I64.of_wf w0, I64.of_wf w1, I64.of_wf w2, w3, w4⟩⟩⟩
  · have := hcell 0 (by omega); rwa [c0] at this
  · have := hcell 1 (by omega); rwa [c1] at this
  · have := hcell 2 (by omega); rwa [c2] at this
  · have := hcell 3 (by omega); rwa [c3] at this
  · have := hcell 4 (by omega); rwa [c4] at this
theorem opens_Code : Opens enc Tryd.prog w 24 CodeAt := by
  intro fuel cs y h
  obtain ⟨hl, hf⟩ := open_fields Tryd.underlying24 (hone_of (by kernel_rfl)) (by kernel_rfl) h
  obtain ⟨v0, n0, z0, c0, t0⟩ := hf 0 _ rfl
  obtain ⟨v1, n1, z1, c1, t1⟩ := hf 1 _ rfl
  obtain ⟨v2, n2, z2, c2, t2⟩ := hf 2 _ rfl
  obtain ⟨v3, n3, z3, c3, t3⟩ := hf 3 _ rfl
  obtain ⟨v4, n4, z4, c4, t4⟩ := hf 4 _ rfl
  obtain ⟨a0, e0, _, w0⟩ := DataW.trod_string Tryd.underlying9 t0
  obtain ⟨a1, e1, _, w1⟩ := DataW.trod_int Tryd.underlying3 t1
  obtain ⟨a2, e2, _, w2⟩ := DataW.trod_int Tryd.underlying3 t2
  obtain ⟨a3, e3, _, w3⟩ := DataW.trod_int Tryd.underlying3 t3
  obtain ⟨b4, a4, e4, s4, w4⟩ := opens_slice Tryd.underlying22 (of_decide_eq_true (by kernel_rfl)) opens_Ins t4
  simp only [List.cons.injEq, and_true] at e0 e1 e2 e3 e4
  subst e0 e1 e2 e3 e4
  have hc : Tryd.prog.cellsOf 24 = 5 := by kernel_rfl
  have hp4 : Tryd.prog.cellsOf 92 = 5 := by kernel_rfl
  rw [hp4] at s4
  refine ⟨⟨a0, a1, a2, a3, a4⟩, fun cf hcell => ⟨⟨?_, ?_, ?_, ?_⟩, ⟨w0, I64.of_wf w1, I64.of_wf w2, I64.of_wf w3, w4⟩, _, ?_, s4⟩⟩
  · have := hcell 0 (by omega); rwa [c0] at this
  · have := hcell 1 (by omega); rwa [c1] at this
  · have := hcell 2 (by omega); rwa [c2] at this
  · have := hcell 3 (by omega); rwa [c3] at this
  · have := hcell 4 (by omega); rwa [c4] at this
theorem opens_Need : Opens enc Tryd.prog w 117 NeedAt := by
  intro fuel cs y h
  obtain ⟨hl, hf⟩ := open_fields Tryd.underlying117 (hone_of (by kernel_rfl)) (by kernel_rfl) h
  obtain ⟨v0, n0, z0, c0, t0⟩ := hf 0 _ rfl
  obtain ⟨v1, n1, z1, c1, t1⟩ := hf 1 _ rfl
  obtain ⟨a0, e0, _, w0⟩ := DataW.trod_string Tryd.underlying9 t0
  obtain ⟨a1, e1, _, w1⟩ := DataW.trod_int Tryd.underlying3 t1
  simp only [List.cons.injEq, and_true] at e0 e1
  subst e0 e1
  have hc : Tryd.prog.cellsOf 117 = 2 := by kernel_rfl
  refine ⟨⟨a0, a1⟩, fun cf hcell => ⟨⟨?_, ?_⟩, ⟨w0, I64.of_wf w1⟩⟩⟩
  · have := hcell 0 (by omega); rwa [c0] at this
  · have := hcell 1 (by omega); rwa [c1] at this
theorem opens_Global : Opens enc Tryd.prog w 119 GlobalAt := by
  intro fuel cs y h
  obtain ⟨hl, hf⟩ := open_fields Tryd.underlying119 (hone_of (by kernel_rfl)) (by kernel_rfl) h
  obtain ⟨v0, n0, z0, c0, t0⟩ := hf 0 _ rfl
  obtain ⟨v1, n1, z1, c1, t1⟩ := hf 1 _ rfl
  obtain ⟨a0, e0, _, w0⟩ := DataW.trod_string Tryd.underlying9 t0
  obtain ⟨a1, e1, _, w1⟩ := DataW.trod_int Tryd.underlying3 t1
  simp only [List.cons.injEq, and_true] at e0 e1
  subst e0 e1
  have hc : Tryd.prog.cellsOf 119 = 2 := by kernel_rfl
  refine ⟨⟨a0, a1⟩, fun cf hcell => ⟨⟨?_, ?_⟩, ⟨w0, I64.of_wf w1⟩⟩⟩
  · have := hcell 0 (by omega); rwa [c0] at this
  · have := hcell 1 (by omega); rwa [c1] at this
theorem opens_Object : Opens enc Tryd.prog w 38 ObjectAt := by
  intro fuel cs y h
  obtain ⟨hl, hf⟩ := open_fields Tryd.underlying38 (hone_of (by kernel_rfl)) (by kernel_rfl) h
  obtain ⟨v0, n0, z0, c0, t0⟩ := hf 0 _ rfl
  obtain ⟨v1, n1, z1, c1, t1⟩ := hf 1 _ rfl
  obtain ⟨v2, n2, z2, c2, t2⟩ := hf 2 _ rfl
  obtain ⟨v3, n3, z3, c3, t3⟩ := hf 3 _ rfl
  obtain ⟨v4, n4, z4, c4, t4⟩ := hf 4 _ rfl
  obtain ⟨a0, e0, _, w0⟩ := DataW.trod_string Tryd.underlying9 t0
  obtain ⟨a1, e1, _, w1⟩ := DataW.trod_int Tryd.underlying3 t1
  obtain ⟨b2, a2, e2, s2, w2⟩ := opens_slice Tryd.underlying34 (of_decide_eq_true (by kernel_rfl)) opens_Need t2
  obtain ⟨b3, a3, e3, s3, w3⟩ := opens_slice Tryd.underlying35 (of_decide_eq_true (by kernel_rfl)) opens_Global t3
  obtain ⟨b4, a4, e4, s4, w4⟩ := opens_slice Tryd.underlying36 (of_decide_eq_true (by kernel_rfl)) opens_Code t4
  simp only [List.cons.injEq, and_true] at e0 e1 e2 e3 e4
  subst e0 e1 e2 e3 e4
  have hc : Tryd.prog.cellsOf 38 = 5 := by kernel_rfl
  have hp2 : Tryd.prog.cellsOf 117 = 2 := by kernel_rfl
  rw [hp2] at s2
  have hp3 : Tryd.prog.cellsOf 119 = 2 := by kernel_rfl
  rw [hp3] at s3
  have hp4 : Tryd.prog.cellsOf 24 = 5 := by kernel_rfl
  rw [hp4] at s4
  refine ⟨⟨a0, a1, a2, a3, a4⟩, fun cf hcell => ⟨⟨?_, ?_⟩, ⟨w0, I64.of_wf w1, w2, w3, w4⟩, _, _, _, ⟨?_, ?_, ?_⟩, s2, s3, s4⟩⟩
  · have := hcell 0 (by omega); rwa [c0] at this
  · have := hcell 1 (by omega); rwa [c1] at this
  · have := hcell 2 (by omega); rwa [c2] at this
  · have := hcell 3 (by omega); rwa [c3] at this
  · have := hcell 4 (by omega); rwa [c4] at this
end
def InsVal (_ : World) (_ : Md) (v : Value) (x : InsD) : Prop := v = .agg #[.int .i64 (x.op), .int .i64 (x.a), .int .i64 (x.b), .string (x.mod), .string (x.name)] ∧ (I64 x.op ∧ I64 x.a ∧ I64 x.b ∧ x.mod.size ≤ maxLen ∧ x.name.size ≤ maxLen)
theorem InsVal.same {w w' : World} {m : Md} {v : Value} {x : InsD} (h : InsVal w m v x) (_ : Same m.lo m.hi w w') : InsVal w' m v x := h
theorem InsVal.wid {w : World} {m m' : Md} {v : Value} {x : InsD} (h : InsVal w m v x) (_ : m'.lo ≤ m.lo) (_ : m.hi ≤ m'.hi) (_ : m'.made = m.made) : InsVal w m' v x := h
theorem InsVal.on {w w' : World} {m : Md} {v : Value} {x : InsD} (h : InsVal w m v x) (bel : Below m.hi w w') : InsVal w' m v x := h.same (.of_below bel (Nat.le_refl _))
/-- A struct's value that is the data. -/
def CodeVal (w : World) (m : Md) (v : Value) (x : CodeD) : Prop := ∃ u4, v = .agg #[.string (x.name), .int .i64 (x.params), .int .i64 (x.cells), .int .i64 (x.result), u4] ∧ (x.name.size ≤ maxLen ∧ I64 x.params ∧ I64 x.cells ∧ I64 x.result ∧ x.list.length ≤ maxLen) ∧ SlAt InsAt 5 w m u4 x.list
theorem CodeVal.same {w w' : World} {m : Md} {v : Value} {x : CodeD} (h : CodeVal w m v x) (s : Same m.lo m.hi w w') : CodeVal w' m v x := by
  obtain ⟨u4, e, hb, h4⟩ := h
  exact ⟨u4, e, hb, h4.same InsAt.stays s⟩
theorem CodeVal.wid {w : World} {m m' : Md} {v : Value} {x : CodeD} (h : CodeVal w m v x) (a : m'.lo ≤ m.lo) (b : m.hi ≤ m'.hi) (c : m'.made = m.made) : CodeVal w m' v x := by
  obtain ⟨u4, e, hb, h4⟩ := h
  exact ⟨u4, e, hb, h4.wid InsAt.widens a b c⟩
theorem CodeVal.on {w w' : World} {m : Md} {v : Value} {x : CodeD} (h : CodeVal w m v x) (bel : Below m.hi w w') : CodeVal w' m v x := h.same (.of_below bel (Nat.le_refl _))
def NeedVal (_ : World) (_ : Md) (v : Value) (x : NeedD) : Prop := v = .agg #[.string (x.module), .int .i64 (x.print)] ∧ (x.module.size ≤ maxLen ∧ I64 x.print)
theorem NeedVal.same {w w' : World} {m : Md} {v : Value} {x : NeedD} (h : NeedVal w m v x) (_ : Same m.lo m.hi w w') : NeedVal w' m v x := h
theorem NeedVal.wid {w : World} {m m' : Md} {v : Value} {x : NeedD} (h : NeedVal w m v x) (_ : m'.lo ≤ m.lo) (_ : m.hi ≤ m'.hi) (_ : m'.made = m.made) : NeedVal w m' v x := h
theorem NeedVal.on {w w' : World} {m : Md} {v : Value} {x : NeedD} (h : NeedVal w m v x) (bel : Below m.hi w w') : NeedVal w' m v x := h.same (.of_below bel (Nat.le_refl _))
def GlobalVal (_ : World) (_ : Md) (v : Value) (x : GlobalD) : Prop := v = .agg #[.string (x.name), .int .i64 (x.length)] ∧ (x.name.size ≤ maxLen ∧ I64 x.length)
theorem GlobalVal.same {w w' : World} {m : Md} {v : Value} {x : GlobalD} (h : GlobalVal w m v x) (_ : Same m.lo m.hi w w') : GlobalVal w' m v x := h
theorem GlobalVal.wid {w : World} {m m' : Md} {v : Value} {x : GlobalD} (h : GlobalVal w m v x) (_ : m'.lo ≤ m.lo) (_ : m.hi ≤ m'.hi) (_ : m'.made = m.made) : GlobalVal w m' v x := h
theorem GlobalVal.on {w w' : World} {m : Md} {v : Value} {x : GlobalD} (h : GlobalVal w m v x) (bel : Below m.hi w w') : GlobalVal w' m v x := h.same (.of_below bel (Nat.le_refl _))
/-- A struct's value that is the data. -/
def ObjectVal (w : World) (m : Md) (v : Value) (x : ObjectD) : Prop := ∃ u2 u3 u4, v = .agg #[.string (x.module), .int .i64 (x.print), u2, u3, u4] ∧ (x.module.size ≤ maxLen ∧ I64 x.print ∧ x.needs.length ≤ maxLen ∧ x.globals.length ≤ maxLen ∧ x.procs.length ≤ maxLen) ∧ SlAt NeedAt 2 w m u2 x.needs ∧ SlAt GlobalAt 2 w m u3 x.globals ∧ SlAt CodeAt 5 w m u4 x.procs
theorem ObjectVal.same {w w' : World} {m : Md} {v : Value} {x : ObjectD} (h : ObjectVal w m v x) (s : Same m.lo m.hi w w') : ObjectVal w' m v x := by
  obtain ⟨u2, u3, u4, e, hb, h2, h3, h4⟩ := h
  exact ⟨u2, u3, u4, e, hb, h2.same NeedAt.stays s, h3.same GlobalAt.stays s, h4.same CodeAt.stays s⟩
theorem ObjectVal.wid {w : World} {m m' : Md} {v : Value} {x : ObjectD} (h : ObjectVal w m v x) (a : m'.lo ≤ m.lo) (b : m.hi ≤ m'.hi) (c : m'.made = m.made) : ObjectVal w m' v x := by
  obtain ⟨u2, u3, u4, e, hb, h2, h3, h4⟩ := h
  exact ⟨u2, u3, u4, e, hb, h2.wid NeedAt.widens a b c, h3.wid GlobalAt.widens a b c, h4.wid CodeAt.widens a b c⟩
theorem ObjectVal.on {w w' : World} {m : Md} {v : Value} {x : ObjectD} (h : ObjectVal w m v x) (bel : Below m.hi w w') : ObjectVal w' m v x := h.same (.of_below bel (Nat.le_refl _))
end Go.Proofs.YtpaljmhoojpbdaaDoor
