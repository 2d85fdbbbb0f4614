/- Structs as plain data, and how they lie in memory; how the row's own reading of an argument gives it. No condition. -/
import Derived.Test.YtibjockcadnooaaDoorZRd
namespace Go.Proofs.YtibjockcadnooaaDoor
open Go.ChangeShapes Go.WideShapes Go.ChangeAt Go.RowKit Go.Deep

def I64 (n : Int) : Prop := -9223372036854775808 ≤ n ∧ n ≤ 9223372036854775807
theorem I64.of_wf {n : Int} (h : (Lit.int .i64 n).wf = true) : I64 n := by
  simp only [Lit.wf, Bool.and_eq_true, decide_eq_true_eq] at h
  exact h
structure OutD where
  ty : Int
  value : Int
def OutAt : Elem OutD := fun cf _ _ x => (cf 0 = some (.int .i64 (x.ty)) ∧ cf 1 = some (.int .i64 (x.value))) ∧ (I64 x.ty ∧ I64 x.value)
theorem OutAt.stays : Stays OutAt := fun _ _ _ _ _ h _ => h
theorem OutAt.widens : Widens OutAt := fun _ _ _ _ _ h _ _ _ => h
theorem OutAt.loc : Loc OutAt 2 := fun _ _ _ _ _ e ⟨⟨c0, c1⟩, hr⟩ => ⟨⟨(e 0 (by omega)).trans c0, (e 1 (by omega)).trans c1⟩, hr⟩
structure ResultD where
  en : Int
  trap : Int
  out : List OutD
  used : Int
def ResultAt : Elem ResultD := fun cf w m x => (cf 0 = some (.int .i64 (x.en)) ∧ cf 1 = some (.int .i64 (x.trap)) ∧ cf 3 = some (.int .i64 (x.used))) ∧ (I64 x.en ∧ I64 x.trap ∧ x.out.length ≤ maxLen ∧ I64 x.used) ∧ ∃ u2, (cf 2 = some u2) ∧ SlAt OutAt 2 w m u2 x.out
theorem ResultAt.stays : Stays ResultAt := fun _ _ _ _ _ ⟨h, hr, u2, hc, h2⟩ s => ⟨h, hr, u2, hc, h2.same OutAt.stays s⟩
theorem ResultAt.widens : Widens ResultAt := fun _ _ _ _ _ ⟨h, hr, u2, hc, h2⟩ a b c => ⟨h, hr, u2, hc, h2.wid OutAt.widens a b c⟩
theorem ResultAt.loc : Loc ResultAt 4 := fun _ _ _ _ _ e ⟨⟨c0, c1, c3⟩, hr, u2, k2, hs⟩ => ⟨⟨(e 0 (by omega)).trans c0, (e 1 (by omega)).trans c1, (e 3 (by omega)).trans c3⟩, hr, u2, (e 2 (by omega)).trans k2, hs⟩
section
variable {H : Type} {enc : TypeId × Value → H} {w : World}
theorem opens_Out : Opens enc Tryd.prog w 46 OutAt := by
  intro fuel cs y h
  obtain ⟨hl, hf⟩ := open_fields Tryd.underlying46 (hone_of (by kernel_rfl)) (by kernel_rfl) h
  obtain ⟨v0, n0, z0, c0, t0⟩ := hf 0 _ rfl
  obtain ⟨v1, n1, z1, c1, t1⟩ := hf 1 _ rfl
  obtain ⟨a0, e0, _, w0⟩ := DataW.trod_int Tryd.underlying3 t0
  obtain ⟨a1, e1, _, w1⟩ := DataW.trod_int Tryd.underlying3 t1
  simp only [List.cons.injEq, and_true] at e0 e1
  subst e0 e1
  have hc : Tryd.prog.cellsOf 46 = 2 := by kernel_rfl
  refine ⟨⟨a0, a1⟩, fun cf hcell => ⟨⟨?_, ?_⟩, ⟨I64.of_wf w0, I64.of_wf w1⟩⟩⟩
  · have := hcell 0 (by omega); rwa [c0] at this
  · have := hcell 1 (by omega); rwa [c1] at this
theorem opens_Result : Opens enc Tryd.prog w 24 ResultAt := by
  intro fuel cs y h
  obtain ⟨hl, hf⟩ := open_fields Tryd.underlying24 (hone_of (by kernel_rfl)) (by kernel_rfl) h
  obtain ⟨v0, n0, z0, c0, t0⟩ := hf 0 _ rfl
  obtain ⟨v1, n1, z1, c1, t1⟩ := hf 1 _ rfl
  obtain ⟨v2, n2, z2, c2, t2⟩ := hf 2 _ rfl
  obtain ⟨v3, n3, z3, c3, t3⟩ := hf 3 _ rfl
  obtain ⟨a0, e0, _, w0⟩ := DataW.trod_int Tryd.underlying3 t0
  obtain ⟨a1, e1, _, w1⟩ := DataW.trod_int Tryd.underlying3 t1
  obtain ⟨b2, a2, e2, s2, w2⟩ := opens_slice Tryd.underlying22 (of_decide_eq_true (by kernel_rfl)) opens_Out t2
  obtain ⟨a3, e3, _, w3⟩ := DataW.trod_int Tryd.underlying3 t3
  simp only [List.cons.injEq, and_true] at e0 e1 e2 e3
  subst e0 e1 e2 e3
  have hc : Tryd.prog.cellsOf 24 = 4 := by kernel_rfl
  have hp2 : Tryd.prog.cellsOf 46 = 2 := by kernel_rfl
  rw [hp2] at s2
  refine ⟨⟨a0, a1, a2, a3⟩, fun cf hcell => ⟨⟨?_, ?_, ?_⟩, ⟨I64.of_wf w0, I64.of_wf w1, w2, I64.of_wf w3⟩, _, ?_, s2⟩⟩
  · have := hcell 0 (by omega); rwa [c0] at this
  · have := hcell 1 (by omega); rwa [c1] at this
  · have := hcell 3 (by omega); rwa [c3] at this
  · have := hcell 2 (by omega); rwa [c2] at this
end
def OutVal (_ : World) (_ : Md) (v : Value) (x : OutD) : Prop := v = .agg #[.int .i64 (x.ty), .int .i64 (x.value)] ∧ (I64 x.ty ∧ I64 x.value)
theorem OutVal.same {w w' : World} {m : Md} {v : Value} {x : OutD} (h : OutVal w m v x) (_ : Same m.lo m.hi w w') : OutVal w' m v x := h
theorem OutVal.wid {w : World} {m m' : Md} {v : Value} {x : OutD} (h : OutVal w m v x) (_ : m'.lo ≤ m.lo) (_ : m.hi ≤ m'.hi) (_ : m'.made = m.made) : OutVal w m' v x := h
theorem OutVal.on {w w' : World} {m : Md} {v : Value} {x : OutD} (h : OutVal w m v x) (bel : Below m.hi w w') : OutVal w' m v x := h.same (.of_below bel (Nat.le_refl _))
/-- A struct's value that is the data. -/
def ResultVal (w : World) (m : Md) (v : Value) (x : ResultD) : Prop := ∃ u2, v = .agg #[.int .i64 (x.en), .int .i64 (x.trap), u2, .int .i64 (x.used)] ∧ (I64 x.en ∧ I64 x.trap ∧ x.out.length ≤ maxLen ∧ I64 x.used) ∧ SlAt OutAt 2 w m u2 x.out
theorem ResultVal.same {w w' : World} {m : Md} {v : Value} {x : ResultD} (h : ResultVal w m v x) (s : Same m.lo m.hi w w') : ResultVal w' m v x := by
  obtain ⟨u2, e, hb, h2⟩ := h
  exact ⟨u2, e, hb, h2.same OutAt.stays s⟩
theorem ResultVal.wid {w : World} {m m' : Md} {v : Value} {x : ResultD} (h : ResultVal w m v x) (a : m'.lo ≤ m.lo) (b : m.hi ≤ m'.hi) (c : m'.made = m.made) : ResultVal w m' v x := by
  obtain ⟨u2, e, hb, h2⟩ := h
  exact ⟨u2, e, hb, h2.wid OutAt.widens a b c⟩
theorem ResultVal.on {w w' : World} {m : Md} {v : Value} {x : ResultD} (h : ResultVal w m v x) (bel : Below m.hi w w') : ResultVal w' m v x := h.same (.of_below bel (Nat.le_refl _))
end Go.Proofs.YtibjockcadnooaaDoor
