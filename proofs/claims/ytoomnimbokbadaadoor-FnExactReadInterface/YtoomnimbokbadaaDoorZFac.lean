/- An interface as plain data, and how it lies in memory. No condition. -/
import Derived.Test.YtoomnimbokbadaaDoorZRd
namespace Go.Proofs.YtoomnimbokbadaaDoor
open Go.ChangeShapes Go.WideShapes Go.ChangeAt Go.RowKit Go.Deep

def I64 (n : Int) : Prop := -9223372036854775808 ≤ n ∧ n ≤ 9223372036854775807
abbrev Prm := Int × Bool
structure Itm where
  kind : Int
  type : Int
  length : Int
  value : Int
  name : ByteArray
  params : List Prm
structure Fac where
  module : ByteArray
  items : List Itm
def PrmAt : Elem Prm := fun cf _ _ x => cf 0 = some (.int .i64 x.1) ∧ cf 1 = some (.bool x.2) ∧ I64 x.1
def ItmAt : Elem Itm := fun cf w m x => (cf 0 = some (.int .i64 x.kind) ∧ cf 1 = some (.int .i64 x.type) ∧ cf 2 = some (.int .i64 x.length) ∧ cf 3 = some (.int .i64 x.value) ∧ cf 4 = some (.string x.name)) ∧
  (I64 x.kind ∧ I64 x.type ∧ I64 x.length ∧ I64 x.value ∧ x.name.size ≤ maxLen ∧ x.params.length ≤ maxLen) ∧ ∃ v, cf 5 = some v ∧ SlAt PrmAt 2 w m v x.params
theorem PrmAt.stays : Stays PrmAt := fun _ _ _ _ _ h _ => h
theorem PrmAt.loc : Loc PrmAt 2 := fun _ _ _ _ _ e h => ⟨(e 0 (by omega)).trans h.1, (e 1 (by omega)).trans h.2.1, h.2.2⟩
theorem PrmAt.widens : Widens PrmAt := fun _ _ _ _ _ h _ _ _ => h
theorem ItmAt.stays : Stays ItmAt := fun _ _ _ _ _ ⟨h, hr, v, h5, h6⟩ s => ⟨h, hr, v, h5, h6.same PrmAt.stays s⟩
theorem ItmAt.loc : Loc ItmAt 6 := fun _ _ _ _ _ e ⟨⟨h0, h1, h2, h3, h4⟩, hr, v, h5, h6⟩ => ⟨⟨(e 0 (by omega)).trans h0, (e 1 (by omega)).trans h1, (e 2 (by omega)).trans h2, (e 3 (by omega)).trans h3, (e 4 (by omega)).trans h4⟩, hr, v, (e 5 (by omega)).trans h5, h6⟩
theorem ItmAt.widens : Widens ItmAt := fun _ _ _ _ _ ⟨h, hr, v, h5, h6⟩ a b c => ⟨h, hr, v, h5, h6.wid PrmAt.widens a b c⟩
/-- A struct's value that is the interface. -/
def FacAt (w : World) (m : Md) (v : Value) (x : Fac) : Prop := ∃ u, v = .agg #[.string x.module, u] ∧ x.module.size ≤ maxLen ∧ x.items.length ≤ maxLen ∧ SlAt ItmAt 6 w m u x.items
theorem FacAt.same {w w' : World} {m : Md} {v : Value} {x : Fac} (h : FacAt w m v x) (s : Same m.lo m.hi w w') : FacAt w' m v x := by
  obtain ⟨u, rfl, h1, h2, h3⟩ := h
  exact ⟨u, rfl, h1, h2, h3.same ItmAt.stays s⟩
theorem FacAt.on {w w' : World} {m : Md} {v : Value} {x : Fac} (h : FacAt w m v x) (bel : Below m.hi w w') : FacAt w' m v x := h.same (.of_below bel (Nat.le_refl _))
theorem I64.of_wf {n : Int} (h : (Lit.int .i64 n).wf = true) : I64 n := by
  simp only [Lit.wf, Bool.and_eq_true, decide_eq_true_eq] at h
  exact h

section
variable {H : Type} {enc : TypeId × Value → H} {w : World}
theorem opens_param : Opens enc Tryd.prog w 104 PrmAt := by
  intro fuel cs y h
  obtain ⟨hl, hf⟩ := open_fields Tryd.underlying104 (hone_of (by kernel_rfl)) (by kernel_rfl) h
  obtain ⟨v0, n0, z0, c0, t0⟩ := hf 0 _ rfl
  obtain ⟨v1, n1, z1, c1, t1⟩ := hf 1 _ rfl
  obtain ⟨a0, e0, _, w0⟩ := DataW.trod_int Tryd.underlying3 t0
  obtain ⟨a1, e1, _⟩ := DataW.trod_bool Tryd.underlying4 t1
  simp only [List.cons.injEq, and_true] at e0 e1
  subst e0 e1
  have hc : Tryd.prog.cellsOf 104 = 2 := by kernel_rfl
  refine ⟨(a0, a1), fun cf hcell => ⟨?_, ?_, I64.of_wf w0⟩⟩
  · have := hcell 0 (by omega)
    rwa [c0] at this
  · have := hcell 1 (by omega)
    rwa [c1] at this
theorem opens_item : Opens enc Tryd.prog w 83 ItmAt := by
  intro fuel cs y h
  obtain ⟨hl, hf⟩ := open_fields Tryd.underlying83 (hone_of (by kernel_rfl)) (by kernel_rfl) h
  obtain ⟨v0, n0, z0, c0, t0⟩ := hf 0 _ rfl
  obtain ⟨v1, n1, z1, c1, t1⟩ := hf 1 _ rfl
  obtain ⟨v2, n2, z2, c2, t2⟩ := hf 2 _ rfl
  obtain ⟨v3, n3, z3, c3, t3⟩ := hf 3 _ rfl
  obtain ⟨v4, n4, z4, c4, t4⟩ := hf 4 _ rfl
  obtain ⟨v5, n5, z5, c5, t5⟩ := hf 5 _ rfl
  obtain ⟨a0, e0, _, w0⟩ := DataW.trod_int Tryd.underlying3 t0
  obtain ⟨a1, e1, _, w1⟩ := DataW.trod_int Tryd.underlying3 t1
  obtain ⟨a2, e2, _, w2⟩ := DataW.trod_int Tryd.underlying3 t2
  obtain ⟨a3, e3, _, w3⟩ := DataW.trod_int Tryd.underlying3 t3
  obtain ⟨a4, e4, _, w4⟩ := DataW.trod_string Tryd.underlying9 t4
  obtain ⟨a5, l5, e5, s5, w5⟩ := opens_slice Tryd.underlying81 (of_decide_eq_true (by kernel_rfl)) opens_param t5
  simp only [List.cons.injEq, and_true] at e0 e1 e2 e3 e4 e5
  subst e0 e1 e2 e3 e4 e5
  have hc : Tryd.prog.cellsOf 83 = 6 := by kernel_rfl
  have hp : Tryd.prog.cellsOf 104 = 2 := by kernel_rfl
  rw [hp] at s5
  refine ⟨⟨a0, a1, a2, a3, a4, l5⟩, fun cf hcell => ⟨⟨?_, ?_, ?_, ?_, ?_⟩, ⟨I64.of_wf w0, I64.of_wf w1, I64.of_wf w2, I64.of_wf w3, w4, w5⟩, _, ?_, s5⟩⟩
  · have := hcell 0 (by omega); rwa [c0] at this
  · have := hcell 1 (by omega); rwa [c1] at this
  · have := hcell 2 (by omega); rwa [c2] at this
  · have := hcell 3 (by omega); rwa [c3] at this
  · have := hcell 4 (by omega); rwa [c4] at this
  · have := hcell 5 (by omega); rwa [c5] at this
set_option maxRecDepth 20000 in
theorem open_face {r : Reach} {b0 : Nat} {v : Value} {d : DataW H} {ps : List MemPlace} (hval : Value.okWide Tryd.prog w r b0 37 v) (h : DataW.Trod enc Tryd.prog w 0 (fun _ => true) true 37 v d ps) :
    ∃ x, FacAt w ⟨0, w.heap.size, false⟩ v x := by
  obtain ⟨cs, rfl, _⟩ := okWide_struct Tryd.underlying37 hval
  obtain ⟨fuel, h⟩ := h
  obtain ⟨hl, hf⟩ := open_fields Tryd.underlying37 (hone_of (by kernel_rfl)) (by kernel_rfl) h
  obtain ⟨v0, n0, z0, c0, t0⟩ := hf 0 _ rfl
  obtain ⟨v1, n1, z1, c1, t1⟩ := hf 1 _ rfl
  obtain ⟨a0, e0, _, w0⟩ := DataW.trod_string Tryd.underlying9 t0
  obtain ⟨a1, l1, e1, s1, w1⟩ := opens_slice Tryd.underlying35 (of_decide_eq_true (by kernel_rfl)) opens_item t1
  simp only [List.cons.injEq, and_true] at e0 e1
  subst e0 e1
  have hp : Tryd.prog.cellsOf 83 = 6 := by kernel_rfl
  rw [hp] at s1
  refine ⟨⟨a0, l1⟩, _, ?_, w0, w1, s1⟩
  obtain ⟨l, rfl⟩ : ∃ l : List Value, cs = l.toArray := ⟨cs.toList, by simp⟩
  have hl' : l.length = 2 := by simpa [Value.cells] using hl
  match l, hl', c0, c1 with
  | [x, y], _, c0, c1 =>
    simp [Value.cells] at c0 c1
    subst c0 c1
    rfl
end
end Go.Proofs.YtoomnimbokbadaaDoor
