/- Structs as plain data, and how they lie in memory; how the row's own reading of an argument gives it. No condition. -/
import Derived.Test.YtolchbfbbnkcdaaDoorRd
namespace Go.Proofs.YtolchbfbbnkcdaaDoor
open Go.ChangeShapes Go.WideShapes Go.ChangeAt Go.RowKit Go.Deep

def I64 (n : Int) : Prop := -9223372036854775808 ≤ n ∧ n ≤ 9223372036854775807
theorem I64.of_wf {n : Int} (h : (Lit.int .i64 n).wf = true) : I64 n := by
  simp only [Lit.wf, Bool.and_eq_true, decide_eq_true_eq] at h
  exact h
structure FileD where
  name : ByteArray
  text : ByteArray
def FileAt : Elem FileD := fun cf _ _ x => (cf 0 = some (.string (x.name)) ∧ cf 1 = some (.string (x.text))) ∧ (x.name.size ≤ maxLen ∧ x.text.size ≤ maxLen)
theorem FileAt.stays : Stays FileAt := fun _ _ _ _ _ h _ => h
theorem FileAt.widens : Widens FileAt := fun _ _ _ _ _ h _ _ _ => h
theorem FileAt.loc : Loc FileAt 2 := fun _ _ _ _ _ e ⟨⟨c0, c1⟩, hr⟩ => ⟨⟨(e 0 (by omega)).trans c0, (e 1 (by omega)).trans c1⟩, hr⟩
section
variable {H : Type} {enc : TypeId × Value → H} {w : World}
theorem opens_File : Opens enc Tryd.prog w 31 FileAt := by
  intro fuel cs y h
  obtain ⟨hl, hf⟩ := open_fields Tryd.underlying31 (hone_of (by kernel_rfl)) (by kernel_rfl) h
  obtain ⟨v0, n0, z0, c0, t0⟩ := hf 0 _ rfl
  obtain ⟨v1, n1, z1, c1, t1⟩ := hf 1 _ rfl
  obtain ⟨a0, e0, _, w0⟩ := DataW.trod_string Tryd.underlying9 t0
  obtain ⟨a1, e1, _, w1⟩ := DataW.trod_string Tryd.underlying9 t1
  simp only [List.cons.injEq, and_true] at e0 e1
  subst e0 e1
  have hc : Tryd.prog.cellsOf 31 = 2 := by kernel_rfl
  refine ⟨⟨a0, a1⟩, fun cf hcell => ⟨⟨?_, ?_⟩, ⟨w0, w1⟩⟩⟩
  · have := hcell 0 (by omega); rwa [c0] at this
  · have := hcell 1 (by omega); rwa [c1] at this
end
def FileVal (_ : World) (_ : Md) (v : Value) (x : FileD) : Prop := v = .agg #[.string (x.name), .string (x.text)] ∧ (x.name.size ≤ maxLen ∧ x.text.size ≤ maxLen)
theorem FileVal.same {w w' : World} {m : Md} {v : Value} {x : FileD} (h : FileVal w m v x) (_ : Same m.lo m.hi w w') : FileVal w' m v x := h
theorem FileVal.wid {w : World} {m m' : Md} {v : Value} {x : FileD} (h : FileVal w m v x) (_ : m'.lo ≤ m.lo) (_ : m.hi ≤ m'.hi) (_ : m'.made = m.made) : FileVal w m' v x := h
theorem FileVal.on {w w' : World} {m : Md} {v : Value} {x : FileD} (h : FileVal w m v x) (bel : Below m.hi w w') : FileVal w' m v x := h.same (.of_below bel (Nat.le_refl _))
end Go.Proofs.YtolchbfbbnkcdaaDoor
