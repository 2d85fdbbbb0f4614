/- How the row's own reading of an argument gives an object's data. No condition. -/
import Derived.Test.YtoodadepafghhaaGreatDoorZObjD
namespace Go.Proofs.YtoodadepafghhaaGreatDoor
open Go.ChangeShapes Go.WideShapes Go.ChangeAt Go.RowKit Go.Deep

section
variable {H : Type} {enc : TypeId × Value → H} {w : World}
set_option maxRecDepth 100000 in
theorem open_object {r : Reach} {b0 : Nat} {v : Value} {d : DataW H} {ps : List MemPlace} (hval : Value.okWide Tryz.prog w r b0 36 v) (h : DataW.Trod enc Tryz.prog w 0 (fun _ => true) true 36 v d ps) : ∃ x, ObjectVal w ⟨0, w.heap.size, false⟩ v x := by
  obtain ⟨cs, rfl, _⟩ := okWide_struct Tryz.underlying36 hval
  obtain ⟨fuel, h⟩ := h
  obtain ⟨hl, -⟩ := open_fields Tryz.underlying36 (hone_of (by kernel_rfl)) (by kernel_rfl) h
  obtain ⟨x, hx⟩ := opens_Object _ _ _ h
  obtain ⟨l, rfl⟩ : ∃ l : List Value, cs = l.toArray := ⟨cs.toList, by simp⟩
  obtain ⟨⟨c0, c1⟩, hr, u2, u3, u4, ⟨c2, c3, c4⟩, hs⟩ := hx (fun j => l[j]?) (fun j _ => by simp [Value.cells])
  refine ⟨x, u2, u3, u4, ?_, hr, hs⟩
  have hl' : l.length = 5 := by simpa [Value.cells] using hl
  match l, hl' with
  | [a, b, c, d, e], _ =>
    simp only [List.getElem?_cons_zero, List.getElem?_cons_succ, Option.some.injEq] at c0 c1 c2 c3 c4
    subst c0 c1 c2 c3 c4
    rfl
end
end Go.Proofs.YtoodadepafghhaaGreatDoor
