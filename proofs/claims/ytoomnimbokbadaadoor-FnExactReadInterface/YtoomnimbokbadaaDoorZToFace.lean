/- The law's copy, its value's shape told; where the program's table of words lies. -/
import Derived.Test.YtoomnimbokbadaaDoorZFacEq
import Derived.Test.YtoomnimbokbadaaDoorZKeys
namespace Go.Proofs.YtoomnimbokbadaaDoor
open Go.RowKit

/-- The law's copy, its value's shape told. -/
theorem toFace_any (v : Value) (m : Md) (x : Fac) (s : ByteArray) (n : Nat) (hs : x.module = s) (hn : x.items.length = n) (w : World) (hx : Small x) (h : FacAt w m v x) (hm : m.hi ≤ w.heap.size) :
    Calls Tryd.prog 16 #[v] w fun e w' => (∃ a c, e = .returned (.agg #[.string s, .slice a n c]) ∧ Hid (FacAt w' ⟨w.heap.size, w'.heap.size, true⟩ (.agg #[.string s, .slice a n c]) x)) ∧ Below w.heap.size w w' := by
  subst hs hn
  refine (toInterface_any v m x w hx h hm).mono ?_
  rintro e w' ⟨⟨u, rfl, hu⟩, bel⟩
  obtain ⟨u', rfl, h1, h2, a, c, rfl, h3⟩ := hu
  exact ⟨⟨a, c, rfl, ⟨_, rfl, h1, h2, a, c, rfl, h3⟩⟩, bel⟩
theorem gKeys : Tryd.prog.globalNamed "loop.example/g00168/impl.keyWords" = some 0 := by kernel_rfl
theorem gKeysType : (Tryd.prog.globals[0]?).map (·.type) = some 100 := by kernel_rfl
end Go.Proofs.YtoomnimbokbadaaDoor
