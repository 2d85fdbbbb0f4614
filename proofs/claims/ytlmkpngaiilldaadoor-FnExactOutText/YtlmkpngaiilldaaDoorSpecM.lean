/- The model's OutText answers 'outA'. No condition. -/
import Derived.Test.YtlmkpngaiilldaaDoorOutP
import Derived.Deep.LoopGhost
namespace Go.Proofs.YtlmkpngaiilldaaDoor
open Go.ChangeShapes Go.WideShapes Go.ChangeAt Go.RowKit Go.Deep

set_option maxRecDepth 100000 in
theorem conv_none (w : World) : (convert 59 9 (.slice none 0 0)).run Tryd.prog w = .ok (.string ⟨#[]⟩) w := by
  rw [run_convert_bytes_string _ 59 9 5 _ _ _ Tryd.underlying59 Tryd.underlying5 Tryd.underlying9]
  rfl
theorem conv_own {w : World} {B : Nat} {v : Value} {l : List Int} (h : Own w B v l) : (convert 59 9 v).run Tryd.prog w = .ok (.string ⟨(l.map fun n => UInt8.ofNat n.toNat).toArray⟩) w := by
  have h2 := h.2
  rcases h2 with ⟨rfl, e⟩ | ⟨g, cap, cur, rfl, -⟩
  · obtain rfl : l = [] := List.length_eq_zero_iff.1 e
    exact conv_none w
  · have hc : ∀ j (hj : j < l.length), w.cell? ⟨g, 0 + j, none⟩ = some (.int .u8 l[j]) := fun j hj => by
      have := h.cells j (.int .u8 l[j]) (by unfold bc; rw [List.getElem?_map, List.getElem?_eq_getElem hj]; rfl)
      rwa [add_plain] at this
    exact run_convert_cells 59 9 5 Tryd.underlying59 Tryd.underlying5 Tryd.underlying9 g 0 l cap w hc
theorem in01_any (v : Int) (w : World) : Calls Tryd.prog 18 #[.int .i64 v, .int .i64 0, .int .i64 1] w fun e w' => e = .returned (.bool (v == 0 || v == 1)) ∧ w = w' := by
  by_cases h : 0 ≤ v
  · by_cases k : v ≤ 1
    · have e : (v == 0 || v == 1) = true := by simp; omega
      rw [e]
      go_enter Tryd.func18, Tryd.ntmps18
      go_wp2
      go_ret
      exact ⟨rfl, rfl⟩
    · have e : (v == 0 || v == 1) = false := by simp; omega
      rw [e]
      go_enter Tryd.func18, Tryd.ntmps18
      go_wp2
      go_ret
      exact ⟨rfl, rfl⟩
  · have e : (v == 0 || v == 1) = false := by simp; omega
    rw [e]
    go_enter Tryd.func18, Tryd.ntmps18
    go_wp2
    go_ret
    exact ⟨rfl, rfl⟩
end Go.Proofs.YtlmkpngaiilldaaDoor
