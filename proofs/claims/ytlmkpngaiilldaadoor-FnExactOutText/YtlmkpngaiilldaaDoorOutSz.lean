/- The law's own measure: what it lets through is small. No condition. -/
import Derived.Test.YtlmkpngaiilldaaDoorOutD
namespace Go.Proofs.YtlmkpngaiilldaaDoor
open Go.RowKit

def OutSm (_ : OutD) : Prop := True
set_option maxHeartbeats 4000000 in
theorem szOutS_any (v : Value) (m : Md) (l : List OutD) (left : Int) (w : World) (h0 : 0 ≤ left) (h1 : left ≤ 1048576) (hn : l.length ≤ maxLen) (h : SlAt OutAt 2 w m v l) (_ : m.hi ≤ w.heap.size) :
    Calls Tryd.prog 10 #[v, .int .i64 left] w fun e w' => (∃ k : Int, e = .returned (.int .i64 k) ∧ -1 ≤ k ∧ k ≤ left ∧ (0 ≤ k → (l.length : Int) ≤ left ∧ ∀ x ∈ l, OutSm x)) ∧ Below w.heap.size w w' := by
  unfold maxLen at hn
  have HS := hide h
  obtain ⟨a, c, rfl, -⟩ := h
  obtain ⟨n, hl⟩ : ∃ n, l.length = n := ⟨_, rfl⟩
  have HN := hide hl
  rw [hl] at hn ⊢
  clear hl
  by_cases hb : left - n < 0
  · go_enter Tryd.func10, Tryd.ntmps10
    go_wp2
    go_ret
    exact ⟨⟨-1, rfl, by omega, by omega, by omega⟩, Below.refl _ _⟩
  · go_enter Tryd.func10, Tryd.ntmps10
    go_wp2
    go_ret
    exact ⟨⟨_, rfl, by omega, by omega, fun _ => ⟨by omega, fun _ _ => trivial⟩⟩, Below.refl _ _⟩
end Go.Proofs.YtlmkpngaiilldaaDoor
