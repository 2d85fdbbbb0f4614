/- Characters by number: the two tests, by the programs way and by the models. -/
import Derived.Test.YtlmkpngaiilldaaDoorUtf8
import Derived.PlainAid
import Derived.Laws.Cover4
namespace Go.Proofs.YtlmkpngaiilldaaDoor
open Go.RowKit Go.PlainAid

theorem charOK_impl (c : Int) (w : World) : Calls Tryd.prog 46 #[.int .i64 c] w fun e w' => e = .returned (.bool (charB c)) ∧ w = w' := by
  cases h : charB c
  · have h' : ¬ ((0 ≤ c ∧ c ≤ 55295) ∨ (57344 ≤ c ∧ c ≤ 1114111)) := fun q => by rw [charB_iff.2 q] at h; cases h
    by_cases h0 : 0 ≤ c
    all_goals by_cases h1 : c ≤ 55295
    all_goals by_cases h2 : 57344 ≤ c
    all_goals by_cases h3 : c ≤ 1114111
    all_goals first | (exfalso; omega) | skip
    all_goals
      clear h'
      go_enter Tryd.func46, Tryd.ntmps46
      go_wp2
      go_ret
      exact ⟨rfl, rfl⟩
  · have h' := charB_iff.1 h
    by_cases h0 : 0 ≤ c
    all_goals by_cases h1 : c ≤ 55295
    all_goals by_cases h2 : 57344 ≤ c
    all_goals by_cases h3 : c ≤ 1114111
    all_goals first | (exfalso; omega) | skip
    all_goals
      clear h'
      go_enter Tryd.func46, Tryd.ntmps46
      go_wp2
      go_ret
      exact ⟨rfl, rfl⟩
theorem charOK_spec (c : Int) (w : World) : Calls Tryd.prog 29 #[.int .i64 c] w fun e w' => e = .returned (.bool (charB c)) ∧ w = w' := by
  cases h : charB c
  · have h' : ¬ ((0 ≤ c ∧ c ≤ 55295) ∨ (57344 ≤ c ∧ c ≤ 1114111)) := fun q => by rw [charB_iff.2 q] at h; cases h
    by_cases h0 : 0 ≤ c
    all_goals by_cases h1 : c ≤ 55295
    all_goals by_cases h2 : 57344 ≤ c
    all_goals by_cases h3 : c ≤ 1114111
    all_goals first | (exfalso; omega) | skip
    all_goals
      clear h'
      go_enter Tryd.func29, Tryd.ntmps29
      go_wp2
      go_ret
      exact ⟨rfl, rfl⟩
  · have h' := charB_iff.1 h
    by_cases h0 : 0 ≤ c
    all_goals by_cases h1 : c ≤ 55295
    all_goals by_cases h2 : 57344 ≤ c
    all_goals by_cases h3 : c ≤ 1114111
    all_goals first | (exfalso; omega) | skip
    all_goals
      clear h'
      go_enter Tryd.func29, Tryd.ntmps29
      go_wp2
      go_ret
      exact ⟨rfl, rfl⟩

/-- The characters that are told by number. -/
def numB (c : Int) : Bool := decide (c < 32 ∨ c = 127 ∨ c = 34)
theorem needsNumber_any (c : Int) (w : World) : Calls Tryd.prog 89 #[.int .i32 c] w fun e w' => e = .returned (.bool (numB c)) ∧ w = w' := by
  by_cases h1 : c < 32
  · have h : numB c = true := decide_eq_true (.inl h1)
    go_enter Tryd.func89, Tryd.ntmps89
    go_wp2
    go_ret
    first | exact ⟨rfl, rfl⟩ | exact ⟨by rw [h]; rfl, rfl⟩
  by_cases h2 : c = 127
  · have h : numB c = true := decide_eq_true (.inr (.inl h2))
    subst h2
    go_enter Tryd.func89, Tryd.ntmps89
    go_wp2
    go_ret
    first | exact ⟨rfl, rfl⟩ | exact ⟨by rw [h]; rfl, rfl⟩
  by_cases h3 : c = 34
  · have h : numB c = true := decide_eq_true (.inr (.inr h3))
    subst h3
    go_enter Tryd.func89, Tryd.ntmps89
    go_wp2
    go_ret
    first | exact ⟨rfl, rfl⟩ | exact ⟨by rw [h]; rfl, rfl⟩
  · have h : numB c = false := decide_eq_false (by omega)
    have e2 : (c == 127) = false := by simp [h2]
    have e3 : (c == 34) = false := by simp [h3]
    go_enter Tryd.func89, Tryd.ntmps89
    go_wp2
    go_ret
    first | exact ⟨rfl, rfl⟩ | exact ⟨by rw [h]; rfl, rfl⟩
end Go.Proofs.YtlmkpngaiilldaaDoor
