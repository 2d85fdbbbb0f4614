/- When a code is listed, and as what; what a code that verifies is made of. No condition. -/
import Derived.Test.YtjficafpkdeibaaGreatDoorVerAny
import Derived.Test.YtjficafpkdeibaaGreatDoorListP
namespace Go.Proofs.YtjficafpkdeibaaGreatDoor
open Go.RowKit

/-- The answer. -/
def listA (x : CodeD) : ByteArray × Int := if (verC x).1 = 0 then (⟨(rowsU 0 x.list).toArray⟩, 0) else (⟨#[]⟩, 1)
theorem listA_bad {x : CodeD} (h : (verC x).1 ≠ 0) : listA x = (⟨#[]⟩, 1) := by unfold listA; rw [if_neg h]
theorem listA_ok {x : CodeD} (h : (verC x).1 = 0) : listA x = (⟨(rowsU 0 x.list).toArray⟩, 0) := by unfold listA; rw [if_pos h]
theorem own_size {s : ByteArray} (h : ownB s = true) : s.size ≤ 40 := by
  unfold ownB nameB at h
  simp only [Bool.and_eq_true, decide_eq_true_eq] at h
  exact h.1.1.2
/-- What a code that verifies is made of. -/
theorem good_of {x : CodeD} (h : (verC x).1 = 0) (hw : ∀ y ∈ x.list, I64 y.a ∧ I64 y.b) : x.list.length ≤ 2000 ∧ Good x.list := by
  have hz := verC_zero h
  unfold verC at hz
  split at hz
  · rename_i hh
    obtain ⟨-, g2, g3, g4, g5, -, -⟩ := head_all hh
    split at hz
    · cases hz
    · rename_i hf
      have hc : 0 ≤ x.cells ∧ x.cells ≤ 2000 := by
        unfold inB at g3 g4
        simp at g3 g4
        omega
      refine ⟨g2, fun y hy => ?_⟩
      have hi := form_all x.list 0 hf y hy
      rw [ins_form hc.1 hc.2] at hi
      unfold formB at hi
      simp only [Bool.and_eq_true, decide_eq_true_eq] at hi
      obtain ⟨⟨⟨⟨o1, o2⟩, hfit⟩, -⟩, hn⟩ := hi
      have hs : y.mod.size ≤ 40 ∧ y.name.size ≤ 40 := by
        split at hn
        · simp only [Bool.and_eq_true] at hn
          exact ⟨own_size hn.1, own_size hn.2⟩
        · simp only [Bool.and_eq_true] at hn
          rw [em_size hn.1, em_size hn.2]
          decide
      refine ⟨o1, o2, (hw y hy).1, (hw y hy).2, hs.1, hs.2, fun e => ?_⟩
      unfold fitB at hfit
      rw [e] at hfit
      simp at hfit
      omega
  · cases hz
end Go.Proofs.YtjficafpkdeibaaGreatDoor
