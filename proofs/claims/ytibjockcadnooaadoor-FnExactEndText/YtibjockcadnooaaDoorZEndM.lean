/- The model's EndText answers 'endT' and 'endC'. No condition. -/
import Derived.Test.YtibjockcadnooaaDoorZEndP
import Derived.BigQuiet
import Derived.WalkSmall
namespace Go.Proofs.YtibjockcadnooaaDoor
open Go.RowKit

def inZ (n a b : Int) : Bool := decide (a ≤ n) && decide (n ≤ b)
theorem inZ_any (n a b : Int) (w : World) : Calls Tryd.prog 10 #[.int .i64 n, .int .i64 a, .int .i64 b] w fun e w' => e = .returned (.bool (inZ n a b)) ∧ w = w' := by
  unfold inZ
  by_cases h : a ≤ n
  · by_cases k : n ≤ b
    · simp only [h, k, decide_true, Bool.and_true]
      go_enter Tryd.func10, Tryd.ntmps10
      go_wp2
      go_ret
      exact ⟨rfl, rfl⟩
    · simp only [h, k, decide_true, decide_false, Bool.and_false]
      go_enter Tryd.func10, Tryd.ntmps10
      go_wp2
      go_ret
      exact ⟨rfl, rfl⟩
  · simp only [h, decide_false, Bool.false_and]
    go_enter Tryd.func10, Tryd.ntmps10
    go_wp2
    go_ret
    exact ⟨rfl, rfl⟩
set_option maxRecDepth 100000 in
set_option maxHeartbeats 4000000 in
theorem l08End_any (e t us : Int) (u : Value) (w : World) (h : EndOK e t) (ht : I64 t) :
    Calls Tryd.prog 11 #[.agg #[.int .i64 e, .int .i64 t, u, .int .i64 us]] w fun r w' => r = .returned (.string ⟨(endU e t).toArray⟩) ∧ Below w.heap.size w w' := by
  obtain ⟨⟨h1, h4⟩, h2⟩ := h
  obtain ⟨t1, t2⟩ := ht
  have bA : Below w.heap.size w (w.alloc (.cells #[.int .i64 e, .int .i64 t, u, .int .i64 us] 30)) := (Below.refl _ _).alloc (Nat.le_refl _) _
  have HB := hide bA
  clear bA
  by_cases e2 : e = 2
  · subst e2
    obtain ⟨t3, t4⟩ := h2.2 rfl
    have ho : t = 1 ∨ t = 2 ∨ t = 3 ∨ t = 4 ∨ t = 5 := by omega
    clear h1 h4 h2 t1 t2 t3 t4
    rcases ho with rfl | rfl | rfl | rfl | rfl <;>
    · go_enter Tryd.func11, Tryd.ntmps11
      go_wp2
      go_ret
      exact ⟨rfl, HB.out.alloc (by simp) _⟩
  · have ho : e = 1 ∨ e = 3 ∨ e = 4 := by omega
    clear h1 h4 h2 t1 t2 e2
    rcases ho with rfl | rfl | rfl <;>
    · go_enter Tryd.func11, Tryd.ntmps11
      go_wp2
      go_ret
      exact ⟨rfl, HB.out⟩
set_option maxRecDepth 100000 in
set_option maxHeartbeats 4000000 in
theorem specEndText_any (e t us : Int) (u : Value) (w : World) (ht : I64 t) :
    Calls Tryd.prog 5 #[.agg #[.int .i64 e, .int .i64 t, u, .int .i64 us]] w fun r w' => r = .returned (.tuple #[.string (endT e t), .int .i64 (endC e t)]) ∧ Below w.heap.size w w' := by
  have bA : Below w.heap.size w (w.alloc (.cells #[.int .i64 e, .int .i64 t, u, .int .i64 us] 30)) := (Below.refl _ _).alloc (Nat.le_refl _) _
  have HB := hide bA
  clear bA
  by_cases he : 1 ≤ e ∧ e ≤ 4
  · have g1 : inZ e 1 4 = true := by simp [inZ, he]
    by_cases hk : EndOK e t
    · have hq : (e == 2) = inZ t 1 5 := by
        rw [Bool.eq_iff_iff]; simp [inZ, hk.2]
      obtain ⟨a1, a2⟩ := end_ok hk
      rw [a1, a2]
      have HE := hide (fun w' => l08End_any e t us u w' hk ht)
      generalize (⟨(endU e t).toArray⟩ : ByteArray) = T at *
      obtain ⟨q, hq2⟩ : ∃ q, inZ t 1 5 = q := ⟨_, rfl⟩
      rw [hq2] at hq
      have hqq : (!((e == 2) == q)) = false := by rw [hq]; simp
      clear hk he a1 a2 ht hq
      go_enter Tryd.func5, Tryd.ntmps5
      go_wp2
      go_quiet ((go_at_call 10; refine Calls.quiet_of_same ((inZ_any _ _ _ _).mono fun _ _ q => ⟨q.1, q.2.symm⟩)))
      go_wp2_with fail
      refine (HE.out _).mono ?_
      rintro e w3 ⟨rfl, b3⟩
      go_wp2
      go_ret2
      exact ⟨rfl, (Go.below_drewN HB.out _).trans (b3.mono (show w.heap.size ≤ (w.alloc _).heap.size by simp))⟩
    · have hq : (e == 2) = !inZ t 1 5 := by
        by_cases e2 : e = 2
        · simp only [EndOK, e2, iff_true] at hk
          simp [e2, inZ]; omega
        · simp only [EndOK, he, e2, true_and, iff_false, Classical.not_not] at hk
          simp [e2, inZ, hk]
      obtain ⟨a1, a2⟩ := end_bad hk
      rw [a1, a2]
      obtain ⟨q, hq2⟩ : ∃ q, inZ t 1 5 = q := ⟨_, rfl⟩
      rw [hq2] at hq
      have hqq : (!((e == 2) == q)) = true := by rw [hq]; cases q <;> rfl
      clear hk he a1 a2 ht hq
      go_enter Tryd.func5, Tryd.ntmps5
      go_wp2
      go_quiet ((go_at_call 10; refine Calls.quiet_of_same ((inZ_any _ _ _ _).mono fun _ _ q => ⟨q.1, q.2.symm⟩)))
      go_wp2
      go_ret2
      exact ⟨rfl, Go.below_drewN HB.out _⟩
  · have g1 : inZ e 1 4 = false := by simp [inZ]; omega
    obtain ⟨a1, a2⟩ := end_bad (t := t) (fun h : EndOK e t => he h.1)
    rw [a1, a2]
    clear he a1 a2 ht
    go_enter Tryd.func5, Tryd.ntmps5
    go_wp2
    go_quiet ((go_at_call 10; refine Calls.quiet_of_same ((inZ_any _ _ _ _).mono fun _ _ q => ⟨q.1, q.2.symm⟩)))
    go_wp2
    go_ret2
    exact ⟨rfl, Go.below_drewN HB.out _⟩
end Go.Proofs.YtibjockcadnooaaDoor
