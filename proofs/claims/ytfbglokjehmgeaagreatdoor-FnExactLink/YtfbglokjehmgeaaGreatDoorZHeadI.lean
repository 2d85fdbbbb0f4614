/- The program's look at the head of a code. Its table of words is a premise. -/
import Derived.Test.YtfbglokjehmgeaaGreatDoorZWkD
import Derived.Test.YtfbglokjehmgeaaGreatDoorZVerS0
namespace Go.Proofs.YtfbglokjehmgeaaGreatDoor
open Go.RowKit

theorem head_form {x : CodeD} : headB x = (decide (x.list.length ≠ 0) && decide (x.list.length ≤ 2000) && inB x.params 0 20 && inB x.cells x.params 2000 && inB x.result 0 1 && (ownB x.name || (emB x.name && (decide (x.cells = 0) && decide (x.result = 0))))) := by
  unfold headB
  rw [Bool.and_assoc]
  congr 1
  cases h : emB x.name with
  | true =>
    rw [own_em _ h]
    simp
  | false => simp
set_option maxRecDepth 100000 in
set_option maxHeartbeats 4000000 in
theorem headFits_any (cn : ByteArray) (params cells result : Int) (l : List InsD) (pa : Option Addr) (c : Nat) (w : World) (hcn : cn.size ≤ maxLen) (t : TypeId) (fr : Nat × Nat) (hg : w.heap[1]? = some (.cells keyRow t fr)) :
    Calls Tryz.prog 106 #[.agg #[.string cn, .int .i64 params, .int .i64 cells, .int .i64 result, .slice pa l.length c]] w fun e w' => e = .returned (.bool (headB ⟨cn, params, cells, result, l⟩)) ∧ Below w.heap.size w w' := by
  have one : Below w.heap.size w (w.alloc (.cells #[.string cn, .int .i64 params, .int .i64 cells, .int .i64 result, .slice pa l.length c] 86)) := (Below.refl _ _).alloc (Nat.le_refl _) _
  rw [head_form]
  simp only []
  obtain ⟨n, hn⟩ : ∃ n, l.length = n := ⟨_, rfl⟩
  rw [hn] at one ⊢
  clear hn
  have HO := hide (ownName_any cn (w.alloc (.cells #[.string cn, .int .i64 params, .int .i64 cells, .int .i64 result, .slice pa n c] 86)) hcn t fr ((one.block 1 (Array.getElem?_eq_some_iff.1 hg).1).trans hg))
  have B1 := hide one
  clear one hg hcn
  by_cases n1 : n < 1
  · have i1 : (n : Int) < 1 := by omega
    rw [decide_eq_false (show ¬ n ≠ 0 by omega)]
    go_enter Tryz.func106, Tryz.ntmps106
    go_wp2
    go_ret
    exact ⟨ret_bool (by simp), B1.out⟩
  · have i1 : ¬ (n : Int) < 1 := by omega
    by_cases n2 : 2000 < n
    · have i2 : (2000 : Int) < n := by omega
      rw [decide_eq_false (show ¬ n ≤ 2000 by omega)]
      go_enter Tryz.func106, Tryz.ntmps106
      go_wp2
      go_ret
      exact ⟨ret_bool (by simp), B1.out⟩
    · have i2 : ¬ (2000 : Int) < n := by omega
      rw [decide_eq_true (show n ≠ 0 by omega), decide_eq_true (show n ≤ 2000 by omega)]
      by_cases p1 : params < 0
      · rw [show inB params 0 20 = false by unfold inB; simp; omega]
        go_enter Tryz.func106, Tryz.ntmps106
        go_wp2
        go_ret
        exact ⟨ret_bool (by simp), B1.out⟩
      · by_cases p2 : 20 < params
        · rw [show inB params 0 20 = false by unfold inB; simp; omega]
          go_enter Tryz.func106, Tryz.ntmps106
          go_wp2
          go_ret
          exact ⟨ret_bool (by simp), B1.out⟩
        · rw [show inB params 0 20 = true by unfold inB; simp; omega]
          by_cases c1 : cells < params
          · rw [show inB cells params 2000 = false by unfold inB; simp; omega]
            go_enter Tryz.func106, Tryz.ntmps106
            go_wp2
            go_ret
            exact ⟨ret_bool (by simp), B1.out⟩
          · by_cases c2 : 2000 < cells
            · rw [show inB cells params 2000 = false by unfold inB; simp; omega]
              go_enter Tryz.func106, Tryz.ntmps106
              go_wp2
              go_ret
              exact ⟨ret_bool (by simp), B1.out⟩
            · rw [show inB cells params 2000 = true by unfold inB; simp; omega]
              by_cases r1 : result = 0 ∨ result = 1
              · rw [show inB result 0 1 = true by unfold inB; simp; omega]
                have hr : (result != 0) = false ∨ ((result != 0) = true ∧ (result != 1) = false) := by
                  rcases r1 with e | e
                  · exact .inl (by simp [e])
                  · exact .inr ⟨by simp [e], by simp [e]⟩
                have hr0 : (result == 0) = decide (result = 0) := by by_cases e : result = 0 <;> simp [e]
                have hc0 : (cells == 0) = decide (cells = 0) := by by_cases e : cells = 0 <;> simp [e]
                clear r1
                generalize decide (result = 0) = rb at *
                generalize decide (cells = 0) = cb at *
                cases ho : ownB cn with
                | true =>
                  rcases hr with hr | ⟨hr, hr'⟩
                  all_goals
                    go_enter Tryz.func106, Tryz.ntmps106
                    go_wp2_with (go_at_call 53; refine HO.out.mono ?_; rintro e w3 ⟨rfl, bel⟩; rw [ho])
                    go_ret
                    exact ⟨ret_bool (by simp), B1.out.trans (bel.mono B1.out.size)⟩
                | false =>
                  cases he : emB cn with
                  | false =>
                    unfold emB at he
                    rcases hr with hr | ⟨hr, hr'⟩
                    all_goals
                      go_enter Tryz.func106, Tryz.ntmps106
                      go_wp2_with (go_at_call 53; refine HO.out.mono ?_; rintro e w3 ⟨rfl, bel⟩; rw [ho]; obtain ⟨hc, hf⟩ := bcell bel)
                      go_ret
                      exact ⟨ret_bool (by simp), B1.out.trans (bel.mono B1.out.size)⟩
                  | true =>
                    unfold emB at he
                    cases cb <;> cases rb <;> rcases hr with hr | ⟨hr, hr'⟩
                    all_goals
                      go_enter Tryz.func106, Tryz.ntmps106
                      go_wp2_with (go_at_call 53; refine HO.out.mono ?_; rintro e w3 ⟨rfl, bel⟩; rw [ho]; obtain ⟨hc, hf⟩ := bcell bel)
                      go_ret
                      exact ⟨ret_bool (by simp), B1.out.trans (bel.mono B1.out.size)⟩
              · rw [show inB result 0 1 = false by unfold inB; simp; omega]
                have r2 : (result != 0) = true := by simp; omega
                have r3 : (result != 1) = true := by simp; omega
                clear r1
                go_enter Tryz.func106, Tryz.ntmps106
                go_wp2
                go_ret
                exact ⟨ret_bool (by simp), B1.out⟩
end Go.Proofs.YtfbglokjehmgeaaGreatDoor
