/- How the model verifies a code. No condition. -/
import Derived.Test.YtfbglokjehmgeaaGreatDoorZNums
import Derived.Test.YtfbglokjehmgeaaGreatDoorZWkD
namespace Go.Proofs.YtfbglokjehmgeaaGreatDoor
open Go.ChangeShapes Go.WideShapes Go.ChangeAt Go.RowKit Go.Deep

theorem head_no {x : CodeD} (h : headB x = false) : verC x = (1, 0) := by unfold verC; rw [h]; rfl
theorem formAt_snoc {cells len result : Int} : ∀ (l : List InsD) (i k : Nat) (hk : k < l.length), (∀ j (hj : j < k), insB (l[j]'(by omega)) cells len result = true) → insB l[k] cells len result = false → formAt cells len result i l = some (i + k)
  | [], _, _, hk, _, _ => by simp at hk
  | y :: r, i, 0, _, _, h => by
    rw [formAt]
    simp at h
    simp [h]
  | y :: r, i, k + 1, hk, ha, h => by
    rw [formAt]
    have h0 := ha 0 (by omega)
    simp at h0
    rw [if_pos h0, formAt_snoc r (i + 1) k (by simpa using hk) (fun j hj => by simpa using ha (j + 1) (by omega)) (by simpa using h)]
    congr 1
    omega
theorem formAt_all {cells len result : Int} : ∀ (l : List InsD) (i : Nat), (∀ x ∈ l, insB x cells len result = true) → formAt cells len result i l = none
  | [], _, _ => rfl
  | y :: r, i, h => by
    rw [formAt, if_pos (h y (by simp))]
    exact formAt_all r _ fun x hx => h x (by simp [hx])
def VPost (x : CodeD) (w : World) (e : Ending) (w' : World) : Prop := e = .returned (.tuple #[.int .i64 (verC x).1, .int .i64 (verC x).2]) ∧ Below w.heap.size w w'
theorem VPost.mk {x : CodeD} {w w' : World} {a b : Int} (h : verC x = (a, b)) (hb : Below w.heap.size w w') : VPost x w (.returned (.tuple #[.int .i64 a, .int .i64 b])) w' := ⟨by rw [h], hb⟩
set_option maxRecDepth 100000 in
set_option maxHeartbeats 4000000 in
theorem verify_head (cn : ByteArray) (params cells result : Int) (l : List InsD) (pa : Option Addr) (n c : Nat) (w : World) (hn : l.length = n) (hcn : cn.size ≤ maxLen) (hh : headB ⟨cn, params, cells, result, l⟩ = false) :
    Calls Tryz.prog 45 #[.agg #[.string cn, .int .i64 params, .int .i64 cells, .int .i64 result, .slice pa n c]] w fun e w' => VPost ⟨cn, params, cells, result, l⟩ w e w' := by
  have HV := hide (head_no hh)
  have HC := hide hcn
  have one : Below w.heap.size w (w.alloc (.cells #[.string cn, .int .i64 params, .int .i64 cells, .int .i64 result, .slice pa n c] 86)) := (Below.refl _ _).alloc (Nat.le_refl _) _
  have B1 := hide one
  unfold headB at hh
  simp only [hn] at hh
  clear hcn one hn
  by_cases n0 : n = 0
  · subst n0
    clear hh
    go_enter Tryz.func45, Tryz.ntmps45
    go_wp2
    go_ret2
    exact VPost.mk HV.out B1.out
  · have j0 : ((n : Int) == 0) = false := by simp; omega
    by_cases n1 : 2000 < n
    · have j1 : (2000 : Int) < n := by omega
      clear hh
      go_enter Tryz.func45, Tryz.ntmps45
      go_wp2
      go_ret2
      exact VPost.mk HV.out B1.out
    · have j1 : ¬ (2000 : Int) < n := by omega
      rw [decide_eq_true n0, decide_eq_true (show n ≤ 2000 by omega)] at hh
      cases p1 : inB params 0 20 with
      | false =>
        clear hh
        go_enter Tryz.func45, Tryz.ntmps45
        go_wp2_with (go_at_call 43; refine (l01In_any _ _ _ _).mono ?_; rintro e w3 ⟨rfl, rfl⟩; rw [p1])
        go_ret2
        exact VPost.mk HV.out B1.out
      | true =>
        cases p2 : inB cells params 2000 with
        | false =>
          clear hh
          go_enter Tryz.func45, Tryz.ntmps45
          go_wp2_with (go_at_call 43; refine (l01In_any _ _ _ _).mono ?_; rintro e w3 ⟨rfl, rfl⟩; first | rw [p1] | rw [p2])
          go_ret2
          exact VPost.mk HV.out B1.out
        | true =>
          cases p3 : inB result 0 1 with
          | false =>
            clear hh
            go_enter Tryz.func45, Tryz.ntmps45
            go_wp2_with (go_at_call 43; refine (l01In_any _ _ _ _).mono ?_; rintro e w3 ⟨rfl, rfl⟩; first | rw [p1] | rw [p2] | rw [p3])
            go_ret2
            exact VPost.mk HV.out B1.out
          | true =>
            rw [p1, p2, p3] at hh
            cases e : emB cn with
            | false =>
              rw [e] at hh
              have ho : ownB cn = false := by simpa using hh
              unfold emB at e
              clear hh
              go_enter Tryz.func45, Tryz.ntmps45
              go_wp2_with (first
                | (go_at_call 43; refine (l01In_any _ _ _ _).mono ?_; rintro e w3 ⟨rfl, rfl⟩; first | rw [p1] | rw [p2] | rw [p3])
                | (go_at_call 42; refine (l02Name_gw cn _ HC.out).mono ?_; rintro e w1 ⟨rfl, gr⟩; rw [ho]))
              go_ret2
              exact VPost.mk HV.out (B1.out.trans (gr.below.mono (by simp)))
            | true =>
              rw [e] at hh
              unfold emB at e
              by_cases q1 : cells = 0
              · have q2 : ¬ result = 0 := by
                  intro q2
                  rw [q1, q2] at hh
                  simp at hh
                have k1 : (cells != 0) = false := by simpa using q1
                have k2 : (result != 0) = true := by simpa using q2
                clear hh q1 q2
                go_enter Tryz.func45, Tryz.ntmps45
                go_wp2_with (go_at_call 43; refine (l01In_any _ _ _ _).mono ?_; rintro e w3 ⟨rfl, rfl⟩; first | rw [p1] | rw [p2] | rw [p3])
                go_ret2
                exact VPost.mk HV.out B1.out
              · have k1 : (cells != 0) = true := by simpa using q1
                clear hh
                go_enter Tryz.func45, Tryz.ntmps45
                go_wp2_with (go_at_call 43; refine (l01In_any _ _ _ _).mono ?_; rintro e w3 ⟨rfl, rfl⟩; first | rw [p1] | rw [p2] | rw [p3])
                go_ret2
                exact VPost.mk HV.out B1.out
end Go.Proofs.YtfbglokjehmgeaaGreatDoor
