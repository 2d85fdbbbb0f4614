/- The model's look at one instruction: what it takes and leaves, and whether it is as the table says. No condition. -/
import Derived.Test.YtfbglokjehmgeaaGreatDoorZWkD
import Derived.Deep.QuietTactic
import Derived.Deep.RegionLaw
namespace Go.Proofs.YtfbglokjehmgeaaGreatDoor
open Go.RowKit

theorem Gw.drewN {w w1 : World} (h : Gw w w1) (n : Nat) : Gw w (w1.drewN n) := by
  have := h.grown n #[]
  rwa [Sort.grow_empty] at this
set_option maxHeartbeats 4000000 in
theorem l04Effect_any (op a b : Int) (mod name : ByteArray) (w : World) : Calls Tryz.prog 80 #[.agg #[.int .i64 op, .int .i64 a, .int .i64 b, .string mod, .string name]] w fun e w' => e = .returned (.tuple #[.int .i64 (takes ⟨op, a, b, mod, name⟩), .int .i64 (leaves ⟨op, a, b, mod, name⟩)]) ∧ Gw w w' := by
  have key : ∀ t l, takes ⟨op, a, b, mod, name⟩ = t → leaves ⟨op, a, b, mod, name⟩ = l → Ending.returned (.tuple #[.int .i64 t, .int .i64 l]) = .returned (.tuple #[.int .i64 (takes ⟨op, a, b, mod, name⟩), .int .i64 (leaves ⟨op, a, b, mod, name⟩)]) := fun t l h k => by rw [h, k]
  have HK := hide key
  clear key
  go_enter Tryz.func80, Tryz.ntmps80
  go_wp2
  all_goals first
    | (go_ret2; refine ⟨HK.out _ _ ?_ ?_, Gw.one _ _⟩)
    | (go_quiet (fail); go_wp2; go_ret2; refine ⟨HK.out _ _ ?_ ?_, (Gw.one _ _).drewN _⟩)
  all_goals
    clear HK
    simp only [beq_iff_eq, beq_eq_false_iff_ne, ne_eq] at *
    simp only [takes, leaves]
    repeat (first | omega | split)
theorem ins_no {x : InsD} {cells len result : Int} (h : namedB x.op = false) (k : emB x.mod = false ∨ emB x.name = false) : insB x cells len result = false := by
  unfold insB
  rw [h]
  rcases k with k | k <;> rw [k] <;> simp
theorem ins_bare {x : InsD} {cells len result : Int} (h : namedB x.op = true) (k : emB x.mod = true) (k2 : emB x.name = true) : insB x cells len result = false := by
  unfold insB
  rw [h, k, k2]
  rfl
theorem ins_alien {x : InsD} {cells len result : Int} (h : namedB x.op = true) (k : ownB x.mod = false ∨ ownB x.name = false) : insB x cells len result = false := by
  unfold insB
  rw [h]
  rcases k with k | k <;> rw [k] <;> simp
theorem ins_b {x : InsD} {cells len result : Int} (h : x.op ≠ 13) (k : x.b ≠ 0) : insB x cells len result = false := by
  unfold insB
  rw [decide_eq_false h, decide_eq_false k]
  simp
theorem ins_arg {x : InsD} {cells len result : Int} (h : namedB x.op = (!(emB x.mod) || !(emB x.name))) (k : namedB x.op = true → ownB x.mod = true ∧ ownB x.name = true) (kb : x.op = 13 ∨ x.b = 0) : insB x cells len result = argB x.op x.a x.b cells len result := by
  unfold insB
  rw [← h]
  have e1 : (!(namedB x.op) || (ownB x.mod && ownB x.name)) = true := by
    cases hn : namedB x.op with
    | false => rfl
    | true => rw [(k hn).1, (k hn).2]; rfl
  have e2 : (decide (x.op = 13) || decide (x.b = 0)) = true := by rcases kb with e | e <;> simp [e]
  rw [e1, e2]
  simp
/-- The switch over the number, all else being right: each number by itself. -/
theorem ops_split (op : Int) (h13 : op ≠ 13) : op = 1 ∨ op = 2 ∨ op = 6 ∨ op = 7 ∨ op = 11 ∨ op = 12 ∨ op = 14 ∨ op = 15 ∨ op = 16 ∨ op = 17 ∨ (op ≠ 1 ∧ op ≠ 2 ∧ op ≠ 6 ∧ op ≠ 7 ∧ op ≠ 11 ∧ op ≠ 12 ∧ op ≠ 13 ∧ op ≠ 14 ∧ op ≠ 15 ∧ op ≠ 16 ∧ op ≠ 17) := by omega
theorem signs_any (w : World) : Calls Tryz.prog 101 #[] w fun e w' => (∃ g, e = .returned (.slice (some ⟨g, 0, none⟩) 11 11)) ∧ Gw w w' := by
  go_enter Tryz.func101, Tryz.ntmps101
  go_wp2
  go_ret
  exact ⟨⟨_, rfl⟩, Gw.one _ _⟩
set_option maxRecDepth 100000 in
set_option maxHeartbeats 16000000 in
theorem l04Ins_no (op a b : Int) (mod name cn : ByteArray) (params cells result : Int) (pa : Option Addr) (n c : Nat) (w : World) (hl : n ≤ 1099511627776) (h3 : op ≠ 3) (h13 : op ≠ 13) :
    Calls Tryz.prog 79 #[.agg #[.int .i64 op, .int .i64 a, .int .i64 b, .string mod, .string name], .agg #[.string cn, .int .i64 params, .int .i64 cells, .int .i64 result, .slice pa n c]] w fun e w' => (e = .returned (.bool (insB ⟨op, a, b, mod, name⟩ cells n result)) ∧ Gw w w') := by
  have hnm : namedB op = false := by unfold namedB; simp [h3, h13]
  have i3 : (op == 3) = false := by simpa using h3
  have i13 : (op == 13) = false := by simpa using h13
  have Hop := hide (ops_split op h13)
  have hw : wrap64 ((n : Int) - 1) = (n : Int) - 1 := by unfold wrap64; omega
  cases e1 : emB mod with
  | false =>
    rw [ins_no hnm (.inl e1)]
    unfold emB at e1
    clear hnm h3 h13 Hop
    go_enter Tryz.func79, Tryz.ntmps79
    go_wp2
    go_ret
    exact ⟨rfl, (Gw.one _ _).trans (Gw.one _ _)⟩
  | true =>
    cases e2 : emB name with
    | false =>
      rw [ins_no hnm (.inr e2)]
      unfold emB at e1 e2
      clear hnm h3 h13 Hop
      go_enter Tryz.func79, Tryz.ntmps79
      go_wp2
      go_ret
      exact ⟨rfl, (Gw.one _ _).trans (Gw.one _ _)⟩
    | true =>
      by_cases hb : b = 0
      · subst hb
        rw [ins_arg (by rw [hnm, e1, e2]; rfl) (fun h => by rw [hnm] at h; cases h) (.inr rfl)]
        unfold emB at e1 e2
        clear hnm h3 h13
        rcases Hop.out with rfl | rfl | rfl | rfl | rfl | rfl | rfl | rfl | rfl | rfl | ⟨g1, g2, g6, g7, g11, g12, g13, g14, g15, g16, g17⟩
        case inr.inr.inr.inl =>
          have ha : argB 7 a 0 cells n result = inB a 0 10 := by simp [argB]
          rw [ha]
          have HSg : Hid (∀ w', Calls Tryz.prog 101 #[] w' fun e w2 => (∃ g, e = .returned (.slice (some ⟨g, 0, none⟩) 11 11)) ∧ Gw w' w2) := hide signs_any
          go_enter Tryz.func79, Tryz.ntmps79
          go_wp2
          go_region_law (first
            | (go_simp; go_at_call 43; refine (l01In_any _ _ _ _).mono ?_; rintro e w2 ⟨rfl, rfl⟩)
            | (go_simp; go_at_call 101; refine (HSg.out _).mono ?_; rintro e w1 ⟨⟨g, rfl⟩, gr⟩; have gb := gr.below; have d0 := (gb.cell (p := ⟨w.heap.size, 1, none⟩) (by simp <;> omega)).trans (show _ = some (Value.int .i64 a) by simp [go_sem])))
          all_goals
            go_wp2
            go_ret
            exact ⟨rfl, (((Gw.one _ _).trans (Gw.one _ _)).drewN 1).trans gr⟩
        case inr.inr.inr.inr.inr.inr.inr.inr.inr.inr =>
          have i1 : (op == 1) = false := by simpa using g1
          have i2 : (op == 2) = false := by simpa using g2
          have i6 : (op == 6) = false := by simpa using g6
          have i7 : (op == 7) = false := by simpa using g7
          have i11 : (op == 11) = false := by simpa using g11
          have i12 : (op == 12) = false := by simpa using g12
          have i14 : (op == 14) = false := by simpa using g14
          have i15 : (op == 15) = false := by simpa using g15
          have i16 : (op == 16) = false := by simpa using g16
          have i17 : (op == 17) = false := by simpa using g17
          have ha : argB op a 0 cells n result = (decide (a = 0) && inB op 3 10) := by simp [argB, g1, g2, g6, g7, g11, g12, g13, g14, g15, g16, g17]
          rw [ha]
          clear g1 g2 g6 g7 g11 g12 g14 g15 g16 g17
          by_cases ha0 : a = 0
          · subst ha0
            go_enter Tryz.func79, Tryz.ntmps79
            go_wp2_with (go_at_call 43; refine (l01In_any _ _ _ _).mono ?_; rintro e w2 ⟨rfl, rfl⟩)
            go_ret
            exact ⟨ret_bool (by simp), (Gw.one _ _).trans (Gw.one _ _)⟩
          · have ia : (a == 0) = false := by simpa using ha0
            go_enter Tryz.func79, Tryz.ntmps79
            go_wp2
            go_ret
            exact ⟨ret_bool (by simp [ha0]), (Gw.one _ _).trans (Gw.one _ _)⟩
        case inr.inr.inr.inr.inr.inr.inr.inl =>
          have ha : argB 15 a 0 cells n result = inB a 1 3 := by simp [argB]
          rw [ha]
          cases hi : inB a 1 3 <;>
          · go_enter Tryz.func79, Tryz.ntmps79
            go_wp2_with (go_at_call 43; refine (l01In_any _ _ _ _).mono ?_; rintro e w2 ⟨rfl, rfl⟩; rw [hi])
            go_ret
            exact ⟨rfl, (Gw.one _ _).trans (Gw.one _ _)⟩
        case inr.inr.inr.inr.inr.inr.inr.inr.inl =>
          have ha : argB 16 a 0 cells n result = (inB a 1 3 && decide (a ≠ 2)) := by simp [argB]
          rw [ha]
          cases hi : inB a 1 3 with
          | false =>
            go_enter Tryz.func79, Tryz.ntmps79
            go_wp2_with (go_at_call 43; refine (l01In_any _ _ _ _).mono ?_; rintro e w2 ⟨rfl, rfl⟩; rw [hi])
            go_ret
            exact ⟨rfl, (Gw.one _ _).trans (Gw.one _ _)⟩
          | true =>
            by_cases ha2 : a = 2
            · subst ha2
              go_enter Tryz.func79, Tryz.ntmps79
              go_wp2_with (go_at_call 43; refine (l01In_any _ _ _ _).mono ?_; rintro e w2 ⟨rfl, rfl⟩; rw [hi])
              go_ret
              exact ⟨rfl, (Gw.one _ _).trans (Gw.one _ _)⟩
            · have ia : (a == 2) = false := by simpa using ha2
              go_enter Tryz.func79, Tryz.ntmps79
              go_wp2_with (go_at_call 43; refine (l01In_any _ _ _ _).mono ?_; rintro e w2 ⟨rfl, rfl⟩; rw [hi])
              go_ret
              exact ⟨ret_bool (by simp [ha2]), (Gw.one _ _).trans (Gw.one _ _)⟩
        case inr.inr.inr.inr.inr.inr.inl =>
          have ha : argB 14 a 0 cells n result = decide (a = result) := by simp [argB]
          rw [ha]
          go_enter Tryz.func79, Tryz.ntmps79
          go_wp2
          go_ret
          exact ⟨ret_bool (by first | rfl | simp), (Gw.one _ _).trans (Gw.one _ _)⟩
        all_goals
          go_enter Tryz.func79, Tryz.ntmps79
          go_wp2_with (go_at_call 43; refine (l01In_any _ _ _ _).mono ?_; rintro e w2 ⟨rfl, rfl⟩)
          go_ret
          exact ⟨ret_bool (by simp [argB]), (Gw.one _ _).trans (Gw.one _ _)⟩
      · rw [ins_b h13 hb]
        have ib : (b != 0) = true := by simpa using hb
        have ip : (op != 13) = true := by simpa using h13
        unfold emB at e1 e2
        clear hnm h3 Hop hb
        go_enter Tryz.func79, Tryz.ntmps79
        go_wp2
        go_ret
        exact ⟨rfl, (Gw.one _ _).trans (Gw.one _ _)⟩
end Go.Proofs.YtfbglokjehmgeaaGreatDoor
