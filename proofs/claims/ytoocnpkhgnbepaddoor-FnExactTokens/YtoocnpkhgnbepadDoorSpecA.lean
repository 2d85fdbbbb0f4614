/- The model's numbers. -/
import Derived.Test.YtoocnpkhgnbepadDoorImplE
namespace Go.Proofs.YtoocnpkhgnbepadDoor
open Go.RowKit Go.PlainAid

set_option maxHeartbeats 1600000 in
theorem l00Number_any (t : ByteArray) (w : World) (hs : t.size ≤ maxLen) (hm : ¬ bt t 0 = 45) (h1 : 1 ≤ t.size) : Calls Tryd.prog 77 #[.string t] w fun e w' => e = .returned (.tuple #[.int .i64 (numV t), .bool (numOK t)]) ∧ w = w' := by
  unfold maxLen at hs
  have hb := get_bt t
  have m0 : (bt t 0 == 45) = false := by simp [hm]
  have z1 : ((t.size : Int) == 0) = false := by rw [beq_eq_false_iff_ne]; omega
  have z2 : (0 : Int) < t.size := by omega
  clear hm
  by_cases l : 18 < t.size
  · have e : numOK t = false := numOK_long l
    have e2 : numV t = 0 := by unfold numV; rw [e]; rfl
    rw [e, e2]
    clear e e2
    go_enter Tryd.func77, Tryd.ntmps77
    go_wp2
    go_ret2
    exact ⟨rfl, rfl⟩
  by_cases n : 1 < t.size ∧ bt t 0 = 48
  · have e : numOK t = false := numOK_nought n.1 n.2
    have e2 : numV t = 0 := by unfold numV; rw [e]; rfl
    rw [e, e2]
    obtain ⟨n1, n2⟩ := n
    have n3 : (bt t 0 == 48) = true := by simp [n2]
    clear n2 e e2
    go_enter Tryd.func77, Tryd.ntmps77
    go_wp2
    go_ret2
    exact ⟨rfl, rfl⟩
  have hn : t.size = 1 ∨ bt t 0 ≠ 48 := by
    by_cases q : t.size = 1
    · exact .inl q
    · exact .inr fun q2 => n ⟨by omega, q2⟩
  have Hn : Hid (t.size = 1 ∨ bt t 0 ≠ 48) := hn
  have hg : (bt t 0 == 48) = false ∨ ((bt t 0 == 48) = true ∧ ¬ (1 : Int) < t.size) := by
    cases q : (bt t 0 == 48)
    · exact .inl rfl
    · refine .inr ⟨rfl, ?_⟩
      rcases hn with q2 | q2
      · omega
      · simp at q; exact absurd q q2
  clear hn n
  have bound : ∀ pos, pos < t.size → (∀ j, j < pos → digB (bt t j) = true) → 0 ≤ numF t pos ∧ numF t pos < 100000000000000000 := fun pos hp hall => by
    have hnb := numF_bound pos hall
    have hpw := pw10_17 ⟨pos, by omega⟩
    simp only [] at hpw
    omega
  have Bound : Hid (∀ pos, pos < t.size → (∀ j, j < pos → digB (bt t j) = true) → 0 ≤ numF t pos ∧ numF t pos < 100000000000000000) := bound
  clear bound
  rcases hg with g | ⟨g, g2⟩
  all_goals
    go_enter Tryd.func77, Tryd.ntmps77
    go_wp2
    go_loop [5, 6] (fun n i => ∃ pos : Nat, i = .int .i64 pos ∧ n = .int .i64 (numF t pos) ∧ pos ≤ t.size ∧ Hid (∀ j, j < pos → digB (bt t j) = true)) (fun _ i => t.size - (intOf i).toNat)
    case atStart => exact ⟨0, rfl, rfl, Nat.zero_le _, fun j hj => absurd hj (by omega)⟩
    case round =>
      obtain ⟨pos, rfl, rfl, hpos, Hall⟩ := hrel
      by_cases hp : pos < t.size
      · obtain ⟨hn0, hn1⟩ := Bound.out pos hp Hall.out
        have hx0 := bt_nonneg t pos
        have hx1 := bt_le t pos
        generalize hN : numF t pos = N at *
        have HN : Hid (numF t pos = N) := hN
        clear hN
        have hbp := hb pos hp
        clear hb
        generalize hx : bt t pos = x at *
        have Hx : Hid (bt t pos = x) := hx
        clear hx
        by_cases f : 48 ≤ x ∧ x ≤ 57
        · have fd : Hid (digB x = true) := digB_iff.2 f
          obtain ⟨f0, f1⟩ := f
          go_wp2
          go_round
          case rel =>
            refine ⟨pos + 1, by go_num, by simp only [numF]; rw [HN.out, Hx.out]; congr 1; omega, by omega, fun j hj => ?_⟩
            by_cases q : j < pos
            · exact Hall.out j q
            · obtain rfl : j = pos := by omega
              rw [Hx.out]; exact fd.out
          case measure => simp [intOf]; omega
        · have fd : digB x = false := digB_no f
          have e : numOK t = false := numOK_bad hp (by rw [Hx.out]; exact fd)
          have e2 : numV t = 0 := by unfold numV; rw [e]; rfl
          have E : Hid (numOK t = false) := e
          have E2 : Hid (numV t = 0) := e2
          clear e e2 fd
          by_cases f0 : x < 48
          · clear f
            go_wp2
            go_ret2
            exact ⟨ret_pair E2.out.symm E.out.symm, rfl⟩
          · have f1 : 57 < x := by omega
            clear f
            go_wp2
            go_ret2
            exact ⟨ret_pair E2.out.symm E.out.symm, rfl⟩
      · have hq : pos = t.size := by omega
        have e : numOK t = true := numOK_yes h1 (by omega) Hn.out (fun j hj => Hall.out j (by omega))
        have e2 : numV t = numF t pos := by unfold numV; rw [if_pos e, hq]
        have E : Hid (numOK t = true) := e
        have E2 : Hid (numV t = numF t pos) := e2
        have hnb := numF_bound pos Hall.out
        have hpw := pw10_18 ⟨pos, by omega⟩
        simp only [] at hpw
        have hn0 : 0 ≤ numF t pos := hnb.1
        have hn1 : numF t pos < 1000000000000000000 := by omega
        clear e e2 hq hnb hpw
        go_wp2
        go_ret2
        exact ⟨ret_pair E2.out.symm E.out.symm, rfl⟩
end Go.Proofs.YtoocnpkhgnbepadDoor
