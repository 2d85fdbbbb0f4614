/- The law's marks in what ReadObject answered: rows of flat structs. No condition. (Made by wip/genheld.py.) -/
import Derived.Test.YtfbglokjehmgeaaGreatDoorZTchL
import Derived.Deep.RegionWith
namespace Go.Proofs.YtfbglokjehmgeaaGreatDoor
open Go.ChangeShapes Go.WideShapes Go.ChangeAt Go.RowKit Go.Deep

def insMs (K : Int) : List Value := [.int .i64 (K), .int .i64 (K + 1), .int .i64 (K + 1 + 1), .string (mt (K + 1 + 1 + 1)), .string (mt (K + 1 + 1 + 1 + 1))]
theorem insLen (K : Int) : (insMs K).length = 5 := rfl
set_option maxHeartbeats 8000000 in
theorem markInsS_mk (B : Nat) (u : Value) (n : Nat) (K : Int) (w : World) (hn : n ≤ 1000000) (k0 : 0 ≤ K) (k1 : K ≤ 1000000000000000) (h : FAl w B u n 5) :
    Calls Tryz.prog 72 #[u, .int .i64 K] w fun e w' => e = .returned (.int .i64 (K + 5 * (n : Int))) ∧ FMk w' u n 5 insMs K ∧ Tch (fun k => u.ownBlock = some k) w w' := by
  obtain ⟨a, c, rfl, h⟩ := h
  have H := hide h
  clear h
  go_enter Tryz.func72, Tryz.ntmps72
  go_wp2
  go_loopw [1, 5] (fun q i wr => ∃ k : Nat, i = .int .i64 k ∧ q = .int .i64 (K + 5 * (k : Int)) ∧ k ≤ n ∧ Hid (∀ g, a = some ⟨g, 0, none⟩ → FMs wr g 5 insMs K k) ∧ Tch (fun k => (Value.slice a n c).ownBlock = some k) w wr) (fun _ i _ => n - (intOf i).toNat)
  case atStart => exact ⟨0, rfl, by simp, by omega, hide (fun g _ j hj => absurd hj (by omega)), Tch.refl _ _⟩
  case round =>
    obtain ⟨k, rfl, rfl, hk, Hm, hbw⟩ := hrel
    by_cases hp : k < n
    · have i1 : (k : Int) < n := by omega
      obtain ⟨g, rfl, ho, -, hA⟩ := H.out k hp
      have HA := hide hA
      have M0 := hide (Hm.out g rfl)
      have T0 := hide hbw
      obtain ⟨J, hJ⟩ : ∃ J, K + 5 * (k : Int) = J := ⟨_, rfl⟩
      have HJ := hide hJ
      have hJ0 : 0 ≤ J ∧ J ≤ 2000000000000000 := by omega
      rw [hJ]
      clear hJ hA hbw Hm
      obtain ⟨⟨y0, c0⟩, f0⟩ := T0.out.al _ _ (HA.out 0 (by omega))
      simp only [Nat.add_zero] at c0 f0
      obtain ⟨⟨y1, c1⟩, f1⟩ := T0.out.al _ _ (HA.out 1 (by omega))
      obtain ⟨⟨y2, c2⟩, f2⟩ := T0.out.al _ _ (HA.out 2 (by omega))
      go_wp2_with fail
      refine (markText_any _ _ (by omega)).mono ?_
      rintro e w1' ⟨rfl, b1⟩
      have T1 := hide ((((T0.out.set ho _ _).set ho _ _).set ho _ _).trans (Tch.of_below b1))
      have t1 := Tch.of_below (S := fun _ => False) b1
      have M1 := hide ((((M0.out.set insLen (by omega) _).set insLen (by omega) _).set insLen (by omega) _).tch t1 (fun e => e))
      have E1_0 : Hid (w1'.cell? ⟨g, k * 5, none⟩ = some (.int .i64 (J))) := hide (t1.cell (fun e => e) (set_off (set_off (set_at (T0.out.al _ _ (HA.out 0 (by omega))) _) (by omega) _) (by omega) _))
      have E1_1 : Hid (w1'.cell? ⟨g, k * 5 + 1, none⟩ = some (.int .i64 (J + 1))) := hide (t1.cell (fun e => e) (set_off (set_at ((T0.out.al _ _ (HA.out 1 (by omega))).set _ _) _) (by omega) _))
      have E1_2 : Hid (w1'.cell? ⟨g, k * 5 + 2, none⟩ = some (.int .i64 (J + 1 + 1))) := hide (t1.cell (fun e => e) (set_at (((T0.out.al _ _ (HA.out 2 (by omega))).set _ _).set _ _) _))
      clear b1 t1 c0 c1 c2 f0 f1 f2 y0 y1 y2
      obtain ⟨⟨y3, c3⟩, f3⟩ := T1.out.al _ _ (HA.out 3 (by omega))
      go_wp2_with fail
      refine (markText_any _ _ (by omega)).mono ?_
      rintro e w2' ⟨rfl, b2⟩
      have T2 := hide ((T1.out.set ho _ _).trans (Tch.of_below b2))
      have t2 := Tch.of_below (S := fun _ => False) b2
      have M2 := hide ((M1.out.set insLen (by omega) _).tch t2 (fun e => e))
      have E2_0 : Hid (w2'.cell? ⟨g, k * 5, none⟩ = some (.int .i64 (J))) := hide (t2.cell (fun e => e) (set_off E1_0.out (by omega) _))
      have E2_1 : Hid (w2'.cell? ⟨g, k * 5 + 1, none⟩ = some (.int .i64 (J + 1))) := hide (t2.cell (fun e => e) (set_off E1_1.out (by omega) _))
      have E2_2 : Hid (w2'.cell? ⟨g, k * 5 + 2, none⟩ = some (.int .i64 (J + 1 + 1))) := hide (t2.cell (fun e => e) (set_off E1_2.out (by omega) _))
      have E2_3 : Hid (w2'.cell? ⟨g, k * 5 + 3, none⟩ = some (.string (mt (J + 1 + 1 + 1)))) := hide (t2.cell (fun e => e) (set_at (T1.out.al _ _ (HA.out 3 (by omega))) _))
      clear b2 t2 c3 f3 y3
      obtain ⟨⟨y4, c4⟩, f4⟩ := T2.out.al _ _ (HA.out 4 (by omega))
      go_wp2
      go_roundw
      case rel =>
        refine ⟨k + 1, by go_num, by first | (rw [← HJ.out]; go_num) | (rw [← HJ.out]; congr 1; omega), by omega, hide fun g' e => ?_, (T2.out.set ho _ _)⟩
        cases e
        refine FMs.succ (M2.out.set insLen (by omega) _) fun q y hq => ?_
        replace hq : (insMs J)[q]? = some y := by rw [← HJ.out]; exact hq
        unfold insMs at hq
        have hql : q < 5 := (List.getElem?_eq_some_iff.1 hq).1
        obtain rfl | rfl | rfl | rfl | rfl : q = 0 ∨ q = 1 ∨ q = 2 ∨ q = 3 ∨ q = 4 := by omega
        · cases hq; exact (set_off E2_0.out (by omega) _)
        · cases hq; exact (set_off E2_1.out (by omega) _)
        · cases hq; exact (set_off E2_2.out (by omega) _)
        · cases hq; exact (set_off E2_3.out (by omega) _)
        · cases hq; exact (set_at (T2.out.al _ _ (HA.out 4 (by omega))) _)
      case measure => simp [intOf]; omega
    · have i1 : ¬ (k : Int) < n := by omega
      obtain rfl : k = n := by omega
      go_wp2
      go_ret
      exact ⟨rfl, ⟨a, c, rfl, fun j hj => by obtain ⟨g, e, ho, -, -⟩ := H.out j hj; exact ⟨g, e, ho, Hm.out g e j hj⟩⟩, hbw⟩
set_option maxHeartbeats 8000000 in
theorem heldInsS_mk (u : Value) (n : Nat) (K : Int) (w : World) (hn : n ≤ 1000000) (k0 : 0 ≤ K) (k1 : K ≤ 1000000000000000) (h : FMk w u n 5 insMs K) :
    Calls Tryz.prog 73 #[u, .int .i64 K] w fun e w' => e = .returned (.int .i64 (K + 5 * (n : Int))) ∧ Below w.heap.size w w' := by
  obtain ⟨a, c, rfl, h⟩ := h
  have H := hide h
  clear h
  go_enter Tryz.func73, Tryz.ntmps73
  go_wp2
  go_loopw [1, 5] (fun q i wr => ∃ k : Nat, i = .int .i64 k ∧ q = .int .i64 (K + 5 * (k : Int)) ∧ k ≤ n ∧ Below w.heap.size w wr) (fun _ i _ => n - (intOf i).toNat)
  case atStart => exact ⟨0, rfl, by simp, by omega, Below.refl _ _⟩
  case round =>
    obtain ⟨k, rfl, rfl, hk, hbw⟩ := hrel
    by_cases hp : k < n
    · have i1 : (k : Int) < n := by omega
      obtain ⟨g, rfl, ho, hM⟩ := H.out k hp
      obtain ⟨J, hJ⟩ : ∃ J, K + 5 * (k : Int) = J := ⟨_, rfl⟩
      have HJ := hide hJ
      have hJ0 : 0 ≤ J ∧ J ≤ 2000000000000000 := by omega
      replace hM : ∀ q y, (insMs J)[q]? = some y → w.cell? ⟨g, k * 5 + q, none⟩ = some y := by rw [← hJ]; exact hM
      rw [hJ]
      have c0 := hM 0 _ rfl
      replace c0 := (hbw.cell (p := ⟨g, k * 5 + 0, none⟩) (block_lt c0)).trans c0
      have c1 := hM 1 _ rfl
      replace c1 := (hbw.cell (p := ⟨g, k * 5 + 1, none⟩) (block_lt c1)).trans c1
      have c2 := hM 2 _ rfl
      replace c2 := (hbw.cell (p := ⟨g, k * 5 + 2, none⟩) (block_lt c2)).trans c2
      have c3 := hM 3 _ rfl
      replace c3 := (hbw.cell (p := ⟨g, k * 5 + 3, none⟩) (block_lt c3)).trans c3
      have c4 := hM 4 _ rfl
      replace c4 := (hbw.cell (p := ⟨g, k * 5 + 4, none⟩) (block_lt c4)).trans c4
      simp only [Nat.add_zero] at c0
      have HT3 : Hid (∀ w', Calls Tryz.prog 30 #[.int .i64 (J + 1 + 1 + 1)] w' fun e w2 => e = .returned (.string (mt (J + 1 + 1 + 1))) ∧ Below w'.heap.size w' w2) := hide fun w' => markText_any _ w' (by omega)
      have HT4 : Hid (∀ w', Calls Tryz.prog 30 #[.int .i64 (J + 1 + 1 + 1 + 1)] w' fun e w2 => e = .returned (.string (mt (J + 1 + 1 + 1 + 1))) ∧ Below w'.heap.size w' w2) := hide fun w' => markText_any _ w' (by omega)
      generalize mt (J + 1 + 1 + 1) = s3 at *
      generalize mt (J + 1 + 1 + 1 + 1) = s4 at *
      clear hJ hM
      go_wp2_with fail
      go_region_with (go_at_call 30; refine (HT3.out _).mono ?_; rintro e v3 ⟨rfl, b3⟩; have d3_3 := ((Below.trans (Below.refl _ _).drew b3).cell (p := ⟨g, k * 5 + 3, none⟩) (block_lt c3)).trans c3; have d3_4 := ((Below.trans (Below.refl _ _).drew b3).cell (p := ⟨g, k * 5 + 4, none⟩) (block_lt c4)).trans c4)
      all_goals
        have hb3 := hbw.trans ((Below.trans (Below.refl _ _).drew b3).mono hbw.size)
        clear b3 c0 c1 c2 c3 c4
        have c3 := d3_3
        have c4 := d3_4
        clear d3_3 d3_4
        go_wp2_with fail
        go_region_with (go_at_call 30; refine (HT4.out _).mono ?_; rintro e v4 ⟨rfl, b4⟩; have d4_4 := ((Below.trans (Below.refl _ _).drew b4).cell (p := ⟨g, k * 5 + 4, none⟩) (block_lt c4)).trans c4)
        all_goals
          have hb4 := hb3.trans ((Below.trans (Below.refl _ _).drew b4).mono hb3.size)
          clear b4 c4
          have c4 := d4_4
          clear d4_4
          go_wp2
          go_roundw
          case rel => exact ⟨k + 1, by go_num, by first | (rw [← HJ.out]; go_num) | (rw [← HJ.out]; congr 1; omega), by omega, hb4⟩
          case measure => simp [intOf]; omega
    · have i1 : ¬ (k : Int) < n := by omega
      obtain rfl : k = n := by omega
      go_wp2
      go_ret
      exact ⟨rfl, hbw⟩
end Go.Proofs.YtfbglokjehmgeaaGreatDoor
