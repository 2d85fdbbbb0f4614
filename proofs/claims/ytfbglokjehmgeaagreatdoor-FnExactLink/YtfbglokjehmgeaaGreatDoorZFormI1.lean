/- The program's look at an instruction: part 1. Its table of words is a premise. -/
import Derived.Test.YtfbglokjehmgeaaGreatDoorZIFit
import Derived.Test.YtfbglokjehmgeaaGreatDoorZHeadI
namespace Go.Proofs.YtfbglokjehmgeaaGreatDoor
open Go.RowKit Go.PlainAid

set_option maxRecDepth 100000 in
set_option maxHeartbeats 4000000 in
theorem formed_any (k : Nat) (hk : k = 1) (f : Bool) (a b : Int) (mod name cn : ByteArray) (params cells result : Int) (pa : Option Addr) (n c : Nat) (w : World) (hm : mod.size ≤ maxLen) (hnm : name.size ≤ maxLen) (t : TypeId) (fr : Nat × Nat) (hg : w.heap[1]? = some (.cells keyRow t fr))
    (hf : ∀ w', Calls Tryz.prog 117 #[.agg #[.int .i64 (k : Int), .int .i64 a, .int .i64 b, .string mod, .string name], .agg #[.string cn, .int .i64 params, .int .i64 cells, .int .i64 result, .slice pa n c]] w' fun e w2 => e = .returned (.bool f) ∧ Gw w' w2) :
    Calls Tryz.prog 108 #[.agg #[.int .i64 (k : Int), .int .i64 a, .int .i64 b, .string mod, .string name], .agg #[.string cn, .int .i64 params, .int .i64 cells, .int .i64 result, .slice pa n c], .agg opsCells] w fun e w' => e = .returned (.bool (f && (decide (b = 0) || false) && (emB mod && emB name))) ∧ Below w.heap.size w w' := by
  have hmix : Tryz.prog.follows .mixedOrders = true := by kernel_rfl
  have hfit : opsCells[k * 5 + 4]? = some (.func (.func 117) #[] #[]) := by
    subst hk; rfl
  have k1 : ¬ (k : Int) < 1 := by omega
  have k17 : ¬ (17 : Int) < k := by omega
  have k18 : (k : Int) < 18 := by omega
  have kn : k < 18 := by omega
  have k13 : ((k : Int) != 13) = true := by simp; omega
  have kq13 : ((k : Int) == 13) = false := by simp; omega
  have kq3 : ((k : Int) == 3) = false := by simp; omega
  obtain ⟨W, hW⟩ : ∃ W, W = ((w.alloc (.cells #[.int .i64 (k : Int), .int .i64 a, .int .i64 b, .string mod, .string name] 139)).alloc (.cells #[.string cn, .int .i64 params, .int .i64 cells, .int .i64 result, .slice pa n c] 86)).alloc (.cells opsCells 182) := ⟨_, rfl⟩
  have bW : Below w.heap.size w W := by rw [hW]; exact (((Below.refl _ _).alloc (Nat.le_refl _) _).alloc (by simp) _).alloc (by simp <;> omega) _
  have x0 : W.heap[w.heap.size]? = some (.cells #[.int .i64 (k : Int), .int .i64 a, .int .i64 b, .string mod, .string name] 139 (0, 0)) := by
    rw [hW, Below.heap_alloc _ _ _ (by simp <;> omega), Below.heap_alloc _ _ _ (by simp)]
    exact Deep.blk_alloc_new w _
  have x1 : W.heap[w.heap.size + 1]? = some (.cells #[.string cn, .int .i64 params, .int .i64 cells, .int .i64 result, .slice pa n c] 86 (0, 0)) := by
    rw [hW, Below.heap_alloc _ _ _ (by simp)]
    have := Deep.blk_alloc_new (w.alloc (.cells #[.int .i64 (k : Int), .int .i64 a, .int .i64 b, .string mod, .string name] 139)) (.cells #[.string cn, .int .i64 params, .int .i64 cells, .int .i64 result, .slice pa n c] 86)
    rwa [World.size_alloc] at this
  have x2 : W.heap[w.heap.size + 2]? = some (.cells opsCells 182 (0, 0)) := by
    rw [hW]
    have := Deep.blk_alloc_new ((w.alloc (.cells #[.int .i64 (k : Int), .int .i64 a, .int .i64 b, .string mod, .string name] 139)).alloc (.cells #[.string cn, .int .i64 params, .int .i64 cells, .int .i64 result, .slice pa n c] 86)) (.cells opsCells 182)
    rwa [World.size_alloc, World.size_alloc] at this
  have z2 : w.heap.size + 2 < W.heap.size := (Array.getElem?_eq_some_iff.1 x2).1
  have HB := hide bW
  have HO : Hid (∀ s : ByteArray, s.size ≤ maxLen → ∀ w1, Below W.heap.size W w1 → Calls Tryz.prog 53 #[.string s] w1 fun e w' => e = .returned (.bool (ownB s)) ∧ Below w1.heap.size w1 w') := hide fun s hs w1 bel =>
    ownName_any s w1 hs t fr (((bW.trans (bel.mono bW.size)).block 1 (Array.getElem?_eq_some_iff.1 hg).1).trans hg)
  have HF : Hid (∀ nd os, Calls Tryz.prog 117 #[.agg #[.int .i64 (k : Int), .int .i64 a, .int .i64 b, .string mod, .string name], .agg #[.string cn, .int .i64 params, .int .i64 cells, .int .i64 result, .slice pa n c]] (Sort.grow (W.drewN nd) os) fun e w' => e = .returned (.bool f) ∧ ∃ p : GrownBy, w' = Sort.grow (W.drewN p.n) p.os) := hide fun nd os =>
    Calls.grown_of ((hf _).mono fun _ _ ⟨a, n, os, hq⟩ => ⟨a, n, os, hq⟩)
  have HH : Hid (∀ w', Calls Tryz.prog 132 #[.agg #[.int .i64 (k : Int), .int .i64 a, .int .i64 b, .string mod, .string name]] w' fun e w2 => e = .returned (.bool false) ∧ Gw w' w2) := hide fun w' => by
    go_enter Tryz.func132, Tryz.ntmps132
    go_wp2
    go_ret
    exact ⟨rfl, Gw.one _ _⟩
  have C0 := (heapCells x0).1 0
  have C1 := (heapCells x0).1 1
  have C2 := (heapCells x0).1 2
  have C3 := (heapCells x0).1 3
  have C4 := (heapCells x0).1 4
  have D0 := (heapCells x1).1 0
  have D1 := (heapCells x1).1 1
  have D2 := (heapCells x1).1 2
  have D3 := (heapCells x1).1 3
  have D4 := (heapCells x1).1 4
  have E4 := ((heapCells x2).1 (k * 5 + 4)).trans hfit
  simp only [List.getElem?_toArray, List.getElem?_cons_zero, List.getElem?_cons_succ] at C0 C1 C2 C3 C4 D0 D1 D2 D3 D4
  have c0 := fun n os => cell_grown (w := W) (a := ⟨w.heap.size, 0, none⟩) (by show w.heap.size < W.heap.size; omega) C0 n os
  have c1 := fun n os => cell_grown (w := W) (a := ⟨w.heap.size, 1, none⟩) (by show w.heap.size < W.heap.size; omega) C1 n os
  have c2 := fun n os => cell_grown (w := W) (a := ⟨w.heap.size, 2, none⟩) (by show w.heap.size < W.heap.size; omega) C2 n os
  have c3 := fun n os => cell_grown (w := W) (a := ⟨w.heap.size, 3, none⟩) (by show w.heap.size < W.heap.size; omega) C3 n os
  have c4 := fun n os => cell_grown (w := W) (a := ⟨w.heap.size, 4, none⟩) (by show w.heap.size < W.heap.size; omega) C4 n os
  have d0 := fun n os => cell_grown (w := W) (a := ⟨w.heap.size + 1, 0, none⟩) (by show w.heap.size + 1 < W.heap.size; omega) D0 n os
  have d1 := fun n os => cell_grown (w := W) (a := ⟨w.heap.size + 1, 1, none⟩) (by show w.heap.size + 1 < W.heap.size; omega) D1 n os
  have d2 := fun n os => cell_grown (w := W) (a := ⟨w.heap.size + 1, 2, none⟩) (by show w.heap.size + 1 < W.heap.size; omega) D2 n os
  have d3 := fun n os => cell_grown (w := W) (a := ⟨w.heap.size + 1, 3, none⟩) (by show w.heap.size + 1 < W.heap.size; omega) D3 n os
  have d4 := fun n os => cell_grown (w := W) (a := ⟨w.heap.size + 1, 4, none⟩) (by show w.heap.size + 1 < W.heap.size; omega) D4 n os
  have e4 := fun n os => cell_grown (w := W) (a := ⟨w.heap.size + 2, k * 5 + 4, none⟩) z2 E4 n os
  clear hf hg hfit x0 x1 x2 bW C0 C1 C2 C3 C4 D0 D1 D2 D3 D4 E4 hk
  go_enter Tryz.func108, Tryz.ntmps108
  go_upto_region 1 with fail
  rw [← hW]
  clear hW
  go_cut [25] from 7 to 25 (fun v wc => v = .bool (!f) ∧ Hid (Gw W wc))
  case first =>
    cases f
    all_goals
      refine wp_region_quiet_grown (by assumption) (by kernel_rfl) ?_
      repeat (first | go_big_quiet_skip | quiet_step (first | (go_at_call 117; exact HF.out _ _)))
      refine wpQuiet_nil ?_
      intro _ hw'
      obtain ⟨⟨nq, osq⟩, hw''⟩ := hw'
      subst hw''
      go_wp2_with fail
      go_meet
      case rel => exact ⟨rfl, hide ⟨nq, osq, rfl⟩⟩
  case rest =>
    obtain ⟨rfl, HG⟩ := hcut
    have hgw := HG.out.below
    have m0 := (hgw.cell (p := ⟨w.heap.size, 0, none⟩) (by show w.heap.size < W.heap.size; omega)).trans (by simpa using c0 0 #[])
    have m1 := (hgw.cell (p := ⟨w.heap.size, 1, none⟩) (by show w.heap.size < W.heap.size; omega)).trans (by simpa using c1 0 #[])
    have m2 := (hgw.cell (p := ⟨w.heap.size, 2, none⟩) (by show w.heap.size < W.heap.size; omega)).trans (by simpa using c2 0 #[])
    have m3 := (hgw.cell (p := ⟨w.heap.size, 3, none⟩) (by show w.heap.size < W.heap.size; omega)).trans (by simpa using c3 0 #[])
    have m4 := (hgw.cell (p := ⟨w.heap.size, 4, none⟩) (by show w.heap.size < W.heap.size; omega)).trans (by simpa using c4 0 #[])
    have HBc := hide (HB.out.trans (hgw.mono HB.out.size))
    have hz : w.heap.size < wc.heap.size := Nat.lt_of_lt_of_le (show w.heap.size < W.heap.size by omega) hgw.size
    have HOc : Hid (∀ s : ByteArray, s.size ≤ maxLen → ∀ w1, Below wc.heap.size wc w1 → Calls Tryz.prog 53 #[.string s] w1 fun e w' => e = .returned (.bool (ownB s)) ∧ Below w1.heap.size w1 w') := hide fun s hs w1 bel => HO.out s hs w1 (hgw.trans (bel.mono hgw.size))
    have HM := hide hm
    have HNm := hide hnm
    clear c0 c1 c2 c3 c4 d0 d1 d2 d3 d4 e4 hgw HG HB HO HF hm hnm z2
    cases f with
    | false =>
      go_wp2_with fail
      go_ret
      exact ⟨rfl, HBc.out⟩
    | true =>
      by_cases hb : b = 0
      · subst hb
        cases em : (mod.toList == []) <;> cases en : (name.toList == [])
        all_goals
          have HE1 := hide em
          have HE2 := hide en
          go_wp2_with (go_at_call 132; refine (HH.out _).mono ?_; rintro e w5 ⟨rfl, gr⟩; have b5 := gr.below; have n3 := (b5.cell (p := ⟨w.heap.size, 3, none⟩) hz).trans m3; have n4 := (b5.cell (p := ⟨w.heap.size, 4, none⟩) hz).trans m4; have HB5 := hide (HBc.out.trans (b5.mono HBc.out.size)))
          go_ret
          exact ⟨ret_bool (by simp [emB, HE1.out, HE2.out]), HB5.out⟩
      · have hb0 : (b != 0) = true := by simp [hb]
        have HBn := hide hb
        clear hb
        go_wp2_with fail
        go_ret
        exact ⟨ret_bool (by simp [HBn.out]), HBc.out⟩
set_option maxRecDepth 100000 in
set_option maxHeartbeats 4000000 in
theorem formed_cell (k : Nat) (hk : k = 2) (f : Bool) (a b : Int) (mod name cn : ByteArray) (params cells result : Int) (pa : Option Addr) (n c : Nat) (w : World) (hm : mod.size ≤ maxLen) (hnm : name.size ≤ maxLen) (t : TypeId) (fr : Nat × Nat) (hg : w.heap[1]? = some (.cells keyRow t fr))
    (hf : ∀ w', Calls Tryz.prog 118 #[.agg #[.int .i64 (k : Int), .int .i64 a, .int .i64 b, .string mod, .string name], .agg #[.string cn, .int .i64 params, .int .i64 cells, .int .i64 result, .slice pa n c]] w' fun e w2 => e = .returned (.bool f) ∧ Gw w' w2) :
    Calls Tryz.prog 108 #[.agg #[.int .i64 (k : Int), .int .i64 a, .int .i64 b, .string mod, .string name], .agg #[.string cn, .int .i64 params, .int .i64 cells, .int .i64 result, .slice pa n c], .agg opsCells] w fun e w' => e = .returned (.bool (f && (decide (b = 0) || false) && (emB mod && emB name))) ∧ Below w.heap.size w w' := by
  have hmix : Tryz.prog.follows .mixedOrders = true := by kernel_rfl
  have hfit : opsCells[k * 5 + 4]? = some (.func (.func 118) #[] #[]) := by
    subst hk; rfl
  have k1 : ¬ (k : Int) < 1 := by omega
  have k17 : ¬ (17 : Int) < k := by omega
  have k18 : (k : Int) < 18 := by omega
  have kn : k < 18 := by omega
  have k13 : ((k : Int) != 13) = true := by simp; omega
  have kq13 : ((k : Int) == 13) = false := by simp; omega
  have kq3 : ((k : Int) == 3) = false := by simp; omega
  obtain ⟨W, hW⟩ : ∃ W, W = ((w.alloc (.cells #[.int .i64 (k : Int), .int .i64 a, .int .i64 b, .string mod, .string name] 139)).alloc (.cells #[.string cn, .int .i64 params, .int .i64 cells, .int .i64 result, .slice pa n c] 86)).alloc (.cells opsCells 182) := ⟨_, rfl⟩
  have bW : Below w.heap.size w W := by rw [hW]; exact (((Below.refl _ _).alloc (Nat.le_refl _) _).alloc (by simp) _).alloc (by simp <;> omega) _
  have x0 : W.heap[w.heap.size]? = some (.cells #[.int .i64 (k : Int), .int .i64 a, .int .i64 b, .string mod, .string name] 139 (0, 0)) := by
    rw [hW, Below.heap_alloc _ _ _ (by simp <;> omega), Below.heap_alloc _ _ _ (by simp)]
    exact Deep.blk_alloc_new w _
  have x1 : W.heap[w.heap.size + 1]? = some (.cells #[.string cn, .int .i64 params, .int .i64 cells, .int .i64 result, .slice pa n c] 86 (0, 0)) := by
    rw [hW, Below.heap_alloc _ _ _ (by simp)]
    have := Deep.blk_alloc_new (w.alloc (.cells #[.int .i64 (k : Int), .int .i64 a, .int .i64 b, .string mod, .string name] 139)) (.cells #[.string cn, .int .i64 params, .int .i64 cells, .int .i64 result, .slice pa n c] 86)
    rwa [World.size_alloc] at this
  have x2 : W.heap[w.heap.size + 2]? = some (.cells opsCells 182 (0, 0)) := by
    rw [hW]
    have := Deep.blk_alloc_new ((w.alloc (.cells #[.int .i64 (k : Int), .int .i64 a, .int .i64 b, .string mod, .string name] 139)).alloc (.cells #[.string cn, .int .i64 params, .int .i64 cells, .int .i64 result, .slice pa n c] 86)) (.cells opsCells 182)
    rwa [World.size_alloc, World.size_alloc] at this
  have z2 : w.heap.size + 2 < W.heap.size := (Array.getElem?_eq_some_iff.1 x2).1
  have HB := hide bW
  have HO : Hid (∀ s : ByteArray, s.size ≤ maxLen → ∀ w1, Below W.heap.size W w1 → Calls Tryz.prog 53 #[.string s] w1 fun e w' => e = .returned (.bool (ownB s)) ∧ Below w1.heap.size w1 w') := hide fun s hs w1 bel =>
    ownName_any s w1 hs t fr (((bW.trans (bel.mono bW.size)).block 1 (Array.getElem?_eq_some_iff.1 hg).1).trans hg)
  have HF : Hid (∀ nd os, Calls Tryz.prog 118 #[.agg #[.int .i64 (k : Int), .int .i64 a, .int .i64 b, .string mod, .string name], .agg #[.string cn, .int .i64 params, .int .i64 cells, .int .i64 result, .slice pa n c]] (Sort.grow (W.drewN nd) os) fun e w' => e = .returned (.bool f) ∧ ∃ p : GrownBy, w' = Sort.grow (W.drewN p.n) p.os) := hide fun nd os =>
    Calls.grown_of ((hf _).mono fun _ _ ⟨a, n, os, hq⟩ => ⟨a, n, os, hq⟩)
  have HH : Hid (∀ w', Calls Tryz.prog 132 #[.agg #[.int .i64 (k : Int), .int .i64 a, .int .i64 b, .string mod, .string name]] w' fun e w2 => e = .returned (.bool false) ∧ Gw w' w2) := hide fun w' => by
    go_enter Tryz.func132, Tryz.ntmps132
    go_wp2
    go_ret
    exact ⟨rfl, Gw.one _ _⟩
  have C0 := (heapCells x0).1 0
  have C1 := (heapCells x0).1 1
  have C2 := (heapCells x0).1 2
  have C3 := (heapCells x0).1 3
  have C4 := (heapCells x0).1 4
  have D0 := (heapCells x1).1 0
  have D1 := (heapCells x1).1 1
  have D2 := (heapCells x1).1 2
  have D3 := (heapCells x1).1 3
  have D4 := (heapCells x1).1 4
  have E4 := ((heapCells x2).1 (k * 5 + 4)).trans hfit
  simp only [List.getElem?_toArray, List.getElem?_cons_zero, List.getElem?_cons_succ] at C0 C1 C2 C3 C4 D0 D1 D2 D3 D4
  have c0 := fun n os => cell_grown (w := W) (a := ⟨w.heap.size, 0, none⟩) (by show w.heap.size < W.heap.size; omega) C0 n os
  have c1 := fun n os => cell_grown (w := W) (a := ⟨w.heap.size, 1, none⟩) (by show w.heap.size < W.heap.size; omega) C1 n os
  have c2 := fun n os => cell_grown (w := W) (a := ⟨w.heap.size, 2, none⟩) (by show w.heap.size < W.heap.size; omega) C2 n os
  have c3 := fun n os => cell_grown (w := W) (a := ⟨w.heap.size, 3, none⟩) (by show w.heap.size < W.heap.size; omega) C3 n os
  have c4 := fun n os => cell_grown (w := W) (a := ⟨w.heap.size, 4, none⟩) (by show w.heap.size < W.heap.size; omega) C4 n os
  have d0 := fun n os => cell_grown (w := W) (a := ⟨w.heap.size + 1, 0, none⟩) (by show w.heap.size + 1 < W.heap.size; omega) D0 n os
  have d1 := fun n os => cell_grown (w := W) (a := ⟨w.heap.size + 1, 1, none⟩) (by show w.heap.size + 1 < W.heap.size; omega) D1 n os
  have d2 := fun n os => cell_grown (w := W) (a := ⟨w.heap.size + 1, 2, none⟩) (by show w.heap.size + 1 < W.heap.size; omega) D2 n os
  have d3 := fun n os => cell_grown (w := W) (a := ⟨w.heap.size + 1, 3, none⟩) (by show w.heap.size + 1 < W.heap.size; omega) D3 n os
  have d4 := fun n os => cell_grown (w := W) (a := ⟨w.heap.size + 1, 4, none⟩) (by show w.heap.size + 1 < W.heap.size; omega) D4 n os
  have e4 := fun n os => cell_grown (w := W) (a := ⟨w.heap.size + 2, k * 5 + 4, none⟩) z2 E4 n os
  clear hf hg hfit x0 x1 x2 bW C0 C1 C2 C3 C4 D0 D1 D2 D3 D4 E4 hk
  go_enter Tryz.func108, Tryz.ntmps108
  go_upto_region 1 with fail
  rw [← hW]
  clear hW
  go_cut [25] from 7 to 25 (fun v wc => v = .bool (!f) ∧ Hid (Gw W wc))
  case first =>
    cases f
    all_goals
      refine wp_region_quiet_grown (by assumption) (by kernel_rfl) ?_
      repeat (first | go_big_quiet_skip | quiet_step (first | (go_at_call 118; exact HF.out _ _)))
      refine wpQuiet_nil ?_
      intro _ hw'
      obtain ⟨⟨nq, osq⟩, hw''⟩ := hw'
      subst hw''
      go_wp2_with fail
      go_meet
      case rel => exact ⟨rfl, hide ⟨nq, osq, rfl⟩⟩
  case rest =>
    obtain ⟨rfl, HG⟩ := hcut
    have hgw := HG.out.below
    have m0 := (hgw.cell (p := ⟨w.heap.size, 0, none⟩) (by show w.heap.size < W.heap.size; omega)).trans (by simpa using c0 0 #[])
    have m1 := (hgw.cell (p := ⟨w.heap.size, 1, none⟩) (by show w.heap.size < W.heap.size; omega)).trans (by simpa using c1 0 #[])
    have m2 := (hgw.cell (p := ⟨w.heap.size, 2, none⟩) (by show w.heap.size < W.heap.size; omega)).trans (by simpa using c2 0 #[])
    have m3 := (hgw.cell (p := ⟨w.heap.size, 3, none⟩) (by show w.heap.size < W.heap.size; omega)).trans (by simpa using c3 0 #[])
    have m4 := (hgw.cell (p := ⟨w.heap.size, 4, none⟩) (by show w.heap.size < W.heap.size; omega)).trans (by simpa using c4 0 #[])
    have HBc := hide (HB.out.trans (hgw.mono HB.out.size))
    have hz : w.heap.size < wc.heap.size := Nat.lt_of_lt_of_le (show w.heap.size < W.heap.size by omega) hgw.size
    have HOc : Hid (∀ s : ByteArray, s.size ≤ maxLen → ∀ w1, Below wc.heap.size wc w1 → Calls Tryz.prog 53 #[.string s] w1 fun e w' => e = .returned (.bool (ownB s)) ∧ Below w1.heap.size w1 w') := hide fun s hs w1 bel => HO.out s hs w1 (hgw.trans (bel.mono hgw.size))
    have HM := hide hm
    have HNm := hide hnm
    clear c0 c1 c2 c3 c4 d0 d1 d2 d3 d4 e4 hgw HG HB HO HF hm hnm z2
    cases f with
    | false =>
      go_wp2_with fail
      go_ret
      exact ⟨rfl, HBc.out⟩
    | true =>
      by_cases hb : b = 0
      · subst hb
        cases em : (mod.toList == []) <;> cases en : (name.toList == [])
        all_goals
          have HE1 := hide em
          have HE2 := hide en
          go_wp2_with (go_at_call 132; refine (HH.out _).mono ?_; rintro e w5 ⟨rfl, gr⟩; have b5 := gr.below; have n3 := (b5.cell (p := ⟨w.heap.size, 3, none⟩) hz).trans m3; have n4 := (b5.cell (p := ⟨w.heap.size, 4, none⟩) hz).trans m4; have HB5 := hide (HBc.out.trans (b5.mono HBc.out.size)))
          go_ret
          exact ⟨ret_bool (by simp [emB, HE1.out, HE2.out]), HB5.out⟩
      · have hb0 : (b != 0) = true := by simp [hb]
        have HBn := hide hb
        clear hb
        go_wp2_with fail
        go_ret
        exact ⟨ret_bool (by simp [HBn.out]), HBc.out⟩
set_option maxRecDepth 100000 in
set_option maxHeartbeats 4000000 in
theorem formed_no (k : Nat) (hk : k = 4 ∨ k = 5 ∨ k = 8 ∨ k = 9 ∨ k = 10) (f : Bool) (a b : Int) (mod name cn : ByteArray) (params cells result : Int) (pa : Option Addr) (n c : Nat) (w : World) (hm : mod.size ≤ maxLen) (hnm : name.size ≤ maxLen) (t : TypeId) (fr : Nat × Nat) (hg : w.heap[1]? = some (.cells keyRow t fr))
    (hf : ∀ w', Calls Tryz.prog 120 #[.agg #[.int .i64 (k : Int), .int .i64 a, .int .i64 b, .string mod, .string name], .agg #[.string cn, .int .i64 params, .int .i64 cells, .int .i64 result, .slice pa n c]] w' fun e w2 => e = .returned (.bool f) ∧ Gw w' w2) :
    Calls Tryz.prog 108 #[.agg #[.int .i64 (k : Int), .int .i64 a, .int .i64 b, .string mod, .string name], .agg #[.string cn, .int .i64 params, .int .i64 cells, .int .i64 result, .slice pa n c], .agg opsCells] w fun e w' => e = .returned (.bool (f && (decide (b = 0) || false) && (emB mod && emB name))) ∧ Below w.heap.size w w' := by
  have hmix : Tryz.prog.follows .mixedOrders = true := by kernel_rfl
  have hfit : opsCells[k * 5 + 4]? = some (.func (.func 120) #[] #[]) := by
    rcases hk with rfl | rfl | rfl | rfl | rfl <;> rfl
  have k1 : ¬ (k : Int) < 1 := by omega
  have k17 : ¬ (17 : Int) < k := by omega
  have k18 : (k : Int) < 18 := by omega
  have kn : k < 18 := by omega
  have k13 : ((k : Int) != 13) = true := by simp; omega
  have kq13 : ((k : Int) == 13) = false := by simp; omega
  have kq3 : ((k : Int) == 3) = false := by simp; omega
  obtain ⟨W, hW⟩ : ∃ W, W = ((w.alloc (.cells #[.int .i64 (k : Int), .int .i64 a, .int .i64 b, .string mod, .string name] 139)).alloc (.cells #[.string cn, .int .i64 params, .int .i64 cells, .int .i64 result, .slice pa n c] 86)).alloc (.cells opsCells 182) := ⟨_, rfl⟩
  have bW : Below w.heap.size w W := by rw [hW]; exact (((Below.refl _ _).alloc (Nat.le_refl _) _).alloc (by simp) _).alloc (by simp <;> omega) _
  have x0 : W.heap[w.heap.size]? = some (.cells #[.int .i64 (k : Int), .int .i64 a, .int .i64 b, .string mod, .string name] 139 (0, 0)) := by
    rw [hW, Below.heap_alloc _ _ _ (by simp <;> omega), Below.heap_alloc _ _ _ (by simp)]
    exact Deep.blk_alloc_new w _
  have x1 : W.heap[w.heap.size + 1]? = some (.cells #[.string cn, .int .i64 params, .int .i64 cells, .int .i64 result, .slice pa n c] 86 (0, 0)) := by
    rw [hW, Below.heap_alloc _ _ _ (by simp)]
    have := Deep.blk_alloc_new (w.alloc (.cells #[.int .i64 (k : Int), .int .i64 a, .int .i64 b, .string mod, .string name] 139)) (.cells #[.string cn, .int .i64 params, .int .i64 cells, .int .i64 result, .slice pa n c] 86)
    rwa [World.size_alloc] at this
  have x2 : W.heap[w.heap.size + 2]? = some (.cells opsCells 182 (0, 0)) := by
    rw [hW]
    have := Deep.blk_alloc_new ((w.alloc (.cells #[.int .i64 (k : Int), .int .i64 a, .int .i64 b, .string mod, .string name] 139)).alloc (.cells #[.string cn, .int .i64 params, .int .i64 cells, .int .i64 result, .slice pa n c] 86)) (.cells opsCells 182)
    rwa [World.size_alloc, World.size_alloc] at this
  have z2 : w.heap.size + 2 < W.heap.size := (Array.getElem?_eq_some_iff.1 x2).1
  have HB := hide bW
  have HO : Hid (∀ s : ByteArray, s.size ≤ maxLen → ∀ w1, Below W.heap.size W w1 → Calls Tryz.prog 53 #[.string s] w1 fun e w' => e = .returned (.bool (ownB s)) ∧ Below w1.heap.size w1 w') := hide fun s hs w1 bel =>
    ownName_any s w1 hs t fr (((bW.trans (bel.mono bW.size)).block 1 (Array.getElem?_eq_some_iff.1 hg).1).trans hg)
  have HF : Hid (∀ nd os, Calls Tryz.prog 120 #[.agg #[.int .i64 (k : Int), .int .i64 a, .int .i64 b, .string mod, .string name], .agg #[.string cn, .int .i64 params, .int .i64 cells, .int .i64 result, .slice pa n c]] (Sort.grow (W.drewN nd) os) fun e w' => e = .returned (.bool f) ∧ ∃ p : GrownBy, w' = Sort.grow (W.drewN p.n) p.os) := hide fun nd os =>
    Calls.grown_of ((hf _).mono fun _ _ ⟨a, n, os, hq⟩ => ⟨a, n, os, hq⟩)
  have HH : Hid (∀ w', Calls Tryz.prog 132 #[.agg #[.int .i64 (k : Int), .int .i64 a, .int .i64 b, .string mod, .string name]] w' fun e w2 => e = .returned (.bool false) ∧ Gw w' w2) := hide fun w' => by
    go_enter Tryz.func132, Tryz.ntmps132
    go_wp2
    go_ret
    exact ⟨rfl, Gw.one _ _⟩
  have C0 := (heapCells x0).1 0
  have C1 := (heapCells x0).1 1
  have C2 := (heapCells x0).1 2
  have C3 := (heapCells x0).1 3
  have C4 := (heapCells x0).1 4
  have D0 := (heapCells x1).1 0
  have D1 := (heapCells x1).1 1
  have D2 := (heapCells x1).1 2
  have D3 := (heapCells x1).1 3
  have D4 := (heapCells x1).1 4
  have E4 := ((heapCells x2).1 (k * 5 + 4)).trans hfit
  simp only [List.getElem?_toArray, List.getElem?_cons_zero, List.getElem?_cons_succ] at C0 C1 C2 C3 C4 D0 D1 D2 D3 D4
  have c0 := fun n os => cell_grown (w := W) (a := ⟨w.heap.size, 0, none⟩) (by show w.heap.size < W.heap.size; omega) C0 n os
  have c1 := fun n os => cell_grown (w := W) (a := ⟨w.heap.size, 1, none⟩) (by show w.heap.size < W.heap.size; omega) C1 n os
  have c2 := fun n os => cell_grown (w := W) (a := ⟨w.heap.size, 2, none⟩) (by show w.heap.size < W.heap.size; omega) C2 n os
  have c3 := fun n os => cell_grown (w := W) (a := ⟨w.heap.size, 3, none⟩) (by show w.heap.size < W.heap.size; omega) C3 n os
  have c4 := fun n os => cell_grown (w := W) (a := ⟨w.heap.size, 4, none⟩) (by show w.heap.size < W.heap.size; omega) C4 n os
  have d0 := fun n os => cell_grown (w := W) (a := ⟨w.heap.size + 1, 0, none⟩) (by show w.heap.size + 1 < W.heap.size; omega) D0 n os
  have d1 := fun n os => cell_grown (w := W) (a := ⟨w.heap.size + 1, 1, none⟩) (by show w.heap.size + 1 < W.heap.size; omega) D1 n os
  have d2 := fun n os => cell_grown (w := W) (a := ⟨w.heap.size + 1, 2, none⟩) (by show w.heap.size + 1 < W.heap.size; omega) D2 n os
  have d3 := fun n os => cell_grown (w := W) (a := ⟨w.heap.size + 1, 3, none⟩) (by show w.heap.size + 1 < W.heap.size; omega) D3 n os
  have d4 := fun n os => cell_grown (w := W) (a := ⟨w.heap.size + 1, 4, none⟩) (by show w.heap.size + 1 < W.heap.size; omega) D4 n os
  have e4 := fun n os => cell_grown (w := W) (a := ⟨w.heap.size + 2, k * 5 + 4, none⟩) z2 E4 n os
  clear hf hg hfit x0 x1 x2 bW C0 C1 C2 C3 C4 D0 D1 D2 D3 D4 E4 hk
  go_enter Tryz.func108, Tryz.ntmps108
  go_upto_region 1 with fail
  rw [← hW]
  clear hW
  go_cut [25] from 7 to 25 (fun v wc => v = .bool (!f) ∧ Hid (Gw W wc))
  case first =>
    cases f
    all_goals
      refine wp_region_quiet_grown (by assumption) (by kernel_rfl) ?_
      repeat (first | go_big_quiet_skip | quiet_step (first | (go_at_call 120; exact HF.out _ _)))
      refine wpQuiet_nil ?_
      intro _ hw'
      obtain ⟨⟨nq, osq⟩, hw''⟩ := hw'
      subst hw''
      go_wp2_with fail
      go_meet
      case rel => exact ⟨rfl, hide ⟨nq, osq, rfl⟩⟩
  case rest =>
    obtain ⟨rfl, HG⟩ := hcut
    have hgw := HG.out.below
    have m0 := (hgw.cell (p := ⟨w.heap.size, 0, none⟩) (by show w.heap.size < W.heap.size; omega)).trans (by simpa using c0 0 #[])
    have m1 := (hgw.cell (p := ⟨w.heap.size, 1, none⟩) (by show w.heap.size < W.heap.size; omega)).trans (by simpa using c1 0 #[])
    have m2 := (hgw.cell (p := ⟨w.heap.size, 2, none⟩) (by show w.heap.size < W.heap.size; omega)).trans (by simpa using c2 0 #[])
    have m3 := (hgw.cell (p := ⟨w.heap.size, 3, none⟩) (by show w.heap.size < W.heap.size; omega)).trans (by simpa using c3 0 #[])
    have m4 := (hgw.cell (p := ⟨w.heap.size, 4, none⟩) (by show w.heap.size < W.heap.size; omega)).trans (by simpa using c4 0 #[])
    have HBc := hide (HB.out.trans (hgw.mono HB.out.size))
    have hz : w.heap.size < wc.heap.size := Nat.lt_of_lt_of_le (show w.heap.size < W.heap.size by omega) hgw.size
    have HOc : Hid (∀ s : ByteArray, s.size ≤ maxLen → ∀ w1, Below wc.heap.size wc w1 → Calls Tryz.prog 53 #[.string s] w1 fun e w' => e = .returned (.bool (ownB s)) ∧ Below w1.heap.size w1 w') := hide fun s hs w1 bel => HO.out s hs w1 (hgw.trans (bel.mono hgw.size))
    have HM := hide hm
    have HNm := hide hnm
    clear c0 c1 c2 c3 c4 d0 d1 d2 d3 d4 e4 hgw HG HB HO HF hm hnm z2
    cases f with
    | false =>
      go_wp2_with fail
      go_ret
      exact ⟨rfl, HBc.out⟩
    | true =>
      by_cases hb : b = 0
      · subst hb
        cases em : (mod.toList == []) <;> cases en : (name.toList == [])
        all_goals
          have HE1 := hide em
          have HE2 := hide en
          go_wp2_with (go_at_call 132; refine (HH.out _).mono ?_; rintro e w5 ⟨rfl, gr⟩; have b5 := gr.below; have n3 := (b5.cell (p := ⟨w.heap.size, 3, none⟩) hz).trans m3; have n4 := (b5.cell (p := ⟨w.heap.size, 4, none⟩) hz).trans m4; have HB5 := hide (HBc.out.trans (b5.mono HBc.out.size)))
          go_ret
          exact ⟨ret_bool (by simp [emB, HE1.out, HE2.out]), HB5.out⟩
      · have hb0 : (b != 0) = true := by simp [hb]
        have HBn := hide hb
        clear hb
        go_wp2_with fail
        go_ret
        exact ⟨ret_bool (by simp [HBn.out]), HBc.out⟩
set_option maxRecDepth 100000 in
set_option maxHeartbeats 4000000 in
theorem formed_arr (k : Nat) (hk : k = 6) (f : Bool) (a b : Int) (mod name cn : ByteArray) (params cells result : Int) (pa : Option Addr) (n c : Nat) (w : World) (hm : mod.size ≤ maxLen) (hnm : name.size ≤ maxLen) (t : TypeId) (fr : Nat × Nat) (hg : w.heap[1]? = some (.cells keyRow t fr))
    (hf : ∀ w', Calls Tryz.prog 122 #[.agg #[.int .i64 (k : Int), .int .i64 a, .int .i64 b, .string mod, .string name], .agg #[.string cn, .int .i64 params, .int .i64 cells, .int .i64 result, .slice pa n c]] w' fun e w2 => e = .returned (.bool f) ∧ Gw w' w2) :
    Calls Tryz.prog 108 #[.agg #[.int .i64 (k : Int), .int .i64 a, .int .i64 b, .string mod, .string name], .agg #[.string cn, .int .i64 params, .int .i64 cells, .int .i64 result, .slice pa n c], .agg opsCells] w fun e w' => e = .returned (.bool (f && (decide (b = 0) || false) && (emB mod && emB name))) ∧ Below w.heap.size w w' := by
  have hmix : Tryz.prog.follows .mixedOrders = true := by kernel_rfl
  have hfit : opsCells[k * 5 + 4]? = some (.func (.func 122) #[] #[]) := by
    subst hk; rfl
  have k1 : ¬ (k : Int) < 1 := by omega
  have k17 : ¬ (17 : Int) < k := by omega
  have k18 : (k : Int) < 18 := by omega
  have kn : k < 18 := by omega
  have k13 : ((k : Int) != 13) = true := by simp; omega
  have kq13 : ((k : Int) == 13) = false := by simp; omega
  have kq3 : ((k : Int) == 3) = false := by simp; omega
  obtain ⟨W, hW⟩ : ∃ W, W = ((w.alloc (.cells #[.int .i64 (k : Int), .int .i64 a, .int .i64 b, .string mod, .string name] 139)).alloc (.cells #[.string cn, .int .i64 params, .int .i64 cells, .int .i64 result, .slice pa n c] 86)).alloc (.cells opsCells 182) := ⟨_, rfl⟩
  have bW : Below w.heap.size w W := by rw [hW]; exact (((Below.refl _ _).alloc (Nat.le_refl _) _).alloc (by simp) _).alloc (by simp <;> omega) _
  have x0 : W.heap[w.heap.size]? = some (.cells #[.int .i64 (k : Int), .int .i64 a, .int .i64 b, .string mod, .string name] 139 (0, 0)) := by
    rw [hW, Below.heap_alloc _ _ _ (by simp <;> omega), Below.heap_alloc _ _ _ (by simp)]
    exact Deep.blk_alloc_new w _
  have x1 : W.heap[w.heap.size + 1]? = some (.cells #[.string cn, .int .i64 params, .int .i64 cells, .int .i64 result, .slice pa n c] 86 (0, 0)) := by
    rw [hW, Below.heap_alloc _ _ _ (by simp)]
    have := Deep.blk_alloc_new (w.alloc (.cells #[.int .i64 (k : Int), .int .i64 a, .int .i64 b, .string mod, .string name] 139)) (.cells #[.string cn, .int .i64 params, .int .i64 cells, .int .i64 result, .slice pa n c] 86)
    rwa [World.size_alloc] at this
  have x2 : W.heap[w.heap.size + 2]? = some (.cells opsCells 182 (0, 0)) := by
    rw [hW]
    have := Deep.blk_alloc_new ((w.alloc (.cells #[.int .i64 (k : Int), .int .i64 a, .int .i64 b, .string mod, .string name] 139)).alloc (.cells #[.string cn, .int .i64 params, .int .i64 cells, .int .i64 result, .slice pa n c] 86)) (.cells opsCells 182)
    rwa [World.size_alloc, World.size_alloc] at this
  have z2 : w.heap.size + 2 < W.heap.size := (Array.getElem?_eq_some_iff.1 x2).1
  have HB := hide bW
  have HO : Hid (∀ s : ByteArray, s.size ≤ maxLen → ∀ w1, Below W.heap.size W w1 → Calls Tryz.prog 53 #[.string s] w1 fun e w' => e = .returned (.bool (ownB s)) ∧ Below w1.heap.size w1 w') := hide fun s hs w1 bel =>
    ownName_any s w1 hs t fr (((bW.trans (bel.mono bW.size)).block 1 (Array.getElem?_eq_some_iff.1 hg).1).trans hg)
  have HF : Hid (∀ nd os, Calls Tryz.prog 122 #[.agg #[.int .i64 (k : Int), .int .i64 a, .int .i64 b, .string mod, .string name], .agg #[.string cn, .int .i64 params, .int .i64 cells, .int .i64 result, .slice pa n c]] (Sort.grow (W.drewN nd) os) fun e w' => e = .returned (.bool f) ∧ ∃ p : GrownBy, w' = Sort.grow (W.drewN p.n) p.os) := hide fun nd os =>
    Calls.grown_of ((hf _).mono fun _ _ ⟨a, n, os, hq⟩ => ⟨a, n, os, hq⟩)
  have HH : Hid (∀ w', Calls Tryz.prog 132 #[.agg #[.int .i64 (k : Int), .int .i64 a, .int .i64 b, .string mod, .string name]] w' fun e w2 => e = .returned (.bool false) ∧ Gw w' w2) := hide fun w' => by
    go_enter Tryz.func132, Tryz.ntmps132
    go_wp2
    go_ret
    exact ⟨rfl, Gw.one _ _⟩
  have C0 := (heapCells x0).1 0
  have C1 := (heapCells x0).1 1
  have C2 := (heapCells x0).1 2
  have C3 := (heapCells x0).1 3
  have C4 := (heapCells x0).1 4
  have D0 := (heapCells x1).1 0
  have D1 := (heapCells x1).1 1
  have D2 := (heapCells x1).1 2
  have D3 := (heapCells x1).1 3
  have D4 := (heapCells x1).1 4
  have E4 := ((heapCells x2).1 (k * 5 + 4)).trans hfit
  simp only [List.getElem?_toArray, List.getElem?_cons_zero, List.getElem?_cons_succ] at C0 C1 C2 C3 C4 D0 D1 D2 D3 D4
  have c0 := fun n os => cell_grown (w := W) (a := ⟨w.heap.size, 0, none⟩) (by show w.heap.size < W.heap.size; omega) C0 n os
  have c1 := fun n os => cell_grown (w := W) (a := ⟨w.heap.size, 1, none⟩) (by show w.heap.size < W.heap.size; omega) C1 n os
  have c2 := fun n os => cell_grown (w := W) (a := ⟨w.heap.size, 2, none⟩) (by show w.heap.size < W.heap.size; omega) C2 n os
  have c3 := fun n os => cell_grown (w := W) (a := ⟨w.heap.size, 3, none⟩) (by show w.heap.size < W.heap.size; omega) C3 n os
  have c4 := fun n os => cell_grown (w := W) (a := ⟨w.heap.size, 4, none⟩) (by show w.heap.size < W.heap.size; omega) C4 n os
  have d0 := fun n os => cell_grown (w := W) (a := ⟨w.heap.size + 1, 0, none⟩) (by show w.heap.size + 1 < W.heap.size; omega) D0 n os
  have d1 := fun n os => cell_grown (w := W) (a := ⟨w.heap.size + 1, 1, none⟩) (by show w.heap.size + 1 < W.heap.size; omega) D1 n os
  have d2 := fun n os => cell_grown (w := W) (a := ⟨w.heap.size + 1, 2, none⟩) (by show w.heap.size + 1 < W.heap.size; omega) D2 n os
  have d3 := fun n os => cell_grown (w := W) (a := ⟨w.heap.size + 1, 3, none⟩) (by show w.heap.size + 1 < W.heap.size; omega) D3 n os
  have d4 := fun n os => cell_grown (w := W) (a := ⟨w.heap.size + 1, 4, none⟩) (by show w.heap.size + 1 < W.heap.size; omega) D4 n os
  have e4 := fun n os => cell_grown (w := W) (a := ⟨w.heap.size + 2, k * 5 + 4, none⟩) z2 E4 n os
  clear hf hg hfit x0 x1 x2 bW C0 C1 C2 C3 C4 D0 D1 D2 D3 D4 E4 hk
  go_enter Tryz.func108, Tryz.ntmps108
  go_upto_region 1 with fail
  rw [← hW]
  clear hW
  go_cut [25] from 7 to 25 (fun v wc => v = .bool (!f) ∧ Hid (Gw W wc))
  case first =>
    cases f
    all_goals
      refine wp_region_quiet_grown (by assumption) (by kernel_rfl) ?_
      repeat (first | go_big_quiet_skip | quiet_step (first | (go_at_call 122; exact HF.out _ _)))
      refine wpQuiet_nil ?_
      intro _ hw'
      obtain ⟨⟨nq, osq⟩, hw''⟩ := hw'
      subst hw''
      go_wp2_with fail
      go_meet
      case rel => exact ⟨rfl, hide ⟨nq, osq, rfl⟩⟩
  case rest =>
    obtain ⟨rfl, HG⟩ := hcut
    have hgw := HG.out.below
    have m0 := (hgw.cell (p := ⟨w.heap.size, 0, none⟩) (by show w.heap.size < W.heap.size; omega)).trans (by simpa using c0 0 #[])
    have m1 := (hgw.cell (p := ⟨w.heap.size, 1, none⟩) (by show w.heap.size < W.heap.size; omega)).trans (by simpa using c1 0 #[])
    have m2 := (hgw.cell (p := ⟨w.heap.size, 2, none⟩) (by show w.heap.size < W.heap.size; omega)).trans (by simpa using c2 0 #[])
    have m3 := (hgw.cell (p := ⟨w.heap.size, 3, none⟩) (by show w.heap.size < W.heap.size; omega)).trans (by simpa using c3 0 #[])
    have m4 := (hgw.cell (p := ⟨w.heap.size, 4, none⟩) (by show w.heap.size < W.heap.size; omega)).trans (by simpa using c4 0 #[])
    have HBc := hide (HB.out.trans (hgw.mono HB.out.size))
    have hz : w.heap.size < wc.heap.size := Nat.lt_of_lt_of_le (show w.heap.size < W.heap.size by omega) hgw.size
    have HOc : Hid (∀ s : ByteArray, s.size ≤ maxLen → ∀ w1, Below wc.heap.size wc w1 → Calls Tryz.prog 53 #[.string s] w1 fun e w' => e = .returned (.bool (ownB s)) ∧ Below w1.heap.size w1 w') := hide fun s hs w1 bel => HO.out s hs w1 (hgw.trans (bel.mono hgw.size))
    have HM := hide hm
    have HNm := hide hnm
    clear c0 c1 c2 c3 c4 d0 d1 d2 d3 d4 e4 hgw HG HB HO HF hm hnm z2
    cases f with
    | false =>
      go_wp2_with fail
      go_ret
      exact ⟨rfl, HBc.out⟩
    | true =>
      by_cases hb : b = 0
      · subst hb
        cases em : (mod.toList == []) <;> cases en : (name.toList == [])
        all_goals
          have HE1 := hide em
          have HE2 := hide en
          go_wp2_with (go_at_call 132; refine (HH.out _).mono ?_; rintro e w5 ⟨rfl, gr⟩; have b5 := gr.below; have n3 := (b5.cell (p := ⟨w.heap.size, 3, none⟩) hz).trans m3; have n4 := (b5.cell (p := ⟨w.heap.size, 4, none⟩) hz).trans m4; have HB5 := hide (HBc.out.trans (b5.mono HBc.out.size)))
          go_ret
          exact ⟨ret_bool (by simp [emB, HE1.out, HE2.out]), HB5.out⟩
      · have hb0 : (b != 0) = true := by simp [hb]
        have HBn := hide hb
        clear hb
        go_wp2_with fail
        go_ret
        exact ⟨ret_bool (by simp [HBn.out]), HBc.out⟩
set_option maxRecDepth 100000 in
set_option maxHeartbeats 4000000 in
theorem formed_sign (k : Nat) (hk : k = 7) (f : Bool) (a b : Int) (mod name cn : ByteArray) (params cells result : Int) (pa : Option Addr) (n c : Nat) (w : World) (hm : mod.size ≤ maxLen) (hnm : name.size ≤ maxLen) (t : TypeId) (fr : Nat × Nat) (hg : w.heap[1]? = some (.cells keyRow t fr))
    (hf : ∀ w', Calls Tryz.prog 124 #[.agg #[.int .i64 (k : Int), .int .i64 a, .int .i64 b, .string mod, .string name], .agg #[.string cn, .int .i64 params, .int .i64 cells, .int .i64 result, .slice pa n c]] w' fun e w2 => e = .returned (.bool f) ∧ Gw w' w2) :
    Calls Tryz.prog 108 #[.agg #[.int .i64 (k : Int), .int .i64 a, .int .i64 b, .string mod, .string name], .agg #[.string cn, .int .i64 params, .int .i64 cells, .int .i64 result, .slice pa n c], .agg opsCells] w fun e w' => e = .returned (.bool (f && (decide (b = 0) || false) && (emB mod && emB name))) ∧ Below w.heap.size w w' := by
  have hmix : Tryz.prog.follows .mixedOrders = true := by kernel_rfl
  have hfit : opsCells[k * 5 + 4]? = some (.func (.func 124) #[] #[]) := by
    subst hk; rfl
  have k1 : ¬ (k : Int) < 1 := by omega
  have k17 : ¬ (17 : Int) < k := by omega
  have k18 : (k : Int) < 18 := by omega
  have kn : k < 18 := by omega
  have k13 : ((k : Int) != 13) = true := by simp; omega
  have kq13 : ((k : Int) == 13) = false := by simp; omega
  have kq3 : ((k : Int) == 3) = false := by simp; omega
  obtain ⟨W, hW⟩ : ∃ W, W = ((w.alloc (.cells #[.int .i64 (k : Int), .int .i64 a, .int .i64 b, .string mod, .string name] 139)).alloc (.cells #[.string cn, .int .i64 params, .int .i64 cells, .int .i64 result, .slice pa n c] 86)).alloc (.cells opsCells 182) := ⟨_, rfl⟩
  have bW : Below w.heap.size w W := by rw [hW]; exact (((Below.refl _ _).alloc (Nat.le_refl _) _).alloc (by simp) _).alloc (by simp <;> omega) _
  have x0 : W.heap[w.heap.size]? = some (.cells #[.int .i64 (k : Int), .int .i64 a, .int .i64 b, .string mod, .string name] 139 (0, 0)) := by
    rw [hW, Below.heap_alloc _ _ _ (by simp <;> omega), Below.heap_alloc _ _ _ (by simp)]
    exact Deep.blk_alloc_new w _
  have x1 : W.heap[w.heap.size + 1]? = some (.cells #[.string cn, .int .i64 params, .int .i64 cells, .int .i64 result, .slice pa n c] 86 (0, 0)) := by
    rw [hW, Below.heap_alloc _ _ _ (by simp)]
    have := Deep.blk_alloc_new (w.alloc (.cells #[.int .i64 (k : Int), .int .i64 a, .int .i64 b, .string mod, .string name] 139)) (.cells #[.string cn, .int .i64 params, .int .i64 cells, .int .i64 result, .slice pa n c] 86)
    rwa [World.size_alloc] at this
  have x2 : W.heap[w.heap.size + 2]? = some (.cells opsCells 182 (0, 0)) := by
    rw [hW]
    have := Deep.blk_alloc_new ((w.alloc (.cells #[.int .i64 (k : Int), .int .i64 a, .int .i64 b, .string mod, .string name] 139)).alloc (.cells #[.string cn, .int .i64 params, .int .i64 cells, .int .i64 result, .slice pa n c] 86)) (.cells opsCells 182)
    rwa [World.size_alloc, World.size_alloc] at this
  have z2 : w.heap.size + 2 < W.heap.size := (Array.getElem?_eq_some_iff.1 x2).1
  have HB := hide bW
  have HO : Hid (∀ s : ByteArray, s.size ≤ maxLen → ∀ w1, Below W.heap.size W w1 → Calls Tryz.prog 53 #[.string s] w1 fun e w' => e = .returned (.bool (ownB s)) ∧ Below w1.heap.size w1 w') := hide fun s hs w1 bel =>
    ownName_any s w1 hs t fr (((bW.trans (bel.mono bW.size)).block 1 (Array.getElem?_eq_some_iff.1 hg).1).trans hg)
  have HF : Hid (∀ nd os, Calls Tryz.prog 124 #[.agg #[.int .i64 (k : Int), .int .i64 a, .int .i64 b, .string mod, .string name], .agg #[.string cn, .int .i64 params, .int .i64 cells, .int .i64 result, .slice pa n c]] (Sort.grow (W.drewN nd) os) fun e w' => e = .returned (.bool f) ∧ ∃ p : GrownBy, w' = Sort.grow (W.drewN p.n) p.os) := hide fun nd os =>
    Calls.grown_of ((hf _).mono fun _ _ ⟨a, n, os, hq⟩ => ⟨a, n, os, hq⟩)
  have HH : Hid (∀ w', Calls Tryz.prog 132 #[.agg #[.int .i64 (k : Int), .int .i64 a, .int .i64 b, .string mod, .string name]] w' fun e w2 => e = .returned (.bool false) ∧ Gw w' w2) := hide fun w' => by
    go_enter Tryz.func132, Tryz.ntmps132
    go_wp2
    go_ret
    exact ⟨rfl, Gw.one _ _⟩
  have C0 := (heapCells x0).1 0
  have C1 := (heapCells x0).1 1
  have C2 := (heapCells x0).1 2
  have C3 := (heapCells x0).1 3
  have C4 := (heapCells x0).1 4
  have D0 := (heapCells x1).1 0
  have D1 := (heapCells x1).1 1
  have D2 := (heapCells x1).1 2
  have D3 := (heapCells x1).1 3
  have D4 := (heapCells x1).1 4
  have E4 := ((heapCells x2).1 (k * 5 + 4)).trans hfit
  simp only [List.getElem?_toArray, List.getElem?_cons_zero, List.getElem?_cons_succ] at C0 C1 C2 C3 C4 D0 D1 D2 D3 D4
  have c0 := fun n os => cell_grown (w := W) (a := ⟨w.heap.size, 0, none⟩) (by show w.heap.size < W.heap.size; omega) C0 n os
  have c1 := fun n os => cell_grown (w := W) (a := ⟨w.heap.size, 1, none⟩) (by show w.heap.size < W.heap.size; omega) C1 n os
  have c2 := fun n os => cell_grown (w := W) (a := ⟨w.heap.size, 2, none⟩) (by show w.heap.size < W.heap.size; omega) C2 n os
  have c3 := fun n os => cell_grown (w := W) (a := ⟨w.heap.size, 3, none⟩) (by show w.heap.size < W.heap.size; omega) C3 n os
  have c4 := fun n os => cell_grown (w := W) (a := ⟨w.heap.size, 4, none⟩) (by show w.heap.size < W.heap.size; omega) C4 n os
  have d0 := fun n os => cell_grown (w := W) (a := ⟨w.heap.size + 1, 0, none⟩) (by show w.heap.size + 1 < W.heap.size; omega) D0 n os
  have d1 := fun n os => cell_grown (w := W) (a := ⟨w.heap.size + 1, 1, none⟩) (by show w.heap.size + 1 < W.heap.size; omega) D1 n os
  have d2 := fun n os => cell_grown (w := W) (a := ⟨w.heap.size + 1, 2, none⟩) (by show w.heap.size + 1 < W.heap.size; omega) D2 n os
  have d3 := fun n os => cell_grown (w := W) (a := ⟨w.heap.size + 1, 3, none⟩) (by show w.heap.size + 1 < W.heap.size; omega) D3 n os
  have d4 := fun n os => cell_grown (w := W) (a := ⟨w.heap.size + 1, 4, none⟩) (by show w.heap.size + 1 < W.heap.size; omega) D4 n os
  have e4 := fun n os => cell_grown (w := W) (a := ⟨w.heap.size + 2, k * 5 + 4, none⟩) z2 E4 n os
  clear hf hg hfit x0 x1 x2 bW C0 C1 C2 C3 C4 D0 D1 D2 D3 D4 E4 hk
  go_enter Tryz.func108, Tryz.ntmps108
  go_upto_region 1 with fail
  rw [← hW]
  clear hW
  go_cut [25] from 7 to 25 (fun v wc => v = .bool (!f) ∧ Hid (Gw W wc))
  case first =>
    cases f
    all_goals
      refine wp_region_quiet_grown (by assumption) (by kernel_rfl) ?_
      repeat (first | go_big_quiet_skip | quiet_step (first | (go_at_call 124; exact HF.out _ _)))
      refine wpQuiet_nil ?_
      intro _ hw'
      obtain ⟨⟨nq, osq⟩, hw''⟩ := hw'
      subst hw''
      go_wp2_with fail
      go_meet
      case rel => exact ⟨rfl, hide ⟨nq, osq, rfl⟩⟩
  case rest =>
    obtain ⟨rfl, HG⟩ := hcut
    have hgw := HG.out.below
    have m0 := (hgw.cell (p := ⟨w.heap.size, 0, none⟩) (by show w.heap.size < W.heap.size; omega)).trans (by simpa using c0 0 #[])
    have m1 := (hgw.cell (p := ⟨w.heap.size, 1, none⟩) (by show w.heap.size < W.heap.size; omega)).trans (by simpa using c1 0 #[])
    have m2 := (hgw.cell (p := ⟨w.heap.size, 2, none⟩) (by show w.heap.size < W.heap.size; omega)).trans (by simpa using c2 0 #[])
    have m3 := (hgw.cell (p := ⟨w.heap.size, 3, none⟩) (by show w.heap.size < W.heap.size; omega)).trans (by simpa using c3 0 #[])
    have m4 := (hgw.cell (p := ⟨w.heap.size, 4, none⟩) (by show w.heap.size < W.heap.size; omega)).trans (by simpa using c4 0 #[])
    have HBc := hide (HB.out.trans (hgw.mono HB.out.size))
    have hz : w.heap.size < wc.heap.size := Nat.lt_of_lt_of_le (show w.heap.size < W.heap.size by omega) hgw.size
    have HOc : Hid (∀ s : ByteArray, s.size ≤ maxLen → ∀ w1, Below wc.heap.size wc w1 → Calls Tryz.prog 53 #[.string s] w1 fun e w' => e = .returned (.bool (ownB s)) ∧ Below w1.heap.size w1 w') := hide fun s hs w1 bel => HO.out s hs w1 (hgw.trans (bel.mono hgw.size))
    have HM := hide hm
    have HNm := hide hnm
    clear c0 c1 c2 c3 c4 d0 d1 d2 d3 d4 e4 hgw HG HB HO HF hm hnm z2
    cases f with
    | false =>
      go_wp2_with fail
      go_ret
      exact ⟨rfl, HBc.out⟩
    | true =>
      by_cases hb : b = 0
      · subst hb
        cases em : (mod.toList == []) <;> cases en : (name.toList == [])
        all_goals
          have HE1 := hide em
          have HE2 := hide en
          go_wp2_with (go_at_call 132; refine (HH.out _).mono ?_; rintro e w5 ⟨rfl, gr⟩; have b5 := gr.below; have n3 := (b5.cell (p := ⟨w.heap.size, 3, none⟩) hz).trans m3; have n4 := (b5.cell (p := ⟨w.heap.size, 4, none⟩) hz).trans m4; have HB5 := hide (HBc.out.trans (b5.mono HBc.out.size)))
          go_ret
          exact ⟨ret_bool (by simp [emB, HE1.out, HE2.out]), HB5.out⟩
      · have hb0 : (b != 0) = true := by simp [hb]
        have HBn := hide hb
        clear hb
        go_wp2_with fail
        go_ret
        exact ⟨ret_bool (by simp [HBn.out]), HBc.out⟩
end Go.Proofs.YtfbglokjehmgeaaGreatDoor
