/- The program puts numbers for names in a code. No condition. -/
import Derived.Test.YtfbglokjehmgeaaGreatDoorZLnC
namespace Go.Proofs.YtfbglokjehmgeaaGreatDoor
open Go.ChangeShapes Go.WideShapes Go.ChangeAt Go.RowKit Go.Deep

/-- An instruction, numbers for names, by the maps. -/
def insP (C P : ML PK) (y : InsD) : InsD := if y.op = 3 then ⟨1, (pM.get C (y.mod, y.name)).getD 0, 0, ⟨#[]⟩, ⟨#[]⟩⟩ else if y.op = 13 then ⟨13, (pM.get P (y.mod, y.name)).getD 0, y.b, ⟨#[]⟩, ⟨#[]⟩⟩ else y
/-- What stands while numbers are put. -/
def CI (w : World) (f : InsD → InsD) (X : Array Value) (g n cap : Nat) (cl : List InsD) (j : Nat) (wr : World) : Prop :=
  wr.heap[w.heap.size]? = some (.cells X 86 (0, 0)) ∧ wr.heap[w.heap.size + 1]? = some (.cells #[.string ⟨#[]⟩, .int .i64 0, .int .i64 0, .int .i64 0, .slice none 0 0] 86 (0, 0)) ∧ FRow insK wr (w.heap.size + 2) (.slice (some ⟨g, 0, none⟩) n cap) ((cl.take j).map f ++ cl.drop j) ∧ Below w.heap.size w wr
theorem CI.below {w wr w' : World} {f : InsD → InsD} {X : Array Value} {g n cap : Nat} {cl : List InsD} {j : Nat} (h : CI w f X g n cap cl j wr) (bel : Below wr.heap.size wr w') : CI w f X g n cap cl j w' := by
  obtain ⟨h1, h2, h3, h4⟩ := h
  exact ⟨(bel.block _ (Array.getElem?_eq_some_iff.1 h1).1).trans h1, (bel.block _ (Array.getElem?_eq_some_iff.1 h2).1).trans h2, h3.on bel, h4.trans (bel.mono h4.size)⟩
theorem CI.keep {w wr : World} {f : InsD → InsD} {X : Array Value} {g n cap : Nat} {cl : List InsD} {j : Nat} (h : CI w f X g n cap cl j wr) (hj : j < cl.length) (hf : f cl[j] = cl[j]) : CI w f X g n cap cl (j + 1) wr := by
  obtain ⟨h1, h2, h3, h4⟩ := h
  rw [resX_keep hj hf] at h3
  exact ⟨h1, h2, h3, h4⟩
theorem CI.store {w wr : World} {f : InsD → InsD} {X : Array Value} {g n cap : Nat} {cl : List InsD} {j : Nat} (h : CI w f X g n cap cl j wr) (hj : j < cl.length) : CI w f X g n cap cl (j + 1) (setRow wr g (j * 5) (insK.cs (f cl[j]))) := by
  obtain ⟨h1, h2, h3, h4⟩ := h
  obtain ⟨hj2, -⟩ := resX_at (f := f) hj
  have hset := h3.setAt insOk hj2 (f cl[j])
  rw [resX_set hj] at hset
  have hgw := (h3.lt (k := g) rfl).1
  have hoth : ∀ k, k ≠ g → (setRow wr g (j * 5) (insK.cs (f cl[j]))).heap[k]? = wr.heap[k]? := fun k hk => setRow_other _ _ _ _ _ hk
  exact ⟨(hoth _ (by omega)).trans h1, (hoth _ (by omega)).trans h2, hset, setRow_below _ h4 (by omega)⟩
set_option maxRecDepth 100000 in
set_option maxHeartbeats 8000000 in
theorem code_any (b b2 b3 h : Nat) (C P : ML PK) (c : CV) (w : World) (hF : FS w b b2 b3 C P) (hh : h ≤ w.heap.size) (hc : CVal w h c) (hn : c.1.name.size ≤ 1000) (hl : c.1.list.length ≤ 100000) (h0 : 0 < c.1.list.length) :
    Calls Tryz.prog 68 #[.pointer (some ⟨b, 0, none⟩), .agg #[.string c.1.name, .int .i64 c.1.params, .int .i64 c.1.cells, .int .i64 c.1.result, c.2]] w fun e w' => (∃ g cap, e = .returned (.agg #[.string c.1.name, .int .i64 c.1.params, .int .i64 c.1.cells, .int .i64 c.1.result, .slice (some ⟨g, 0, none⟩) c.1.list.length cap]) ∧ Hid (FRow insK w' w.heap.size (.slice (some ⟨g, 0, none⟩) c.1.list.length cap) (c.1.list.map (insP C P)))) ∧ Below w.heap.size w w' := by
  have hmix : Tryz.prog.follows .mixedOrders = true := by kernel_rfl
  obtain ⟨⟨cn, cp, cc, cr, cl⟩, u⟩ := c
  obtain ⟨m, hm, hs⟩ := hc
  simp only [] at hn hl h0 hs ⊢
  obtain ⟨a, lc, rfl, hrow⟩ := id hs
  obtain ⟨lb, lo, rfl, r1, r2, -, -⟩ := hrow 0 h0
  obtain ⟨n, hcl⟩ : ∃ n, cl.length = n := ⟨_, rfl⟩
  have HN := hide hcl
  have HF := hide hF
  have HS := hide hs
  rw [hcl] at hl h0 HS ⊢
  obtain ⟨W1, hW1⟩ : ∃ W1, w.alloc (.cells #[.string cn, .int .i64 cp, .int .i64 cc, .int .i64 cr, .slice (some ⟨lb, lo, none⟩) n lc] 86) = W1 := ⟨_, rfl⟩
  obtain ⟨W2, hW2⟩ : ∃ W2, W1.alloc (.cells #[.string ⟨#[]⟩, .int .i64 0, .int .i64 0, .int .i64 0, .slice none 0 0] 86) = W2 := ⟨_, rfl⟩
  have b1 : Below w.heap.size w W1 := by rw [← hW1]; exact (Below.refl _ _).alloc (Nat.le_refl _) _
  have b2' : Below W1.heap.size W1 W2 := by rw [← hW2]; exact (Below.refl _ _).alloc (Nat.le_refl _) _
  have s1 : W1.heap.size = w.heap.size + 1 := by rw [← hW1]; simp
  have x1 := Deep.blk_alloc_new w (.cells #[.string cn, .int .i64 cp, .int .i64 cc, .int .i64 cr, .slice (some ⟨lb, lo, none⟩) n lc] 86)
  rw [hW1] at x1
  have x2 := Deep.blk_alloc_new W1 (.cells #[.string ⟨#[]⟩, .int .i64 0, .int .i64 0, .int .i64 0, .slice none 0 0] 86)
  rw [hW2, s1] at x2
  have y1 := (b2'.block _ (Array.getElem?_eq_some_iff.1 x1).1).trans x1
  have s2 : W2.heap.size = w.heap.size + 2 := by rw [← hW2]; simp; omega
  have HB2 := hide (b1.trans (b2'.mono b1.size))
  have HX1 := hide y1
  have HX2 := hide x2
  have HS2 := hide s2
  have HW1 := hide hW1
  have HW2 := hide hW2
  have q0 : W2.cell? ⟨w.heap.size, 0, none⟩ = some (.string cn) := (heapCells y1).1 0
  have f0 := (heapCells y1).2 0
  have HCn := hide (fun w' => strClone_any cn w' (by omega))
  clear hrow hcl hF hs hn b1 b2' x1 x2 y1 s1 s2 hW1 hW2
  go_enter Tryz.func68, Tryz.ntmps68
  go_upto_region 1 with fail
  rw [HW1.out, HW2.out]
  go_upto_region 2 with (go_at_call 24; refine (HCn.out _).mono ?_; rintro e w3 ⟨rfl, b3'⟩; have hb3 := hide b3'; have f0 := (hb3.out.frozen (p := ⟨w.heap.size, 0, none⟩) (by show w.heap.size < W2.heap.size; have := HS2.out; omega)).trans f0; have q0 := (hb3.out.cell (p := ⟨w.heap.size, 0, none⟩) (by show w.heap.size < W2.heap.size; have := HS2.out; omega)).trans q0; clear b3')
  obtain ⟨W4, hW4⟩ : ∃ W4, w3.setCell ⟨w.heap.size, 0, none⟩ (.string cn) = W4 := ⟨_, rfl⟩
  have hx3 := (hb3.out.block _ (Array.getElem?_eq_some_iff.1 HX1.out).1).trans HX1.out
  have hr3 := (hb3.out.block _ (Array.getElem?_eq_some_iff.1 HX2.out).1).trans HX2.out
  have hx4 : W4.heap[w.heap.size]? = some (.cells #[.string cn, .int .i64 cp, .int .i64 cc, .int .i64 cr, .slice (some ⟨lb, lo, none⟩) n lc] 86 (0, 0)) := by rw [← hW4]; exact block_set hx3 _
  have hr4 : W4.heap[w.heap.size + 1]? = some (.cells #[.string ⟨#[]⟩, .int .i64 0, .int .i64 0, .int .i64 0, .slice none 0 0] 86 (0, 0)) := by
    rw [← hW4]
    exact (Below.heap_setCell _ _ _ _ (by show w.heap.size + 1 ≠ w.heap.size; omega)).trans hr3
  have hb4 : Below w.heap.size w W4 := by
    rw [← hW4]
    exact (HB2.out.trans (hb3.out.mono HB2.out.size)).setCell (p := ⟨w.heap.size, 0, none⟩) (Nat.le_refl _) _
  have hs4 : w.heap.size + 2 ≤ W4.heap.size := by
    have h1 := hb3.out.size
    have h2 := HS2.out
    rw [← hW4]
    simp only [World.setCell, Array.size_modify]
    omega
  rw [hW4]
  have q4 : W4.cell? ⟨w.heap.size, 4, none⟩ = some (.slice (some ⟨lb, lo, none⟩) n lc) := (heapCells hx4).1 4
  have f4 := (heapCells hx4).2 4
  have HX4 := hide hx4
  have HR4 := hide hr4
  have HB4 := hide hb4
  have HCl := hide (cloneIns_any m lb lo n lc cl W4 HN.out (by omega) (HS.out.on InsAt.stays (hb4.mono (Nat.le_trans hm hh))) h0)
  clear hW4 hx3 hr3 hx4 hr4 hb4 q0 f0
  go_upto_region 3 with (go_at_call 94; refine HCl.out.mono ?_; rintro e w5 ⟨⟨g, cap, rfl, HG⟩, b5⟩; have hb5 := hide b5; have f4 := (hb5.out.frozen (p := ⟨w.heap.size, 4, none⟩) (by show w.heap.size < W4.heap.size; omega)).trans f4; have q4 := (hb5.out.cell (p := ⟨w.heap.size, 4, none⟩) (by show w.heap.size < W4.heap.size; omega)).trans q4; clear b5)
  obtain ⟨W6, hW6⟩ : ∃ W6, w5.setCell ⟨w.heap.size, 4, none⟩ (.slice (some ⟨g, 0, none⟩) n cap) = W6 := ⟨_, rfl⟩
  have hx5 := (hb5.out.block _ (Array.getElem?_eq_some_iff.1 HX4.out).1).trans HX4.out
  have hr5 := (hb5.out.block _ (Array.getElem?_eq_some_iff.1 HR4.out).1).trans HR4.out
  have hgw := (HG.out.lt (k := g) rfl).1
  have hCI : CI w (insP C P) #[.string cn, .int .i64 cp, .int .i64 cc, .int .i64 cr, .slice (some ⟨g, 0, none⟩) n cap] g n cap cl 0 W6 := by
    refine ⟨?_, ?_, ?_, ?_⟩
    · rw [← hW6]; exact block_set hx5 _
    · rw [← hW6]; exact (Below.heap_setCell _ _ _ _ (by show w.heap.size + 1 ≠ w.heap.size; omega)).trans hr5
    · rw [← hW6, List.take_zero, List.drop_zero]
      exact (HG.out.set_far (by omega) _ _).le hs4
    · rw [← hW6]
      exact (HB4.out.trans (hb5.out.mono HB4.out.size)).setCell (p := ⟨w.heap.size, 4, none⟩) (Nat.le_refl _) _
  have z4 : W6.cell? ⟨w.heap.size, 4, none⟩ = some (.slice (some ⟨g, 0, none⟩) n cap) := (heapCells hCI.1).1 4
  have HCI := hide hCI
  rw [hW6]
  clear hx5 hr5 hCI hW6 q4 f4 HG
  go_upto_region 4 with fail
  clear z4
  go_loopw [18] (fun iv wr => ∃ j : Nat, iv = .int .i64 j ∧ j ≤ n ∧ Hid (CI w (insP C P) #[.string cn, .int .i64 cp, .int .i64 cc, .int .i64 cr, .slice (some ⟨g, 0, none⟩) n cap] g n cap cl j wr)) (fun iv _ => n - (intOf iv).toNat)
  case atStart => exact ⟨0, rfl, by omega, HCI⟩
  case round =>
    obtain ⟨j, rfl, hj, Hj⟩ := hrel
    by_cases hq : j < n
    · have i1 : (j : Int) < n := by omega
      have hjc : j < cl.length := by rw [HN.out]; exact hq
      obtain ⟨⟨z0, z1, z2, z3, z4r⟩, -, -, -, -, hcap⟩ := Hj.out.2.2.1.at5 (resX_at (f := insP C P) hjc).1 (resX_at (f := insP C P) hjc).2
      rw [resX_len (by omega), HN.out] at hcap
      obtain ⟨⟨io, ia, ib, im, iname⟩, hy⟩ : ∃ y, cl[j] = y := ⟨_, rfl⟩
      have HY := hide hy
      rw [hy] at z0 z1 z2 z3 z4r
      simp only [] at z0 z1 z2 z3 z4r
      have hszr : w.heap.size < wr.heap.size := (Array.getElem?_eq_some_iff.1 Hj.out.1).1
      obtain ⟨W7, hW7⟩ : ∃ W7, wr.alloc (.cells #[.int .i64 io, .int .i64 ia, .int .i64 ib, .string im, .string iname] 139) = W7 := ⟨_, rfl⟩
      have b7 : Below wr.heap.size wr W7 := by rw [← hW7]; exact (Below.refl _ _).alloc (Nat.le_refl _) _
      have x7 := Deep.blk_alloc_new wr (.cells #[.int .i64 io, .int .i64 ia, .int .i64 ib, .string im, .string iname] 139)
      rw [hW7] at x7
      have HI7 := hide (Hj.out.below b7)
      have HF7 := hide ((HF.out.on Hj.out.2.2.2).on b7)
      have HW7 := hide hW7
      have hwW : wr.heap.size < W7.heap.size := (Array.getElem?_eq_some_iff.1 x7).1
      have hbW : b < W7.heap.size := block_lt HF7.out.c5
      have hxW : w.heap.size < W7.heap.size := by omega
      have k0 : W7.cell? ⟨wr.heap.size, 0, none⟩ = some (.int .i64 io) := (heapCells x7).1 0
      have k1 : W7.cell? ⟨wr.heap.size, 1, none⟩ = some (.int .i64 ia) := (heapCells x7).1 1
      have k2 : W7.cell? ⟨wr.heap.size, 2, none⟩ = some (.int .i64 ib) := (heapCells x7).1 2
      have k3 : W7.cell? ⟨wr.heap.size, 3, none⟩ = some (.string im) := (heapCells x7).1 3
      have k4 : W7.cell? ⟨wr.heap.size, 4, none⟩ = some (.string iname) := (heapCells x7).1 4
      have z4 : W7.cell? ⟨w.heap.size, 4, none⟩ = some (.slice (some ⟨g, 0, none⟩) n cap) := (heapCells HI7.out.1).1 4
      have HNm : Hid (∀ w', Calls Tryz.prog 90 #[.agg #[.int .i64 io, .int .i64 ia, .int .i64 ib, .string im, .string iname]] w' fun e w2 => e = .returned (.agg #[.string im, .string iname]) ∧ Below w'.heap.size w' w2) := hide fun w' => named_any io ia ib im iname w'
      clear hy hW7 x7 b7
      go_upto_region 6 with fail
      rw [HW7.out]
      clear z0 z1 z2 z3 z4r
      by_cases h3 : io = 3
      · subst h3
        have q5 := HF7.out.c5
        have q6 := HF7.out.c6
        have hmW : b2 < W7.heap.size := HF7.out.C.lt
        obtain ⟨iv, hiv⟩ : ∃ iv, (pM.get C (im, iname)).getD 0 = iv := ⟨_, rfl⟩
        have HIv := hide hiv
        have HLk : Hid (∀ w' : World, w'.heap[b2]? = W7.heap[b2]? → (Instr.lookup 104 (.map (some b2)) (.agg #[.string im, .string iname]) false).run Tryz.prog w' = .ok (.int .i64 iv) w') := hide fun w' hw => by
          have := GM.look1 pM_ok (HF7.out.C.on hw) (im, iname)
          rw [hiv] at this
          exact this
        clear hiv
        go_upto_region 8 with fail
        refine wp_region_z (S := fun w' => ∀ k, k < W7.heap.size → w'.heap[k]? = W7.heap[k]?) 12 hmix (fun k _ => rfl) (fun hHeld => ?_)
        refine wpAnyZ_take (i := 0) (v := ?_) rfl (by kernel_rfl) (by kernel_rfl) (by kernel_rfl) (by kernel_rfl) (fun _ _ _ h => h) (by rfl) ?_ hHeld ?_
        rotate_left
        · intro wS hSw
          go_simp
          rfl
        simp only [Act.put, List.setIfInBounds_toArray, List.set_cons_zero, List.set_cons_succ, List.getElem_toArray, List.getElem_cons_zero]
        refine wpAnyZ_take (i := 1) (v := ?_) rfl (by kernel_rfl) (by kernel_rfl) (by kernel_rfl) (by kernel_rfl) (fun _ _ _ h => h) (by rfl) ?_ hHeld ?_
        rotate_left
        · intro wS hSw
          have s0 := (World.cell?_of_block (hSw w.heap.size hxW)).trans z4
          go_simp
          rfl
        simp only [Act.put, List.setIfInBounds_toArray, List.set_cons_zero, List.set_cons_succ, List.getElem_toArray, List.getElem_cons_zero, List.getElem_cons_succ]
        refine wpAnyZ_take (i := 2) (v := ?_) rfl (by kernel_rfl) (by kernel_rfl) (by kernel_rfl) (by kernel_rfl) (fun _ _ _ h => h) (by rfl) ?_ hHeld ?_
        rotate_left
        · intro wS hSw
          go_simp
          rfl
        simp only [Act.put, List.setIfInBounds_toArray, List.set_cons_zero, List.set_cons_succ, List.getElem_toArray, List.getElem_cons_zero, List.getElem_cons_succ]
        refine wpAnyZ_take (i := 3) (v := ?_) rfl (by kernel_rfl) (by kernel_rfl) (by kernel_rfl) (by kernel_rfl) (fun _ _ _ h => h) (by rfl) ?_ hHeld ?_
        rotate_left
        · intro wS hSw
          go_simp
          rfl
        simp only [Act.put, List.setIfInBounds_toArray, List.set_cons_zero, List.set_cons_succ, List.getElem_toArray, List.getElem_cons_zero, List.getElem_cons_succ]
        refine wpAnyZ_take (i := 4) (v := ?_) rfl (by kernel_rfl) (by kernel_rfl) (by kernel_rfl) (by kernel_rfl) (fun _ _ _ h => h) (by rfl) ?_ hHeld ?_
        rotate_left
        · intro wS hSw
          go_simp
          rfl
        simp only [Act.put, List.setIfInBounds_toArray, List.set_cons_zero, List.set_cons_succ, List.getElem_toArray, List.getElem_cons_zero, List.getElem_cons_succ]
        refine wpAnyZ_take (i := 5) (v := ?_) rfl (by kernel_rfl) (by kernel_rfl) (by kernel_rfl) (by kernel_rfl) (fun _ _ _ h => h) (by rfl) ?_ hHeld ?_
        rotate_left
        · intro wS hSw
          go_simp
          rfl
        simp only [Act.put, List.setIfInBounds_toArray, List.set_cons_zero, List.set_cons_succ, List.getElem_toArray, List.getElem_cons_zero, List.getElem_cons_succ]
        refine wpAnyZ_take (i := 6) (v := ?_) rfl (by kernel_rfl) (by kernel_rfl) (by kernel_rfl) (by kernel_rfl) (fun _ _ _ h => h) (by rfl) ?_ hHeld ?_
        rotate_left
        · intro wS hSw
          have s0 := (World.cell?_of_block (hSw b hbW)).trans q5
          go_simp
          rfl
        simp only [Act.put, List.setIfInBounds_toArray, List.set_cons_zero, List.set_cons_succ, List.getElem_toArray, List.getElem_cons_zero, List.getElem_cons_succ]
        refine wpAnyZ_take (i := 7) (v := ?_) rfl (by kernel_rfl) (by kernel_rfl) (by kernel_rfl) (by kernel_rfl) (fun _ _ _ h => h) (by rfl) ?_ hHeld ?_
        rotate_left
        · intro wS hSw
          have s0 := (World.cell?_of_block (hSw wr.heap.size hwW)).trans k0; have s1 := (World.cell?_of_block (hSw wr.heap.size hwW)).trans k1; have s2 := (World.cell?_of_block (hSw wr.heap.size hwW)).trans k2; have s3 := (World.cell?_of_block (hSw wr.heap.size hwW)).trans k3; have s4 := (World.cell?_of_block (hSw wr.heap.size hwW)).trans k4
          go_simp
          rfl
        simp only [Act.put, List.setIfInBounds_toArray, List.set_cons_zero, List.set_cons_succ, List.getElem_toArray, List.getElem_cons_zero, List.getElem_cons_succ]
        refine wpAnyZ_one (i := 8) (by kernel_rfl) rfl (fun K hK => ?_)
        go_simp
        go_at_call 90
        refine (HNm.out W7.drew).mono ?_
        rintro e w8 ⟨rfl, b8⟩
        have HB8 := hide (show Below W7.heap.size W7 w8 from (Below.refl _ _).drew.trans b8)
        refine hK.out _ _ (fun k hk => HB8.out.block k hk) (fun hHeld => ?_)
        clear hK K b8
        try simp only [Act.put, List.setIfInBounds_toArray, List.set_cons_zero, List.set_cons_succ]
        refine wpAnyZ_take (i := 9) (v := .int .i64 iv) rfl (by kernel_rfl) (by kernel_rfl) (by kernel_rfl) (by kernel_rfl) (fun _ _ _ h => h) (by rfl) ?_ hHeld ?_
        · intro wS hSw
          have hlk := HLk.out wS (hSw _ hmW)
          go_simp
          all_goals simp [*]
        simp only [Act.put, List.setIfInBounds_toArray, List.set_cons_zero, List.set_cons_succ, List.getElem_toArray, List.getElem_cons_zero, List.getElem_cons_succ]
        refine wpAnyZ_take (i := 10) (v := ?_) rfl (by kernel_rfl) (by kernel_rfl) (by kernel_rfl) (by kernel_rfl) (fun _ _ _ h => h) (by rfl) ?_ hHeld ?_
        rotate_left
        · intro wS hSw
          go_simp
          rfl
        simp only [Act.put, List.setIfInBounds_toArray, List.set_cons_zero, List.set_cons_succ, List.getElem_toArray, List.getElem_cons_zero, List.getElem_cons_succ]
        refine wpAnyZ_take (i := 11) (v := ?_) rfl (by kernel_rfl) (by kernel_rfl) (by kernel_rfl) (by kernel_rfl) (fun _ _ _ h => h) (by rfl) ?_ hHeld ?_
        rotate_left
        · intro wS hSw
          go_simp
          rfl
        simp only [Act.put, List.setIfInBounds_toArray, List.set_cons_zero, List.set_cons_succ, List.getElem_toArray, List.getElem_cons_zero, List.getElem_cons_succ]
        have HI8 := hide (HI7.out.below HB8.out)
        have hst := HI8.out.store hjc
        rw [HY.out, show insK.cs (insP C P ⟨3, ia, ib, im, iname⟩) = [.int .i64 1, .int .i64 iv, .int .i64 0, .string ⟨#[]⟩, .string ⟨#[]⟩] by unfold insP; rw [if_pos rfl, HIv.out]; rfl] at hst
        have HSt := hide hst
        obtain ⟨⟨z0', z1', z2', z3', z4'⟩, zf, -⟩ := HI8.out.2.2.1.at5 (resX_at (f := insP C P) hjc).1 (resX_at (f := insP C P) hjc).2
        have zf0 := zf (j * 5)
        have zf1 := zf (j * 5 + 1)
        have zf2 := zf (j * 5 + 2)
        have zf3 := zf (j * 5 + 3)
        have zf4 := zf (j * 5 + 4)
        clear hst zf hHeld
        refine wpAnyZ_last (by kernel_rfl) rfl (by kernel_rfl) (fun K hK => ?_)
        go_simp
        refine hK.out _ _ ?_
        clear hK K z0' z1' z2' z3' z4' zf0 zf1 zf2 zf3 zf4
        go_wp2
        go_roundw
        case rel => exact ⟨j + 1, by go_num, by omega, HSt⟩
        case measure => simp [intOf]; omega
      · by_cases h13 : io = 13
        · subst h13
          have q5 := HF7.out.c5
          have q6 := HF7.out.c6
          have hmW : b3 < W7.heap.size := HF7.out.P.lt
          obtain ⟨iv, hiv⟩ : ∃ iv, (pM.get P (im, iname)).getD 0 = iv := ⟨_, rfl⟩
          have HIv := hide hiv
          have HLk : Hid (∀ w' : World, w'.heap[b3]? = W7.heap[b3]? → (Instr.lookup 104 (.map (some b3)) (.agg #[.string im, .string iname]) false).run Tryz.prog w' = .ok (.int .i64 iv) w') := hide fun w' hw => by
            have := GM.look1 pM_ok (HF7.out.P.on hw) (im, iname)
            rw [hiv] at this
            exact this
          clear hiv
          go_upto_region 10 with fail
          refine wp_region_z (S := fun w' => ∀ k, k < W7.heap.size → w'.heap[k]? = W7.heap[k]?) 14 hmix (fun k _ => rfl) (fun hHeld => ?_)
          refine wpAnyZ_take (i := 0) (v := ?_) rfl (by kernel_rfl) (by kernel_rfl) (by kernel_rfl) (by kernel_rfl) (fun _ _ _ h => h) (by rfl) ?_ hHeld ?_
          rotate_left
          · intro wS hSw
            go_simp
            rfl
          simp only [Act.put, List.setIfInBounds_toArray, List.set_cons_zero, List.set_cons_succ, List.getElem_toArray, List.getElem_cons_zero]
          refine wpAnyZ_take (i := 1) (v := ?_) rfl (by kernel_rfl) (by kernel_rfl) (by kernel_rfl) (by kernel_rfl) (fun _ _ _ h => h) (by rfl) ?_ hHeld ?_
          rotate_left
          · intro wS hSw
            have s0 := (World.cell?_of_block (hSw w.heap.size hxW)).trans z4
            go_simp
            rfl
          simp only [Act.put, List.setIfInBounds_toArray, List.set_cons_zero, List.set_cons_succ, List.getElem_toArray, List.getElem_cons_zero, List.getElem_cons_succ]
          refine wpAnyZ_take (i := 2) (v := ?_) rfl (by kernel_rfl) (by kernel_rfl) (by kernel_rfl) (by kernel_rfl) (fun _ _ _ h => h) (by rfl) ?_ hHeld ?_
          rotate_left
          · intro wS hSw
            go_simp
            rfl
          simp only [Act.put, List.setIfInBounds_toArray, List.set_cons_zero, List.set_cons_succ, List.getElem_toArray, List.getElem_cons_zero, List.getElem_cons_succ]
          refine wpAnyZ_take (i := 3) (v := ?_) rfl (by kernel_rfl) (by kernel_rfl) (by kernel_rfl) (by kernel_rfl) (fun _ _ _ h => h) (by rfl) ?_ hHeld ?_
          rotate_left
          · intro wS hSw
            go_simp
            rfl
          simp only [Act.put, List.setIfInBounds_toArray, List.set_cons_zero, List.set_cons_succ, List.getElem_toArray, List.getElem_cons_zero, List.getElem_cons_succ]
          refine wpAnyZ_take (i := 4) (v := ?_) rfl (by kernel_rfl) (by kernel_rfl) (by kernel_rfl) (by kernel_rfl) (fun _ _ _ h => h) (by rfl) ?_ hHeld ?_
          rotate_left
          · intro wS hSw
            go_simp
            rfl
          simp only [Act.put, List.setIfInBounds_toArray, List.set_cons_zero, List.set_cons_succ, List.getElem_toArray, List.getElem_cons_zero, List.getElem_cons_succ]
          refine wpAnyZ_take (i := 5) (v := ?_) rfl (by kernel_rfl) (by kernel_rfl) (by kernel_rfl) (by kernel_rfl) (fun _ _ _ h => h) (by rfl) ?_ hHeld ?_
          rotate_left
          · intro wS hSw
            go_simp
            rfl
          simp only [Act.put, List.setIfInBounds_toArray, List.set_cons_zero, List.set_cons_succ, List.getElem_toArray, List.getElem_cons_zero, List.getElem_cons_succ]
          refine wpAnyZ_take (i := 6) (v := ?_) rfl (by kernel_rfl) (by kernel_rfl) (by kernel_rfl) (by kernel_rfl) (fun _ _ _ h => h) (by rfl) ?_ hHeld ?_
          rotate_left
          · intro wS hSw
            have s0 := (World.cell?_of_block (hSw b hbW)).trans q6
            go_simp
            rfl
          simp only [Act.put, List.setIfInBounds_toArray, List.set_cons_zero, List.set_cons_succ, List.getElem_toArray, List.getElem_cons_zero, List.getElem_cons_succ]
          refine wpAnyZ_take (i := 7) (v := ?_) rfl (by kernel_rfl) (by kernel_rfl) (by kernel_rfl) (by kernel_rfl) (fun _ _ _ h => h) (by rfl) ?_ hHeld ?_
          rotate_left
          · intro wS hSw
            have s0 := (World.cell?_of_block (hSw wr.heap.size hwW)).trans k0; have s1 := (World.cell?_of_block (hSw wr.heap.size hwW)).trans k1; have s2 := (World.cell?_of_block (hSw wr.heap.size hwW)).trans k2; have s3 := (World.cell?_of_block (hSw wr.heap.size hwW)).trans k3; have s4 := (World.cell?_of_block (hSw wr.heap.size hwW)).trans k4
            go_simp
            rfl
          simp only [Act.put, List.setIfInBounds_toArray, List.set_cons_zero, List.set_cons_succ, List.getElem_toArray, List.getElem_cons_zero, List.getElem_cons_succ]
          refine wpAnyZ_take (i := 10) (v := ?_) rfl (by kernel_rfl) (by kernel_rfl) (by kernel_rfl) (by kernel_rfl) (fun _ _ _ h => h) (by rfl) ?_ hHeld ?_
          rotate_left
          · intro wS hSw
            go_simp
            rfl
          simp only [Act.put, List.setIfInBounds_toArray, List.set_cons_zero, List.set_cons_succ, List.getElem_toArray, List.getElem_cons_zero, List.getElem_cons_succ]
          refine wpAnyZ_take (i := 11) (v := ?_) rfl (by kernel_rfl) (by kernel_rfl) (by kernel_rfl) (by kernel_rfl) (fun _ _ _ h => h) (by rfl) ?_ hHeld ?_
          rotate_left
          · intro wS hSw
            have s2 := (World.cell?_of_block (hSw wr.heap.size hwW)).trans k2
            go_simp
            rfl
          simp only [Act.put, List.setIfInBounds_toArray, List.set_cons_zero, List.set_cons_succ, List.getElem_toArray, List.getElem_cons_zero, List.getElem_cons_succ]
          refine wpAnyZ_one (i := 8) (by kernel_rfl) rfl (fun K hK => ?_)
          go_simp
          go_at_call 90
          refine (HNm.out W7.drew).mono ?_
          rintro e w8 ⟨rfl, b8⟩
          have HB8 := hide (show Below W7.heap.size W7 w8 from (Below.refl _ _).drew.trans b8)
          refine hK.out _ _ (fun k hk => HB8.out.block k hk) (fun hHeld => ?_)
          clear hK K b8
          try simp only [Act.put, List.setIfInBounds_toArray, List.set_cons_zero, List.set_cons_succ]
          refine wpAnyZ_take (i := 9) (v := .int .i64 iv) rfl (by kernel_rfl) (by kernel_rfl) (by kernel_rfl) (by kernel_rfl) (fun _ _ _ h => h) (by rfl) ?_ hHeld ?_
          · intro wS hSw
            have hlk := HLk.out wS (hSw _ hmW)
            go_simp
            all_goals simp [*]
          simp only [Act.put, List.setIfInBounds_toArray, List.set_cons_zero, List.set_cons_succ, List.getElem_toArray, List.getElem_cons_zero, List.getElem_cons_succ]
          refine wpAnyZ_take (i := 12) (v := ?_) rfl (by kernel_rfl) (by kernel_rfl) (by kernel_rfl) (by kernel_rfl) (fun _ _ _ h => h) (by rfl) ?_ hHeld ?_
          rotate_left
          · intro wS hSw
            go_simp
            rfl
          simp only [Act.put, List.setIfInBounds_toArray, List.set_cons_zero, List.set_cons_succ, List.getElem_toArray, List.getElem_cons_zero, List.getElem_cons_succ]
          refine wpAnyZ_take (i := 13) (v := ?_) rfl (by kernel_rfl) (by kernel_rfl) (by kernel_rfl) (by kernel_rfl) (fun _ _ _ h => h) (by rfl) ?_ hHeld ?_
          rotate_left
          · intro wS hSw
            go_simp
            rfl
          simp only [Act.put, List.setIfInBounds_toArray, List.set_cons_zero, List.set_cons_succ, List.getElem_toArray, List.getElem_cons_zero, List.getElem_cons_succ]
          have HI8 := hide (HI7.out.below HB8.out)
          have hst := HI8.out.store hjc
          rw [HY.out, show insK.cs (insP C P ⟨13, ia, ib, im, iname⟩) = [.int .i64 13, .int .i64 iv, .int .i64 ib, .string ⟨#[]⟩, .string ⟨#[]⟩] by unfold insP; rw [if_neg (show ¬ (13 : Int) = 3 by decide), if_pos rfl, HIv.out]; rfl] at hst
          have HSt := hide hst
          obtain ⟨⟨z0', z1', z2', z3', z4'⟩, zf, -⟩ := HI8.out.2.2.1.at5 (resX_at (f := insP C P) hjc).1 (resX_at (f := insP C P) hjc).2
          have zf0 := zf (j * 5)
          have zf1 := zf (j * 5 + 1)
          have zf2 := zf (j * 5 + 2)
          have zf3 := zf (j * 5 + 3)
          have zf4 := zf (j * 5 + 4)
          clear hst zf hHeld
          refine wpAnyZ_last (by kernel_rfl) rfl (by kernel_rfl) (fun K hK => ?_)
          go_simp
          refine hK.out _ _ ?_
          clear hK K z0' z1' z2' z3' z4' zf0 zf1 zf2 zf3 zf4
          go_wp2
          go_roundw
          case rel => exact ⟨j + 1, by go_num, by omega, HSt⟩
          case measure => simp [intOf]; omega
        · have HK := hide (HI7.out.keep hjc (by rw [HY.out]; unfold insP; rw [if_neg h3, if_neg h13]))
          go_wp2
          go_roundw
          case rel => exact ⟨j + 1, by go_num, by omega, HK⟩
          case measure => simp [intOf]; omega
    · have i1 : ¬ (j : Int) < n := by omega
      obtain rfl : j = n := by omega
      obtain ⟨e1, e2, e3, e4⟩ := Hj.out
      have c0 : wr.cell? ⟨w.heap.size, 0, none⟩ = some (.string cn) := (heapCells e1).1 0
      have c1 : wr.cell? ⟨w.heap.size, 1, none⟩ = some (.int .i64 cp) := (heapCells e1).1 1
      have c2 : wr.cell? ⟨w.heap.size, 2, none⟩ = some (.int .i64 cc) := (heapCells e1).1 2
      have c3 : wr.cell? ⟨w.heap.size, 3, none⟩ = some (.int .i64 cr) := (heapCells e1).1 3
      have c4 : wr.cell? ⟨w.heap.size, 4, none⟩ = some (.slice (some ⟨g, 0, none⟩) j cap) := (heapCells e1).1 4
      have d0 := (heapCells e2).1 0
      have d1 := (heapCells e2).1 1
      have d2 := (heapCells e2).1 2
      have d3 := (heapCells e2).1 3
      have d4 := (heapCells e2).1 4
      have g0 := (heapCells e2).2 0
      have g1 := (heapCells e2).2 1
      have g2 := (heapCells e2).2 2
      have g3 := (heapCells e2).2 3
      have g4 := (heapCells e2).2 4
      have hx9 : (setRow wr (w.heap.size + 1) 0 [.string cn, .int .i64 cp, .int .i64 cc, .int .i64 cr, .slice (some ⟨g, 0, none⟩) j cap]).heap[w.heap.size + 1]? = some (.cells #[.string cn, .int .i64 cp, .int .i64 cc, .int .i64 cr, .slice (some ⟨g, 0, none⟩) j cap] 86 (0, 0)) := setRow_heap _ e2
      have hgw := (e3.lt (k := g) rfl).1
      have hrow9 : FRow insK (setRow wr (w.heap.size + 1) 0 [.string cn, .int .i64 cp, .int .i64 cc, .int .i64 cr, .slice (some ⟨g, 0, none⟩) j cap]) w.heap.size (.slice (some ⟨g, 0, none⟩) j cap) (cl.map (insP C P)) := by
        have h := e3.of_heap (w' := setRow wr (w.heap.size + 1) 0 [.string cn, .int .i64 cp, .int .i64 cc, .int .i64 cr, .slice (some ⟨g, 0, none⟩) j cap]) fun k hk _ _ => setRow_other _ _ _ _ _ (by omega)
        rw [List.take_of_length_le (by rw [HN.out]; exact Nat.le_refl _), List.drop_of_length_le (by rw [HN.out]; exact Nat.le_refl _), List.append_nil] at h
        exact h.le (by omega)
      have hb9 : Below w.heap.size w (setRow wr (w.heap.size + 1) 0 [.string cn, .int .i64 cp, .int .i64 cc, .int .i64 cr, .slice (some ⟨g, 0, none⟩) j cap]) := setRow_below _ e4 (by omega)
      have HX9 := hide hx9
      have HR9 := hide hrow9
      have HB9 := hide hb9
      clear hx9 hrow9 hb9 e1 e2 e3 e4
      go_wp2
      change bodyPost _ _ _ _ _ (setRow wr (w.heap.size + 1) 0 [.string cn, .int .i64 cp, .int .i64 cc, .int .i64 cr, .slice (some ⟨g, 0, none⟩) j cap])
      clear c0 c1 c2 c3 c4 d0 d1 d2 d3 d4 g0 g1 g2 g3 g4
      generalize setRow wr (w.heap.size + 1) 0 [.string cn, .int .i64 cp, .int .i64 cc, .int .i64 cr, .slice (some ⟨g, 0, none⟩) j cap] = wF at *
      have r0 : wF.cell? ⟨w.heap.size + 1, 0, none⟩ = some (.string cn) := (heapCells HX9.out).1 0
      have r1 : wF.cell? ⟨w.heap.size + 1, 1, none⟩ = some (.int .i64 cp) := (heapCells HX9.out).1 1
      have r2 : wF.cell? ⟨w.heap.size + 1, 2, none⟩ = some (.int .i64 cc) := (heapCells HX9.out).1 2
      have r3 : wF.cell? ⟨w.heap.size + 1, 3, none⟩ = some (.int .i64 cr) := (heapCells HX9.out).1 3
      have r4 : wF.cell? ⟨w.heap.size + 1, 4, none⟩ = some (.slice (some ⟨g, 0, none⟩) j cap) := (heapCells HX9.out).1 4
      refine bodyPost_ret (v := .agg #[.string cn, .int .i64 cp, .int .i64 cc, .int .i64 cr, .slice (some ⟨g, 0, none⟩) j cap]) (by simp [results, Tryz.results68, go_sem, r0, r1, r2, r3, r4]) rfl ?_
      exact ⟨⟨g, cap, rfl, HR9⟩, HB9.out⟩
end Go.Proofs.YtfbglokjehmgeaaGreatDoor
