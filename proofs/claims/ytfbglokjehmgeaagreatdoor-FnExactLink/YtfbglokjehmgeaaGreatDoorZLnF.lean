/- The program's looks at instructions: what names nothing, what is given another count than it takes. No condition. -/
import Derived.Test.YtfbglokjehmgeaaGreatDoorZLnP
import Derived.Deep.RegionHeld3
namespace Go.Proofs.YtfbglokjehmgeaaGreatDoor
open Go.ChangeShapes Go.WideShapes Go.ChangeAt Go.RowKit Go.Deep

theorem named_any (o a b : Int) (m n : ByteArray) (w : World) :
    Calls Tryz.prog 90 #[.agg #[.int .i64 o, .int .i64 a, .int .i64 b, .string m, .string n]] w fun e w' => e = .returned (.agg #[.string m, .string n]) ∧ Below w.heap.size w w' := by
  obtain ⟨w1, hw1⟩ : ∃ w1, w.alloc (.cells #[.int .i64 o, .int .i64 a, .int .i64 b, .string m, .string n] 139) = w1 := ⟨_, rfl⟩
  have b1 : Below w.heap.size w w1 := by rw [← hw1]; exact (Below.refl _ _).alloc (Nat.le_refl _) _
  have hs1 : w1.heap.size = w.heap.size + 1 := by rw [← hw1]; simp
  have hx := Deep.blk_alloc_new w1 (.cells #[.string m, .string n] 148)
  have b2 : Below w.heap.size w (w1.alloc (.cells #[.string m, .string n] 148)) := b1.alloc b1.size _
  have r0 : (w1.alloc (.cells #[.string m, .string n] 148)).cell? ⟨w1.heap.size, 0, none⟩ = some (.string m) := (heapCells hx).1 0
  have r1 : (w1.alloc (.cells #[.string m, .string n] 148)).cell? ⟨w1.heap.size, 1, none⟩ = some (.string n) := (heapCells hx).1 1
  rw [hs1] at r0 r1
  have HW := hide hw1
  have HB := hide b2
  have HR0 := hide r0
  have HR1 := hide r1
  clear hw1 b1 hs1 hx b2 r0 r1
  go_enter Tryz.func90, Tryz.ntmps90
  go_wp2
  rw [HW.out]
  have r0 := HR0.out
  have r1 := HR1.out
  refine bodyPost_ret (v := .agg #[.string m, .string n]) (by simp [results, Tryz.results90, go_sem, r0, r1]) rfl ?_
  exact ⟨rfl, HB.out⟩
/-- What the linker's maps hold while instructions are looked at. -/
structure FS (w : World) (b b2 b3 : Nat) (C P : ML PK) : Prop where
  c5 : w.cell? ⟨b, 5, none⟩ = some (.map (some b2))
  c6 : w.cell? ⟨b, 6, none⟩ = some (.map (some b3))
  C : GM pM w b2 C
  P : GM pM w b3 P
theorem FS.on {w w' : World} {b b2 b3 : Nat} {C P : ML PK} (h : FS w b b2 b3 C P) (bel : Below w.heap.size w w') : FS w' b b2 b3 C P := ⟨(bel.cell (p := ⟨b, 5, none⟩) (block_lt h.c5)).trans h.c5, (bel.cell (p := ⟨b, 6, none⟩) (block_lt h.c6)).trans h.c6, h.C.below bel, h.P.below bel⟩
/-- It names nothing. -/
def noB (C P : ML PK) (y : InsD) : Bool := if y.op = 3 then !(pM.get C (y.mod, y.name)).isSome else if y.op = 13 then !(pM.get P (y.mod, y.name)).isSome else false
set_option maxRecDepth 100000 in
set_option maxHeartbeats 8000000 in
theorem namesNothing_any (b b2 b3 : Nat) (C P : ML PK) (y : InsD) (w : World) (h : FS w b b2 b3 C P) :
    Calls Tryz.prog 61 #[.pointer (some ⟨b, 0, none⟩), .agg #[.int .i64 y.op, .int .i64 y.a, .int .i64 y.b, .string y.mod, .string y.name]] w fun e w' => e = .returned (.bool (noB C P y)) ∧ Below w.heap.size w w' := by
  have hmix : Tryz.prog.follows .mixedOrders = true := by kernel_rfl
  obtain ⟨op, ya, yb, mo, na⟩ := y
  obtain ⟨W, hW⟩ : ∃ W, w.alloc (.cells #[.int .i64 op, .int .i64 ya, .int .i64 yb, .string mo, .string na] 139) = W := ⟨_, rfl⟩
  have bW : Below w.heap.size w W := by rw [← hW]; exact (Below.refl _ _).alloc (Nat.le_refl _) _
  have xW := Deep.blk_alloc_new w (.cells #[.int .i64 op, .int .i64 ya, .int .i64 yb, .string mo, .string na] 139)
  rw [hW] at xW
  have hF := h.on bW
  have HF := hide hF
  have HBW := hide bW
  have HW := hide hW
  have hwW : w.heap.size < W.heap.size := (Array.getElem?_eq_some_iff.1 xW).1
  have hbW : b < W.heap.size := block_lt hF.c5
  have k0 : W.cell? ⟨w.heap.size, 0, none⟩ = some (.int .i64 op) := (heapCells xW).1 0
  have k1 : W.cell? ⟨w.heap.size, 1, none⟩ = some (.int .i64 ya) := (heapCells xW).1 1
  have k2 : W.cell? ⟨w.heap.size, 2, none⟩ = some (.int .i64 yb) := (heapCells xW).1 2
  have k3 : W.cell? ⟨w.heap.size, 3, none⟩ = some (.string mo) := (heapCells xW).1 3
  have k4 : W.cell? ⟨w.heap.size, 4, none⟩ = some (.string na) := (heapCells xW).1 4
  have HN : Hid (∀ w', Calls Tryz.prog 90 #[.agg #[.int .i64 op, .int .i64 ya, .int .i64 yb, .string mo, .string na]] w' fun e w2 => e = .returned (.agg #[.string mo, .string na]) ∧ Below w'.heap.size w' w2) := hide fun w' => named_any op ya yb mo na w'
  have HR : Hid (noB C P ⟨op, ya, yb, mo, na⟩ = if op = 3 then !(pM.get C (mo, na)).isSome else if op = 13 then !(pM.get P (mo, na)).isSome else false) := hide rfl
  generalize noB C P ⟨op, ya, yb, mo, na⟩ = R at *
  clear hF h bW xW hW
  by_cases h3 : op = 3
  · subst h3
    have hR := HR.out
    rw [if_pos rfl] at hR
    have q5 := HF.out.c5
    have hmW : b2 < W.heap.size := HF.out.C.lt
    obtain ⟨iv, hiv⟩ : ∃ iv, (pM.get C (mo, na)).getD 0 = iv := ⟨_, rfl⟩
    obtain ⟨bv, hbv⟩ : ∃ bv, (pM.get C (mo, na)).isSome = bv := ⟨_, rfl⟩
    rw [hbv] at hR
    have HLk : Hid (∀ w' : World, w'.heap[b2]? = W.heap[b2]? → (Instr.lookup 104 (.map (some b2)) (.agg #[.string mo, .string na]) true).run Tryz.prog w' = .ok (.tuple #[.int .i64 iv, .bool bv]) w') := hide fun w' hw => by
      have := GM.look pM_ok (HF.out.C.on hw) (mo, na)
      rw [hiv, hbv] at this
      exact this
    have HRR := hide hR
    clear hiv hbv hR
    go_enter Tryz.func61, Tryz.ntmps61
    go_upto_region 1 with fail
    rw [HW.out]
    go_upto_region 4 with fail
    refine wp_region_held_drew (S := fun w' => ∀ k, k < W.heap.size → w'.heap[k]? = W.heap[k]?) hmix (fun k _ => rfl) (fun hHeld => ?_)
    refine wpAnyH_take (i := 0) (v := ?_) rfl (by kernel_rfl) (by kernel_rfl) (by kernel_rfl) (fun _ _ _ h => h) (Or.inl ⟨by rfl, ?_⟩) hHeld ?_
    rotate_left
    · intro wS hSw
      go_simp
      rfl
    simp only [Act.put, List.setIfInBounds_toArray, List.set_cons_zero, List.set_cons_succ, List.getElem_toArray, List.getElem_cons_zero]
    refine wpAnyH_take (i := 1) (v := ?_) rfl (by kernel_rfl) (by kernel_rfl) (by kernel_rfl) (fun _ _ _ h => h) (Or.inl ⟨by rfl, ?_⟩) hHeld ?_
    rotate_left
    · intro wS hSw
      go_simp
      rfl
    simp only [Act.put, List.setIfInBounds_toArray, List.set_cons_zero, List.set_cons_succ, List.getElem_toArray, List.getElem_cons_zero, List.getElem_cons_succ]
    refine wpAnyH_take (i := 2) (v := ?_) rfl (by kernel_rfl) (by kernel_rfl) (by kernel_rfl) (fun _ _ _ h => h) (Or.inl ⟨by rfl, ?_⟩) hHeld ?_
    rotate_left
    · intro wS hSw
      go_simp
      rfl
    simp only [Act.put, List.setIfInBounds_toArray, List.set_cons_zero, List.set_cons_succ, List.getElem_toArray, List.getElem_cons_zero, List.getElem_cons_succ]
    refine wpAnyH_take (i := 3) (v := ?_) rfl (by kernel_rfl) (by kernel_rfl) (by kernel_rfl) (fun _ _ _ h => h) (Or.inl ⟨by rfl, ?_⟩) hHeld ?_
    rotate_left
    · intro wS hSw
      have s0 := (World.cell?_of_block (hSw b hbW)).trans q5
      go_simp
      rfl
    simp only [Act.put, List.setIfInBounds_toArray, List.set_cons_zero, List.set_cons_succ, List.getElem_toArray, List.getElem_cons_zero, List.getElem_cons_succ]
    refine wpAnyH_take (i := 4) (v := ?_) rfl (by kernel_rfl) (by kernel_rfl) (by kernel_rfl) (fun _ _ _ h => h) (Or.inl ⟨by rfl, ?_⟩) hHeld ?_
    rotate_left
    · intro wS hSw
      have s0 := (World.cell?_of_block (hSw w.heap.size hwW)).trans k0; have s1 := (World.cell?_of_block (hSw w.heap.size hwW)).trans k1; have s2 := (World.cell?_of_block (hSw w.heap.size hwW)).trans k2; have s3 := (World.cell?_of_block (hSw w.heap.size hwW)).trans k3; have s4 := (World.cell?_of_block (hSw w.heap.size hwW)).trans k4
      go_simp
      rfl
    simp only [Act.put, List.setIfInBounds_toArray, List.set_cons_zero, List.set_cons_succ, List.getElem_toArray, List.getElem_cons_zero, List.getElem_cons_succ]
    refine wpAnyH_ready (rs := [5]) (by kernel_rfl) (by simp) ?_
    refine AllReadyH.cons rfl (fun K hK => ?_) AllReadyH.nil
    go_simp
    go_at_call 90
    refine (HN.out W.drew).mono ?_
    rintro e w3 ⟨rfl, b3'⟩
    have HB3 := hide (show Below W.heap.size W w3 from (Below.refl _ _).drew.trans b3')
    refine hK.out _ _ (fun k hk => HB3.out.block k hk) (fun hHeld => ?_)
    clear hK K b3'
    try simp only [Act.put, List.setIfInBounds_toArray, List.set_cons_zero, List.set_cons_succ]
    refine wpAnyH_take (i := 6) (v := .tuple #[.int .i64 iv, .bool bv]) rfl (by kernel_rfl) (by kernel_rfl) (by kernel_rfl) (fun _ _ _ h => h) (Or.inl ⟨by rfl, ?_⟩) hHeld ?_
    · intro wS hSw
      have hlk := HLk.out wS (hSw _ hmW)
      go_simp
      all_goals simp [*]
    simp only [Act.put, List.setIfInBounds_toArray, List.set_cons_zero, List.set_cons_succ, List.getElem_toArray, List.getElem_cons_zero, List.getElem_cons_succ]
    refine wpAnyH_take (i := 7) (v := ?_) rfl (by kernel_rfl) (by kernel_rfl) (by kernel_rfl) (fun _ _ _ h => h) (Or.inl ⟨by rfl, ?_⟩) hHeld ?_
    rotate_left
    · intro wS hSw
      go_simp
      rfl
    simp only [Act.put, List.setIfInBounds_toArray, List.set_cons_zero, List.set_cons_succ, List.getElem_toArray, List.getElem_cons_zero, List.getElem_cons_succ]
    refine wpAnyH_take (i := 8) (v := ?_) rfl (by kernel_rfl) (by kernel_rfl) (by kernel_rfl) (fun _ _ _ h => h) (Or.inl ⟨by rfl, ?_⟩) hHeld ?_
    rotate_left
    · intro wS hSw
      go_simp
      rfl
    simp only [Act.put, List.setIfInBounds_toArray, List.set_cons_zero, List.set_cons_succ, List.getElem_toArray, List.getElem_cons_zero, List.getElem_cons_succ]
    refine wpAnyH_take (i := 9) (v := ?_) rfl (by kernel_rfl) (by kernel_rfl) (by kernel_rfl) (fun _ _ _ h => h) (Or.inl ⟨by rfl, ?_⟩) hHeld ?_
    rotate_left
    · intro wS hSw
      go_simp
      rfl
    simp only [Act.put, List.setIfInBounds_toArray, List.set_cons_zero, List.set_cons_succ, List.getElem_toArray, List.getElem_cons_zero, List.getElem_cons_succ]
    refine wpAnyH_take (i := 10) (v := ?_) rfl (by kernel_rfl) (by kernel_rfl) (by kernel_rfl) (fun _ _ _ h => h) (Or.inl ⟨by rfl, ?_⟩) hHeld ?_
    rotate_left
    · intro wS hSw
      go_simp
      rfl
    simp only [Act.put, List.setIfInBounds_toArray, List.set_cons_zero, List.set_cons_succ, List.getElem_toArray, List.getElem_cons_zero, List.getElem_cons_succ]
    refine wpAnyH_done (by kernel_rfl) ?_ _
    clear hHeld
    go_wp2
    go_ret
    exact ⟨by rw [HRR.out]; rfl, HBW.out.trans (HB3.out.mono HBW.out.size)⟩
  · by_cases h13 : op = 13
    · subst h13
      have hR := HR.out
      rw [if_neg (by decide), if_pos rfl] at hR
      have q6 := HF.out.c6
      have hmW : b3 < W.heap.size := HF.out.P.lt
      obtain ⟨iv, hiv⟩ : ∃ iv, (pM.get P (mo, na)).getD 0 = iv := ⟨_, rfl⟩
      obtain ⟨bv, hbv⟩ : ∃ bv, (pM.get P (mo, na)).isSome = bv := ⟨_, rfl⟩
      rw [hbv] at hR
      have HLk : Hid (∀ w' : World, w'.heap[b3]? = W.heap[b3]? → (Instr.lookup 104 (.map (some b3)) (.agg #[.string mo, .string na]) true).run Tryz.prog w' = .ok (.tuple #[.int .i64 iv, .bool bv]) w') := hide fun w' hw => by
        have := GM.look pM_ok (HF.out.P.on hw) (mo, na)
        rw [hiv, hbv] at this
        exact this
      have HRR := hide hR
      clear hiv hbv hR
      go_enter Tryz.func61, Tryz.ntmps61
      go_upto_region 1 with fail
      rw [HW.out]
      go_upto_region 6 with fail
      refine wp_region_held_drew (S := fun w' => ∀ k, k < W.heap.size → w'.heap[k]? = W.heap[k]?) hmix (fun k _ => rfl) (fun hHeld => ?_)
      refine wpAnyH_take (i := 0) (v := ?_) rfl (by kernel_rfl) (by kernel_rfl) (by kernel_rfl) (fun _ _ _ h => h) (Or.inl ⟨by rfl, ?_⟩) hHeld ?_
      rotate_left
      · intro wS hSw
        go_simp
        rfl
      simp only [Act.put, List.setIfInBounds_toArray, List.set_cons_zero, List.set_cons_succ, List.getElem_toArray, List.getElem_cons_zero]
      refine wpAnyH_take (i := 1) (v := ?_) rfl (by kernel_rfl) (by kernel_rfl) (by kernel_rfl) (fun _ _ _ h => h) (Or.inl ⟨by rfl, ?_⟩) hHeld ?_
      rotate_left
      · intro wS hSw
        go_simp
        rfl
      simp only [Act.put, List.setIfInBounds_toArray, List.set_cons_zero, List.set_cons_succ, List.getElem_toArray, List.getElem_cons_zero, List.getElem_cons_succ]
      refine wpAnyH_take (i := 2) (v := ?_) rfl (by kernel_rfl) (by kernel_rfl) (by kernel_rfl) (fun _ _ _ h => h) (Or.inl ⟨by rfl, ?_⟩) hHeld ?_
      rotate_left
      · intro wS hSw
        go_simp
        rfl
      simp only [Act.put, List.setIfInBounds_toArray, List.set_cons_zero, List.set_cons_succ, List.getElem_toArray, List.getElem_cons_zero, List.getElem_cons_succ]
      refine wpAnyH_take (i := 3) (v := ?_) rfl (by kernel_rfl) (by kernel_rfl) (by kernel_rfl) (fun _ _ _ h => h) (Or.inl ⟨by rfl, ?_⟩) hHeld ?_
      rotate_left
      · intro wS hSw
        have s0 := (World.cell?_of_block (hSw b hbW)).trans q6
        go_simp
        rfl
      simp only [Act.put, List.setIfInBounds_toArray, List.set_cons_zero, List.set_cons_succ, List.getElem_toArray, List.getElem_cons_zero, List.getElem_cons_succ]
      refine wpAnyH_take (i := 4) (v := ?_) rfl (by kernel_rfl) (by kernel_rfl) (by kernel_rfl) (fun _ _ _ h => h) (Or.inl ⟨by rfl, ?_⟩) hHeld ?_
      rotate_left
      · intro wS hSw
        have s0 := (World.cell?_of_block (hSw w.heap.size hwW)).trans k0; have s1 := (World.cell?_of_block (hSw w.heap.size hwW)).trans k1; have s2 := (World.cell?_of_block (hSw w.heap.size hwW)).trans k2; have s3 := (World.cell?_of_block (hSw w.heap.size hwW)).trans k3; have s4 := (World.cell?_of_block (hSw w.heap.size hwW)).trans k4
        go_simp
        rfl
      simp only [Act.put, List.setIfInBounds_toArray, List.set_cons_zero, List.set_cons_succ, List.getElem_toArray, List.getElem_cons_zero, List.getElem_cons_succ]
      refine wpAnyH_ready (rs := [5]) (by kernel_rfl) (by simp) ?_
      refine AllReadyH.cons rfl (fun K hK => ?_) AllReadyH.nil
      go_simp
      go_at_call 90
      refine (HN.out W.drew).mono ?_
      rintro e w3 ⟨rfl, b3'⟩
      have HB3 := hide (show Below W.heap.size W w3 from (Below.refl _ _).drew.trans b3')
      refine hK.out _ _ (fun k hk => HB3.out.block k hk) (fun hHeld => ?_)
      clear hK K b3'
      try simp only [Act.put, List.setIfInBounds_toArray, List.set_cons_zero, List.set_cons_succ]
      refine wpAnyH_take (i := 6) (v := .tuple #[.int .i64 iv, .bool bv]) rfl (by kernel_rfl) (by kernel_rfl) (by kernel_rfl) (fun _ _ _ h => h) (Or.inl ⟨by rfl, ?_⟩) hHeld ?_
      · intro wS hSw
        have hlk := HLk.out wS (hSw _ hmW)
        go_simp
        all_goals simp [*]
      simp only [Act.put, List.setIfInBounds_toArray, List.set_cons_zero, List.set_cons_succ, List.getElem_toArray, List.getElem_cons_zero, List.getElem_cons_succ]
      refine wpAnyH_take (i := 7) (v := ?_) rfl (by kernel_rfl) (by kernel_rfl) (by kernel_rfl) (fun _ _ _ h => h) (Or.inl ⟨by rfl, ?_⟩) hHeld ?_
      rotate_left
      · intro wS hSw
        go_simp
        rfl
      simp only [Act.put, List.setIfInBounds_toArray, List.set_cons_zero, List.set_cons_succ, List.getElem_toArray, List.getElem_cons_zero, List.getElem_cons_succ]
      refine wpAnyH_take (i := 8) (v := ?_) rfl (by kernel_rfl) (by kernel_rfl) (by kernel_rfl) (fun _ _ _ h => h) (Or.inl ⟨by rfl, ?_⟩) hHeld ?_
      rotate_left
      · intro wS hSw
        go_simp
        rfl
      simp only [Act.put, List.setIfInBounds_toArray, List.set_cons_zero, List.set_cons_succ, List.getElem_toArray, List.getElem_cons_zero, List.getElem_cons_succ]
      refine wpAnyH_take (i := 9) (v := ?_) rfl (by kernel_rfl) (by kernel_rfl) (by kernel_rfl) (fun _ _ _ h => h) (Or.inl ⟨by rfl, ?_⟩) hHeld ?_
      rotate_left
      · intro wS hSw
        go_simp
        rfl
      simp only [Act.put, List.setIfInBounds_toArray, List.set_cons_zero, List.set_cons_succ, List.getElem_toArray, List.getElem_cons_zero, List.getElem_cons_succ]
      refine wpAnyH_take (i := 10) (v := ?_) rfl (by kernel_rfl) (by kernel_rfl) (by kernel_rfl) (fun _ _ _ h => h) (Or.inl ⟨by rfl, ?_⟩) hHeld ?_
      rotate_left
      · intro wS hSw
        go_simp
        rfl
      simp only [Act.put, List.setIfInBounds_toArray, List.set_cons_zero, List.set_cons_succ, List.getElem_toArray, List.getElem_cons_zero, List.getElem_cons_succ]
      refine wpAnyH_done (by kernel_rfl) ?_ _
      clear hHeld
      go_wp2
      go_ret
      exact ⟨by rw [HRR.out]; rfl, HBW.out.trans (HB3.out.mono HBW.out.size)⟩
    · have hR := HR.out
      rw [if_neg h3, if_neg h13] at hR
      have HRR := hide hR
      clear hR
      go_enter Tryz.func61, Tryz.ntmps61
      go_upto_region 1 with fail
      rw [HW.out]
      go_wp2
      go_ret
      exact ⟨by rw [HRR.out]; rfl, HBW.out⟩
/-- A call that is given another count than its procedure takes. -/
def misB (P : ML PK) (cs : List CV) (y : InsD) : Bool := decide (y.op = 13) && match cs[((pM.get P (y.mod, y.name)).getD 0).toNat]? with
  | none => false
  | some c => decide (y.a ≠ c.1.params) || decide (y.b ≠ c.1.result)
set_option maxRecDepth 100000 in
set_option maxHeartbeats 8000000 in
theorem miscounts_any (b B b2 b3 : Nat) (C P : ML PK) (cv : Value) (cs : List CV) (y : InsD) (w : World) (h : FS w b b2 b3 C P) (h7 : w.cell? ⟨b, 7, none⟩ = some cv) (hcv : FRow codeK w B cv cs) (hone : ∀ c ∈ cs, ∃ a n k, c.2 = .slice a n k) (hk : y.op = 13 → ∃ k : Nat, pM.get P (y.mod, y.name) = some (k : Int) ∧ k < cs.length) :
    Calls Tryz.prog 62 #[.pointer (some ⟨b, 0, none⟩), .agg #[.int .i64 y.op, .int .i64 y.a, .int .i64 y.b, .string y.mod, .string y.name]] w fun e w' => e = .returned (.bool (misB P cs y)) ∧ Below w.heap.size w w' := by
  have hmix : Tryz.prog.follows .mixedOrders = true := by kernel_rfl
  obtain ⟨op, ya, yb, mo, na⟩ := y
  obtain ⟨W, hW⟩ : ∃ W, w.alloc (.cells #[.int .i64 op, .int .i64 ya, .int .i64 yb, .string mo, .string na] 139) = W := ⟨_, rfl⟩
  have bW : Below w.heap.size w W := by rw [← hW]; exact (Below.refl _ _).alloc (Nat.le_refl _) _
  have xW := Deep.blk_alloc_new w (.cells #[.int .i64 op, .int .i64 ya, .int .i64 yb, .string mo, .string na] 139)
  rw [hW] at xW
  have hF := h.on bW
  have HF := hide hF
  have HBW := hide bW
  have HW := hide hW
  have hwW : w.heap.size < W.heap.size := (Array.getElem?_eq_some_iff.1 xW).1
  have hbW : b < W.heap.size := block_lt hF.c5
  have k0 : W.cell? ⟨w.heap.size, 0, none⟩ = some (.int .i64 op) := (heapCells xW).1 0
  have k1 : W.cell? ⟨w.heap.size, 1, none⟩ = some (.int .i64 ya) := (heapCells xW).1 1
  have k2 : W.cell? ⟨w.heap.size, 2, none⟩ = some (.int .i64 yb) := (heapCells xW).1 2
  have k3 : W.cell? ⟨w.heap.size, 3, none⟩ = some (.string mo) := (heapCells xW).1 3
  have k4 : W.cell? ⟨w.heap.size, 4, none⟩ = some (.string na) := (heapCells xW).1 4
  have HN : Hid (∀ w', Calls Tryz.prog 90 #[.agg #[.int .i64 op, .int .i64 ya, .int .i64 yb, .string mo, .string na]] w' fun e w2 => e = .returned (.agg #[.string mo, .string na]) ∧ Below w'.heap.size w' w2) := hide fun w' => named_any op ya yb mo na w'
  have HR : Hid (misB P cs ⟨op, ya, yb, mo, na⟩ = (decide (op = 13) && match cs[((pM.get P (mo, na)).getD 0).toNat]? with
    | none => false
    | some c => decide (ya ≠ c.1.params) || decide (yb ≠ c.1.result))) := hide rfl
  have q7 := (bW.cell (p := ⟨b, 7, none⟩) (block_lt h.c5)).trans h7
  have HCv := hide (hcv.on bW)
  generalize misB P cs ⟨op, ya, yb, mo, na⟩ = R at *
  simp only [] at hk
  clear hF h bW xW hW h7 hcv
  by_cases h13 : op = 13
  · subst h13
    obtain ⟨k, hg, hkc⟩ := hk rfl
    have hR := HR.out
    rw [decide_eq_true rfl, Bool.true_and, hg] at hR
    simp only [Option.getD_some, Int.toNat_natCast] at hR
    rw [List.getElem?_eq_getElem hkc] at hR
    simp only [] at hR
    have q6 := HF.out.c6
    have hmW : b3 < W.heap.size := HF.out.P.lt
    have HLk : Hid (∀ w' : World, w'.heap[b3]? = W.heap[b3]? → (Instr.lookup 104 (.map (some b3)) (.agg #[.string mo, .string na]) false).run Tryz.prog w' = .ok (.int .i64 (k : Int)) w') := hide fun w' hw => by
      have := GM.look1 pM_ok (HF.out.P.on hw) (mo, na)
      rw [hg] at this
      exact this
    obtain ⟨cb, ck, hcf, hck, -, hcb, hrow⟩ := HCv.out.one_at codeOk hkc
    obtain ⟨la, ln, lk, hl⟩ := hone _ (List.getElem_mem hkc)
    subst hcf
    obtain ⟨c, hc⟩ : ∃ c, cs[k] = c := ⟨_, rfl⟩
    rw [hc] at hR hrow hl
    have d0 : W.cell? ⟨cb, k * 5, none⟩ = some (.string c.1.name) := hrow 0 (by decide)
    have d1 : W.cell? ⟨cb, k * 5 + 1, none⟩ = some (.int .i64 c.1.params) := hrow 1 (by decide)
    have d2 : W.cell? ⟨cb, k * 5 + 2, none⟩ = some (.int .i64 c.1.cells) := hrow 2 (by decide)
    have d3 : W.cell? ⟨cb, k * 5 + 3, none⟩ = some (.int .i64 c.1.result) := hrow 3 (by decide)
    have d4 : W.cell? ⟨cb, k * 5 + 4, none⟩ = some c.2 := hrow 4 (by decide)
    rw [hl] at d4
    generalize c.1.name = cn at *
    generalize c.1.params = cp at *
    generalize c.1.cells = cc at *
    generalize c.1.result = cr at *
    have HRR := hide hR
    obtain ⟨nc, hnc⟩ : ∃ nc, cs.length = nc := ⟨_, rfl⟩
    rw [hnc] at q7 hkc hck
    have hkI : (k : Int) < nc := by omega
    clear hR hg hrow hl hc hone hnc
    go_enter Tryz.func62, Tryz.ntmps62
    go_upto_region 1 with fail
    rw [HW.out]
    go_upto_region 3 with fail
    refine wp_region_held_drew (S := fun w' => ∀ k, k < W.heap.size → w'.heap[k]? = W.heap[k]?) hmix (fun k _ => rfl) (fun hHeld => ?_)
    refine wpAnyH_take (i := 0) (v := ?_) rfl (by kernel_rfl) (by kernel_rfl) (by kernel_rfl) (fun _ _ _ h => h) (Or.inl ⟨by rfl, ?_⟩) hHeld ?_
    rotate_left
    · intro wS hSw
      go_simp
      rfl
    simp only [Act.put, List.setIfInBounds_toArray, List.set_cons_zero, List.set_cons_succ, List.getElem_toArray, List.getElem_cons_zero]
    refine wpAnyH_take (i := 1) (v := ?_) rfl (by kernel_rfl) (by kernel_rfl) (by kernel_rfl) (fun _ _ _ h => h) (Or.inl ⟨by rfl, ?_⟩) hHeld ?_
    rotate_left
    · intro wS hSw
      go_simp
      rfl
    simp only [Act.put, List.setIfInBounds_toArray, List.set_cons_zero, List.set_cons_succ, List.getElem_toArray, List.getElem_cons_zero, List.getElem_cons_succ]
    refine wpAnyH_take (i := 2) (v := ?_) rfl (by kernel_rfl) (by kernel_rfl) (by kernel_rfl) (fun _ _ _ h => h) (Or.inl ⟨by rfl, ?_⟩) hHeld ?_
    rotate_left
    · intro wS hSw
      go_simp
      rfl
    simp only [Act.put, List.setIfInBounds_toArray, List.set_cons_zero, List.set_cons_succ, List.getElem_toArray, List.getElem_cons_zero, List.getElem_cons_succ]
    refine wpAnyH_take (i := 3) (v := ?_) rfl (by kernel_rfl) (by kernel_rfl) (by kernel_rfl) (fun _ _ _ h => h) (Or.inl ⟨by rfl, ?_⟩) hHeld ?_
    rotate_left
    · intro wS hSw
      have s0 := (World.cell?_of_block (hSw b hbW)).trans q7
      go_simp
      rfl
    simp only [Act.put, List.setIfInBounds_toArray, List.set_cons_zero, List.set_cons_succ, List.getElem_toArray, List.getElem_cons_zero, List.getElem_cons_succ]
    refine wpAnyH_take (i := 4) (v := ?_) rfl (by kernel_rfl) (by kernel_rfl) (by kernel_rfl) (fun _ _ _ h => h) (Or.inl ⟨by rfl, ?_⟩) hHeld ?_
    rotate_left
    · intro wS hSw
      go_simp
      rfl
    simp only [Act.put, List.setIfInBounds_toArray, List.set_cons_zero, List.set_cons_succ, List.getElem_toArray, List.getElem_cons_zero, List.getElem_cons_succ]
    refine wpAnyH_take (i := 5) (v := ?_) rfl (by kernel_rfl) (by kernel_rfl) (by kernel_rfl) (fun _ _ _ h => h) (Or.inl ⟨by rfl, ?_⟩) hHeld ?_
    rotate_left
    · intro wS hSw
      go_simp
      rfl
    simp only [Act.put, List.setIfInBounds_toArray, List.set_cons_zero, List.set_cons_succ, List.getElem_toArray, List.getElem_cons_zero, List.getElem_cons_succ]
    refine wpAnyH_take (i := 6) (v := ?_) rfl (by kernel_rfl) (by kernel_rfl) (by kernel_rfl) (fun _ _ _ h => h) (Or.inl ⟨by rfl, ?_⟩) hHeld ?_
    rotate_left
    · intro wS hSw
      go_simp
      rfl
    simp only [Act.put, List.setIfInBounds_toArray, List.set_cons_zero, List.set_cons_succ, List.getElem_toArray, List.getElem_cons_zero, List.getElem_cons_succ]
    refine wpAnyH_take (i := 7) (v := ?_) rfl (by kernel_rfl) (by kernel_rfl) (by kernel_rfl) (fun _ _ _ h => h) (Or.inl ⟨by rfl, ?_⟩) hHeld ?_
    rotate_left
    · intro wS hSw
      have s0 := (World.cell?_of_block (hSw b hbW)).trans q6
      go_simp
      rfl
    simp only [Act.put, List.setIfInBounds_toArray, List.set_cons_zero, List.set_cons_succ, List.getElem_toArray, List.getElem_cons_zero, List.getElem_cons_succ]
    refine wpAnyH_take (i := 8) (v := ?_) rfl (by kernel_rfl) (by kernel_rfl) (by kernel_rfl) (fun _ _ _ h => h) (Or.inl ⟨by rfl, ?_⟩) hHeld ?_
    rotate_left
    · intro wS hSw
      have s0 := (World.cell?_of_block (hSw w.heap.size hwW)).trans k0; have s1 := (World.cell?_of_block (hSw w.heap.size hwW)).trans k1; have s2 := (World.cell?_of_block (hSw w.heap.size hwW)).trans k2; have s3 := (World.cell?_of_block (hSw w.heap.size hwW)).trans k3; have s4 := (World.cell?_of_block (hSw w.heap.size hwW)).trans k4
      go_simp
      rfl
    simp only [Act.put, List.setIfInBounds_toArray, List.set_cons_zero, List.set_cons_succ, List.getElem_toArray, List.getElem_cons_zero, List.getElem_cons_succ]
    refine wpAnyH_ready (rs := [9, 13]) (by kernel_rfl) (by simp) ?_
    refine AllReadyH.cons rfl (fun K hK => ?_) (AllReadyH.cons rfl (fun K hK => ?_) AllReadyH.nil)
    · go_simp
      go_at_call 90
      refine (HN.out W.drew).mono ?_
      rintro e w3 ⟨rfl, b3'⟩
      have HB3 := hide (show Below W.heap.size W w3 from (Below.refl _ _).drew.trans b3')
      refine hK.out _ _ (fun k hk => HB3.out.block k hk) (fun hHeld => ?_)
      clear hK K b3'
      try simp only [Act.put, List.setIfInBounds_toArray, List.set_cons_zero, List.set_cons_succ]
      refine wpAnyH_take (i := 10) (v := .int .i64 (k : Int)) rfl (by kernel_rfl) (by kernel_rfl) (by kernel_rfl) (fun _ _ _ h => h) (Or.inl ⟨by rfl, ?_⟩) hHeld ?_
      · intro wS hSw
        have hlk := HLk.out wS (hSw _ hmW)
        go_simp
        all_goals simp [*]
      simp only [Act.put, List.setIfInBounds_toArray, List.set_cons_zero, List.set_cons_succ, List.getElem_toArray, List.getElem_cons_zero, List.getElem_cons_succ]
      refine wpAnyH_take (i := 11) (v := ?_) rfl (by kernel_rfl) (by kernel_rfl) (by kernel_rfl) (fun _ _ _ h => h) (Or.inl ⟨by rfl, ?_⟩) hHeld ?_
      rotate_left
      · intro wS hSw
        go_simp
        rfl
      simp only [Act.put, List.setIfInBounds_toArray, List.set_cons_zero, List.set_cons_succ, List.getElem_toArray, List.getElem_cons_zero, List.getElem_cons_succ]
      refine wpAnyH_take (i := 12) (v := ?_) rfl (by kernel_rfl) (by kernel_rfl) (by kernel_rfl) (fun _ _ _ h => h) (Or.inl ⟨by rfl, ?_⟩) hHeld ?_
      rotate_left
      · intro wS hSw
        have s0 := (World.cell?_of_block (hSw cb hcb)).trans d0; have s1 := (World.cell?_of_block (hSw cb hcb)).trans d1; have s2 := (World.cell?_of_block (hSw cb hcb)).trans d2; have s3 := (World.cell?_of_block (hSw cb hcb)).trans d3; have s4 := (World.cell?_of_block (hSw cb hcb)).trans d4
        go_simp
        rfl
      simp only [Act.put, List.setIfInBounds_toArray, List.set_cons_zero, List.set_cons_succ, List.getElem_toArray, List.getElem_cons_zero, List.getElem_cons_succ]
      refine wpAnyH_ready (rs := [13]) (by kernel_rfl) (by simp) ?_
      refine AllReadyH.cons rfl (fun K hK => ?_) AllReadyH.nil
      go_simp
      have b4 : Below W.heap.size W (w3.alloc (.cells #[.string ⟨#[]⟩, .int .i64 0, .int .i64 0, .int .i64 0, .slice none 0 0] 86)) := HB3.out.alloc HB3.out.size _
      refine hK.out _ _ (fun k hk => b4.block k hk) (fun hHeld => ?_)
      clear hK K b4
      try simp only [Act.put, List.setIfInBounds_toArray, List.set_cons_zero, List.set_cons_succ]
      refine wpAnyH_ready (rs := [14]) (by kernel_rfl) (by simp) ?_
      refine AllReadyH.cons rfl (fun K hK => ?_) AllReadyH.nil
      go_simp
      obtain ⟨w9, hw9⟩ : ∃ w9, w3.alloc (.cells #[.string cn, .int .i64 cp, .int .i64 cc, .int .i64 cr, .slice la ln lk] 86) = w9 := ⟨_, rfl⟩
      have b9 : Below W.heap.size W w9 := by rw [← hw9]; exact HB3.out.alloc HB3.out.size _
      have x9 := Deep.blk_alloc_new w3 (.cells #[.string cn, .int .i64 cp, .int .i64 cc, .int .i64 cr, .slice la ln lk] 86)
      rw [hw9] at x9
      rw [hw9]
      clear hw9
      refine hK.out _ _ (fun k hk => b9.block k hk) (fun hHeld => ?_)
      clear hK K
      try simp only [Act.put, List.setIfInBounds_toArray, List.set_cons_zero, List.set_cons_succ]
      refine wpAnyH_done (by kernel_rfl) ?_ _
      have e1 : w9.cell? ⟨w3.heap.size, 1, none⟩ = some (.int .i64 cp) := (heapCells x9).1 1
      have e3 : w9.cell? ⟨w3.heap.size, 3, none⟩ = some (.int .i64 cr) := (heapCells x9).1 3
      have y1 := (World.cell?_of_block (b9.block _ hwW)).trans k1
      have y2 := (World.cell?_of_block (b9.block _ hwW)).trans k2
      have HB9 := hide (HBW.out.trans (b9.mono HBW.out.size))
      clear b9 x9 hHeld d0 d1 d2 d3 d4 k0 k1 k2 k3 k4 q6 q7
      by_cases hA : ya = cp
      · subst hA
        by_cases hB : yb = cr
        · subst hB
          go_wp2
          go_ret
          exact ⟨by rw [HRR.out]; simp, HB9.out⟩
        · have hB' : (yb == cr) = false := by simpa using hB
          have HRf : Hid (R = true) := hide (by rw [HRR.out]; simp [hB])
          clear HRR
          have hBt : true = (yb != cr) := by simp [bne, hB']
          have HBt := hide hBt
          clear hBt
          go_wp2
          go_ret
          exact ⟨by rw [HRf.out, HBt.out]; rfl, HB9.out⟩
      · have hA' : (ya == cp) = false := by simpa using hA
        have HRf : Hid (R = true) := hide (by rw [HRR.out]; simp [hA])
        clear HRR
        go_wp2
        go_ret
        exact ⟨by rw [HRf.out]; rfl, HB9.out⟩
    · go_simp
      have b4 : Below W.heap.size W (W.drew.alloc (.cells #[.string ⟨#[]⟩, .int .i64 0, .int .i64 0, .int .i64 0, .slice none 0 0] 86)) := (Below.refl _ _).drew.alloc (Nat.le_refl _) _
      have x4 := Deep.blk_alloc_new W.drew (.cells #[.string ⟨#[]⟩, .int .i64 0, .int .i64 0, .int .i64 0, .slice none 0 0] 86)
      refine hK.out _ _ (fun k hk => b4.block k hk) (fun hHeld => ?_)
      clear hK K
      try simp only [Act.put, List.setIfInBounds_toArray, List.set_cons_zero, List.set_cons_succ]
      refine wpAnyH_ready (rs := [9]) (by kernel_rfl) (by simp) ?_
      refine AllReadyH.cons rfl (fun K hK => ?_) AllReadyH.nil
      go_simp
      obtain ⟨W4, hW4⟩ : ∃ W4, W.alloc (.cells #[.string ⟨#[]⟩, .int .i64 0, .int .i64 0, .int .i64 0, .slice none 0 0] 86) = W4 := ⟨_, rfl⟩
      have b4' : Below W.heap.size W W4 := by rw [← hW4]; exact (Below.refl _ _).alloc (Nat.le_refl _) _
      have x4' := Deep.blk_alloc_new W (.cells #[.string ⟨#[]⟩, .int .i64 0, .int .i64 0, .int .i64 0, .slice none 0 0] 86)
      rw [hW4] at x4'
      rw [hW4]
      clear b4 x4 hW4
      go_at_call 90
      refine (HN.out W4.drew).mono ?_
      rintro e w3 ⟨rfl, b3'⟩
      have b43 : Below W4.heap.size W4 w3 := (Below.refl _ _).drew.trans b3'
      have HB3 := hide (b4'.trans (b43.mono b4'.size))
      have x3 := (b43.block _ (Array.getElem?_eq_some_iff.1 x4').1).trans x4'
      refine hK.out _ _ (fun k hk => HB3.out.block k hk) (fun hHeld => ?_)
      clear hK K b3' b43 b4' x4'
      try simp only [Act.put, List.setIfInBounds_toArray, List.set_cons_zero, List.set_cons_succ]
      refine wpAnyH_take (i := 10) (v := .int .i64 (k : Int)) rfl (by kernel_rfl) (by kernel_rfl) (by kernel_rfl) (fun _ _ _ h => h) (Or.inl ⟨by rfl, ?_⟩) hHeld ?_
      · intro wS hSw
        have hlk := HLk.out wS (hSw _ hmW)
        go_simp
        all_goals simp [*]
      simp only [Act.put, List.setIfInBounds_toArray, List.set_cons_zero, List.set_cons_succ, List.getElem_toArray, List.getElem_cons_zero, List.getElem_cons_succ]
      refine wpAnyH_take (i := 11) (v := ?_) rfl (by kernel_rfl) (by kernel_rfl) (by kernel_rfl) (fun _ _ _ h => h) (Or.inl ⟨by rfl, ?_⟩) hHeld ?_
      rotate_left
      · intro wS hSw
        go_simp
        rfl
      simp only [Act.put, List.setIfInBounds_toArray, List.set_cons_zero, List.set_cons_succ, List.getElem_toArray, List.getElem_cons_zero, List.getElem_cons_succ]
      refine wpAnyH_take (i := 12) (v := ?_) rfl (by kernel_rfl) (by kernel_rfl) (by kernel_rfl) (fun _ _ _ h => h) (Or.inl ⟨by rfl, ?_⟩) hHeld ?_
      rotate_left
      · intro wS hSw
        have s0 := (World.cell?_of_block (hSw cb hcb)).trans d0; have s1 := (World.cell?_of_block (hSw cb hcb)).trans d1; have s2 := (World.cell?_of_block (hSw cb hcb)).trans d2; have s3 := (World.cell?_of_block (hSw cb hcb)).trans d3; have s4 := (World.cell?_of_block (hSw cb hcb)).trans d4
        go_simp
        rfl
      simp only [Act.put, List.setIfInBounds_toArray, List.set_cons_zero, List.set_cons_succ, List.getElem_toArray, List.getElem_cons_zero, List.getElem_cons_succ]
      have z0 := (heapCells x3).1 0
      have zf := (heapCells x3).2
      have zf0 := zf 0
      have zf1 := zf 1
      have zf2 := zf 2
      have zf3 := zf 3
      have zf4 := zf 4
      have z1 := (heapCells x3).1 1
      have z2 := (heapCells x3).1 2
      have z3 := (heapCells x3).1 3
      have z4 := (heapCells x3).1 4
      refine wpAnyH_ready (rs := [14]) (by kernel_rfl) (by simp) ?_
      refine AllReadyH.cons rfl (fun K hK => ?_) AllReadyH.nil
      go_simp
      have b9 : Below W.heap.size W (((((w3.setCell ⟨W.heap.size, 0, none⟩ (.string cn)).setCell ⟨W.heap.size, 1, none⟩ (.int .i64 cp)).setCell ⟨W.heap.size, 2, none⟩ (.int .i64 cc)).setCell ⟨W.heap.size, 3, none⟩ (.int .i64 cr)).setCell ⟨W.heap.size, 4, none⟩ (.slice la ln lk)) := ((((HB3.out.setCell (p := ⟨_, 0, none⟩) (Nat.le_refl _) _).setCell (p := ⟨_, 1, none⟩) (Nat.le_refl _) _).setCell (p := ⟨_, 2, none⟩) (Nat.le_refl _) _).setCell (p := ⟨_, 3, none⟩) (Nat.le_refl _) _).setCell (p := ⟨_, 4, none⟩) (Nat.le_refl _) _
      have x9 := block_set (block_set (block_set (block_set (block_set x3 (o := 0) (.string cn)) (o := 1) (.int .i64 cp)) (o := 2) (.int .i64 cc)) (o := 3) (.int .i64 cr)) (o := 4) (.slice la ln lk)
      generalize (((((w3.setCell ⟨W.heap.size, 0, none⟩ (.string cn)).setCell ⟨W.heap.size, 1, none⟩ (.int .i64 cp)).setCell ⟨W.heap.size, 2, none⟩ (.int .i64 cc)).setCell ⟨W.heap.size, 3, none⟩ (.int .i64 cr)).setCell ⟨W.heap.size, 4, none⟩ (.slice la ln lk)) = w9 at *
      clear z0 z1 z2 z3 z4 zf zf0 zf1 zf2 zf3 zf4
      refine hK.out _ _ (fun k hk => b9.block k hk) (fun hHeld => ?_)
      clear hK K
      try simp only [Act.put, List.setIfInBounds_toArray, List.set_cons_zero, List.set_cons_succ]
      refine wpAnyH_done (by kernel_rfl) ?_ _
      have e1 : w9.cell? ⟨W.heap.size, 1, none⟩ = some (.int .i64 cp) := (heapCells x9).1 1
      have e3 : w9.cell? ⟨W.heap.size, 3, none⟩ = some (.int .i64 cr) := (heapCells x9).1 3
      have y1 := (World.cell?_of_block (b9.block _ hwW)).trans k1
      have y2 := (World.cell?_of_block (b9.block _ hwW)).trans k2
      have HB9 := hide (HBW.out.trans (b9.mono HBW.out.size))
      clear b9 x9 hHeld d0 d1 d2 d3 d4 k0 k1 k2 k3 k4 q6 q7
      by_cases hA : ya = cp
      · subst hA
        by_cases hB : yb = cr
        · subst hB
          go_wp2
          go_ret
          exact ⟨by rw [HRR.out]; simp, HB9.out⟩
        · have hB' : (yb == cr) = false := by simpa using hB
          have HRf : Hid (R = true) := hide (by rw [HRR.out]; simp [hB])
          clear HRR
          have hBt : true = (yb != cr) := by simp [bne, hB']
          have HBt := hide hBt
          clear hBt
          go_wp2
          go_ret
          exact ⟨by rw [HRf.out, HBt.out]; rfl, HB9.out⟩
      · have hA' : (ya == cp) = false := by simpa using hA
        have HRf : Hid (R = true) := hide (by rw [HRR.out]; simp [hA])
        clear HRR
        go_wp2
        go_ret
        exact ⟨by rw [HRf.out]; rfl, HB9.out⟩
  · have hR := HR.out
    rw [decide_eq_false h13, Bool.false_and] at hR
    have HRR := hide hR
    clear hR
    go_enter Tryz.func62, Tryz.ntmps62
    go_upto_region 1 with fail
    rw [HW.out]
    go_wp2
    go_ret
    exact ⟨by rw [HRR.out]; rfl, HBW.out⟩
end Go.Proofs.YtfbglokjehmgeaaGreatDoor
