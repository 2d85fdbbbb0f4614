/- Linking, the model's Link: over whatever test of objects that its own answers (a premise), what it answers. -/
import Derived.Test.YtfbglokjehmgeaaGreatDoorZLkL
namespace Go.Proofs.YtfbglokjehmgeaaGreatDoor
open Go.ChangeShapes Go.WideShapes Go.ChangeAt Go.RowKit Go.Deep

/-- All objects are right, no two of one module. -/
def allOk (okB : ObjectD → Bool) (L : List ObjectD) (k : Nat) : Prop := ∀ i (h : i < L.length), i < k → okB L[i] = true ∧ objAt (L.take i) L[i].module = none
def linkAll (okB : ObjectD → Bool) (L : List ObjectD) (main : ByteArray) (R : Res) : Prop :=
  (4096 < L.length ∨ 65536 < main.size → R = .inl (2, ⟨#[]⟩)) ∧ (¬ (4096 < L.length ∨ 65536 < main.size) → 20 < L.length → R = .inl (13, ⟨#[]⟩)) ∧
  (¬ (4096 < L.length ∨ 65536 < main.size) → ¬ 20 < L.length → ¬ allOk okB L L.length → R = .inl (1, ⟨#[]⟩)) ∧ (¬ (4096 < L.length ∨ 65536 < main.size) → ¬ 20 < L.length → allOk okB L L.length → R = linkF L main)
theorem SlAt.take {α : Type} {E : Elem α} {sz : Nat} {w : World} {m : Md} {a : Option Addr} {c : Nat} {l : List α} (h : SlAt E sz w m (.slice a l.length c) l) {k : Nat} (hk : k ≤ l.length) : SlAt E sz w m (.slice a k c) (l.take k) := by
  obtain ⟨a', c', e, hr⟩ := h
  cases e
  have hlk : (l.take k).length = k := by rw [List.length_take]; omega
  refine ⟨a, c, by rw [hlk], fun i hi => ?_⟩
  obtain ⟨b, o, e, ⟨h1, h2⟩, h3, h4, h5⟩ := hr i (by omega)
  refine ⟨b, o, e, ⟨h1, by omega⟩, h3, h4, ?_⟩
  rw [List.getElem_take]
  exact h5
set_option maxRecDepth 20000 in
set_option maxHeartbeats 16000000 in
theorem specLink_of (okB : ObjectD → Bool) (HOK : ∀ (v : Value) (m : Md) (x : ObjectD) (w : World), ObjectVal w m v x → m.hi ≤ w.heap.size → Calls Tryz.prog 14 #[v] w fun e w' => e = .returned (.bool (okB x)) ∧ Below w.heap.size w w')
    (HTi : ∀ x, okB x = true → Tiny x ∧ 0 < x.procs.length)
    (a : Option Addr) (cp : Nat) (m : Md) (L : List ObjectD) (main : ByteArray) (R : Res) (w : World) (h : SlAt ObjectAt 5 w m (.slice a L.length cp) L) (hm : m.hi ≤ w.heap.size) (hL : L.length ≤ 1048576) (hmn : main.size ≤ maxLen) (hR : linkAll okB L main R) :
    Calls Tryz.prog 5 #[.slice a L.length cp, .string main] w fun e w' => LinkPost L w R e w' := by
  unfold maxLen at hmn
  obtain ⟨r1, r2, r3, r4⟩ := hR
  obtain ⟨nL, hnL⟩ : ∃ k, L.length = k := ⟨_, rfl⟩
  obtain ⟨W1, hW1⟩ : ∃ W1, w.alloc (.cells #[.int .i64 0, .slice none 0 0, .slice none 0 0, .slice none 0 0] 28) = W1 := ⟨_, rfl⟩
  have hx1 : W1.heap[w.heap.size]? = some (.cells #[.int .i64 0, .slice none 0 0, .slice none 0 0, .slice none 0 0] 28 (0, 0)) := by rw [← hW1]; exact Deep.blk_alloc_new w _
  have b1 : Below w.heap.size w W1 := by rw [← hW1]; exact (Below.refl _ _).alloc (Nat.le_refl _) _
  have HE := hide hW1
  have HB1 := hide b1
  have HX1 := hide hx1
  have HS := hide h
  have HM := hide hm
  have HNL := hide hnL
  rw [hnL] at r1 r2 r3 r4 HS hL ⊢
  obtain ⟨z0, z1⟩ := heapCells hx1
  have d0 : W1.cell? ⟨w.heap.size, 0, none⟩ = some (.int .i64 0) := z0 0
  have d1 : W1.cell? ⟨w.heap.size, 1, none⟩ = some (.slice none 0 0) := z0 1
  have d2 : W1.cell? ⟨w.heap.size, 2, none⟩ = some (.slice none 0 0) := z0 2
  have d3 : W1.cell? ⟨w.heap.size, 3, none⟩ = some (.slice none 0 0) := z0 3
  have f0 := z1 0
  have f1 := z1 1
  have f2 := z1 2
  have f3 := z1 3
  have hend : ∀ c : Int, R = .inl (c, ⟨#[]⟩) → Hid (∀ w5, Below w.heap.size w w5 → LinkPost L w R (.returned (.tuple #[.agg #[.int .i64 0, .slice none 0 0, .slice none 0 0, .slice none 0 0], .string ⟨#[]⟩, .int .i64 c])) w5) := fun c e => hide (fun w5 hb => by rw [e]; exact ⟨hb, rfl⟩)
  clear z0 z1 hx1 b1 hW1 h hm hnL
  by_cases hlong : 4096 < nL ∨ 65536 < main.size
  · by_cases h4 : 4096 < nL
    · have i1 : (4096 : Int) < nL := by omega
      have HRR := hide (r1 hlong)
      clear r1 r2 r3 r4
      go_enter Tryz.func5, Tryz.ntmps5
      go_upto_region 1 with fail
      rw [HE.out]
      go_wp2_with fail
      obtain ⟨r0, r1, r2, r3⟩ := set4_cells (y0 := .int .i64 0) (y1 := .slice none 0 0) (y2 := .slice none 0 0) (y3 := .slice none 0 0) HX1.out
      have hbF := set4_below (y0 := .int .i64 0) (y1 := .slice none 0 0) (y2 := .slice none 0 0) (y3 := .slice none 0 0) HB1.out (Nat.le_refl _)
      change bodyPost _ _ _ _ _ (set4 W1 w.heap.size (.int .i64 0) (.slice none 0 0) (.slice none 0 0) (.slice none 0 0))
      generalize set4 W1 w.heap.size (.int .i64 0) (.slice none 0 0) (.slice none 0 0) (.slice none 0 0) = wF at *
      refine bodyPost_ret (v := .tuple #[.agg #[.int .i64 0, .slice none 0 0, .slice none 0 0, .slice none 0 0], .string ⟨#[]⟩, .int .i64 2]) (by simp [results, Tryz.results5, go_sem, r0, r1, r2, r3]) rfl ((hend 2 HRR.out).out _ hbF)
    · have i1 : ¬ (4096 : Int) < nL := by omega
      have i2 : (65536 : Int) < main.size := by omega
      have HRR := hide (r1 hlong)
      clear r1 r2 r3 r4
      go_enter Tryz.func5, Tryz.ntmps5
      go_upto_region 1 with fail
      rw [HE.out]
      go_wp2_with fail
      obtain ⟨r0, r1, r2, r3⟩ := set4_cells (y0 := .int .i64 0) (y1 := .slice none 0 0) (y2 := .slice none 0 0) (y3 := .slice none 0 0) HX1.out
      have hbF := set4_below (y0 := .int .i64 0) (y1 := .slice none 0 0) (y2 := .slice none 0 0) (y3 := .slice none 0 0) HB1.out (Nat.le_refl _)
      change bodyPost _ _ _ _ _ (set4 W1 w.heap.size (.int .i64 0) (.slice none 0 0) (.slice none 0 0) (.slice none 0 0))
      generalize set4 W1 w.heap.size (.int .i64 0) (.slice none 0 0) (.slice none 0 0) (.slice none 0 0) = wF at *
      refine bodyPost_ret (v := .tuple #[.agg #[.int .i64 0, .slice none 0 0, .slice none 0 0, .slice none 0 0], .string ⟨#[]⟩, .int .i64 2]) (by simp [results, Tryz.results5, go_sem, r0, r1, r2, r3]) rfl ((hend 2 HRR.out).out _ hbF)
  · by_cases hmany : 20 < nL
    · have i1 : ¬ (4096 : Int) < nL := by omega
      have i2 : ¬ (65536 : Int) < main.size := by omega
      have i3 : (20 : Int) < nL := by omega
      have HRR := hide (r2 hlong hmany)
      clear r1 r2 r3 r4
      go_enter Tryz.func5, Tryz.ntmps5
      go_upto_region 1 with fail
      rw [HE.out]
      go_wp2_with fail
      obtain ⟨r0, r1, r2, r3⟩ := set4_cells (y0 := .int .i64 0) (y1 := .slice none 0 0) (y2 := .slice none 0 0) (y3 := .slice none 0 0) HX1.out
      have hbF := set4_below (y0 := .int .i64 0) (y1 := .slice none 0 0) (y2 := .slice none 0 0) (y3 := .slice none 0 0) HB1.out (Nat.le_refl _)
      change bodyPost _ _ _ _ _ (set4 W1 w.heap.size (.int .i64 0) (.slice none 0 0) (.slice none 0 0) (.slice none 0 0))
      generalize set4 W1 w.heap.size (.int .i64 0) (.slice none 0 0) (.slice none 0 0) (.slice none 0 0) = wF at *
      refine bodyPost_ret (v := .tuple #[.agg #[.int .i64 0, .slice none 0 0, .slice none 0 0, .slice none 0 0], .string ⟨#[]⟩, .int .i64 13]) (by simp [results, Tryz.results5, go_sem, r0, r1, r2, r3]) rfl ((hend 13 HRR.out).out _ hbF)
    · have i1 : ¬ (4096 : Int) < nL := by omega
      have i2 : ¬ (65536 : Int) < main.size := by omega
      have i3 : ¬ (20 : Int) < nL := by omega
      have HR3 := hide (r3 hlong hmany)
      have HR4 := hide (r4 hlong hmany)
      clear r1 r2 r3 r4
      go_enter Tryz.func5, Tryz.ntmps5
      go_upto_region 1 with fail
      rw [HE.out]
      go_wp2_with fail
      have HL1 : Hid (L.length ≤ 1000) := hide (by rw [HNL.out]; omega)
      go_loopw [7] (fun i wr => ∃ k : Nat, i = .int .i64 k ∧ k ≤ nL ∧ Hid (allOk okB L k) ∧ Hid (Below W1.heap.size W1 wr)) (fun i _ => nL - (intOf i).toNat)
      case atStart => exact ⟨0, rfl, by omega, hide (fun i _ h => absurd h (by omega)), hide (Below.refl _ _)⟩
      case round =>
        clear d0 d1 d2 d3 f0 f1 f2 f3
        obtain ⟨k, rfl, hk, Ha, Hb⟩ := hrel
        have h1 : w.heap.size < W1.heap.size := (Array.getElem?_eq_some_iff.1 HX1.out).1
        have hwr := Hb.out.size
        have hxr : wr.heap[w.heap.size]? = some (.cells #[.int .i64 0, .slice none 0 0, .slice none 0 0, .slice none 0 0] 28 (0, 0)) := (Hb.out.block _ h1).trans HX1.out
        have HXr := hide hxr
        have HBr := hide (HB1.out.trans (Hb.out.mono HB1.out.size))
        clear hxr
        by_cases hp : k < nL
        · have i4 : (k : Int) < nL := by omega
          have hkL : k < L.length := by rw [HNL.out]; exact hp
          have hS := HS.out
          rw [← HNL.out] at hS
          have hSr := hS.on ObjectAt.stays (HBr.out.mono HM.out)
          have HSr := hide hSr
          obtain ⟨a', c', e', hrows⟩ := hSr
          cases e'
          obtain ⟨gb, of, rfl, g1, g2, -, he⟩ := hrows k hkL
          rw [HNL.out] at g1
          obtain ⟨x, hx⟩ : ∃ x, L[k] = x := ⟨_, rfl⟩
          have HXk := hide hx
          rw [hx] at he
          obtain ⟨⟨d0', d1'⟩, hbd, u2, u3, u4, ⟨d2', d3', d4'⟩, s2, s3, s4⟩ := he
          have HVal := hide (show ObjectVal wr (m.inner gb) (.agg #[.string x.module, .int .i64 x.print, u2, u3, u4]) x from ⟨u2, u3, u4, rfl, hbd, s2, s3, s4⟩)
          obtain ⟨a2, c2, rfl, -⟩ := s2
          obtain ⟨a3, c3, rfl, -⟩ := s3
          obtain ⟨a4, c4, rfl, -⟩ := s4
          simp only [Nat.add_zero] at d0' d1' d2' d3' d4'
          have hgb : gb < W1.heap.size := by have := HM.out; omega
          obtain ⟨n2, hn2⟩ : ∃ q, x.needs.length = q := ⟨_, rfl⟩
          obtain ⟨n3, hn3⟩ : ∃ q, x.globals.length = q := ⟨_, rfl⟩
          obtain ⟨n4, hn4⟩ : ∃ q, x.procs.length = q := ⟨_, rfl⟩
          obtain ⟨mo, hmo⟩ : ∃ q, x.module = q := ⟨_, rfl⟩
          obtain ⟨pr, hpr⟩ : ∃ q, x.print = q := ⟨_, rfl⟩
          have HMo := hide hmo
          rw [hn2] at d2' HVal
          rw [hn3] at d3' HVal
          rw [hn4] at d4' HVal
          rw [hmo] at d0' HVal
          rw [hpr] at d1' HVal
          clear hn2 hn3 hn4 hmo hpr hx hrows hS hbd
          go_wp2_with fail
          refine wp_region_held_drew (S := fun w' => ∀ p : Addr, p.block < W1.heap.size → w'.cell? p = wr.cell? p) (by kernel_rfl) (fun _ _ => rfl) (fun hHeld => ?_)
          refine wpAnyH_take (i := 0) (v := ?_) rfl (by kernel_rfl) (by kernel_rfl) (by kernel_rfl) (fun _ _ _ h => h) (Or.inl ⟨by rfl, ?_⟩) hHeld ?_
          rotate_left
          · intro wS hSw
            go_simp
            rfl
          simp only [Act.put, List.setIfInBounds_toArray, List.set_cons_zero, List.set_cons_succ, List.getElem_toArray, List.getElem_cons_zero]
          refine wpAnyH_take (i := 1) (v := ?_) rfl (by kernel_rfl) (by kernel_rfl) (by kernel_rfl) (fun _ _ _ h => h) (Or.inl ⟨by rfl, ?_⟩) hHeld ?_
          rotate_left
          · intro wS hSw
            go_simp
            rfl
          simp only [Act.put, List.setIfInBounds_toArray, List.set_cons_zero, List.set_cons_succ, List.getElem_toArray, List.getElem_cons_zero, List.getElem_cons_succ]
          refine wpAnyH_take (i := 2) (v := ?_) rfl (by kernel_rfl) (by kernel_rfl) (by kernel_rfl) (fun _ _ _ h => h) (Or.inl ⟨by rfl, ?_⟩) hHeld ?_
          rotate_left
          · intro wS hSw
            go_simp
            rfl
          simp only [Act.put, List.setIfInBounds_toArray, List.set_cons_zero, List.set_cons_succ, List.getElem_toArray, List.getElem_cons_zero, List.getElem_cons_succ]
          refine wpAnyH_take (i := 3) (v := ?_) rfl (by kernel_rfl) (by kernel_rfl) (by kernel_rfl) (fun _ _ _ h => h) (Or.inl ⟨by rfl, ?_⟩) hHeld ?_
          rotate_left
          · intro wS hSw
            have s0 := (hSw ⟨gb, of + k * 5, none⟩ hgb).trans d0'; have s1 := (hSw ⟨gb, of + k * 5 + 1, none⟩ hgb).trans d1'; have s2 := (hSw ⟨gb, of + k * 5 + 2, none⟩ hgb).trans d2'; have s3 := (hSw ⟨gb, of + k * 5 + 3, none⟩ hgb).trans d3'; have s4 := (hSw ⟨gb, of + k * 5 + 4, none⟩ hgb).trans d4'
            go_simp
            rfl
          simp only [Act.put, List.setIfInBounds_toArray, List.set_cons_zero, List.set_cons_succ, List.getElem_toArray, List.getElem_cons_zero, List.getElem_cons_succ]
          refine wpAnyH_ready (rs := [4]) (by kernel_rfl) (by simp) ?_
          refine AllReadyH.cons rfl (fun K hK => ?_) AllReadyH.nil
          go_simp
          go_at_call 14
          refine (HOK _ (m.inner gb) x wr.drew (HVal.out.on ((Below.refl _ _).drew)) ?_).mono ?_
          · show (m.inner gb).hi ≤ wr.heap.size
            rw [Md.inner_hi]
            have := HM.out
            omega
          rintro e w3 ⟨rfl, b3⟩
          have HB3 := hide (show Below wr.heap.size wr w3 from (Below.refl _ _).drew.trans b3)
          refine hK.out _ _ (fun p hp => b3.cell (p := p) (Nat.lt_of_lt_of_le hp hwr)) (fun hHeld => ?_)
          clear hK K b3
          try simp only [Act.put, List.setIfInBounds_toArray, List.set_cons_zero, List.set_cons_succ]
          have g1c := g1.2
          have i5 : (k : Int) ≤ cp := by omega
          cases hok : okB x with
          | false =>
            refine wpAnyH_take (i := 5) (v := ?_) rfl (by kernel_rfl) (by kernel_rfl) (by kernel_rfl) (fun _ _ _ h => h) (Or.inl ⟨by rfl, ?_⟩) hHeld ?_
            rotate_left
            · intro wS hSw
              go_simp
              rfl
            simp only [Act.put, List.setIfInBounds_toArray, List.set_cons_zero, List.set_cons_succ, List.getElem_toArray, List.getElem_cons_zero, List.getElem_cons_succ]
            refine wpAnyH_take (i := 6) (v := ?_) rfl (by kernel_rfl) (by kernel_rfl) (by kernel_rfl) (fun _ _ _ h => h) (Or.inl ⟨by rfl, ?_⟩) hHeld ?_
            rotate_left
            · intro wS hSw
              go_simp
              rfl
            simp only [Act.put, List.setIfInBounds_toArray, List.set_cons_zero, List.set_cons_succ, List.getElem_toArray, List.getElem_cons_zero, List.getElem_cons_succ]
            refine wpAnyH_take (i := 7) (v := undef) rfl (by kernel_rfl) (by kernel_rfl) (by kernel_rfl) (fun _ _ _ h => h) (Or.inr ⟨by rfl, rfl⟩) hHeld ?_
            simp only [Act.put, List.setIfInBounds_toArray, List.set_cons_zero, List.set_cons_succ, List.getElem_toArray, List.getElem_cons_zero, List.getElem_cons_succ]
            refine wpAnyH_take (i := 8) (v := undef) rfl (by kernel_rfl) (by kernel_rfl) (by kernel_rfl) (fun _ _ _ h => h) (Or.inr ⟨by rfl, rfl⟩) hHeld ?_
            simp only [Act.put, List.setIfInBounds_toArray, List.set_cons_zero, List.set_cons_succ, List.getElem_toArray, List.getElem_cons_zero, List.getElem_cons_succ]
            refine wpAnyH_take (i := 9) (v := undef) rfl (by kernel_rfl) (by kernel_rfl) (by kernel_rfl) (fun _ _ _ h => h) (Or.inr ⟨by rfl, rfl⟩) hHeld ?_
            simp only [Act.put, List.setIfInBounds_toArray, List.set_cons_zero, List.set_cons_succ, List.getElem_toArray, List.getElem_cons_zero, List.getElem_cons_succ]
            refine wpAnyH_take (i := 10) (v := undef) rfl (by kernel_rfl) (by kernel_rfl) (by kernel_rfl) (fun _ _ _ h => h) (Or.inr ⟨by rfl, rfl⟩) hHeld ?_
            simp only [Act.put, List.setIfInBounds_toArray, List.set_cons_zero, List.set_cons_succ, List.getElem_toArray, List.getElem_cons_zero, List.getElem_cons_succ]
            refine wpAnyH_take (i := 11) (v := undef) rfl (by kernel_rfl) (by kernel_rfl) (by kernel_rfl) (fun _ _ _ h => h) (Or.inr ⟨by rfl, rfl⟩) hHeld ?_
            simp only [Act.put, List.setIfInBounds_toArray, List.set_cons_zero, List.set_cons_succ, List.getElem_toArray, List.getElem_cons_zero, List.getElem_cons_succ]
            refine wpAnyH_take (i := 12) (v := undef) rfl (by kernel_rfl) (by kernel_rfl) (by kernel_rfl) (fun _ _ _ h => h) (Or.inr ⟨by rfl, rfl⟩) hHeld ?_
            simp only [Act.put, List.setIfInBounds_toArray, List.set_cons_zero, List.set_cons_succ, List.getElem_toArray, List.getElem_cons_zero, List.getElem_cons_succ]
            refine wpAnyH_take (i := 13) (v := undef) rfl (by kernel_rfl) (by kernel_rfl) (by kernel_rfl) (fun _ _ _ h => h) (Or.inr ⟨by rfl, rfl⟩) hHeld ?_
            simp only [Act.put, List.setIfInBounds_toArray, List.set_cons_zero, List.set_cons_succ, List.getElem_toArray, List.getElem_cons_zero, List.getElem_cons_succ]
            refine wpAnyH_take (i := 14) (v := undef) rfl (by kernel_rfl) (by kernel_rfl) (by kernel_rfl) (fun _ _ _ h => h) (Or.inr ⟨by rfl, rfl⟩) hHeld ?_
            simp only [Act.put, List.setIfInBounds_toArray, List.set_cons_zero, List.set_cons_succ, List.getElem_toArray, List.getElem_cons_zero, List.getElem_cons_succ]
            refine wpAnyH_take (i := 15) (v := undef) rfl (by kernel_rfl) (by kernel_rfl) (by kernel_rfl) (fun _ _ _ h => h) (Or.inr ⟨by rfl, rfl⟩) hHeld ?_
            simp only [Act.put, List.setIfInBounds_toArray, List.set_cons_zero, List.set_cons_succ, List.getElem_toArray, List.getElem_cons_zero, List.getElem_cons_succ]
            refine wpAnyH_take (i := 16) (v := undef) rfl (by kernel_rfl) (by kernel_rfl) (by kernel_rfl) (fun _ _ _ h => h) (Or.inr ⟨by rfl, rfl⟩) hHeld ?_
            simp only [Act.put, List.setIfInBounds_toArray, List.set_cons_zero, List.set_cons_succ, List.getElem_toArray, List.getElem_cons_zero, List.getElem_cons_succ]
            refine wpAnyH_take (i := 17) (v := ?_) rfl (by kernel_rfl) (by kernel_rfl) (by kernel_rfl) (fun _ _ _ h => h) (Or.inl ⟨by rfl, ?_⟩) hHeld ?_
            rotate_left
            · intro wS hSw
              go_simp
              rfl
            simp only [Act.put, List.setIfInBounds_toArray, List.set_cons_zero, List.set_cons_succ, List.getElem_toArray, List.getElem_cons_zero, List.getElem_cons_succ]
            refine wpAnyH_done (by kernel_rfl) ?_ _
            clear hHeld
            have hnot : ¬ allOk okB L nL := fun h => by
              have := (h k hkL (by omega)).1
              rw [HXk.out, hok] at this
              cases this
            have HRR := hide (HR3.out hnot)
            clear hnot
            have hx3 : w3.heap[w.heap.size]? = some (.cells #[.int .i64 0, .slice none 0 0, .slice none 0 0, .slice none 0 0] 28 (0, 0)) := (HB3.out.block _ (Nat.lt_of_lt_of_le h1 hwr)).trans HXr.out
            have HX3 := hide hx3
            have HBw := hide (HBr.out.trans (HB3.out.mono HBr.out.size))
            obtain ⟨z0, z1⟩ := heapCells hx3
            have y0 : w3.cell? ⟨w.heap.size, 0, none⟩ = some (.int .i64 0) := z0 0
            have y1 : w3.cell? ⟨w.heap.size, 1, none⟩ = some (.slice none 0 0) := z0 1
            have y2 : w3.cell? ⟨w.heap.size, 2, none⟩ = some (.slice none 0 0) := z0 2
            have y3 : w3.cell? ⟨w.heap.size, 3, none⟩ = some (.slice none 0 0) := z0 3
            have f0 := z1 0
            have f1 := z1 1
            have f2 := z1 2
            have f3 := z1 3
            clear z0 z1 hx3
            go_wp2_with fail
            obtain ⟨r0, r1, r2, r3⟩ := set4_cells (y0 := .int .i64 0) (y1 := .slice none 0 0) (y2 := .slice none 0 0) (y3 := .slice none 0 0) HX3.out
            have hbF := set4_below (y0 := .int .i64 0) (y1 := .slice none 0 0) (y2 := .slice none 0 0) (y3 := .slice none 0 0) HBw.out (Nat.le_refl _)
            change bodyPost _ _ _ _ _ (set4 w3 w.heap.size (.int .i64 0) (.slice none 0 0) (.slice none 0 0) (.slice none 0 0))
            generalize set4 w3 w.heap.size (.int .i64 0) (.slice none 0 0) (.slice none 0 0) (.slice none 0 0) = wF at *
            refine bodyPost_ret (v := .tuple #[.agg #[.int .i64 0, .slice none 0 0, .slice none 0 0, .slice none 0 0], .string ⟨#[]⟩, .int .i64 1]) (by simp [results, Tryz.results5, go_sem, r0, r1, r2, r3]) rfl ((hend 1 HRR.out).out _ hbF)
          | true =>
            have HOb : Hid (Calls Tryz.prog 15 #[.slice (some ⟨gb, of, none⟩) k cp, .string mo] w3 fun e w' => e = .returned (.int .i64 (idxI (objAt (L.take k) mo))) ∧ w' = w3) := hide (by
              have h9 := SlAt.take (HSr.out.on ObjectAt.stays (HB3.out.mono (Nat.le_trans HM.out HBr.out.size))) (k := k) (by omega)
              have hlk : (L.take k).length = k := by rw [List.length_take]; omega
              have := l05Object_any (some ⟨gb, of, none⟩) cp m (L.take k) mo w3 (by rw [hlk]; omega) (by rw [hlk]; exact h9)
              rwa [hlk] at this)
            cases hob : objAt (L.take k) mo with
            | none =>
              rw [hob] at HOb
              have hi1 : idxI none = -1 := rfl
              rw [hi1] at HOb
              have HAk : Hid (allOk okB L (k + 1)) := hide (fun i hi hik => by
                by_cases hik2 : i < k
                · exact Ha.out i hi hik2
                · obtain rfl : i = k := by omega
                  rw [HXk.out, HMo.out]
                  exact ⟨hok, hob⟩)
              clear hi1
              refine wpAnyH_take (i := 5) (v := ?_) rfl (by kernel_rfl) (by kernel_rfl) (by kernel_rfl) (fun _ _ _ h => h) (Or.inl ⟨by rfl, ?_⟩) hHeld ?_
              rotate_left
              · intro wS hSw
                go_simp
                rfl
              simp only [Act.put, List.setIfInBounds_toArray, List.set_cons_zero, List.set_cons_succ, List.getElem_toArray, List.getElem_cons_zero, List.getElem_cons_succ]
              refine wpAnyH_take (i := 6) (v := ?_) rfl (by kernel_rfl) (by kernel_rfl) (by kernel_rfl) (fun _ _ _ h => h) (Or.inl ⟨by rfl, ?_⟩) hHeld ?_
              rotate_left
              · intro wS hSw
                go_simp
                rfl
              simp only [Act.put, List.setIfInBounds_toArray, List.set_cons_zero, List.set_cons_succ, List.getElem_toArray, List.getElem_cons_zero, List.getElem_cons_succ]
              refine wpAnyH_take (i := 7) (v := ?_) rfl (by kernel_rfl) (by kernel_rfl) (by kernel_rfl) (fun _ _ _ h => h) (Or.inl ⟨by rfl, ?_⟩) hHeld ?_
              rotate_left
              · intro wS hSw
                go_simp
                rfl
              simp only [Act.put, List.setIfInBounds_toArray, List.set_cons_zero, List.set_cons_succ, List.getElem_toArray, List.getElem_cons_zero, List.getElem_cons_succ]
              refine wpAnyH_take (i := 8) (v := ?_) rfl (by kernel_rfl) (by kernel_rfl) (by kernel_rfl) (fun _ _ _ h => h) (Or.inl ⟨by rfl, ?_⟩) hHeld ?_
              rotate_left
              · intro wS hSw
                go_simp
                rfl
              simp only [Act.put, List.setIfInBounds_toArray, List.set_cons_zero, List.set_cons_succ, List.getElem_toArray, List.getElem_cons_zero, List.getElem_cons_succ]
              refine wpAnyH_take (i := 9) (v := ?_) rfl (by kernel_rfl) (by kernel_rfl) (by kernel_rfl) (fun _ _ _ h => h) (Or.inl ⟨by rfl, ?_⟩) hHeld ?_
              rotate_left
              · intro wS hSw
                go_simp
                rfl
              simp only [Act.put, List.setIfInBounds_toArray, List.set_cons_zero, List.set_cons_succ, List.getElem_toArray, List.getElem_cons_zero, List.getElem_cons_succ]
              refine wpAnyH_take (i := 10) (v := ?_) rfl (by kernel_rfl) (by kernel_rfl) (by kernel_rfl) (fun _ _ _ h => h) (Or.inl ⟨by rfl, ?_⟩) hHeld ?_
              rotate_left
              · intro wS hSw
                go_simp
                rfl
              simp only [Act.put, List.setIfInBounds_toArray, List.set_cons_zero, List.set_cons_succ, List.getElem_toArray, List.getElem_cons_zero, List.getElem_cons_succ]
              refine wpAnyH_take (i := 11) (v := ?_) rfl (by kernel_rfl) (by kernel_rfl) (by kernel_rfl) (fun _ _ _ h => h) (Or.inl ⟨by rfl, ?_⟩) hHeld ?_
              rotate_left
              · intro wS hSw
                go_simp
                rfl
              simp only [Act.put, List.setIfInBounds_toArray, List.set_cons_zero, List.set_cons_succ, List.getElem_toArray, List.getElem_cons_zero, List.getElem_cons_succ]
              refine wpAnyH_take (i := 12) (v := ?_) rfl (by kernel_rfl) (by kernel_rfl) (by kernel_rfl) (fun _ _ _ h => h) (Or.inl ⟨by rfl, ?_⟩) hHeld ?_
              rotate_left
              · intro wS hSw
                go_simp
                rfl
              simp only [Act.put, List.setIfInBounds_toArray, List.set_cons_zero, List.set_cons_succ, List.getElem_toArray, List.getElem_cons_zero, List.getElem_cons_succ]
              refine wpAnyH_take (i := 13) (v := ?_) rfl (by kernel_rfl) (by kernel_rfl) (by kernel_rfl) (fun _ _ _ h => h) (Or.inl ⟨by rfl, ?_⟩) hHeld ?_
              rotate_left
              · intro wS hSw
                go_simp
                rfl
              simp only [Act.put, List.setIfInBounds_toArray, List.set_cons_zero, List.set_cons_succ, List.getElem_toArray, List.getElem_cons_zero, List.getElem_cons_succ]
              refine wpAnyH_take (i := 14) (v := ?_) rfl (by kernel_rfl) (by kernel_rfl) (by kernel_rfl) (fun _ _ _ h => h) (Or.inl ⟨by rfl, ?_⟩) hHeld ?_
              rotate_left
              · intro wS hSw
                have s0 := (hSw ⟨gb, of + k * 5, none⟩ hgb).trans d0'
                go_simp
                rfl
              simp only [Act.put, List.setIfInBounds_toArray, List.set_cons_zero, List.set_cons_succ, List.getElem_toArray, List.getElem_cons_zero, List.getElem_cons_succ]
              refine wpAnyH_ready (rs := [15]) (by kernel_rfl) (by simp) ?_
              refine AllReadyH.cons rfl (fun K hK => ?_) AllReadyH.nil
              go_simp
              go_at_call 15
              refine HOb.out.mono ?_
              rintro e w4 ⟨rfl, hq⟩
              subst w4
              refine hK.out _ _ hHeld (fun hH2 => ?_)
              clear hK K hH2
              try simp only [Act.put, List.setIfInBounds_toArray, List.set_cons_zero, List.set_cons_succ]
              refine wpAnyH_take (i := 16) (v := ?_) rfl (by kernel_rfl) (by kernel_rfl) (by kernel_rfl) (fun _ _ _ h => h) (Or.inl ⟨by rfl, ?_⟩) hHeld ?_
              rotate_left
              · intro wS hSw
                go_simp
                rfl
              simp only [Act.put, List.setIfInBounds_toArray, List.set_cons_zero, List.set_cons_succ, List.getElem_toArray, List.getElem_cons_zero, List.getElem_cons_succ]
              refine wpAnyH_take (i := 17) (v := ?_) rfl (by kernel_rfl) (by kernel_rfl) (by kernel_rfl) (fun _ _ _ h => h) (Or.inl ⟨by rfl, ?_⟩) hHeld ?_
              rotate_left
              · intro wS hSw
                go_simp
                rfl
              simp only [Act.put, List.setIfInBounds_toArray, List.set_cons_zero, List.set_cons_succ, List.getElem_toArray, List.getElem_cons_zero, List.getElem_cons_succ]
              refine wpAnyH_done (by kernel_rfl) ?_ _
              clear hHeld
              go_wp2_with fail
              go_roundw
              case rel => exact ⟨k + 1, by go_num, by omega, HAk, hide (Hb.out.trans (HB3.out.mono hwr))⟩
              case measure => simp [intOf]; omega
            | some j =>
              rw [hob] at HOb
              have hi1 : idxI (some j) = (j : Int) := rfl
              rw [hi1] at HOb
              have i6 : (0 : Int) ≤ j := by omega
              clear hi1
              refine wpAnyH_take (i := 5) (v := ?_) rfl (by kernel_rfl) (by kernel_rfl) (by kernel_rfl) (fun _ _ _ h => h) (Or.inl ⟨by rfl, ?_⟩) hHeld ?_
              rotate_left
              · intro wS hSw
                go_simp
                rfl
              simp only [Act.put, List.setIfInBounds_toArray, List.set_cons_zero, List.set_cons_succ, List.getElem_toArray, List.getElem_cons_zero, List.getElem_cons_succ]
              refine wpAnyH_take (i := 6) (v := ?_) rfl (by kernel_rfl) (by kernel_rfl) (by kernel_rfl) (fun _ _ _ h => h) (Or.inl ⟨by rfl, ?_⟩) hHeld ?_
              rotate_left
              · intro wS hSw
                go_simp
                rfl
              simp only [Act.put, List.setIfInBounds_toArray, List.set_cons_zero, List.set_cons_succ, List.getElem_toArray, List.getElem_cons_zero, List.getElem_cons_succ]
              refine wpAnyH_take (i := 7) (v := ?_) rfl (by kernel_rfl) (by kernel_rfl) (by kernel_rfl) (fun _ _ _ h => h) (Or.inl ⟨by rfl, ?_⟩) hHeld ?_
              rotate_left
              · intro wS hSw
                go_simp
                rfl
              simp only [Act.put, List.setIfInBounds_toArray, List.set_cons_zero, List.set_cons_succ, List.getElem_toArray, List.getElem_cons_zero, List.getElem_cons_succ]
              refine wpAnyH_take (i := 8) (v := ?_) rfl (by kernel_rfl) (by kernel_rfl) (by kernel_rfl) (fun _ _ _ h => h) (Or.inl ⟨by rfl, ?_⟩) hHeld ?_
              rotate_left
              · intro wS hSw
                go_simp
                rfl
              simp only [Act.put, List.setIfInBounds_toArray, List.set_cons_zero, List.set_cons_succ, List.getElem_toArray, List.getElem_cons_zero, List.getElem_cons_succ]
              refine wpAnyH_take (i := 9) (v := ?_) rfl (by kernel_rfl) (by kernel_rfl) (by kernel_rfl) (fun _ _ _ h => h) (Or.inl ⟨by rfl, ?_⟩) hHeld ?_
              rotate_left
              · intro wS hSw
                go_simp
                rfl
              simp only [Act.put, List.setIfInBounds_toArray, List.set_cons_zero, List.set_cons_succ, List.getElem_toArray, List.getElem_cons_zero, List.getElem_cons_succ]
              refine wpAnyH_take (i := 10) (v := ?_) rfl (by kernel_rfl) (by kernel_rfl) (by kernel_rfl) (fun _ _ _ h => h) (Or.inl ⟨by rfl, ?_⟩) hHeld ?_
              rotate_left
              · intro wS hSw
                go_simp
                rfl
              simp only [Act.put, List.setIfInBounds_toArray, List.set_cons_zero, List.set_cons_succ, List.getElem_toArray, List.getElem_cons_zero, List.getElem_cons_succ]
              refine wpAnyH_take (i := 11) (v := ?_) rfl (by kernel_rfl) (by kernel_rfl) (by kernel_rfl) (fun _ _ _ h => h) (Or.inl ⟨by rfl, ?_⟩) hHeld ?_
              rotate_left
              · intro wS hSw
                go_simp
                rfl
              simp only [Act.put, List.setIfInBounds_toArray, List.set_cons_zero, List.set_cons_succ, List.getElem_toArray, List.getElem_cons_zero, List.getElem_cons_succ]
              refine wpAnyH_take (i := 12) (v := ?_) rfl (by kernel_rfl) (by kernel_rfl) (by kernel_rfl) (fun _ _ _ h => h) (Or.inl ⟨by rfl, ?_⟩) hHeld ?_
              rotate_left
              · intro wS hSw
                go_simp
                rfl
              simp only [Act.put, List.setIfInBounds_toArray, List.set_cons_zero, List.set_cons_succ, List.getElem_toArray, List.getElem_cons_zero, List.getElem_cons_succ]
              refine wpAnyH_take (i := 13) (v := ?_) rfl (by kernel_rfl) (by kernel_rfl) (by kernel_rfl) (fun _ _ _ h => h) (Or.inl ⟨by rfl, ?_⟩) hHeld ?_
              rotate_left
              · intro wS hSw
                go_simp
                rfl
              simp only [Act.put, List.setIfInBounds_toArray, List.set_cons_zero, List.set_cons_succ, List.getElem_toArray, List.getElem_cons_zero, List.getElem_cons_succ]
              refine wpAnyH_take (i := 14) (v := ?_) rfl (by kernel_rfl) (by kernel_rfl) (by kernel_rfl) (fun _ _ _ h => h) (Or.inl ⟨by rfl, ?_⟩) hHeld ?_
              rotate_left
              · intro wS hSw
                have s0 := (hSw ⟨gb, of + k * 5, none⟩ hgb).trans d0'
                go_simp
                rfl
              simp only [Act.put, List.setIfInBounds_toArray, List.set_cons_zero, List.set_cons_succ, List.getElem_toArray, List.getElem_cons_zero, List.getElem_cons_succ]
              refine wpAnyH_ready (rs := [15]) (by kernel_rfl) (by simp) ?_
              refine AllReadyH.cons rfl (fun K hK => ?_) AllReadyH.nil
              go_simp
              go_at_call 15
              refine HOb.out.mono ?_
              rintro e w4 ⟨rfl, hq⟩
              subst w4
              refine hK.out _ _ hHeld (fun hH2 => ?_)
              clear hK K hH2
              try simp only [Act.put, List.setIfInBounds_toArray, List.set_cons_zero, List.set_cons_succ]
              refine wpAnyH_take (i := 16) (v := .bool true) rfl (by kernel_rfl) (by kernel_rfl) (by kernel_rfl) (fun _ _ _ h => h) (Or.inl ⟨by rfl, ?_⟩) hHeld ?_
              · intro wS hSw
                go_simp
                all_goals simp
              simp only [Act.put, List.setIfInBounds_toArray, List.set_cons_zero, List.set_cons_succ, List.getElem_toArray, List.getElem_cons_zero, List.getElem_cons_succ]
              refine wpAnyH_take (i := 17) (v := ?_) rfl (by kernel_rfl) (by kernel_rfl) (by kernel_rfl) (fun _ _ _ h => h) (Or.inl ⟨by rfl, ?_⟩) hHeld ?_
              rotate_left
              · intro wS hSw
                go_simp
                rfl
              simp only [Act.put, List.setIfInBounds_toArray, List.set_cons_zero, List.set_cons_succ, List.getElem_toArray, List.getElem_cons_zero, List.getElem_cons_succ]
              refine wpAnyH_done (by kernel_rfl) ?_ _
              clear hHeld
              have hnot : ¬ allOk okB L nL := fun h => by
                have := (h k hkL (by omega)).2
                rw [HXk.out, HMo.out, hob] at this
                cases this
              have HRR := hide (HR3.out hnot)
              clear hnot
              have hx3 : w3.heap[w.heap.size]? = some (.cells #[.int .i64 0, .slice none 0 0, .slice none 0 0, .slice none 0 0] 28 (0, 0)) := (HB3.out.block _ (Nat.lt_of_lt_of_le h1 hwr)).trans HXr.out
              have HX3 := hide hx3
              have HBw := hide (HBr.out.trans (HB3.out.mono HBr.out.size))
              obtain ⟨z0, z1⟩ := heapCells hx3
              have y0 : w3.cell? ⟨w.heap.size, 0, none⟩ = some (.int .i64 0) := z0 0
              have y1 : w3.cell? ⟨w.heap.size, 1, none⟩ = some (.slice none 0 0) := z0 1
              have y2 : w3.cell? ⟨w.heap.size, 2, none⟩ = some (.slice none 0 0) := z0 2
              have y3 : w3.cell? ⟨w.heap.size, 3, none⟩ = some (.slice none 0 0) := z0 3
              have f0 := z1 0
              have f1 := z1 1
              have f2 := z1 2
              have f3 := z1 3
              clear z0 z1 hx3
              go_wp2_with fail
              obtain ⟨r0, r1, r2, r3⟩ := set4_cells (y0 := .int .i64 0) (y1 := .slice none 0 0) (y2 := .slice none 0 0) (y3 := .slice none 0 0) HX3.out
              have hbF := set4_below (y0 := .int .i64 0) (y1 := .slice none 0 0) (y2 := .slice none 0 0) (y3 := .slice none 0 0) HBw.out (Nat.le_refl _)
              change bodyPost _ _ _ _ _ (set4 w3 w.heap.size (.int .i64 0) (.slice none 0 0) (.slice none 0 0) (.slice none 0 0))
              generalize set4 w3 w.heap.size (.int .i64 0) (.slice none 0 0) (.slice none 0 0) (.slice none 0 0) = wF at *
              refine bodyPost_ret (v := .tuple #[.agg #[.int .i64 0, .slice none 0 0, .slice none 0 0, .slice none 0 0], .string ⟨#[]⟩, .int .i64 1]) (by simp [results, Tryz.results5, go_sem, r0, r1, r2, r3]) rfl ((hend 1 HRR.out).out _ hbF)
        · have i4 : ¬ (k : Int) < nL := by omega
          obtain rfl : k = nL := by omega
          have HRR := hide (HR4.out Ha.out)
          have hall : ∀ x ∈ L, okB x = true := fun x hx => by
            obtain ⟨i, hi, rfl⟩ := List.getElem_of_mem hx
            exact (Ha.out i hi (by have := HNL.out; omega)).1
          have HLk : Hid (Calls Tryz.prog 16 #[.slice a L.length cp, .string main] wr fun e w' => LinkPost L wr (linkF L main) e w') := hide (by
            have hS := HS.out
            rw [← HNL.out] at hS
            exact l05Link_any a cp m L main wr (hS.on ObjectAt.stays (HBr.out.mono HM.out)) (Nat.le_trans HM.out HBr.out.size) HL1.out (fun x hx => (HTi x (hall x hx)).1) (fun x hx => (HTi x (hall x hx)).2))
          rw [HNL.out] at HLk
          clear HTi HOK hall
          cases hR : linkF L main with
          | inl ct =>
            obtain ⟨c, t⟩ := ct
            rw [hR] at HLk HRR
            clear hR
            go_wp2_with fail
            refine HLk.out.mono ?_
            rintro e w5 ⟨hb5, rfl⟩
            have hx5 : w5.heap[w.heap.size]? = some (.cells #[.int .i64 0, .slice none 0 0, .slice none 0 0, .slice none 0 0] 28 (0, 0)) := (hb5.block _ (Nat.lt_of_lt_of_le h1 hwr)).trans HXr.out
            have HX5 := hide hx5
            have HB5 := hide hb5
            have HBw := hide (HBr.out.trans (hb5.mono HBr.out.size))
            obtain ⟨z0, z1⟩ := heapCells hx5
            have y0 : w5.cell? ⟨w.heap.size, 0, none⟩ = some (.int .i64 0) := z0 0
            have y1 : w5.cell? ⟨w.heap.size, 1, none⟩ = some (.slice none 0 0) := z0 1
            have y2 : w5.cell? ⟨w.heap.size, 2, none⟩ = some (.slice none 0 0) := z0 2
            have y3 : w5.cell? ⟨w.heap.size, 3, none⟩ = some (.slice none 0 0) := z0 3
            have f0 := z1 0
            have f1 := z1 1
            have f2 := z1 2
            have f3 := z1 3
            clear z0 z1 hx5 hb5
            go_wp2_with fail
            obtain ⟨r0, r1, r2, r3⟩ := set4_cells (y0 := .int .i64 0) (y1 := .slice none 0 0) (y2 := .slice none 0 0) (y3 := .slice none 0 0) HX5.out
            have hbF := set4_below (y0 := .int .i64 0) (y1 := .slice none 0 0) (y2 := .slice none 0 0) (y3 := .slice none 0 0) HBw.out (Nat.le_refl _)
            change bodyPost _ _ _ _ _ (set4 w5 w.heap.size (.int .i64 0) (.slice none 0 0) (.slice none 0 0) (.slice none 0 0))
            generalize set4 w5 w.heap.size (.int .i64 0) (.slice none 0 0) (.slice none 0 0) (.slice none 0 0) = wF at *
            refine bodyPost_ret (v := .tuple #[.agg #[.int .i64 0, .slice none 0 0, .slice none 0 0, .slice none 0 0], .string t, .int .i64 c]) (by simp [results, Tryz.results5, go_sem, r0, r1, r2, r3]) rfl ?_
            rw [HRR.out]
            exact ⟨hbF, rfl⟩
          | inr o =>
            rw [hR] at HLk HRR
            clear hR
            go_wp2_with fail
            refine HLk.out.mono ?_
            rintro e w5 ⟨hb5, qa, ql, qc, na, nl, nc, sa, sl, sc, rfl, hrows⟩
            have HRo := hide hrows
            clear hrows
            have hx5 : w5.heap[w.heap.size]? = some (.cells #[.int .i64 0, .slice none 0 0, .slice none 0 0, .slice none 0 0] 28 (0, 0)) := (hb5.block _ (Nat.lt_of_lt_of_le h1 hwr)).trans HXr.out
            have HX5 := hide hx5
            have HB5 := hide hb5
            have HBw := hide (HBr.out.trans (hb5.mono HBr.out.size))
            obtain ⟨z0, z1⟩ := heapCells hx5
            have y0 : w5.cell? ⟨w.heap.size, 0, none⟩ = some (.int .i64 0) := z0 0
            have y1 : w5.cell? ⟨w.heap.size, 1, none⟩ = some (.slice none 0 0) := z0 1
            have y2 : w5.cell? ⟨w.heap.size, 2, none⟩ = some (.slice none 0 0) := z0 2
            have y3 : w5.cell? ⟨w.heap.size, 3, none⟩ = some (.slice none 0 0) := z0 3
            have f0 := z1 0
            have f1 := z1 1
            have f2 := z1 2
            have f3 := z1 3
            clear z0 z1 hx5 hb5
            go_wp2_with fail
            obtain ⟨r0, r1, r2, r3⟩ := set4_cells (y0 := .int .i64 (gsumP (objsOf L o) 0)) (y1 := .slice qa ql qc) (y2 := .slice na nl nc) (y3 := .slice sa sl sc) HX5.out
            have hbF := set4_below (y0 := .int .i64 (gsumP (objsOf L o) 0)) (y1 := .slice qa ql qc) (y2 := .slice na nl nc) (y3 := .slice sa sl sc) HBw.out (Nat.le_refl _)
            change bodyPost _ _ _ _ _ (set4 w5 w.heap.size (.int .i64 (gsumP (objsOf L o) 0)) (.slice qa ql qc) (.slice na nl nc) (.slice sa sl sc))
            have hrF : IRows (set4 w5 w.heap.size (.int .i64 (gsumP (objsOf L o) 0)) (.slice qa ql qc) (.slice na nl nc) (.slice sa sl sc)) w.heap.size (.slice qa ql qc) (.slice na nl nc) (.slice sa sl sc) (codesR (objsOf L o) (namesP (objsOf L o)) (objsOf L o)) (namesP (objsOf L o)) (starts (objsOf L o) 0) := by
              refine IRows.le (B := wr.heap.size) (HRo.out.of_heap fun k hk1 hk2 => ?_) HBr.out.size
              rw [set4_other (by omega)]
            generalize set4 w5 w.heap.size (.int .i64 (gsumP (objsOf L o) 0)) (.slice qa ql qc) (.slice na nl nc) (.slice sa sl sc) = wF at *
            refine bodyPost_ret (v := .tuple #[.agg #[.int .i64 (gsumP (objsOf L o) 0), .slice qa ql qc, .slice na nl nc, .slice sa sl sc], .string ⟨#[]⟩, .int .i64 0]) (by simp [results, Tryz.results5, go_sem, r0, r1, r2, r3]) rfl ?_
            rw [HRR.out]
            exact ⟨hbF, _, _, _, _, _, _, _, _, _, rfl, hrF⟩
end Go.Proofs.YtfbglokjehmgeaaGreatDoor
