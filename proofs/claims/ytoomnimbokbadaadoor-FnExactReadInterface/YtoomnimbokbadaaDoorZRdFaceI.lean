/- The program reads an interface off its bytes: the walk. No condition. -/
import Derived.Test.YtoomnimbokbadaaDoorZRdFace
namespace Go.Proofs.YtoomnimbokbadaaDoor
open Go.RowKit

set_option maxRecDepth 100000 in
set_option maxHeartbeats 8000000 in
theorem readInterface_any (R : Nat) (m : Md) (r : List Int) (w : World) (hl : r.length ≤ 1099511627776) (h : RS w R m r) :
    Calls Tryd.prog 32 #[.pointer (some ⟨R, 0, none⟩)] w fun e w' => (∃ v L, e = .returned (.agg #[.string (rdFac r).module, v]) ∧ IRow w' w.heap.size v L ∧ L.map Prod.fst = (rdFac r).items) ∧ Fr R w w' := by
  have HR := hide h
  have hRw : R < w.heap.size := by obtain ⟨_, _, h1, _⟩ := h; exact block_lt h1
  clear h
  go_enter Tryd.func32, Tryd.ntmps32
  obtain ⟨w0, hw0⟩ : ∃ w0, w0 = w.alloc (.cells #[.string ⟨#[]⟩, .slice none 0 0] 25) := ⟨_, rfl⟩
  have hb0 : Below w.heap.size w w0 := by rw [hw0]; exact (Below.refl _ _).alloc (Nat.le_refl _) _
  have hs0 : w0.heap.size = w.heap.size + 1 := by rw [hw0]; simp
  have hy0 : w0.heap[w.heap.size]? = some (.cells #[.string ⟨#[]⟩, .slice none 0 0] 25 (0, 0)) := by
    rw [hw0]
    exact Deep.blk_alloc_new w (.cells #[.string ⟨#[]⟩, .slice none 0 0] 25)
  have F00 := hide (show FrB R w.heap.size w w0 from .of_below hb0)
  have HY0 := hide hy0
  have HR0 := hide (HR.out.on hb0)
  obtain ⟨r1, E1⟩ : ∃ x, Hid (x = r.drop 3) := ⟨_, rfl⟩
  obtain ⟨r2, E2⟩ : ∃ x, Hid (x = r1.drop 1) := ⟨_, rfl⟩
  have HL0 := hide hl
  have HL1 : Hid (r1.length ≤ 1099511627776) := by refine hide ?_; rw [E1.out, List.length_drop]; omega
  have HL2 : Hid (r2.length ≤ 1099511627776) := by refine hide ?_; have := HL1.out; rw [E2.out, List.length_drop]; omega
  clear hl
  go_wp2_with fail
  rw [← hw0]
  clear hw0 hb0 hy0
  refine (show Calls Tryd.prog 55 #[.pointer (some ⟨R, 0, none⟩), .int .i64 3] w0 _ from readText_any R m r 3 _ HL0.out (by omega) HR0.out).mono ?_
  rintro e w1 ⟨rfl, h1, o1⟩
  rw [← E1.out] at h1
  have HR1 := hide h1
  have hs1 : w1.heap.size = w.heap.size + 1 := o1.size.trans hs0
  have f1 := FrB.of_only (B := w.heap.size + 1) o1
  clear h1 o1 HR0 hs0
  go_wp2_with fail
  have hin := hd_in HR1.out.in
  obtain ⟨n, hn, hn2⟩ : ∃ n : Nat, hd r1 = n ∧ n ≤ 255 := ⟨(hd r1).toNat, by omega, by omega⟩
  obtain ⟨r3, E3⟩ : ∃ x, Hid (x = r2.drop n) := ⟨_, rfl⟩
  obtain ⟨r4, E4⟩ : ∃ x, Hid (x = r3.drop 1) := ⟨_, rfl⟩
  have HL3 : Hid (r3.length ≤ 1099511627776) := by refine hide ?_; have := HL2.out; rw [E3.out, List.length_drop]; omega
  have HL4 : Hid (r4.length ≤ 1099511627776) := by refine hide ?_; have := HL3.out; rw [E4.out, List.length_drop]; omega
  refine (readByte_any R m r1 _ HL1.out HR1.out).mono ?_
  rintro e w2 ⟨rfl, h2, o2⟩
  rw [hn]
  rw [← E2.out] at h2
  have HR2 := hide h2
  have hs2 : w2.heap.size = w.heap.size + 1 := o2.size.trans hs1
  have f2 := f1.trans (.of_only o2)
  have HN := hide hn
  clear h2 o2 HR1 hs1 f1 hin hn
  go_wp2_with fail
  refine (readText_any R m r2 n _ HL2.out hn2 HR2.out).mono ?_
  rintro e w3 ⟨rfl, h3, o3⟩
  rw [← E3.out] at h3
  have HR3 := hide h3
  have hs3 : w3.heap.size = w.heap.size + 1 := o3.size.trans hs2
  have f3 := f2.trans (.of_only o3)
  obtain ⟨t, ht⟩ : ∃ t, Hid (t = bs (r2.take n)) := ⟨_, rfl⟩
  rw [← ht.out]
  clear h3 o3 HR2 hs2 f2
  go_wp2_with fail
  have bX : Below w3.heap.size w3 (w3.alloc (.cells #[.string t, .slice none 0 0] 25)) := (Below.refl _ _).alloc (Nat.le_refl _) _
  have hx3 : (w3.alloc (.cells #[.string t, .slice none 0 0] 25)).heap[w.heap.size + 1]? = some (.cells #[.string t, .slice none 0 0] 25 (0, 0)) := by
    have := Deep.blk_alloc_new w3 (.cells #[.string t, .slice none 0 0] 25)
    rwa [hs3] at this
  have hrx := HR3.out.on bX
  have hin := hd_in HR3.out.in
  obtain ⟨q, hq0, hq2⟩ : ∃ q : Nat, hd r3 = q ∧ q ≤ 255 := ⟨(hd r3).toNat, by omega, by omega⟩
  refine (readByte_any R m r3 _ HL3.out hrx).mono ?_
  rintro e w4 ⟨rfl, h4, o4⟩
  rw [hq0]
  rw [← E4.out] at h4
  have hq : (w.heap.size + 1) ≠ R := by omega
  have HX4 := hide ((o4.block _ hq).trans hx3)
  have f4 : FrB R (w.heap.size + 1) w0 w4 := (f3.trans (.of_below (bX.mono (by omega)))).trans (.of_only o4)
  have hs4 : w4.heap.size = w.heap.size + 2 := by rw [o4.size]; simp [hs3]
  have HR4 := hide h4
  have HQ := hide hq0
  have HF4 := hide f4
  clear h4 o4 HR3 hs3 f3 bX hx3 hrx hin hq0 f4
  go_wp2_with fail
  go_loopw [13] (fun i wr => ∃ (k : Nat) (v : Value) (L : List IV), i = .int .i64 k ∧ k ≤ q ∧ Hid (wr.heap[w.heap.size + 1]? = some (.cells #[.string t, v] 25 (0, 0))) ∧ Hid (IRow wr (w.heap.size + 2) v L) ∧ Hid (L.map Prod.fst = rdIts k r4) ∧ Hid (RS wr R m (rdRest k r4)) ∧ Hid (FrB R (w.heap.size + 1) w0 wr) ∧ w.heap.size + 2 ≤ wr.heap.size) (fun i _ => q - (intOf i).toNat)
  case atStart => exact ⟨0, _, [], rfl, by omega, HX4, hide (IRow.nil _ _), rfl, HR4, HF4, by omega⟩
  case round =>
    obtain ⟨k, v, L, rfl, hk, Hx, Hi, Hm, Hr, Hf, hsz⟩ := hrel
    obtain ⟨va, vn, vc, rfl⟩ := irow_form Hi.out
    have hLl : L.length = k := by have := congrArg List.length Hm.out; rwa [List.length_map, rdIts_len] at this
    by_cases hp : k < q
    · have i1 : (k : Int) < q := by omega
      have hLk : (rdRest k r4).length ≤ 1099511627776 := Nat.le_trans (rdRest_len k r4) HL4.out
      have hcall := readItem_any R m (rdRest k r4) wr.drew hLk (Hr.out.on (Below.refl _ _).drew)
      have hnum := rdIt_num Hr.out.in
      obtain ⟨it, hit⟩ : ∃ it, rdIt (rdRest k r4) = it := ⟨_, rfl⟩
      rw [hit] at hcall hnum
      have HIT := hide hit
      obtain ⟨y0, y1, y2, y3, t5, ps⟩ := it
      simp only [] at hcall
      have HC := hide hcall
      have HNum := hide hnum
      clear hcall hit hLk hnum
      have c0 : wr.cell? ⟨w.heap.size + 1, 1, none⟩ = some (.slice va vn vc) := (heapCells Hx.out).1 1
      go_wp2_with fail
      go_region_law (first
        | (refine step_item (by rfl) _ _ (by rfl) (w.heap.size + 2) (.slice va vn vc) L (by rfl) (owns_heap Hi.out.1 fun j hj hj2 => HA.out.2.2.2.1 j (by omega) hj2) w1.heap.size (⟨y0, y1, y2, y3, t5, ps⟩, .slice ua un uc) (by rfl) (itm_new w1 y0 y1 y2 y3 t5 ps (.slice ua un uc) rfl) (by rfl) (by omega) (by simp; omega) ?_
           intro g cap w2 ho hg
           have hx2 := (hg.block (w.heap.size + 1) (by simp; omega) (irow_far Hi.out (by omega))).trans HA.out.2.2.2.2
           have c2 : w2.cell? ⟨w.heap.size + 1, 1, none⟩ = some (.slice va vn vc) := (heapCells hx2).1 1
           have z2 := (heapCells hx2).2 1
           have HG := hide (And.intro ho (And.intro hg hx2))
           clear ho hg hx2)
        | (go_simp
           go_at_call 57
           refine HC.out.mono ?_
           rintro e w1 ⟨⟨u, rfl, hu⟩, h1, fr1⟩
           obtain ⟨ua, un, uc, rfl⟩ := prow_form hu
           have hsz1 : w.heap.size + 2 ≤ w1.heap.size := Nat.le_trans hsz fr1.size
           have hlo : ∀ j, w.heap.size + 1 ≤ j → j < wr.heap.size → (w1.alloc (.cells #[.int .i64 y0, .int .i64 y1, .int .i64 y2, .int .i64 y3, .string t5, .slice ua un uc] 57)).heap[j]? = wr.heap[j]? := fun j hj hj2 => (Below.heap_alloc _ _ _ (Nat.lt_of_lt_of_le hj2 fr1.size)).trans (fr1.block j hj2 (by omega))
           have hxa := (hlo (w.heap.size + 1) (by omega) (by omega)).trans Hx.out
           have c1 : w1.cell? ⟨w.heap.size + 1, 1, none⟩ = some (.slice va vn vc) := (heapCells ((fr1.block (w.heap.size + 1) (by show w.heap.size + 1 < wr.heap.size; omega) (by omega)).trans Hx.out)).1 1
           have c1a : (w1.alloc (.cells #[.int .i64 y0, .int .i64 y1, .int .i64 y2, .int .i64 y3, .string t5, .slice ua un uc] 57)).cell? ⟨w.heap.size + 1, 1, none⟩ = some (.slice va vn vc) := (heapCells hxa).1 1
           have HA := hide (And.intro hu (And.intro h1 (And.intro fr1 (And.intro hlo hxa))))
           clear hu h1 fr1 hlo hxa))
      all_goals
        obtain ⟨ho, hg, hx2⟩ := HG.out
        obtain ⟨hu, h1, fr1, hlo, hxa⟩ := HA.out
        have bA : Below (w.heap.size + 1) w1 (w1.alloc (.cells #[.int .i64 y0, .int .i64 y1, .int .i64 y2, .int .i64 y3, .string t5, .slice ua un uc] 57)) := (Below.refl _ _).alloc (by omega) _
        have bB : Below (w.heap.size + 1) w1 w2 := Below.grown bA hg (by simp; omega) (fun j hj => by have := (Hi.out.1.lt j hj).1; omega)
        have bC : Below (w.heap.size + 1) w1 (w2.setCell ⟨w.heap.size + 1, 1, none⟩ (.slice (some ⟨g, 0, none⟩) (k + 1) cap)) := bB.setCell (p := ⟨w.heap.size + 1, 1, none⟩) (Nat.le_refl _) _
        have hP := IRow.push Hi.out (fun j hj hj2 => hlo j (by omega) hj2) (PRow.on hu ((Below.refl _ _).alloc (Nat.le_refl _) _)) HNum.out hsz hg ho
        rw [hLl] at hP
        have HP := hide (IRow.of_heap (w' := w2.setCell ⟨w.heap.size + 1, 1, none⟩ (.slice (some ⟨g, 0, none⟩) (k + 1) cap)) hP fun j hj _ => Below.heap_setCell _ _ _ _ (by show j ≠ w.heap.size + 1; omega))
        have HX5 := hide (block_set hx2 (o := 1) (.slice (some ⟨g, 0, none⟩) (k + 1) cap))
        have HR5 := hide (h1.below bC (by omega))
        have HF5 := hide (((Hf.out.trans (.of_below (Below.refl _ _).drew)).trans (fr1.frB (by show w.heap.size + 1 ≤ wr.heap.size; omega))).trans (.of_below bC))
        have hs5 := bC.size
        have HM5 : Hid ((L ++ [((⟨y0, y1, y2, y3, t5, ps⟩ : Itm), Value.slice ua un uc)]).map Prod.fst = rdIts (k + 1) r4) := by
          refine hide ?_
          rw [rdIts_snoc, ← Hm.out, HIT.out]
          simp
        clear ho hg hx2 hu h1 fr1 hlo hxa bA bB bC hP
        go_wp2_with fail
        go_roundw
        case rel => exact ⟨k + 1, _, _, by go_num, by omega, HX5, HP, HM5, by rw [rdRest_snoc]; exact HR5, HF5, by omega⟩
        case measure => simp [intOf]; omega
    · have i1 : ¬ (k : Int) < q := by omega
      obtain rfl : k = q := by omega
      have hx := Hx.out
      have hy : wr.heap[w.heap.size]? = _ := (Hf.out.block _ (by omega) (by omega)).trans HY0.out
      have p0 : wr.cell? ⟨w.heap.size + 1, 0, none⟩ = some (.string t) := (heapCells hx).1 0
      have p1 : wr.cell? ⟨w.heap.size + 1, 1, none⟩ = some (.slice va vn vc) := (heapCells hx).1 1
      have q0 : wr.cell? ⟨w.heap.size, 0, none⟩ = some (.string ⟨#[]⟩) := (heapCells hy).1 0
      have q1 : wr.cell? ⟨w.heap.size, 1, none⟩ = some (.slice none 0 0) := (heapCells hy).1 1
      have s0 := (heapCells hy).2 0
      have s1 := (heapCells hy).2 1
      clear hx hy
      go_wp2
      refine bodyPost_ret (v := .agg #[.string t, .slice va vn vc]) (by simp [results, Tryd.results32, go_sem, q0, q1]) rfl ?_
      have oz := Only.trans (Only.set w.heap.size 0 wr (.string t)) (Only.set w.heap.size 1 _ (.slice va vn vc))
      have bz := oz.below (Nat.le_refl _)
      have e1 := E1.out
      have e2 : r2 = r.drop 4 := by rw [E2.out, e1, List.drop_drop]
      have e3 : r3 = r.drop (4 + n) := by rw [E3.out, e2, List.drop_drop]
      have e4 : r4 = r.drop (5 + n) := by rw [E4.out, e3, List.drop_drop]; congr 1; omega
      have hN : mdL r = n := by unfold mdL; rw [← e1, HN.out]; rfl
      have hQ : itN r = k := by unfold itN; rw [hN, ← e3, HQ.out]; rfl
      have hI : rdFac r = ⟨t, rdIts k r4⟩ := by
        unfold rdFac
        rw [hQ, hN, ← e4, ← e2, ← ht.out]
      refine ⟨⟨.slice va vn vc, by rw [hI], L, ?_, by rw [hI]; exact Hm.out⟩, ?_⟩
      · exact (Hi.out.of_heap fun j hj _ => oz.block j (by omega)).le (by omega)
      · have F := F00.out.trans (FrB.trans ⟨Hf.out.os, Hf.out.tape, Hf.out.output, Hf.out.size, fun j hj hr => Hf.out.block j (by omega) hr⟩ (FrB.of_below bz))
        exact ⟨F.os, F.tape, F.output, F.size, F.block⟩
end Go.Proofs.YtoomnimbokbadaaDoor
