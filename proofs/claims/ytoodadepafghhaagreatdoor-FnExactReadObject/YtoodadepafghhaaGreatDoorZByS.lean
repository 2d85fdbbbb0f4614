/- The model's l04Bytes answers 'objBs' of a small object. No condition. -/
import Derived.Test.YtoodadepafghhaaGreatDoorZByO
import Derived.Test.YtoodadepafghhaaGreatDoorZByM
namespace Go.Proofs.YtoodadepafghhaaGreatDoor
open Go.RowKit

theorem Full.on {w w' : World} {v : Value} {l : List Int} (h : Full w v l) (bel : Below w.heap.size w w') : Full w' v l := by
  obtain ⟨g, e, hc⟩ := h
  refine ⟨g, e, fun j u hu => ?_⟩
  have := hc j u hu
  have e2 : (⟨g, 0, none⟩ : Addr).add j = ⟨g, j, none⟩ := by simp [Addr.add]; intro h; exact h.symm
  rw [e2] at this ⊢
  exact (bel.cell (p := ⟨g, j, none⟩) (block_lt this)).trans this
theorem oo_conv1 (w : World) (X : Obj) : (convert 22 22 (.slice (some ⟨w.heap.size + 1, 0, none⟩) 3 3)).run Tryz.prog ((w.alloc X).alloc (.cells #[.int .u8 79, .int .u8 79, .int .u8 49] 5)) = .ok (.slice (some ⟨w.heap.size + 1, 0, none⟩) 3 3) ((w.alloc X).alloc (.cells #[.int .u8 79, .int .u8 79, .int .u8 49] 5 (3, 4))) := by
  have := oo_conv (w.alloc X)
  rwa [World.size_alloc] at this
theorem six_new (w : World) (x1 x2 x3 x4 x5 x6 : Int) (T : TypeId) : ∀ j u, (bc [x1, x2, x3, x4, x5, x6])[j]? = some u → (w.alloc (.cells #[.int .u8 x1, .int .u8 x2, .int .u8 x3, .int .u8 x4, .int .u8 x5, .int .u8 x6] T)).cell? ((⟨w.heap.size, 0, none⟩ : Addr).add j) = some u := by
  intro j u hu
  match j, hu with
  | 0, hu => simp [bc] at hu; subst hu; simp [Addr.add, go_sem]
  | 1, hu => simp [bc] at hu; subst hu; simp [Addr.add, go_sem]
  | 2, hu => simp [bc] at hu; subst hu; simp [Addr.add, go_sem]
  | 3, hu => simp [bc] at hu; subst hu; simp [Addr.add, go_sem]
  | 4, hu => simp [bc] at hu; subst hu; simp [Addr.add, go_sem]
  | 5, hu => simp [bc] at hu; subst hu; simp [Addr.add, go_sem]
  | j + 6, hu => simp [bc] at hu
theorem lit_at {w : World} {b : Nat} {x y : Int} {T : TypeId} (h : w.heap[b]? = some (.cells #[.int .u8 y] T)) (e : y = x) : ∀ j u, (bc [x])[j]? = some u → w.cell? ((⟨b, 0, none⟩ : Addr).add j) = some u := by
  subst e
  intro j u hu
  have hc := (heapCells h).1
  match j, hu with
  | 0, hu =>
    simp [bc] at hu
    subst hu
    have := hc 0
    simpa [Addr.add] using this
  | j + 1, hu => simp [bc] at hu
theorem insBs_yes (x : InsD) (h : namedB x.op = true) : insBs x = ([x.op % 256] ++ numB x.a) ++ (([x.b % 256] ++ txtB x.mod) ++ txtB x.name) := by
  unfold insBs
  rw [if_pos h]
theorem insBs_no (x : InsD) (h : namedB x.op = false) : insBs x = [x.op % 256] ++ numB x.a := by
  unfold insBs
  rw [h]
  simp
set_option maxRecDepth 100000 in
set_option maxHeartbeats 16000000 in
theorem l04Bytes_any (v : Value) (m : Md) (x : ObjectD) (w : World) (hv : ObjectVal w m v x) (hm : m.hi ≤ w.heap.size) (hS : SmallO x) (hC : ∀ y ∈ x.procs, 0 ≤ y.cells ∧ y.cells ≤ 65535) :
    Calls Tryz.prog 43 #[v] w fun e w' => (∃ u, e = .returned u ∧ Own w' w.heap.size u (objBs x)) ∧ Below w.heap.size w w' := by
  have HX := hide (show objBs x = (((((objHead x ++ x.needs.flatMap needBs) ++ [(x.globals.length : Int) % 256]) ++ x.globals.flatMap globBs) ++ [(x.procs.length : Int) % 256]) ++ x.procs.flatMap codeBs) from rfl)
  have HH := hide (show objHead x = (([79, 79, 49] ++ txtB x.module) ++ numB x.print) ++ [(x.needs.length : Int) % 256] from rfl)
  generalize objBs x = X at *
  generalize objHead x = Y at *
  obtain ⟨s1, s2, s3, s4, s5, s6, s7⟩ := hS
  obtain ⟨on, op, L2, L3, L4⟩ := x
  obtain ⟨u2, u3, u4, rfl, -, ⟨a2, c2, rfl, h2⟩, ⟨a3, c3, rfl, h3⟩, ⟨a4, c4, rfl, h4⟩⟩ := hv
  simp only [] at *
  have HR2 := hide h2
  have HR3 := hide h3
  have HR4 := hide h4
  have S5 := hide s5
  have S6 := hide s6
  have S7 := hide s7
  have S8 := hide hC
  obtain ⟨n2, e2⟩ : ∃ n, L2.length = n := ⟨_, rfl⟩
  obtain ⟨n3, e3⟩ : ∃ n, L3.length = n := ⟨_, rfl⟩
  obtain ⟨n4, e4⟩ : ∃ n, L4.length = n := ⟨_, rfl⟩
  have N2 := hide e2
  have N3 := hide e3
  have N4 := hide e4
  rw [e2] at HH s2 ⊢
  rw [e3] at HX s3 ⊢
  rw [e4] at HX s4 ⊢
  clear h2 h3 h4 s5 s6 s7 e2 e3 e4 hC
  have hcv := oo_conv1
  go_enter Tryz.func43, Tryz.ntmps43
  go_wp2_with (first
    | (go_at_call 100; refine (l03Text_any on _ (by omega)).mono ?_; rintro e w1 ⟨⟨u1, rfl, h1⟩, b1⟩; obtain ⟨g1, c1, rfl, hg1, hg1'⟩ := h1.form (by rw [txtB_len]; omega); have k0 := (b1.cell (p := ⟨w.heap.size, 1, none⟩) (by simp; omega)).trans (show _ = some (Value.int .i64 op) by simp [go_sem]); have k1 := (b1.cell (p := ⟨w.heap.size, 2, none⟩) (by simp; omega)).trans (show _ = some (Value.slice a2 n2 c2) by simp [go_sem]); have hf := (oo_full_at (w := w.alloc (.cells #[.string on, .int .i64 op, .slice a2 n2 c2, .slice a3 n3 c3, .slice a4 n4 c4] 44)) (b := w.heap.size + 1) (by simp) (3, 4)).on b1)
    | (at_builtin; refine wp_append_full rfl _ _ rfl (w.heap.size + 1) _ [79, 79, 49] rfl hf ⟨g1, 0, none⟩ _ c1 (txtB on) rfl rfl h1.cells (by rw [txtB_len]; omega) (by rw [txtB_len]; simp; omega) (by have := b1.size; simp at this; omega) ?_; intro v2 w2 h2 b2; have k2 := (b2.bel.cell (p := ⟨w.heap.size, 1, none⟩) (by show w.heap.size < w.heap.size + 1; omega)).trans k0; have hB2 : w.heap.size + 1 ≤ w2.heap.size := (by have := b1.size; have := b2.size; simp at *; omega)))
  have HW := hide (Deep.blk_alloc_new w (.cells #[.string on, .int .i64 op, .slice a2 n2 c2, .slice a3 n3 c3, .slice a4 n4 c4] 44))
  have K2 := hide (((Kp.refl (w.heap.size + 1) (w.alloc (.cells #[.string on, .int .i64 op, .slice a2 n2 c2, .slice a3 n3 c3, .slice a4 n4 c4] 44))).alloc (by simp) _).trans ((Kp.of_below b1 (by simp)).trans b2))
  obtain ⟨W, hW⟩ : ∃ W, W = w.alloc (.cells #[.string on, .int .i64 op, .slice a2 n2 c2, .slice a3 n3 c3, .slice a4 n4 c4] 44) := ⟨_, rfl⟩
  have HB1 := hide (show Below w.heap.size w W by rw [hW]; exact (Below.refl _ _).alloc (Nat.le_refl _) _)
  have hWs : W.heap.size = w.heap.size + 1 := by rw [hW]; simp
  rw [← hW] at HW K2
  have H2 := hide h2
  clear h1 b1 b2 hf hg1 hg1' k0 k1 k2 hcv h2 hW
  obtain ⟨B, hBe⟩ : ∃ B, w.heap.size + 1 = B := ⟨_, rfl⟩
  rw [hBe] at H2 K2 hB2 hWs
  have hmB : m.hi ≤ B := by omega
  refine (l03Eight_any op _).mono ?_
  rintro e w3 ⟨⟨u3, rfl, h3⟩, b3⟩
  obtain ⟨g3, c3', rfl, hg3, hg3'⟩ := h3.form (by rw [numB_len]; decide)
  go_wp2_with (first
    | (at_builtin; refine wp_append_bytes rfl _ _ rfl B _ _ rfl (H2.out.on b3) ⟨g3, 0, none⟩ _ c3' (numB op) rfl rfl h3.cells (by simp [txtB_len, numB_len]; omega) (by have := b3.size; omega) ?_; intro v4 w4 h4 b4; have K4 := hide ((K2.out.trans (Kp.of_below b3 hB2)).trans b4); have z4 : B ≤ w4.heap.size := (by have := b3.size; have := b4.size; omega); have q4 := box_cells HW.out K4.out (by decide) 2; simp at q4)
    | (at_builtin; refine wp_append_bytes rfl _ _ rfl B _ _ rfl (h4.alloc _) ⟨w4.heap.size, 0, none⟩ 1 1 [_] rfl rfl (one_new _ _ _) (by simp [txtB_len, numB_len]; omega) (by simp; omega) ?_; intro v5 w5 h5 b5))
  have K5 := hide ((K4.out.alloc z4 _).trans b5)
  have z5 : B ≤ w5.heap.size := by have := b5.size; simp at this; omega
  have eY : Y.length ≤ 60 := by rw [HH.out]; simp [txtB_len, numB_len]; omega
  have H5 := hide (show Own w5 B v5 (Y ++ (L2.take 0).flatMap needBs) by
    rw [List.take_zero, List.flatMap_nil, List.append_nil, HH.out, Int.emod_eq_of_lt (by omega) (by omega)]
    exact h5)
  clear h3 hg3 hg3' b3 h4 b4 q4 h5 b5
  go_loopw [3, 4] (fun b i wr => ∃ k : Nat, i = .int .i64 k ∧ k ≤ n2 ∧ Hid (Own wr B b (Y ++ (L2.take k).flatMap needBs)) ∧ Kp B W wr) (fun _ i _ => n2 - (intOf i).toNat)
  case atStart => exact ⟨0, rfl, by omega, H5, K5.out⟩
  case round =>
    obtain ⟨k, rfl, hk, Hk, hbw⟩ := hrel
    have hBr : B ≤ wr.heap.size := by have := hbw.size; omega
    have q2 := box_cells HW.out hbw (by decide) 2
    simp at q2
    by_cases hp : k < n2
    · as_aux_lemma =>
      have i1 : (k : Int) < n2 := by omega
      have hkl : k < L2.length := by rw [N2.out]; exact hp
      have hball : Below m.hi w wr := (HB1.out.mono hm).trans (hbw.bel.mono hmB)
      obtain ⟨b, o, rfl, -, hb2, -, he⟩ := rows_on NeedAt.stays HR2.out hball k hkl
      have hT := flat_step needBs hkl
      have hsm := S5.out L2[k] (List.getElem_mem hkl)
      have hpl := flat_tlen needBs 49 20 k L2 (fun y hy => need_blen (S5.out y hy)) (by rw [N2.out]; exact s2)
      obtain ⟨x, hx⟩ : ∃ x, L2[k] = x := ⟨_, rfl⟩
      rw [hx] at he hT hsm
      obtain ⟨⟨c0, c1⟩, -⟩ := he
      simp only [Nat.add_zero] at c0 c1
      obtain ⟨Z, hZ⟩ : ∃ Z, Y ++ (L2.take k).flatMap needBs = Z := ⟨_, rfl⟩
      have hZl : Z.length ≤ 2000 := by rw [← hZ, List.length_append]; omega
      rw [hZ] at Hk
      have HT : Hid (Y ++ (L2.take (k + 1)).flatMap needBs = (Z ++ txtB x.module) ++ numB x.print) := hide (by rw [hT, ← List.append_assoc, hZ]; unfold needBs; rw [← List.append_assoc])
      clear hT hpl hx hZ hball
      obtain ⟨nm, pr⟩ := x
      simp only [] at c0 c1 hsm HT
      have hbB : b < B := by omega
      go_wp2
      go_region_held3 (fun w' => w'.cell? ⟨w.heap.size, 2, none⟩ = some (.slice (some ⟨b, o, none⟩) n2 c2) ∧ w'.cell? ⟨b, o + k * 2, none⟩ = some (.string nm) ∧ w'.cell? ⟨b, o + k * 2 + 1, none⟩ = some (.int .i64 pr))
        (first
          | go_keep
          | (go_split_ands; exact ⟨by have := box_cells HW.out (hbw.trans kb6) (by decide) 2; simpa using this, (kb6.bel.cell (p := ⟨b, o + k * 2, none⟩) hbB).trans c0, (kb6.bel.cell (p := ⟨b, o + k * 2 + 1, none⟩) hbB).trans c1⟩)
          | (go_split_ands; exact ⟨by have := box_cells HW.out (hbw.trans kb7) (by decide) 2; simpa using this, (kb7.bel.cell (p := ⟨b, o + k * 2, none⟩) hbB).trans c0, (kb7.bel.cell (p := ⟨b, o + k * 2 + 1, none⟩) hbB).trans c1⟩)
          | (go_split_ands; exact ⟨by have := box_cells HW.out (hbw.trans kb8) (by decide) 2; simpa using this, (kb8.bel.cell (p := ⟨b, o + k * 2, none⟩) hbB).trans c0, (kb8.bel.cell (p := ⟨b, o + k * 2 + 1, none⟩) hbB).trans c1⟩)
          | (go_split_ands; exact ⟨by have := box_cells HW.out (hbw.trans kb9) (by decide) 2; simpa using this, (kb9.bel.cell (p := ⟨b, o + k * 2, none⟩) hbB).trans c0, (kb9.bel.cell (p := ⟨b, o + k * 2 + 1, none⟩) hbB).trans c1⟩))
        ((first
          | (go_at_call 100; refine (l03Text_any nm _ (by omega)).mono ?_; rintro e w6 ⟨⟨u6, rfl, h6⟩, b6⟩; obtain ⟨g6, c6, rfl, hg6, hg6'⟩ := h6.form (by rw [txtB_len]; omega); have kb6 : Kp B wr w6 := (Kp.of_below (Below.refl _ _).drew hBr).trans (Kp.of_below b6 (by simp; omega)); have z6 : B ≤ w6.heap.size := (by have := kb6.size; omega))
          | (go_at_call 101; refine (l03Eight_any pr _).mono ?_; rintro e w8 ⟨⟨u8, rfl, h8⟩, b8⟩; obtain ⟨g8, c8, rfl, hg8, hg8'⟩ := h8.form (by rw [numB_len]; decide); have kb8 : Kp B wr w8 := kb7.trans (Kp.of_below b8 z7); have z8 : B ≤ w8.heap.size := (by have := kb8.size; omega))
          | (refine step_bytes (by rfl) _ _ (by rfl) B _ Z (by rfl) (Hk.out.drewn.on b6) ⟨g6, 0, none⟩ _ c6 (txtB nm) (by rfl) (by rfl) h6.cells (by rw [txtB_len]; omega) (by rw [txtB_len]; omega) z6 ?_; intro g7 c7 w7 h7 gr7 k7; have kb7 := kb6.trans k7; have z7 : B ≤ w7.heap.size := (by have := kb7.size; omega))
          | (refine step_bytes (by rfl) _ _ (by rfl) B _ _ (by rfl) (h7.on b8) ⟨g8, 0, none⟩ _ c8 (numB pr) (by rfl) (by rfl) h8.cells (by rw [numB_len]; decide) (by simp [txtB_len, numB_len]; omega) z8 ?_; intro g9 c9 w9 h9 gr9 k9; have kb9 := kb8.trans k9)))
      have el : (Z ++ txtB nm).length + (numB pr).length = Z.length + (txtB nm).length + (numB pr).length := by rw [List.length_append]
      rw [el] at h9
      have H9 := hide (show Own w9 B (.slice (some ⟨g9, 0, none⟩) (Z.length + (txtB nm).length + (numB pr).length) c9) (Y ++ (L2.take (k + 1)).flatMap needBs) by rw [HT.out]; exact h9)
      clear h9 gr9 k9 h7 gr7 k7 h6 b6 h8 b8 hg6 hg6' hg8 hg8'
      go_wp2
      go_roundw
      case rel => exact ⟨k + 1, by go_num, by omega, H9, hbw.trans kb9⟩
      case measure => simp [intOf]; omega
    · have i1 : ¬ (k : Int) < n2 := by omega
      obtain rfl : k = n2 := by omega
      have hpl := flat_tlen needBs 49 20 L2.length L2 (fun y hy => need_blen (S5.out y hy)) (by rw [N2.out]; exact s2)
      rw [List.take_of_length_le (Nat.le_refl _)] at hpl
      have HA := Hk.out
      rw [List.take_of_length_le (by rw [N2.out]; exact Nat.le_refl _)] at HA
      obtain ⟨Z, hZ⟩ : ∃ Z, Y ++ L2.flatMap needBs = Z := ⟨_, rfl⟩
      have hZl : Z.length ≤ 2000 := by rw [← hZ, List.length_append]; omega
      rw [hZ] at HA HX
      have HA' := hide HA
      have KA := hide hbw
      have qa := box_cells HW.out KA.out (by decide) 3
      simp at qa
      clear HA hZ hpl Hk hbw HR2 S5 N2 HH H2 H5 K2 K4 K5
      go_wp2_with (at_builtin; refine wp_append_bytes rfl _ _ rfl B _ _ rfl (HA'.out.alloc _) ⟨wr.heap.size, 0, none⟩ 1 1 [_] rfl rfl (one_new _ _ _) (by omega) (by simp; omega) ?_; intro v5 w6 h5 b5; have K6 := hide ((KA.out.alloc hBr _).trans b5))
      have z6 : B ≤ w6.heap.size := by have := b5.size; simp at this; omega
      obtain ⟨Y5, hY5⟩ : ∃ Y5, Z ++ [(n3 : Int) % 256] = Y5 := ⟨_, rfl⟩
      have hY5l : Y5.length ≤ 2001 := by rw [← hY5, List.length_append]; simp only [List.length_cons, List.length_nil]; omega
      rw [hY5] at HX
      have H6 := hide (show Own w6 B v5 (Y5 ++ (L3.take 0).flatMap globBs) by
        rw [List.take_zero, List.flatMap_nil, List.append_nil, ← hY5, Int.emod_eq_of_lt (by omega) (by omega)]
        exact h5)
      clear h5 b5 qa hY5 HA' KA hBr
      go_loopw [3, 5] (fun b i wr => ∃ k : Nat, i = .int .i64 k ∧ k ≤ n3 ∧ Hid (Own wr B b (Y5 ++ (L3.take k).flatMap globBs)) ∧ Kp B W wr) (fun _ i _ => n3 - (intOf i).toNat)
      case atStart => exact ⟨0, rfl, by omega, H6, K6.out⟩
      case round =>
        obtain ⟨j, rfl, hj, Hj, hbj⟩ := hrel
        have hBr : B ≤ wr.heap.size := by have := hbj.size; omega
        have q3 := box_cells HW.out hbj (by decide) 3
        simp at q3
        by_cases hp3 : j < n3
        · as_aux_lemma =>
          have i3 : (j : Int) < n3 := by omega
          have hkl : j < L3.length := by rw [N3.out]; exact hp3
          have hball : Below m.hi w wr := (HB1.out.mono hm).trans (hbj.bel.mono hmB)
          obtain ⟨b, o, rfl, -, hb2, -, he⟩ := rows_on GlobalAt.stays HR3.out hball j hkl
          have hT := flat_step globBs hkl
          have hsm := S6.out L3[j] (List.getElem_mem hkl)
          have hpl := flat_tlen globBs 42 100 j L3 (fun y hy => glob_blen (S6.out y hy)) (by rw [N3.out]; exact s3)
          obtain ⟨x, hx⟩ : ∃ x, L3[j] = x := ⟨_, rfl⟩
          rw [hx] at he hT hsm
          obtain ⟨⟨c0, c1⟩, -⟩ := he
          simp only [Nat.add_zero] at c0 c1
          obtain ⟨Z3, hZ⟩ : ∃ Z, Y5 ++ (L3.take j).flatMap globBs = Z := ⟨_, rfl⟩
          have hZl : Z3.length ≤ 7000 := by rw [← hZ, List.length_append]; omega
          rw [hZ] at Hj
          have HT : Hid (Y5 ++ (L3.take (j + 1)).flatMap globBs = (Z3 ++ txtB x.name) ++ [x.length % 256]) := hide (by rw [hT, ← List.append_assoc, hZ]; unfold globBs; rw [← List.append_assoc])
          clear hT hpl hx hZ hball
          obtain ⟨nm, ln⟩ := x
          simp only [] at c0 c1 hsm HT
          have hbB : b < B := by omega
          have el7 : (Z3 ++ txtB nm).length ≤ 8000 := by rw [List.length_append, txtB_len]; omega
          go_wp2
          go_region_held3 (fun w' => w'.cell? ⟨w.heap.size, 3, none⟩ = some (.slice (some ⟨b, o, none⟩) n3 c3) ∧ w'.cell? ⟨b, o + j * 2, none⟩ = some (.string nm) ∧ w'.cell? ⟨b, o + j * 2 + 1, none⟩ = some (.int .i64 ln))
            (first
              | go_keep
              | (go_split_ands; exact ⟨by have := box_cells HW.out (hbj.trans kb6) (by decide) 3; simpa using this, (kb6.bel.cell (p := ⟨b, o + j * 2, none⟩) hbB).trans c0, (kb6.bel.cell (p := ⟨b, o + j * 2 + 1, none⟩) hbB).trans c1⟩)
              | (go_split_ands; exact ⟨by have := box_cells HW.out (hbj.trans kb7) (by decide) 3; simpa using this, (kb7.bel.cell (p := ⟨b, o + j * 2, none⟩) hbB).trans c0, (kb7.bel.cell (p := ⟨b, o + j * 2 + 1, none⟩) hbB).trans c1⟩)
              | (go_split_ands; exact ⟨by have := box_cells HW.out (hbj.trans kb9) (by decide) 3; simpa using this, (kb9.bel.cell (p := ⟨b, o + j * 2, none⟩) hbB).trans c0, (kb9.bel.cell (p := ⟨b, o + j * 2 + 1, none⟩) hbB).trans c1⟩))
            ((first
              | (go_at_call 100; refine (l03Text_any nm _ (by omega)).mono ?_; rintro e w6 ⟨⟨u6, rfl, h6⟩, b6⟩; obtain ⟨g6, c6, rfl, hg6, hg6'⟩ := h6.form (by rw [txtB_len]; omega); have kb6 : Kp B wr w6 := (by first | exact (Kp.of_below (Below.refl _ _).drew hBr).trans (Kp.of_below b6 (by simp; omega)) | exact ((Kp.refl B wr).alloc hBr _).trans ((Kp.of_below (Below.refl _ _).drew (by simp; omega)).trans (Kp.of_below b6 (by simp; omega)))); have z6 : B ≤ w6.heap.size := (by have := kb6.size; omega))
              | (refine step_bytes (by rfl) _ _ (by rfl) B _ Z3 (by rfl) ((Hj.out.drewn.on b6).alloc _) ⟨g6, 0, none⟩ _ c6 (txtB nm) (by rfl) (by rfl) (h6.alloc _).cells (by rw [txtB_len]; omega) (by rw [txtB_len]; omega) (by simp; omega) ?_; intro g7 c7 w7 h7 gr7 k7; have kb7 := (kb6.alloc z6 _).trans k7; have z7 : B ≤ w7.heap.size := (by have := kb7.size; omega); have lit7 := (gr7.block w6.heap.size (by simp) (fun e => by have := (Own.block_lt (Hj.out.drewn.on b6)) _ e.symm; omega)).trans (Deep.blk_alloc_new w6 _))
              | (refine step_bytes (by rfl) _ _ (by rfl) B _ _ (by rfl) h7 ⟨w6.heap.size, 0, none⟩ 1 1 [ln % 256] (by rfl) (by rfl) (lit_at lit7 (IntKind.wrap_u8 ln)) (by decide) (by omega) z7 ?_; intro g9 c9 w9 h9 gr9 k9; have kb9 := kb7.trans k9)
              | (refine step_bytes (by rfl) _ _ (by rfl) B _ Z3 (by rfl) (Hj.out.drewn.on b6) ⟨g6, 0, none⟩ _ c6 (txtB nm) (by rfl) (by rfl) h6.cells (by rw [txtB_len]; omega) (by rw [txtB_len]; omega) z6 ?_; intro g7 c7 w7 h7 gr7 k7; have kb7 := kb6.trans k7; have z7 : B ≤ w7.heap.size := (by have := kb7.size; omega))
              | (refine step_bytes (by rfl) _ _ (by rfl) B _ _ (by rfl) (h7.alloc _) ⟨w7.heap.size, 0, none⟩ 1 1 [ln % 256] (by rfl) (by rfl) (one_new _ _ _) (by decide) (by omega) (by rw [World.size_alloc]; omega) ?_; intro g9 c9 w9 h9 gr9 k9; have kb9 := (kb7.alloc z7 _).trans k9)
              | (refine step_bytes (by rfl) _ _ (by rfl) B _ Z3 (by rfl) ((Hj.out.alloc _).drewn.on b6) ⟨g6, 0, none⟩ _ c6 (txtB nm) (by rfl) (by rfl) h6.cells (by rw [txtB_len]; omega) (by rw [txtB_len]; omega) z6 ?_; intro g7 c7 w7 h7 gr7 k7; have kb7 := kb6.trans k7; have z7 : B ≤ w7.heap.size := (by have := kb7.size; omega); have lit7 := (gr7.block wr.heap.size (by have := b6.size; simp at this; omega) (fun e => by have := Own.block_lt Hj.out _ e.symm; omega)).trans ((b6.block wr.heap.size (by simp)).trans (Deep.blk_alloc_new wr _)))
              | (refine step_bytes (by rfl) _ _ (by rfl) B _ _ (by rfl) h7 ⟨wr.heap.size, 0, none⟩ 1 1 [ln % 256] (by rfl) (by rfl) (lit_at lit7 (IntKind.wrap_u8 ln)) (by decide) (by omega) z7 ?_; intro g9 c9 w9 h9 gr9 k9; have kb9 := kb7.trans k9)))
          all_goals
            have el : (Z3 ++ txtB nm).length + 1 = Z3.length + (txtB nm).length + 1 := by rw [List.length_append]
            rw [el] at h9
            have H9 := hide (show Own w9 B (.slice (some ⟨g9, 0, none⟩) (Z3.length + (txtB nm).length + 1) c9) (Y5 ++ (L3.take (j + 1)).flatMap globBs) by rw [HT.out]; exact h9)
            have K9 := hide (hbj.trans kb9)
            clear h9 gr9 k9 h7 gr7 k7 h6 b6 hg6 hg6' kb6 kb7 kb9
            go_wp2
            go_roundw
            · exact ⟨j + 1, by go_num, by omega, H9, K9.out⟩
            · simp [intOf]; omega
        · have i3 : ¬ (j : Int) < n3 := by omega
          obtain rfl : j = n3 := by omega
          have hpl := flat_tlen globBs 42 100 L3.length L3 (fun y hy => glob_blen (S6.out y hy)) (by rw [N3.out]; exact s3)
          rw [List.take_of_length_le (Nat.le_refl _)] at hpl
          have HA := Hj.out
          rw [List.take_of_length_le (by rw [N3.out]; exact Nat.le_refl _)] at HA
          obtain ⟨Z3, hZ⟩ : ∃ Z, Y5 ++ L3.flatMap globBs = Z := ⟨_, rfl⟩
          have hZ3l : Z3.length ≤ 7000 := by rw [← hZ, List.length_append]; omega
          rw [hZ] at HA HX
          have HA' := hide HA
          have KA := hide hbj
          have qa := box_cells HW.out KA.out (by decide) 4
          simp at qa
          clear HA hZ hpl Hj hbj HR3 S6 N3 H6 K6
          go_wp2_with (at_builtin; refine wp_append_bytes rfl _ _ rfl B _ _ rfl (HA'.out.alloc _) ⟨wr.heap.size, 0, none⟩ 1 1 [_] rfl rfl (one_new _ _ _) (by omega) (by simp; omega) ?_; intro v8 w8 h8 b8; have K8 := hide ((KA.out.alloc hBr _).trans b8))
          have z8 : B ≤ w8.heap.size := by have := b8.size; simp at this; omega
          obtain ⟨Y8, hY8⟩ : ∃ Y8, Z3 ++ [(n4 : Int) % 256] = Y8 := ⟨_, rfl⟩
          have hY8l : Y8.length ≤ 7001 := by rw [← hY8, List.length_append]; simp only [List.length_cons, List.length_nil]; omega
          rw [hY8] at HX
          have H8 := hide (show Own w8 B v8 (Y8 ++ (L4.take 0).flatMap codeBs) by
            rw [List.take_zero, List.flatMap_nil, List.append_nil, ← hY8, Int.emod_eq_of_lt (by omega) (by omega)]
            exact h8)
          clear h8 b8 qa hY8 HA' KA hBr
          go_loopw [3, 6] (fun b i wr => ∃ k : Nat, i = .int .i64 k ∧ k ≤ n4 ∧ Hid (Own wr B b (Y8 ++ (L4.take k).flatMap codeBs)) ∧ Kp B W wr) (fun _ i _ => n4 - (intOf i).toNat)
          case atStart => exact ⟨0, rfl, by omega, H8, K8.out⟩
          case round =>
            obtain ⟨q, rfl, hq, Hq, hbq⟩ := hrel
            have hBr : B ≤ wr.heap.size := by have := hbq.size; omega
            have q4 := box_cells HW.out hbq (by decide) 4
            simp at q4
            by_cases hp4 : q < n4
            · have i4 : (q : Int) < n4 := by omega
              have hkl : q < L4.length := by rw [N4.out]; exact hp4
              have hball : Below m.hi w wr := (HB1.out.mono hm).trans (hbq.bel.mono hmB)
              obtain ⟨b, o, rfl, -, hb2, -, he⟩ := rows_on CodeAt.stays HR4.out hball q hkl
              have hT := flat_step codeBs hkl
              have hsm := S7.out L4[q] (List.getElem_mem hkl)
              have hcl := S8.out L4[q] (List.getElem_mem hkl)
              have hpl := flat_tlen codeBs 200100 60 q L4 (fun y hy => code_blen y (S7.out y hy)) (by rw [N4.out]; exact s4)
              obtain ⟨x, hx⟩ : ∃ x, L4[q] = x := ⟨_, rfl⟩
              rw [hx] at he hT hsm hcl
              obtain ⟨⟨c0, c1, c2, c3'⟩, -, u4, c4', h4⟩ := he
              obtain ⟨a', c', rfl, h4'⟩ := h4
              simp only [Nat.add_zero] at c0 c1 c2 c3' c4'
              obtain ⟨Z4, hZ⟩ : ∃ Z, Y8 ++ (L4.take q).flatMap codeBs = Z := ⟨_, rfl⟩
              have hZl : Z4.length ≤ 13000000 := by rw [← hZ, List.length_append]; omega
              rw [hZ] at Hq
              have hmi : (m.inner b).hi ≤ B := by rw [Md.inner_hi]; exact hmB
              obtain ⟨cn, pp, ce, rr, l⟩ := x
              simp only [] at c0 c1 c2 c3' c4' h4' hcl hsm hT
              obtain ⟨g1', g2', g3'⟩ := hsm
              obtain ⟨e1', e2'⟩ := hcl
              simp only [] at g1' g2' g3' e1' e2'
              have HRl := hide h4'
              have HS3 := hide g3'
              obtain ⟨lq, hlq⟩ : ∃ lq, l.length = lq := ⟨_, rfl⟩
              have HLq := hide hlq
              have HT : Hid (Y8 ++ (L4.take (q + 1)).flatMap codeBs = ((Z4 ++ txtB cn) ++ [pp % 256, ce / 256 % 256, ce % 256, rr % 256, (lq : Int) / 256 % 256, (lq : Int) % 256]) ++ inssBs l) := hide (by
                rw [hT, ← List.append_assoc, hZ]
                unfold codeBs codeHd pairB
                simp only [hlq, List.append_assoc, List.cons_append, List.nil_append])
              rw [hlq] at c4' g2'
              clear hT hpl hx hZ hball h4' g3' hlq
              go_wp2_with fail
              have HV := hide (Deep.blk_alloc_new wr (.cells #[.string cn, .int .i64 pp, .int .i64 ce, .int .i64 rr, .slice a' lq c'] 25))
              have A0 := hide ((Kp.refl B wr).alloc hBr (.cells #[.string cn, .int .i64 pp, .int .i64 ce, .int .i64 rr, .slice a' lq c'] 25))
              refine (l03Text_any cn _ (by omega)).mono ?_
              rintro e w9 ⟨⟨u9', rfl, h9⟩, b9⟩
              obtain ⟨g9, c9, rfl, hg9, hg9'⟩ := h9.form (by rw [txtB_len]; omega)
              have K9 := hide (Kp.of_below (B := B) b9 (by simp; omega))
              have z9 : B ≤ w9.heap.size := by have := b9.size; simp at this; omega
              have el : (Z4 ++ txtB cn).length ≤ 13000100 := by rw [List.length_append, txtB_len]; omega
              go_wp2_with (first
                | (at_builtin; refine wp_append_bytes rfl _ _ rfl B _ Z4 rfl ((Hq.out.alloc _).on b9) ⟨g9, 0, none⟩ _ c9 (txtB cn) rfl rfl h9.cells (by rw [txtB_len]; omega) z9 ?_; intro v10 w10 h10 b10; have K10 := hide (K9.out.trans b10); have z10 : B ≤ w10.heap.size := (by have := b10.size; omega); have r1 := box_cells HV.out K10.out (by decide) 1; have r2 := box_cells HV.out K10.out (by decide) 2; have r3 := box_cells HV.out K10.out (by decide) 3; have r4 := box_cells HV.out K10.out (by decide) 4; simp at r1 r2 r3 r4)
                | (at_builtin; refine wp_append_bytes rfl _ _ rfl B _ _ rfl (h10.alloc _) ⟨w10.heap.size, 0, none⟩ 6 6 [_, _, _, _, _, _] rfl rfl (six_new _ _ _ _ _ _ _ _) (by omega) (by rw [World.size_alloc]; omega) ?_; intro v11 w11 h11 b11))
              have K11 := hide ((K10.out.alloc z10 _).trans b11)
              have z11 : B ≤ w11.heap.size := by have := b11.size; simp at this; omega
              obtain ⟨Y11, hY11⟩ : ∃ Y11, (Z4 ++ txtB cn) ++ [pp % 256, ce / 256 % 256, ce % 256, rr % 256, (lq : Int) / 256 % 256, (lq : Int) % 256] = Y11 := ⟨_, rfl⟩
              have hY11l : Y11.length ≤ 13000200 := by rw [← hY11, List.length_append]; simp only [List.length_cons, List.length_nil]; omega
              rw [hY11] at HT
              have H11 := hide (show Own w11 B v11 (Y11 ++ inssBs (l.take 0)) by
                rw [List.take_zero, inssBs, List.append_nil, ← hY11, Int.emod_eq_of_lt (a := ce / 256) (by omega) (by omega), Int.emod_eq_of_lt (a := (lq : Int) / 256) (by omega) (by omega)]
                exact h11)
              clear h9 hg9 hg9' b9 h10 b10 r1 r2 r3 r4 h11 b11 hY11 q4 c0 c1 c2 c3' c4' el
              obtain ⟨wo, rfl⟩ : ∃ wo, wo = wr := ⟨_, rfl⟩
              have AK := hide (A0.out.trans K11.out)
              go_loopw [3, 8] (fun b i wr => ∃ k : Nat, i = .int .i64 k ∧ k ≤ lq ∧ Hid (Own wr B b (Y11 ++ inssBs (l.take k))) ∧ Kp B (wo.alloc (.cells #[.string cn, .int .i64 pp, .int .i64 ce, .int .i64 rr, .slice a' lq c'] 25)) wr) (fun _ i _ => lq - (intOf i).toNat)
              case atStart => exact ⟨0, rfl, by omega, H11, K11.out⟩
              case round =>
                obtain ⟨r, rfl, hr, Hr, hbr⟩ := hrel
                have hBi : B ≤ wr.heap.size := by have := hbr.size; simp at this; omega
                have r4 := box_cells HV.out hbr (by decide) 4
                simp at r4
                by_cases hp5 : r < lq
                · have i5 : (r : Int) < lq := by omega
                  have hkl5 : r < l.length := by rw [HLq.out]; exact hp5
                  have hbl : Below (m.inner b).hi wo wr := (A0.out.trans hbr).bel.mono hmi
                  obtain ⟨bi, oi, rfl, -, hbi, -, he⟩ := rows_on InsAt.stays HRl.out hbl r hkl5
                  have hT := inss_take hkl5
                  have hsm := HS3.out l[r] (List.getElem_mem hkl5)
                  have hpl := inss_blen (l.take r) (fun y hy => HS3.out y (List.mem_of_mem_take hy))
                  rw [List.length_take] at hpl
                  obtain ⟨x, hx⟩ : ∃ x, l[r] = x := ⟨_, rfl⟩
                  rw [hx] at he hT hsm
                  obtain ⟨⟨c0, c1, c2, c3', c4'⟩, -⟩ := he
                  simp only [Nat.add_zero] at c0 c1 c2 c3' c4'
                  obtain ⟨Z, hZ⟩ : ∃ Z, Y11 ++ inssBs (l.take r) = Z := ⟨_, rfl⟩
                  have hZi : Z.length ≤ 13300200 := by rw [← hZ, List.length_append]; omega
                  rw [hZ] at Hr
                  have HTi : Hid (Y11 ++ inssBs (l.take (r + 1)) = Z ++ insBs x) := hide (by rw [hT, ← List.append_assoc, hZ])
                  clear hT hpl hx hZ hbl
                  obtain ⟨op', ia, ib, im, iname⟩ := x
                  simp only [] at c0 c1 c2 c3' c4' hsm
                  obtain ⟨f1, f2⟩ := hsm
                  have HI := hide (Deep.blk_alloc_new wr (.cells #[.int .i64 op', .int .i64 ia, .int .i64 ib, .string im, .string iname] 75))
                  have AI := hide ((Kp.refl B wr).alloc hBi (.cells #[.int .i64 op', .int .i64 ia, .int .i64 ib, .string im, .string iname] 75))
                  have en := numB_len ia
                  go_wp2_with fail
                  go_region_held3 (fun w' => w'.cell? ⟨wr.heap.size, 0, none⟩ = some (.int .i64 op') ∧ w'.cell? ⟨wr.heap.size, 1, none⟩ = some (.int .i64 ia) ∧ w'.cell? ⟨wr.heap.size, 2, none⟩ = some (.int .i64 ib) ∧ w'.cell? ⟨wr.heap.size, 3, none⟩ = some (.string im) ∧ w'.cell? ⟨wr.heap.size, 4, none⟩ = some (.string iname))
                    (first
                      | go_keep
                      | (go_split_ands; exact ⟨by have := box_cells HI.out kb12 (by decide) 0; simpa using this, by have := box_cells HI.out kb12 (by decide) 1; simpa using this, by have := box_cells HI.out kb12 (by decide) 2; simpa using this, by have := box_cells HI.out kb12 (by decide) 3; simpa using this, by have := box_cells HI.out kb12 (by decide) 4; simpa using this⟩)
                      | (go_split_ands; exact ⟨by have := box_cells HI.out kb13 (by decide) 0; simpa using this, by have := box_cells HI.out kb13 (by decide) 1; simpa using this, by have := box_cells HI.out kb13 (by decide) 2; simpa using this, by have := box_cells HI.out kb13 (by decide) 3; simpa using this, by have := box_cells HI.out kb13 (by decide) 4; simpa using this⟩)
                      | (go_split_ands; exact ⟨by have := box_cells HI.out kb14 (by decide) 0; simpa using this, by have := box_cells HI.out kb14 (by decide) 1; simpa using this, by have := box_cells HI.out kb14 (by decide) 2; simpa using this, by have := box_cells HI.out kb14 (by decide) 3; simpa using this, by have := box_cells HI.out kb14 (by decide) 4; simpa using this⟩))
                    ((first
                      | (go_at_call 101; refine (l03Eight_any ia _).mono ?_; rintro e w13 ⟨⟨u13, rfl, h13⟩, b13⟩; obtain ⟨g13, c13, rfl, hg13, hg13'⟩ := h13.form (by rw [numB_len]; decide); have kb13 := kb12.trans (Kp.of_below b13 z12); have z13 : B ≤ w13.heap.size := (by have := b13.size; omega))
                      | (refine step_bytes (by rfl) _ _ (by rfl) B _ Z (by rfl) ((Hr.out.alloc _).alloc _).drewn ⟨wr.heap.size + 1, 0, none⟩ 1 1 [op' % 256] (by rfl) (by rfl) (one_drew (by simp) _ _) (by decide) (by omega) (by simp; omega) ?_; intro g12 c12 w12 h12 gr12 k12; have kb12 : Kp B (wr.alloc (.cells #[.int .i64 op', .int .i64 ia, .int .i64 ib, .string im, .string iname] 75)) w12 := (((Kp.refl _ _).alloc (by simp; omega) _).trans (Kp.of_below (Below.refl _ _).drew (by simp; omega))).trans k12; have z12 : B ≤ w12.heap.size := (by have := kb12.size; simp at this; omega))
                      | (refine step_bytes (by rfl) _ _ (by rfl) B _ _ (by rfl) (h12.on b13) ⟨g13, 0, none⟩ _ c13 (numB ia) (by rfl) (by rfl) h13.cells (by decide) (by simp [numB_len]; omega) z13 ?_; intro g14 c14 w14 h14 gr14 k14; have kb14 := kb13.trans k14)))
                  have e14 : (Z ++ [op' % 256]).length + 8 = Z.length + 1 + 8 := by rw [List.length_append]; rfl
                  have K14 := hide kb14
                  have z14 : B ≤ w14.heap.size := by have := kb14.size; simp at this; omega
                  have x0 := box_cells HI.out K14.out (by decide) 0
                  simp at x0
                  have H14 := hide h14
                  rw [e14] at H14
                  clear h12 gr12 k12 kb12 z12 b13 h13 hg13 hg13' kb13 z13 h14 gr14 k14 kb14 c0 c1 c2 c3' c4' en e14
                  by_cases hn : namedB op' = true
                  · have HT14 : Hid (Y11 ++ inssBs (l.take (r + 1)) = ((((Z ++ [op' % 256]) ++ numB ia) ++ [ib % 256]) ++ txtB im) ++ txtB iname) := hide (by rw [HTi.out, insBs_yes _ hn]; simp only [List.append_assoc])
                    have hXl : ((Z ++ [op' % 256]) ++ numB ia).length ≤ 13300300 := by rw [List.length_append, List.length_append, numB_len]; simp only [List.length_cons, List.length_nil]; omega
                    obtain ⟨X14, hX14⟩ : ∃ X, (Z ++ [op' % 256]) ++ numB ia = X := ⟨_, rfl⟩
                    rw [hX14] at H14 HT14 hXl
                    have h313 : op' = 3 ∨ op' = 13 := by unfold namedB at hn; simpa using hn
                    clear hn hX14 HTi
                    rcases h313 with rfl | rfl
                    all_goals
                      go_wp2_with fail
                      go_region_held3 (fun w' => w'.cell? ⟨wr.heap.size, 2, none⟩ = some (.int .i64 ib) ∧ w'.cell? ⟨wr.heap.size, 3, none⟩ = some (.string im) ∧ w'.cell? ⟨wr.heap.size, 4, none⟩ = some (.string iname))
                        (first
                          | go_keep
                          | (go_split_ands; exact ⟨by have := box_cells HI.out (K14.out.trans kb16) (by decide) 2; simpa using this, by have := box_cells HI.out (K14.out.trans kb16) (by decide) 3; simpa using this, by have := box_cells HI.out (K14.out.trans kb16) (by decide) 4; simpa using this⟩)
                          | (go_split_ands; exact ⟨by have := box_cells HI.out (K14.out.trans kb17) (by decide) 2; simpa using this, by have := box_cells HI.out (K14.out.trans kb17) (by decide) 3; simpa using this, by have := box_cells HI.out (K14.out.trans kb17) (by decide) 4; simpa using this⟩)
                          | (go_split_ands; exact ⟨by have := box_cells HI.out (K14.out.trans kb18) (by decide) 2; simpa using this, by have := box_cells HI.out (K14.out.trans kb18) (by decide) 3; simpa using this, by have := box_cells HI.out (K14.out.trans kb18) (by decide) 4; simpa using this⟩)
                          | (go_split_ands; exact ⟨by have := box_cells HI.out (K14.out.trans kb19) (by decide) 2; simpa using this, by have := box_cells HI.out (K14.out.trans kb19) (by decide) 3; simpa using this, by have := box_cells HI.out (K14.out.trans kb19) (by decide) 4; simpa using this⟩)
                          | (go_split_ands; exact ⟨by have := box_cells HI.out (K14.out.trans kb20) (by decide) 2; simpa using this, by have := box_cells HI.out (K14.out.trans kb20) (by decide) 3; simpa using this, by have := box_cells HI.out (K14.out.trans kb20) (by decide) 4; simpa using this⟩))
                        ((first
                          | (have hq := h18; clear hq; go_at_call 100; refine (l03Text_any iname _ (by omega)).mono ?_; rintro e w19 ⟨⟨u19, rfl, h19⟩, b19⟩; obtain ⟨g19, c19, rfl, hg19, hg19'⟩ := h19.form (by rw [txtB_len]; omega); have kb19 := kb18.trans (Kp.of_below b19 z18); have z19 : B ≤ w19.heap.size := (by have := b19.size; omega))
                          | (go_at_call 100; refine (l03Text_any im _ (by omega)).mono ?_; rintro e w17 ⟨⟨u17, rfl, h17⟩, b17⟩; obtain ⟨g17, c17, rfl, hg17, hg17'⟩ := h17.form (by rw [txtB_len]; omega); have kb17 := kb16.trans (Kp.of_below b17 z16); have z17 : B ≤ w17.heap.size := (by have := b17.size; omega))
                          | (refine step_bytes (by rfl) _ _ (by rfl) B _ X14 (by rfl) (H14.out.alloc _).drewn ⟨w14.heap.size, 0, none⟩ 1 1 [ib % 256] (by rfl) (by rfl) (one_drew (by simp) _ _) (by decide) (by omega) (by simp; omega) ?_; intro g16 c16 w16 h16 gr16 k16; have kb16 : Kp B w14 w16 := (((Kp.refl _ _).alloc z14 _).trans (Kp.of_below (Below.refl _ _).drew (by simp; omega))).trans k16; have z16 : B ≤ w16.heap.size := (by have := kb16.size; omega))
                          | (refine step_bytes (by rfl) _ _ (by rfl) B _ _ (by rfl) (h16.on b17) ⟨g17, 0, none⟩ _ c17 (txtB im) (by rfl) (by rfl) h17.cells (by rw [txtB_len]; omega) (by simp [txtB_len]; omega) z17 ?_; intro g18 c18 w18 h18 gr18 k18; rw [show (X14 ++ [ib % 256]).length + (txtB im).length = X14.length + 1 + (txtB im).length by rw [List.length_append]; rfl] at h18; have kb18 := kb17.trans k18; have z18 : B ≤ w18.heap.size := (by have := kb18.size; omega))
                          | (refine step_bytes (by rfl) _ _ (by rfl) B _ _ (by rfl) (h18.on b19) ⟨g19, 0, none⟩ _ c19 (txtB iname) (by rfl) (by rfl) h19.cells (by rw [txtB_len]; omega) (by simp [txtB_len]; omega) z19 ?_; intro g20 c20 w20 h20 gr20 k20; have kb20 := kb19.trans k20)
                          | fail))
                      have el : ((X14 ++ [ib % 256]) ++ txtB im).length + (txtB iname).length = X14.length + ((txtB im).length + 1) + (txtB iname).length := by simp only [List.length_append, List.length_cons, List.length_nil]; omega
                      rw [el, ← HT14.out] at h20
                      have H20 := hide h20
                      have K20 := hide (hbr.trans (AI.out.trans (K14.out.trans kb20)))
                      clear h16 gr16 k16 kb16 z16 h17 b17 hg17 hg17' kb17 z17 h18 gr18 k18 kb18 z18 h19 b19 hg19 hg19' kb19 z19 h20 gr20 k20 kb20 el
                      go_wp2
                      go_roundw
                      · exact ⟨r + 1, by go_num, by omega, H20, K20.out⟩
                      · simp [intOf]; omega
                  · have hn' : namedB op' = false := by simpa using hn
                    have n3 : ¬ op' = 3 := fun e => hn (by rw [e]; rfl)
                    have n13 : ¬ op' = 13 := fun e => hn (by rw [e]; rfl)
                    have H15 := hide (show Own w14 B (.slice (some ⟨g14, 0, none⟩) (Z.length + 1 + 8) c14) (Y11 ++ inssBs (l.take (r + 1))) by rw [HTi.out, insBs_no _ hn', ← List.append_assoc]; exact H14.out)
                    have K15 := hide (hbr.trans (AI.out.trans K14.out))
                    have m3 : (op' == 3) = false := by simp [n3]
                    have m13 : (op' == 13) = false := by simp [n13]
                    clear hn hn' n3 n13
                    go_wp2
                    go_roundw
                    · exact ⟨r + 1, by go_num, by omega, H15, K15.out⟩
                    · simp [intOf]; omega
                · have i5 : ¬ (r : Int) < lq := by omega
                  obtain rfl : r = lq := by omega
                  have HQ := Hr.out
                  rw [List.take_of_length_le (by rw [HLq.out]; exact Nat.le_refl _), ← HT.out] at HQ
                  have HQ' := hide HQ
                  have KQ := hide (hbq.trans (A0.out.trans hbr))
                  clear HQ Hr hbr
                  go_wp2
                  go_roundw
                  · exact ⟨q + 1, by go_num, by omega, HQ', KQ.out⟩
                  · simp [intOf]; omega
            · have i4 : ¬ (q : Int) < n4 := by omega
              obtain rfl : q = n4 := by omega
              have HA := Hq.out
              rw [List.take_of_length_le (by rw [N4.out]; exact Nat.le_refl _), ← HX.out] at HA
              have HA' := hide (HA.low (B' := w.heap.size) (by omega))
              have KA := hide (HB1.out.trans (hbq.bel.mono (by omega)))
              clear HA Hq hbq
              go_wp2
              go_ret
              exact ⟨⟨_, rfl, HA'.out⟩, KA.out⟩
end Go.Proofs.YtoodadepafghhaaGreatDoor
