/- The rounds of verification, over plain data: they come to an end. No condition. -/
import Derived.Test.YtpaljmhoojpbdaaDoorZByO
import Derived.Test.YtpaljmhoojpbdaaDoorZByD
/- The program's ObjectBytes answers 'objBs' of a right object. The judgement of the object is a premise. -/
namespace Go.Proofs.YtpaljmhoojpbdaaDoor
open Go.RowKit

theorem oo_conv (w : World) : (convert 88 88 (.slice (some ⟨w.heap.size, 0, none⟩) 3 3)).run Tryd.prog (w.alloc (.cells #[.int .u8 79, .int .u8 79, .int .u8 49] 5)) = .ok (.slice (some ⟨w.heap.size, 0, none⟩) 3 3) (w.alloc (.cells #[.int .u8 79, .int .u8 79, .int .u8 49] 5 (3, 4))) :=
  Lib.run_convert_bytes_const w _ _ _ 3 3 Tryd.underlying88 Tryd.underlying5
set_option maxRecDepth 100000 in
set_option maxHeartbeats 16000000 in
theorem implBytes_of (v : Value) (m : Md) (x : ObjectD) (w : World) (hv : ObjectVal w m v x) (hm : m.hi ≤ w.heap.size) (F : Bool)
    (hV : ∀ w', Below w.heap.size w w' → Calls Tryd.prog 14 #[v] w' fun e w2 => e = .returned (.bool F) ∧ Below w'.heap.size w' w2) (hS : F = true → SmallO x) (hF : F = true) :
    Calls Tryd.prog 101 #[v] w fun e w' => (∃ u, e = .returned (.tuple #[u, .int .i64 (if (objBs x).length ≤ 65536 then 0 else 15)]) ∧ Own w' w.heap.size u (if (objBs x).length ≤ 65536 then objBs x else [])) ∧ Below w.heap.size w w' := by
  subst hF
  have HS := hide (hS rfl)
  have HX := hide (show objBs x = (((((objHead x ++ x.needs.flatMap needBs) ++ [(x.globals.length : Int) % 256]) ++ x.globals.flatMap globBs) ++ [(x.procs.length : Int) % 256]) ++ x.procs.flatMap codeBs) from rfl)
  have HH := hide (show objHead x = (([79, 79, 49] ++ txtB x.module) ++ numB x.print) ++ [(x.needs.length : Int) % 256] from rfl)
  generalize objBs x = X at *
  generalize objHead x = Y at *
  obtain ⟨s1, s2, s3, s4, s5, s6, s7⟩ := HS.out
  have HI := hide hV
  obtain ⟨on, op, L2, L3, L4⟩ := x
  obtain ⟨u2, u3, u4, rfl, -, ⟨a2, c2, rfl, h2⟩, ⟨a3, c3, rfl, h3⟩, ⟨a4, c4, rfl, h4⟩⟩ := hv
  simp only [] at *
  have HR2 := hide h2
  have HR3 := hide h3
  have HR4 := hide h4
  have S5 := hide s5
  have S6 := hide s6
  have S7 := hide s7
  obtain ⟨n2, e2⟩ : ∃ n, L2.length = n := ⟨_, rfl⟩
  obtain ⟨n3, e3⟩ : ∃ n, L3.length = n := ⟨_, rfl⟩
  obtain ⟨n4, e4⟩ : ∃ n, L4.length = n := ⟨_, rfl⟩
  have N4 := hide e4
  have N2 := hide e2
  have N3 := hide e3
  rw [e2] at HI HH s2 ⊢
  rw [e3] at HI HX s3 ⊢
  rw [e4] at HI HX s4 ⊢
  clear hV hS h2 h3 h4 s5 s6 s7 e2 e3 e4 HS
  obtain ⟨C, hC⟩ : ∃ C : Int, (if X.length ≤ 65536 then 0 else 15) = C := ⟨_, rfl⟩
  obtain ⟨R, hR⟩ : ∃ R, (if X.length ≤ 65536 then X else []) = R := ⟨_, rfl⟩
  have HC := hide hC
  have HRe := hide hR
  rw [hC, hR]
  clear hC hR
  have hcv := oo_conv
  go_enter Tryd.func101, Tryd.ntmps101
  go_wp2_with fail
  refine (HI.out _ ((Below.refl _ _).alloc (Nat.le_refl _) _)).mono ?_
  rintro e w1 ⟨rfl, bel⟩
  have b1 : Below w.heap.size w w1 := ((Below.refl _ _).alloc (Nat.le_refl _) _).trans (bel.mono (by simp))
  have HW := hide ((bel.block w.heap.size (by simp)).trans (Deep.blk_alloc_new w (.cells #[.string on, .int .i64 op, .slice a2 n2 c2, .slice a3 n3 c3, .slice a4 n4 c4] 45)))
  have q0 := box_cells HW.out (Kp.refl w1.heap.size w1) (by decide) 0
  simp at q0
  have HB1 := hide b1
  have hz0 := b1.size
  have hz : w.heap.size < w1.heap.size := (Array.getElem?_eq_some_iff.1 HW.out).1
  clear bel b1
  go_wp2_with fail
  refine (appendText_full w1.heap.size _ [79, 79, 49] on _ (oo_full _ _) (by simp) (by decide) (by omega)).mono ?_
  rintro e w2 ⟨⟨v2, rfl, h2⟩, b2⟩
  obtain ⟨B, hBe⟩ : ∃ B, w1.heap.size = B := ⟨_, rfl⟩
  rw [hBe] at h2 b2
  have hmB : m.hi ≤ B := by rw [← hBe]; exact Nat.le_trans hm hz0
  have K2 := hide (((Kp.refl B w1).alloc (by omega) _).trans b2)
  have z2 : B ≤ w2.heap.size := by have := b2.size; simp at this; omega
  have q1 := box_cells HW.out K2.out (by decide) 1
  simp at q1
  have H2 := hide h2
  clear q0 h2 b2
  go_wp2_with fail
  refine (appendNumber_any B _ _ op _ H2.out z2 (by simp [txtB_len]; omega)).mono ?_
  rintro e w3 ⟨⟨v3, rfl, h3⟩, b3⟩
  have K3 := hide (K2.out.trans b3)
  have z3 : B ≤ w3.heap.size := Nat.le_trans z2 b3.size
  have q2 := box_cells HW.out K3.out (by decide) 2
  simp at q2
  have H3 := hide h3
  clear q1 h3 b3
  go_wp2_with (at_builtin; refine wp_append_bytes rfl _ _ rfl B _ _ rfl (H3.out.alloc _) ⟨w3.heap.size, 0, none⟩ 1 1 [_] rfl rfl (one_new _ _ _) (by simp [txtB_len, numB_len]; omega) (by simp; omega) ?_; intro v4 w4 h4 b4; have K4 := hide ((K3.out.alloc z3 _).trans b4); have q3 := box_cells HW.out K4.out (by decide) 2; simp at q3)
  have z4 : B ≤ w4.heap.size := by have := b4.size; simp at this; omega
  have eY : Y.length ≤ 60 := by rw [HH.out]; simp [txtB_len, numB_len]; omega
  have H4 := hide (show Own w4 B v4 (Y ++ (L2.take 0).flatMap needBs) by
    rw [List.take_zero, List.flatMap_nil, List.append_nil, HH.out, Int.emod_eq_of_lt (by omega) (by omega)]
    exact h4)
  clear q2 h4 b4 hcv HI q3
  have HK4 := hide (K4.out.bel)
  go_loopw [4, 33] (fun b i wr => ∃ k : Nat, i = .int .i64 k ∧ k ≤ n2 ∧ Hid (Own wr B b (Y ++ (L2.take k).flatMap needBs)) ∧ Kp B w1 wr) (fun _ i _ => n2 - (intOf i).toNat)
  case atStart => exact ⟨0, rfl, by omega, H4, K4.out⟩
  case round =>
    obtain ⟨k, rfl, hk, Hk, hbw⟩ := hrel
    have hBr : B ≤ wr.heap.size := by have := hbw.size; omega
    by_cases hp : k < n2
    · as_aux_lemma =>
      have i1 : (k : Int) < n2 := by omega
      have hkl : k < L2.length := by rw [N2.out]; exact hp
      have hball : Below m.hi w wr := (HB1.out.mono hm).trans (hbw.bel.mono hmB)
      obtain ⟨b, o, rfl, -, -, -, he⟩ := rows_on NeedAt.stays HR2.out hball k hkl
      have hT := flat_step needBs hkl
      have hsm := S5.out L2[k] (List.getElem_mem hkl)
      have hpl := flat_tlen needBs 49 20 k L2 (fun y hy => need_blen (S5.out y hy)) (by rw [N2.out]; exact s2)
      obtain ⟨x, hx⟩ : ∃ x, L2[k] = x := ⟨_, rfl⟩
      rw [hx] at he hT hsm
      obtain ⟨⟨c0, c1⟩, -⟩ := he
      simp only [Nat.add_zero] at c0 c1
      obtain ⟨Z, hZ⟩ : ∃ Z, Y ++ (L2.take k).flatMap needBs = Z := ⟨_, rfl⟩
      have hZl : Z.length ≤ 2000 := by rw [← hZ, List.length_append]; omega
      rw [hZ] at Hk
      have HT : Hid (Y ++ (L2.take (k + 1)).flatMap needBs = (Z ++ txtB x.module) ++ numB x.print) := hide (by rw [hT, ← List.append_assoc, hZ]; unfold needBs; rw [← List.append_assoc])
      clear hT hpl hx hZ hball
      obtain ⟨nm, pr⟩ := x
      simp only [] at c0 c1 hsm HT
      have HV := hide (Deep.blk_alloc_new wr (.cells #[.string nm, .int .i64 pr] 69))
      have A0 := hide ((Kp.refl B wr).alloc hBr (.cells #[.string nm, .int .i64 pr] 69))
      go_wp2_with fail
      refine (appendText_any B _ _ nm _ (Hk.out.alloc _) (by simp; omega) (by omega) (by omega)).mono ?_
      rintro e w6 ⟨⟨u6, rfl, h6⟩, b6⟩
      have z6 : B ≤ w6.heap.size := by have := b6.size; simp at this; omega
      have r1 := box_cells HV.out b6 (by decide) 1
      simp at r1
      have H6 := hide h6
      have K6 := hide b6
      clear h6 b6 c0 c1
      go_wp2_with fail
      refine (appendNumber_any B _ _ pr _ H6.out z6 (by simp [txtB_len]; omega)).mono ?_
      rintro e w7 ⟨⟨u7, rfl, h7⟩, b7⟩
      have H7 := hide (show Own w7 B u7 (Y ++ (L2.take (k + 1)).flatMap needBs) by rw [HT.out]; exact h7)
      have K7 := hide (K6.out.trans b7)
      clear h7 b7
      go_wp2
      go_roundw
      case rel => exact ⟨k + 1, by go_num, by omega, H7, hbw.trans (A0.out.trans K7.out)⟩
      case measure => simp [intOf]; omega
    · have i1 : ¬ (k : Int) < n2 := by omega
      obtain rfl : k = n2 := by omega
      have hpl := flat_tlen needBs 49 20 L2.length L2 (fun y hy => need_blen (S5.out y hy)) (by rw [N2.out]; exact s2)
      rw [List.take_of_length_le (Nat.le_refl _)] at hpl
      have HA := Hk.out
      rw [List.take_of_length_le (by rw [N2.out]; exact Nat.le_refl _)] at HA
      obtain ⟨Z, hZ⟩ : ∃ Z, Y ++ L2.flatMap needBs = Z := ⟨_, rfl⟩
      have hZl : Z.length ≤ 2000 := by rw [← hZ, List.length_append]; omega
      rw [hZ] at HA HX
      have HA' := hide HA
      have KA := hide hbw
      have qa := box_cells HW.out KA.out (by decide) 3
      simp at qa
      clear HA hZ hpl Hk hbw HR2 S5 N2 HH H2 H3 H4 K2 K3 K4 HK4
      go_wp2_with (at_builtin; refine wp_append_bytes rfl _ _ rfl B _ _ rfl (HA'.out.alloc _) ⟨wr.heap.size, 0, none⟩ 1 1 [_] rfl rfl (one_new _ _ _) (by omega) (by simp; omega) ?_; intro v5 w5 h5 b5; have K5 := hide ((KA.out.alloc hBr _).trans b5); have q5 := box_cells HW.out K5.out (by decide) 3; simp at q5)
      have z5 : B ≤ w5.heap.size := by have := b5.size; simp at this; omega
      obtain ⟨Y5, hY5⟩ : ∃ Y5, Z ++ [(n3 : Int) % 256] = Y5 := ⟨_, rfl⟩
      have hY5l : Y5.length ≤ 2001 := by rw [← hY5, List.length_append]; simp only [List.length_cons, List.length_nil]; omega
      rw [hY5] at HX
      have H5 := hide (show Own w5 B v5 (Y5 ++ (L3.take 0).flatMap globBs) by
        rw [List.take_zero, List.flatMap_nil, List.append_nil, ← hY5, Int.emod_eq_of_lt (by omega) (by omega)]
        exact h5)
      clear h5 b5 qa q5 hY5 HA' KA hBr
      go_loopw [4, 56] (fun b i wr => ∃ k : Nat, i = .int .i64 k ∧ k ≤ n3 ∧ Hid (Own wr B b (Y5 ++ (L3.take k).flatMap globBs)) ∧ Kp B w1 wr) (fun _ i _ => n3 - (intOf i).toNat)
      case atStart => exact ⟨0, rfl, by omega, H5, K5.out⟩
      case round =>
        obtain ⟨j, rfl, hj, Hj, hbj⟩ := hrel
        have hBr : B ≤ wr.heap.size := by have := hbj.size; omega
        by_cases hp3 : j < n3
        · as_aux_lemma =>
          have i3 : (j : Int) < n3 := by omega
          have hkl : j < L3.length := by rw [N3.out]; exact hp3
          have hball : Below m.hi w wr := (HB1.out.mono hm).trans (hbj.bel.mono hmB)
          obtain ⟨b, o, rfl, -, -, -, he⟩ := rows_on GlobalAt.stays HR3.out hball j hkl
          have hT := flat_step globBs hkl
          have hsm := S6.out L3[j] (List.getElem_mem hkl)
          have hpl := flat_tlen globBs 42 100 j L3 (fun y hy => glob_blen (S6.out y hy)) (by rw [N3.out]; exact s3)
          obtain ⟨x, hx⟩ : ∃ x, L3[j] = x := ⟨_, rfl⟩
          rw [hx] at he hT hsm
          obtain ⟨⟨c0, c1⟩, -⟩ := he
          simp only [Nat.add_zero] at c0 c1
          obtain ⟨Z3, hZ⟩ : ∃ Z, Y5 ++ (L3.take j).flatMap globBs = Z := ⟨_, rfl⟩
          have hZl : Z3.length ≤ 7000 := by rw [← hZ, List.length_append]; omega
          rw [hZ] at Hj
          have HT : Hid (Y5 ++ (L3.take (j + 1)).flatMap globBs = (Z3 ++ txtB x.name) ++ [x.length % 256]) := hide (by rw [hT, ← List.append_assoc, hZ]; unfold globBs; rw [← List.append_assoc])
          clear hT hpl hx hZ hball
          obtain ⟨nm, ln⟩ := x
          simp only [] at c0 c1 hsm HT
          have HV := hide (Deep.blk_alloc_new wr (.cells #[.string nm, .int .i64 ln] 72))
          have A0 := hide ((Kp.refl B wr).alloc hBr (.cells #[.string nm, .int .i64 ln] 72))
          go_wp2_with fail
          refine (appendText_any B _ _ nm _ (Hj.out.alloc _) (by simp; omega) (by omega) (by omega)).mono ?_
          rintro e w6 ⟨⟨u6, rfl, h6⟩, b6⟩
          have z6 : B ≤ w6.heap.size := by have := b6.size; simp at this; omega
          have r1 := box_cells HV.out b6 (by decide) 1
          simp at r1
          have H6 := hide h6
          have K6 := hide b6
          clear h6 b6 c0 c1
          go_wp2_with (at_builtin; refine wp_append_bytes rfl _ _ rfl B _ _ rfl (H6.out.alloc _) ⟨w6.heap.size, 0, none⟩ 1 1 [ln % 256] rfl rfl (one_new _ _ _) (by simp [txtB_len]; omega) (by simp; omega) ?_; intro v7 w7 h7 b7)
          have H7 := hide (show Own w7 B v7 (Y5 ++ (L3.take (j + 1)).flatMap globBs) by rw [HT.out]; exact h7)
          have K7 := hide ((K6.out.alloc z6 _).trans b7)
          clear h7 b7
          go_roundw
          case rel => exact ⟨j + 1, by go_num, by omega, H7, hbj.trans (A0.out.trans K7.out)⟩
          case measure => simp [intOf]; omega
        · have i3 : ¬ (j : Int) < n3 := by omega
          obtain rfl : j = n3 := by omega
          have hpl := flat_tlen globBs 42 100 L3.length L3 (fun y hy => glob_blen (S6.out y hy)) (by rw [N3.out]; exact s3)
          rw [List.take_of_length_le (Nat.le_refl _)] at hpl
          have HA := Hj.out
          rw [List.take_of_length_le (by rw [N3.out]; exact Nat.le_refl _)] at HA
          obtain ⟨Z3, hZ⟩ : ∃ Z, Y5 ++ L3.flatMap globBs = Z := ⟨_, rfl⟩
          have hZ3l : Z3.length ≤ 7000 := by rw [← hZ, List.length_append]; omega
          rw [hZ] at HA HX
          have HA' := hide HA
          have KA := hide hbj
          have qa := box_cells HW.out KA.out (by decide) 4
          simp at qa
          clear HA hZ hpl Hj hbj HR3 S6 N3 H5 K5
          go_wp2_with (at_builtin; refine wp_append_bytes rfl _ _ rfl B _ _ rfl (HA'.out.alloc _) ⟨wr.heap.size, 0, none⟩ 1 1 [_] rfl rfl (one_new _ _ _) (by omega) (by simp; omega) ?_; intro v8 w8 h8 b8; have K8 := hide ((KA.out.alloc hBr _).trans b8); have q8 := box_cells HW.out K8.out (by decide) 4; simp at q8)
          have z8 : B ≤ w8.heap.size := by have := b8.size; simp at this; omega
          obtain ⟨Y8, hY8⟩ : ∃ Y8, Z3 ++ [(n4 : Int) % 256] = Y8 := ⟨_, rfl⟩
          have hY8l : Y8.length ≤ 7001 := by rw [← hY8, List.length_append]; simp only [List.length_cons, List.length_nil]; omega
          rw [hY8] at HX
          have H8 := hide (show Own w8 B v8 (Y8 ++ (L4.take 0).flatMap codeBs) by
            rw [List.take_zero, List.flatMap_nil, List.append_nil, ← hY8, Int.emod_eq_of_lt (by omega) (by omega)]
            exact h8)
          clear h8 b8 qa q8 hY8 HA' KA hBr
          go_loopw [4, 81] (fun b i wr => ∃ k : Nat, i = .int .i64 k ∧ k ≤ n4 ∧ Hid (Own wr B b (Y8 ++ (L4.take k).flatMap codeBs)) ∧ Kp B w1 wr) (fun _ i _ => n4 - (intOf i).toNat)
          case atStart => exact ⟨0, rfl, by omega, H8, K8.out⟩
          case round =>
            obtain ⟨q, rfl, hq, Hq, hbq⟩ := hrel
            have hBr : B ≤ wr.heap.size := by have := hbq.size; omega
            by_cases hp4 : q < n4
            · as_aux_lemma =>
              have i4 : (q : Int) < n4 := by omega
              have hkl : q < L4.length := by rw [N4.out]; exact hp4
              have hball : Below m.hi w wr := (HB1.out.mono hm).trans (hbq.bel.mono hmB)
              obtain ⟨b, o, rfl, -, -, -, he⟩ := rows_on CodeAt.stays HR4.out hball q hkl
              have hT := flat_step codeBs hkl
              have hsm := S7.out L4[q] (List.getElem_mem hkl)
              have hpl := flat_tlen codeBs 200100 60 q L4 (fun y hy => code_blen y (S7.out y hy)) (by rw [N4.out]; exact s4)
              obtain ⟨x, hx⟩ : ∃ x, L4[q] = x := ⟨_, rfl⟩
              rw [hx] at he hT hsm
              obtain ⟨⟨c0, c1, c2, c3⟩, hbd, u4, c4, h4⟩ := he
              obtain ⟨a', c', rfl, h4'⟩ := h4
              have HCV : Hid (CodeVal wr (m.inner b) (.agg #[.string x.name, .int .i64 x.params, .int .i64 x.cells, .int .i64 x.result, .slice a' x.list.length c']) x) := hide ⟨_, rfl, hbd, a', c', rfl, h4'⟩
              have HSM := hide hsm
              simp only [Nat.add_zero] at c0 c1 c2 c3 c4
              obtain ⟨Z4, hZ⟩ : ∃ Z, Y8 ++ (L4.take q).flatMap codeBs = Z := ⟨_, rfl⟩
              have hZl : Z4.length ≤ 13000000 := by rw [← hZ, List.length_append]; omega
              rw [hZ] at Hq
              have HT : Hid (Y8 ++ (L4.take (q + 1)).flatMap codeBs = Z4 ++ codeBs x) := hide (by rw [hT, ← List.append_assoc, hZ])
              have hmi : (m.inner b).hi ≤ B := by rw [Md.inner_hi]; exact hmB
              clear hT hpl hx hZ hball hbd h4' hsm
              obtain ⟨lq, hlq⟩ : ∃ lq, x.list.length = lq := ⟨_, rfl⟩
              rw [hlq] at HCV c4
              have A0 := hide ((Kp.refl B wr).alloc hBr (.cells #[.string x.name, .int .i64 x.params, .int .i64 x.cells, .int .i64 x.result, .slice a' lq c'] 30))
              go_wp2_with fail
              refine (appendCode_any B _ _ _ _ x _ (Hq.out.alloc _) (HCV.out.on ((Below.refl _ _).alloc (Nat.le_trans hmi hBr) _)) hmi (by simp; omega) (by omega) HSM.out).mono ?_
              rintro e w9 ⟨⟨u9, rfl, h9⟩, b9⟩
              have H9 := hide (show Own w9 B u9 (Y8 ++ (L4.take (q + 1)).flatMap codeBs) by rw [HT.out]; exact h9)
              have K9 := hide b9
              clear h9 b9 c0 c1 c2 c3 c4
              go_wp2
              go_roundw
              case rel => exact ⟨q + 1, by go_num, by omega, H9, hbq.trans (A0.out.trans K9.out)⟩
              case measure => simp [intOf]; omega
            · have i4 : ¬ (q : Int) < n4 := by omega
              obtain rfl : q = n4 := by omega
              have HA := Hq.out
              rw [List.take_of_length_le (by rw [N4.out]; exact Nat.le_refl _), ← HX.out] at HA
              obtain ⟨a9, c9, rfl⟩ : ∃ a9 c9, u4 = .slice a9 X.length c9 := by
                rcases HA.2 with ⟨e1, e2⟩ | ⟨g, cap, cur, e, -⟩
                · exact ⟨none, 0, by rw [e1, e2]⟩
                · exact ⟨_, _, e⟩
              have HA' := hide (HA.low (B' := w.heap.size) (by omega))
              have KA := hide (HB1.out.trans (hbq.bel.mono (by omega)))
              clear HA Hq hbq
              by_cases hX : X.length ≤ 65536
              · have i9 : ¬ (65536 : Int) < X.length := by omega
                obtain rfl : C = 0 := by rw [← HC.out, if_pos hX]
                obtain rfl : R = X := by rw [← HRe.out, if_pos hX]
                go_wp2
                go_ret2
                exact ⟨⟨_, rfl, HA'.out⟩, KA.out⟩
              · have i9 : (65536 : Int) < X.length := by omega
                obtain rfl : C = 15 := by rw [← HC.out, if_neg hX]
                obtain rfl : R = [] := by rw [← HRe.out, if_neg hX]
                go_wp2
                go_ret2
                exact ⟨⟨_, rfl, Own.nil _ _⟩, KA.out⟩
theorem implBytes_no (v : Value) (m : Md) (x : ObjectD) (w : World) (hv : ObjectVal w m v x)
    (hV : ∀ w', Below w.heap.size w w' → Calls Tryd.prog 14 #[v] w' fun e w2 => e = .returned (.bool false) ∧ Below w'.heap.size w' w2) :
    Calls Tryd.prog 101 #[v] w fun e w' => e = .returned (.tuple #[.slice none 0 0, .int .i64 1]) ∧ Below w.heap.size w w' := by
  have HI := hide hV
  obtain ⟨on, op, L2, L3, L4⟩ := x
  obtain ⟨u2, u3, u4, rfl, -, ⟨a2, c2, rfl, -⟩, ⟨a3, c3, rfl, -⟩, ⟨a4, c4, rfl, -⟩⟩ := hv
  simp only [] at HI ⊢
  generalize L2.length = n2 at *
  generalize L3.length = n3 at *
  generalize L4.length = n4 at *
  clear hV
  go_enter Tryd.func101, Tryd.ntmps101
  go_wp2_with fail
  refine (HI.out _ ((Below.refl _ _).alloc (Nat.le_refl _) _)).mono ?_
  rintro e w1 ⟨rfl, bel⟩
  have b1 : Below w.heap.size w w1 := ((Below.refl _ _).alloc (Nat.le_refl _) _).trans (bel.mono (by simp))
  go_wp2
  go_ret2
  exact ⟨rfl, b1⟩
end Go.Proofs.YtpaljmhoojpbdaaDoor

namespace Go.Proofs.YtpaljmhoojpbdaaDoor
open Go.RowKit

def negs (d : List Int) : Nat := d.countP fun y => decide (y < 0)
theorem negs_set {d : List Int} {t : Nat} {y : Int} (h : d.getD t 0 < 0) (hy : 0 ≤ y) : negs (d.set t y) < negs d := by
  have ht : t < d.length := by
    by_cases k : t < d.length
    · exact k
    · rw [List.getD_eq_getElem?_getD, List.getElem?_eq_none (by omega)] at h
      simp at h
  rw [List.getD_eq_getElem?_getD, List.getElem?_eq_getElem ht] at h
  simp only [Option.getD_some] at h
  have hpos : 0 < negs d := List.countP_pos_iff.2 ⟨d[t], List.getElem_mem ht, by simpa using h⟩
  unfold negs at *
  rw [List.countP_set ht, if_pos (by simpa using h), if_neg (by simp; omega)]
  omega
/-- From one state to another: as long, and a new one reached where that is told. -/
def Fwd (d : List Int) (ag : Bool) (d' : List Int) (ag' : Bool) : Prop := d'.length = d.length ∧ negs d' ≤ negs d ∧ (ag' = true → ag = true ∨ negs d' < negs d)
theorem Fwd.refl (d : List Int) (ag : Bool) : Fwd d ag d ag := ⟨rfl, Nat.le_refl _, fun h => .inl h⟩
theorem Fwd.trans {d d1 d2 : List Int} {a a1 a2 : Bool} (h : Fwd d a d1 a1) (k : Fwd d1 a1 d2 a2) : Fwd d a d2 a2 := by
  obtain ⟨h1, h2, h3⟩ := h
  obtain ⟨k1, k2, k3⟩ := k
  refine ⟨k1.trans h1, Nat.le_trans k2 h2, fun e => ?_⟩
  rcases k3 e with e1 | e1
  · rcases h3 e1 with e2 | e2
    · exact .inl e2
    · exact .inr (by omega)
  · exact .inr (by omega)
theorem Fwd.set {d : List Int} {ag : Bool} {t : Nat} {y : Int} (h : d.getD t 0 < 0) (hy : 0 ≤ y) : Fwd d ag (d.set t y) true := ⟨by simp, Nat.le_of_lt (negs_set h hy), fun _ => .inr (negs_set h hy)⟩
theorem goTo_fwd {n i : Nat} {now : Int} (hn : 0 ≤ now) : ∀ (ts : List Int) (d : List Int) (ag : Bool) (d' : List Int) (ag' : Bool), goTo n i now ts d ag = .go d' ag' → Fwd d ag d' ag'
  | [], d, ag, d', ag', h => by
    cases h
    exact Fwd.refl _ _
  | t :: r, d, ag, d', ag', h => by
    rw [goTo] at h
    split at h
    · cases h
    · split at h
      · rename_i h1
        exact (Fwd.set (ag := ag) h1 hn).trans (goTo_fwd hn r _ _ _ _ h)
      · split at h
        · cases h
        · exact goTo_fwd hn r _ _ _ _ h
theorem oneV_fwd {n i : Nat} {x : InsD} (hx : 0 ≤ leaves x) {d : List Int} {ag : Bool} {d' : List Int} {ag' : Bool} (h : oneV n i x d ag = .go d' ag') : Fwd d ag d' ag' := by
  unfold oneV at h
  simp only [] at h
  split at h
  · cases h
    exact Fwd.refl _ _
  · split at h
    · cases h
    · split at h
      · cases h
      · split at h
        · cases h
        · exact goTo_fwd (by omega) _ _ _ _ _ h
theorem fromV_fwd {n : Nat} : ∀ (l : List InsD) (i : Nat) (d : List Int) (ag : Bool) (d' : List Int) (ag' : Bool), (∀ x ∈ l, 0 ≤ leaves x) → fromV n i l d ag = .go d' ag' → Fwd d ag d' ag'
  | [], _, _, _, _, _, _, h => by
    cases h
    exact Fwd.refl _ _
  | x :: r, i, d, ag, d', ag', hx, h => by
    rw [fromV] at h
    split at h
    · cases h
    · rename_i d1 ag1 h1
      exact (oneV_fwd (hx x (by simp)) h1).trans (fromV_fwd r _ _ _ _ _ (fun y hy => hx y (by simp [hy])) h)
theorem negs_le (d : List Int) : negs d ≤ d.length := List.countP_le_length
/-- A round that has reached a new one leaves fewer. -/
theorem rounds_step {l : List InsD} {f : Nat} {d d' : List Int} (hx : ∀ x ∈ l, 0 ≤ leaves x) (hf : negs d < f) (h : fromV l.length 0 l d false = .go d' true) : ∃ f', negs d' < f' ∧ roundsV l f d = roundsV l f' d' := by
  have := (fromV_fwd l 0 d false d' true hx h).2.2 rfl
  obtain ⟨f', rfl⟩ : ∃ f', f = f' + 1 := ⟨f - 1, by omega⟩
  refine ⟨f', by simp at this; omega, ?_⟩
  rw [roundsV, h]
theorem rounds_end {l : List InsD} {f : Nat} {d d' : List Int} (hf : negs d < f) (h : fromV l.length 0 l d false = .go d' false) : roundsV l f d = (0, 0) := by
  obtain ⟨f', rfl⟩ : ∃ f', f = f' + 1 := ⟨f - 1, by omega⟩
  rw [roundsV, h]
theorem rounds_bad {l : List InsD} {f : Nat} {d : List Int} {c p : Int} (hf : negs d < f) (h : fromV l.length 0 l d false = .bad c p) : roundsV l f d = (c, p) := by
  obtain ⟨f', rfl⟩ : ∃ f', f = f' + 1 := ⟨f - 1, by omega⟩
  rw [roundsV, h]
/-- What the form has told of an instruction. -/
theorem form_all {cells len result : Int} : ∀ (l : List InsD) (i : Nat), formAt cells len result i l = none → ∀ x ∈ l, insB x cells len result = true
  | [], _, _, x, hx => by cases hx
  | y :: r, i, h, x, hx => by
    rw [formAt] at h
    split at h
    · rcases List.mem_cons.1 hx with rfl | hx
      · assumption
      · exact form_all r _ h x hx
    · cases h
theorem ins_leaves {x : InsD} {cells len result : Int} (h : insB x cells len result = true) : 0 ≤ leaves x := by
  unfold leaves
  by_cases h13 : x.op = 13
  · unfold insB argB at h
    simp [h13, inB] at h
    simp [h13]
    omega
  · repeat (first | omega | split)
theorem ins_jump {x : InsD} {cells len result : Int} (h : insB x cells len result = true) (hj : x.op = 11 ∨ x.op = 12) : 0 ≤ x.a ∧ x.a < len := by
  unfold insB argB at h
  rcases hj with e | e <;> simp [e, inB] at h <;> omega
end Go.Proofs.YtpaljmhoojpbdaaDoor
