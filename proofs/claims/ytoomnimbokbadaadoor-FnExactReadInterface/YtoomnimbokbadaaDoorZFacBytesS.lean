/- The model's InterfaceBytes answers 'facBytes' of a right interface. No condition. -/
import Derived.Test.YtoomnimbokbadaaDoorZBytSpec
import Derived.Test.YtoomnimbokbadaaDoorZFacSpec
namespace Go.Proofs.YtoomnimbokbadaaDoor
open Go.RowKit

theorem box_cellsS {w w' : World} {B : Nat} {o : Array Value} {T : TypeId} {g : Nat} (hg : w.heap[g]? = some (.cells o T (0, 0))) (k : Kp B w w') (hT : T ≠ 5) : ∀ j, w'.cell? ⟨g, j, none⟩ = o[j]? := (heapCells (k.row hg hT)).1
theorem Full.on {w w' : World} {v : Value} {l : List Int} (h : Full w v l) (bel : Below w.heap.size w w') : Full w' v l := by
  obtain ⟨g, e, hc⟩ := h
  refine ⟨g, e, fun j u hu => ?_⟩
  have := hc j u hu
  have e2 : (⟨g, 0, none⟩ : Addr).add j = ⟨g, j, none⟩ := by simp [Addr.add]; intro h; exact h.symm
  rw [e2] at this ⊢
  exact (bel.cell (p := ⟨g, j, none⟩) (block_lt this)).trans this
theorem oi_conv1 (w : World) (X : Obj) : (convert 22 22 (.slice (some ⟨w.heap.size + 1, 0, none⟩) 3 3)).run Tryd.prog ((w.alloc X).alloc (.cells #[.int .u8 79, .int .u8 73, .int .u8 49] 5)) = .ok (.slice (some ⟨w.heap.size + 1, 0, none⟩) 3 3) ((w.alloc X).alloc (.cells #[.int .u8 79, .int .u8 73, .int .u8 49] 5 (3, 4))) := by
  have := oi_conv (w.alloc X)
  rwa [World.size_alloc] at this
theorem oi_full_at {w : World} {b : Nat} (hb : b = w.heap.size) (fr : Nat × Nat) : Full (w.alloc (.cells #[.int .u8 79, .int .u8 73, .int .u8 49] 5 fr)) (.slice (some ⟨b, 0, none⟩) 3 3) [79, 73, 49] := by
  subst hb
  exact oi_full w fr
set_option maxRecDepth 100000 in
set_option maxHeartbeats 16000000 in
theorem l03Bytes_any (v : Value) (m : Md) (x : Fac) (w : World) (h : FacAt w m v x) (hm : m.hi ≤ w.heap.size) (hfb : facB x = true) :
    Calls Tryd.prog 31 #[v] w fun e w' => (∃ u, e = .returned u ∧ Own w' w.heap.size u (facBytes x)) ∧ Below w.heap.size w w' := by
  obtain ⟨u, rfl, hs, hn, a, c, rfl, h⟩ := h
  obtain ⟨f1, f2, f3⟩ := fac_ok hfb
  have H := hide h
  have HB := hide (show facBytes x = facHead x ++ x.items.flatMap itB from rfl)
  have HH := hide (show facHead x = [79, 73, 49] ++ txtB x.module ++ [(x.items.length : Int) % 256] from rfl)
  have HHl := hide (facHead_len x)
  generalize facBytes x = fby at *
  generalize facHead x = fhd at *
  clear hfb
  obtain ⟨s, l⟩ := x
  simp only [] at hs hn H HB HH HHl f1 f2 f3
  have F3 := hide f3
  obtain ⟨n, hl⟩ : ∃ n, l.length = n := ⟨_, rfl⟩
  have HN := hide hl
  rw [hl] at f2 HH
  show Calls _ _ #[.agg #[.string s, .slice a l.length c]] _ _
  rw [hl]
  clear h hl hs hn f3
  have hcv := oi_conv1
  go_enter Tryd.func31, Tryd.ntmps31
  go_wp2_with (first
    | (go_at_call 52; refine (l03Text_any s _ (by omega)).mono ?_; rintro e w1 ⟨⟨u1, rfl, h1⟩, b1⟩; obtain ⟨g1, c1, rfl, hg1, hg1'⟩ := h1.form (by rw [txtB_len]; omega); have k0 := (b1.cell (p := ⟨w.heap.size, 0, none⟩) (by simp; omega)).trans (show _ = some (Value.string s) by simp [go_sem]); have k1 := (b1.cell (p := ⟨w.heap.size, 1, none⟩) (by simp; omega)).trans (show _ = some (Value.slice a n c) by simp [go_sem]); have hf := (oi_full_at (w := w.alloc (.cells #[.string s, .slice a n c] 25)) (b := w.heap.size + 1) (by simp) (3, 4)).on b1)
    | (at_builtin; refine wp_append_full rfl _ _ rfl (w.heap.size + 1) _ [79, 73, 49] rfl hf ⟨g1, 0, none⟩ _ c1 (txtB s) rfl rfl h1.cells (by rw [txtB_len]; omega) (by rw [txtB_len]; simp; omega) (by have := b1.size; simp at this; omega) ?_; intro v2 w2 h2 b2; have k2 := (b2.bel.cell (p := ⟨w.heap.size, 1, none⟩) (by show w.heap.size < w.heap.size + 1; omega)).trans k1; have hB2 : w.heap.size + 1 ≤ w2.heap.size := (by have := b1.size; have := b2.size; simp at *; omega))
    | (at_builtin; refine wp_append_bytes rfl _ _ rfl (w.heap.size + 1) _ _ rfl (h2.alloc _) ⟨w2.heap.size, 0, none⟩ 1 1 [_] rfl rfl (one_new _ _ _) (by simp [txtB_len]; omega) (by simp; omega) ?_; intro v3 w3 h3 b3))
  have bb : Below w.heap.size w w3 := by
    have e1 := b1.mono (B' := w.heap.size) (by simp; omega)
    refine Below.trans ?_ (e1.trans ((b2.bel.mono (by omega)).trans ((((Kp.refl (w.heap.size + 1) w2).alloc hB2 _).trans b3).bel.mono (by omega))))
    exact ((Below.refl _ _).alloc (Nat.le_refl _) _).alloc (by simp) _
  have k3 := (((((Kp.refl (w.heap.size + 1) w2).alloc hB2 _).trans b3).bel).cell (p := ⟨w.heap.size, 1, none⟩) (by show w.heap.size < w.heap.size + 1; omega)).trans k2
  have H3 := hide (show Own w3 (w.heap.size + 1) v3 (fhd ++ (l.take 0).flatMap itB) by
    rw [List.take_zero, List.flatMap_nil, List.append_nil, HH.out, Int.emod_eq_of_lt (by omega) (by omega)]
    exact h3)
  have hB3 : w.heap.size + 1 ≤ w3.heap.size := by have := b3.size; simp at this; omega
  clear h1 h2 h3 b1 b2 b3 k0 k1 k2 hf hg1 hg1'
  go_loopw [3, 4] (fun b i wr => ∃ k : Nat, i = .int .i64 k ∧ k ≤ n ∧ Hid (Own wr (w.heap.size + 1) b (fhd ++ (l.take k).flatMap itB)) ∧ Kp (w.heap.size + 1) w3 wr) (fun _ i _ => n - (intOf i).toNat)
  case atStart => exact ⟨0, rfl, by omega, H3, Kp.refl _ _⟩
  case round =>
    obtain ⟨k, rfl, hk, Hk, hbw⟩ := hrel
    have hB : w.heap.size + 1 ≤ wr.heap.size := Nat.le_trans hB3 hbw.size
    have kr := (hbw.bel.cell (p := ⟨w.heap.size, 1, none⟩) (by show w.heap.size < w.heap.size + 1; omega)).trans k3
    have kr' := (Below.cell ((Below.refl _ wr).alloc (Nat.le_refl _) (.cells #[] 0)) (p := ⟨w.heap.size, 1, none⟩) (by show w.heap.size < wr.heap.size; omega)).trans kr
    by_cases hp : k < n
    · have i1 : (k : Int) < n := by omega
      have hkl : k < l.length := by rw [HN.out]; exact hp
      have hball : Below w.heap.size w wr := bb.trans (hbw.bel.mono (by omega))
      obtain ⟨b, o, rfl, -, hb2, -, he⟩ := rows_on ItmAt.stays H.out (hball.mono hm) k hkl
      have HT := hide (flat_take hkl)
      have hsm := itm_small (F3.out l[k] (List.getElem_mem _))
      have hpr := prm_ok (F3.out l[k] (List.getElem_mem _))
      have hpl := pre_len (k := k) F3.out (by rw [HN.out]; exact f2)
      obtain ⟨x, hx⟩ : ∃ x, l[k] = x := ⟨_, rfl⟩
      rw [hx] at he HT hsm hpr
      obtain ⟨L, hL⟩ : ∃ L, fhd ++ (l.take k).flatMap itB = L := ⟨_, rfl⟩
      have hLl : L.length ≤ 5000 := by rw [← hL, List.length_append, HHl.out]; omega
      have HL := hide hL
      rw [hL] at Hk
      clear hx hL hpl kr'
      obtain ⟨y0, y1, y2, y3, t, ps⟩ := x
      simp only [] at he HT hsm hpr
      have HPr := hide hpr
      clear hpr
      obtain ⟨g1, g2⟩ := hsm
      obtain ⟨⟨c0, c1, c2, c3, c4⟩, -, u, c5, hu⟩ := he
      have HU := hide hu
      obtain ⟨a', c', rfl, -⟩ := id hu
      simp only [Nat.add_zero] at c0 c1 c2 c3 c4 c5
      obtain ⟨q, hq⟩ : ∃ q, ps.length = q := ⟨_, rfl⟩
      have HQ := hide hq
      have HIt := hide (show L ++ itHead ⟨y0, y1, y2, y3, t, ps⟩ = L ++ [y0 % 256, y1 % 256, y2 % 256] ++ numB y3 ++ txtB t ++ [(q : Int)] by
        unfold itHead
        simp only [hq]
        rw [Int.emod_eq_of_lt (show (0 : Int) ≤ q by omega) (by omega)]
        simp [List.append_assoc])
      rw [hq] at c5 g2
      clear hu hq
      go_wp2_with fail
      go_region_held3 (fun w' => w'.cell? ⟨wr.heap.size, 0, none⟩ = some (.int .i64 y0) ∧ w'.cell? ⟨wr.heap.size, 1, none⟩ = some (.int .i64 y1) ∧ w'.cell? ⟨wr.heap.size, 2, none⟩ = some (.int .i64 y2) ∧ w'.cell? ⟨wr.heap.size, 3, none⟩ = some (.int .i64 y3))
        (first
          | go_keep
          | (go_split_ands; refine ⟨?_, ?_, ?_, ?_⟩ <;> simp [bx4])
          | (go_split_ands; refine ⟨?_, ?_, ?_, ?_⟩ <;> simp [bx5])
          | (go_split_ands; refine ⟨?_, ?_, ?_, ?_⟩ <;> simp [bx6]))
        ((first
          | (go_at_call 53; refine (l03Eight_any y3 _).mono ?_; rintro e w5 ⟨⟨u5, rfl, h5⟩, b5⟩; obtain ⟨g5, c5', rfl, hg5, hg5'⟩ := h5.form (by rw [numB_len]; decide); have kb5 := kb4.trans (Kp.of_below b5 hB4); have bx5 := box_cellsS (Deep.blk_alloc_new wr _) kb5 (by decide))
          | (refine step_bytes (by rfl) _ _ (by rfl) (w.heap.size + 1) _ L (by rfl) ((Hk.out.alloc _).alloc _).drewn ⟨wr.heap.size + 1, 0, none⟩ 3 3 [y0 % 256, y1 % 256, y2 % 256] (by rfl) (by rfl) (three_drew (by simp) _ _ _ _) (by decide) (by omega) (by simp; omega) ?_; intro g4 c4' w4 h4 gr4 k4; have kb4 : Kp (w.heap.size + 1) (wr.alloc (.cells #[.int .i64 y0, .int .i64 y1, .int .i64 y2, .int .i64 y3, .string t, .slice a' q c'] 57)) w4 := (((Kp.refl _ _).alloc (by simp; omega) _).trans (Kp.of_below (Below.refl _ _).drew (by simp; omega))).trans k4; have hB4 : w.heap.size + 1 ≤ w4.heap.size := (by have := kb4.size; simp at this; omega); have bx4 := box_cellsS (Deep.blk_alloc_new wr _) kb4 (by decide))
          | (refine step_bytes (by rfl) _ _ (by rfl) (w.heap.size + 1) _ _ (by rfl) (h4.on b5) ⟨g5, 0, none⟩ _ c5' (numB y3) (by rfl) (by rfl) h5.cells (by rw [numB_len]; decide) (by simp [numB_len]; omega) (Nat.le_trans hB4 b5.size) ?_; intro g6 c6' w6 h6 gr6 k6; have kb6 := kb5.trans k6; have bx6 := box_cellsS (Deep.blk_alloc_new wr _) kb6 (by decide))))
      have hB6 : w.heap.size + 1 ≤ w6.heap.size := by have := kb6.size; simp at this; omega
      have hnl := numB_len y3
      have hl6 : (L ++ [y0 % 256, y1 % 256, y2 % 256]).length + (numB y3).length = L.length + 3 + (numB y3).length := by simp
      rw [hl6] at h6
      have H6 := hide h6
      have q4 := bx6 4
      simp at q4
      clear h4 gr4 k4 hB4 bx4 b5 h5 hg5 hg5' kb5 bx5 h6 gr6 k6 bx6 hl6 kb4
      go_wp2_with (first
        | (go_at_call 52; refine (l03Text_any t _ (by omega)).mono ?_; rintro e w7 ⟨⟨u7, rfl, h7⟩, b7⟩; obtain ⟨g7, c7', rfl, hg7, hg7'⟩ := h7.form (by rw [txtB_len]; omega))
        | (at_builtin; refine wp_append_bytes rfl _ _ rfl (w.heap.size + 1) _ _ rfl (H6.out.on b7) ⟨g7, 0, none⟩ _ c7' (txtB t) rfl rfl h7.cells (by simp [numB_len, txtB_len]; omega) (Nat.le_trans hB6 b7.size) ?_; intro v8 w8 h8 b8; have kb8 := (kb6.trans (Kp.of_below b7 hB6)).trans b8; have hB8 : w.heap.size + 1 ≤ w8.heap.size := (by have := kb8.size; simp at this; omega); have q5 := box_cellsS (Deep.blk_alloc_new wr _) kb8 (by decide) 5; simp at q5)
        | (at_builtin; refine wp_append_bytes rfl _ _ rfl (w.heap.size + 1) _ _ rfl (h8.alloc _) ⟨w8.heap.size, 0, none⟩ 1 1 [_] rfl rfl (one_new _ _ _) (by simp [numB_len, txtB_len]; omega) (by simp; omega) ?_; intro v9 w9 h9 b9))
      have kb9 := (kb8.alloc hB8 _).trans b9
      have H9 := hide (show Own w9 (w.heap.size + 1) v9 (L ++ itHead ⟨y0, y1, y2, y3, t, ps⟩ ++ (ps.take 0).map prmB) by
        rw [HIt.out, List.take_zero, List.map_nil, List.append_nil]
        exact h9)
      have hLh : (L ++ itHead ⟨y0, y1, y2, y3, t, ps⟩).length ≤ 6000 := by rw [List.length_append, itHead_len]; simp; omega
      clear h7 b7 hg7 hg7' h8 b8 h9 b9 q5 kb8
      obtain ⟨Lh, hLh'⟩ : ∃ Lh, L ++ itHead ⟨y0, y1, y2, y3, t, ps⟩ = Lh := ⟨_, rfl⟩
      have HLh := hide hLh'
      rw [hLh'] at H9 hLh
      clear hLh'
      obtain ⟨w10, rfl⟩ : ∃ w10, w10 = wr := ⟨_, rfl⟩
      go_loopw [3, 6] (fun b i w2 => ∃ j : Nat, i = .int .i64 j ∧ j ≤ q ∧ Hid (Own w2 (w.heap.size + 1) b (Lh ++ (ps.take j).map prmB)) ∧ Kp (w.heap.size + 1) (w10.alloc (.cells #[.int .i64 y0, .int .i64 y1, .int .i64 y2, .int .i64 y3, .string t, .slice a' q c'] 57)) w2) (fun _ i _ => q - (intOf i).toNat)
      case atStart => exact ⟨0, rfl, by omega, H9, kb9⟩
      case round =>
        obtain ⟨j, rfl, hj, Hj, hbj⟩ := hrel
        have hBj : w.heap.size + 1 ≤ wr.heap.size := by have := hbj.size; simp at this; omega
        have q5 := box_cellsS (Deep.blk_alloc_new w10 _) hbj (by decide) 5
        simp at q5
        by_cases hpj : j < q
        · have i2 : (j : Int) < q := by omega
          have i3 : (0 : Int) ≤ (j : Int) := by omega
          have hjl : j < ps.length := by rw [HQ.out]; exact hpj
          have hbel2 : Below w.heap.size w10 wr := Below.trans ((Below.refl _ _).alloc (by omega) _) (hbj.bel.mono (by omega))
          obtain ⟨b', o', rfl, hb', hp'⟩ : ∃ b' o', a' = some ⟨b', o', none⟩ ∧ b' < m.hi ∧ PrmAt (fun i => wr.cell? ⟨b', o' + j * 2 + i, none⟩) wr ((m.inner b).inner b') ps[j] := by
            obtain ⟨a3, c3, e3, h3⟩ := HU.out.on PrmAt.stays (hbel2.mono (by rw [Md.inner_hi]; exact hm))
            cases e3
            obtain ⟨b', o', e, -, hb', -, hp'⟩ := h3 j hjl
            exact ⟨b', o', e, by rwa [Md.inner_hi] at hb', hp'⟩
          have HTj := hide (prm_take hjl)
          have hpr := HPr.out ps[j] (List.getElem_mem _)
          obtain ⟨p, hpp⟩ : ∃ p, ps[j] = p := ⟨_, rfl⟩
          rw [hpp] at hp' HTj hpr
          clear hpp
          obtain ⟨z0, z1⟩ := p
          obtain ⟨d0, d1, -⟩ := hp'
          obtain ⟨r0, r1⟩ := hpr
          simp only [Nat.add_zero] at d0 d1 r0 r1
          have hpm : (ps.take j).length ≤ 20 := by simp; omega
          have HM0 := hide (show IntKind.u8.wrap (IntKind.i64.wrap (z0 + IntKind.i64.wrap (if z1 = true then 8 else 0))) = prmB (z0, z1) by
            unfold prmB
            rw [IntKind.wrap_u8, IntKind.wrap_i64, IntKind.wrap_i64]
            cases z1 <;> simp <;> omega)
          cases z1 with
          | false =>
            go_wp2
            go_region_held3 (fun w' => w'.cell? ⟨w10.heap.size, 5, none⟩ = some (.slice (some ⟨b', o', none⟩) q c') ∧ w'.cell? ⟨b', o' + j * 2, none⟩ = some (.int .i64 z0) ∧ w'.cell? ⟨b', o' + j * 2 + 1, none⟩ = some (.bool false))
              (first
                | go_keep
                | (go_split_ands; exact ⟨by simp [bx11], hd11.trans d0, hd11'.trans d1⟩))
              ((first
                | (go_at_call 54; refine (l02Bit_any _ _).mono ?_; rintro e w9 ⟨rfl, rfl⟩)
                | (refine step_bytes (by rfl) _ _ (by rfl) (w.heap.size + 1) _ _ (by rfl) (Hj.out.alloc _).drewn ⟨wr.heap.size, 0, none⟩ 1 1 [_] (by rfl) (by rfl) (one_drew (by simp) _ _) (by decide) (by simp; omega) (by simp; omega) ?_; intro g11 c11' w11 h11 gr11 k11; have kk := (((Kp.refl (w.heap.size + 1) wr).alloc hBj _).trans (Kp.of_below (Below.refl _ _).drew (by simp; omega))).trans k11; have kall := hbj.trans kk; have bx11 := box_cellsS (Deep.blk_alloc_new w10 _) kall (by decide); have hd11 := kk.bel.cell (p := ⟨b', o' + j * 2, none⟩) (show b' < w.heap.size + 1 by omega); have hd11' := kk.bel.cell (p := ⟨b', o' + j * 2 + 1, none⟩) (show b' < w.heap.size + 1 by omega))))
            have H11 := hide (show Own w11 (w.heap.size + 1) (.slice (some ⟨g11, 0, none⟩) (Lh.length + min j ps.length + 1) c11') (Lh ++ (ps.take (j + 1)).map prmB) by
              have el : (Lh ++ (ps.take j).map prmB).length + 1 = Lh.length + min j ps.length + 1 := by simp
              rw [el] at h11
              rw [HTj.out, ← List.append_assoc, ← HM0.out]
              exact h11)
            clear h11 gr11 k11 kk bx11 hd11 hd11'
            go_wp2
            go_roundw
            case rel => exact ⟨j + 1, by go_num, by omega, H11, kall⟩
            case measure => simp [intOf]; omega
          | true =>
            go_wp2
            go_region_held3 (fun w' => w'.cell? ⟨w10.heap.size, 5, none⟩ = some (.slice (some ⟨b', o', none⟩) q c') ∧ w'.cell? ⟨b', o' + j * 2, none⟩ = some (.int .i64 z0) ∧ w'.cell? ⟨b', o' + j * 2 + 1, none⟩ = some (.bool true))
              (first
                | go_keep
                | (go_split_ands; exact ⟨by simp [bx11], hd11.trans d0, hd11'.trans d1⟩))
              ((first
                | (go_at_call 54; refine (l02Bit_any _ _).mono ?_; rintro e w9 ⟨rfl, rfl⟩)
                | (refine step_bytes (by rfl) _ _ (by rfl) (w.heap.size + 1) _ _ (by rfl) (Hj.out.alloc _).drewn ⟨wr.heap.size, 0, none⟩ 1 1 [_] (by rfl) (by rfl) (one_drew (by simp) _ _) (by decide) (by simp; omega) (by simp; omega) ?_; intro g11 c11' w11 h11 gr11 k11; have kk := (((Kp.refl (w.heap.size + 1) wr).alloc hBj _).trans (Kp.of_below (Below.refl _ _).drew (by simp; omega))).trans k11; have kall := hbj.trans kk; have bx11 := box_cellsS (Deep.blk_alloc_new w10 _) kall (by decide); have hd11 := kk.bel.cell (p := ⟨b', o' + j * 2, none⟩) (show b' < w.heap.size + 1 by omega); have hd11' := kk.bel.cell (p := ⟨b', o' + j * 2 + 1, none⟩) (show b' < w.heap.size + 1 by omega))))
            have H11 := hide (show Own w11 (w.heap.size + 1) (.slice (some ⟨g11, 0, none⟩) (Lh.length + min j ps.length + 1) c11') (Lh ++ (ps.take (j + 1)).map prmB) by
              have el : (Lh ++ (ps.take j).map prmB).length + 1 = Lh.length + min j ps.length + 1 := by simp
              rw [el] at h11
              rw [HTj.out, ← List.append_assoc, ← HM0.out]
              exact h11)
            clear h11 gr11 k11 kk bx11 hd11 hd11'
            go_wp2
            go_roundw
            case rel => exact ⟨j + 1, by go_num, by omega, H11, kall⟩
            case measure => simp [intOf]; omega
        · have i2 : ¬ (j : Int) < q := by omega
          obtain rfl : j = q := by omega
          go_wp2
          go_roundw
          case rel =>
            refine ⟨k + 1, by go_num, by omega, ?_, hbw.trans (((Kp.refl _ _).alloc hB _).trans hbj)⟩
            show Own _ _ _ _
            rw [HT.out, ← List.append_assoc, HL.out]
            have := Hj.out
            rw [List.take_of_length_le (by rw [HQ.out]; exact Nat.le_refl _), ← HLh.out] at this
            unfold itB
            rw [← List.append_assoc]
            exact this
          case measure => simp [intOf]; omega
    · have i1 : ¬ (k : Int) < n := by omega
      obtain rfl : k = n := by omega
      go_wp2
      go_ret
      refine ⟨⟨_, rfl, ?_⟩, bb.trans (hbw.bel.mono (by omega))⟩
      have := Hk.out
      rw [List.take_of_length_le (by rw [HN.out]; exact Nat.le_refl _), ← HB.out] at this
      exact this.low (by omega)
end Go.Proofs.YtoomnimbokbadaaDoor
