/- The program's InterfaceBytes answers 'facBytes' of a right interface. Its table of words is a premise. -/
import Derived.Test.YtoomnimbokbadaaDoorZFacBytes
import Derived.Test.YtoomnimbokbadaaDoorZFacImpl
namespace Go.Proofs.YtoomnimbokbadaaDoor
open Go.RowKit

theorem box_cells {w w' : World} {B : Nat} {o : Array Value} {T : TypeId} {g : Nat} (hg : w.heap[g]? = some (.cells o T (0, 0))) (k : Kp B w w') (hT : T ≠ 5) : ∀ j, w'.cell? ⟨g, j, none⟩ = o[j]? := (heapCells (k.row hg hT)).1
set_option maxRecDepth 100000 in
set_option maxHeartbeats 16000000 in
theorem ifBytes_any (v : Value) (m : Md) (x : Fac) (w : World) (h : FacAt w m v x) (hm : m.hi ≤ w.heap.size) (hfb : facB x = true) :
    Calls Tryd.prog 28 #[v] w fun e w' => (∃ u, e = .returned u ∧ Own w' w.heap.size u (facBytes x)) ∧ Below w.heap.size w w' := by
  obtain ⟨u, rfl, hs, hn, a, c, rfl, h⟩ := h
  obtain ⟨f1, f2, f3⟩ := fac_ok hfb
  have H := hide h
  have HB := hide (show facBytes x = facHead x ++ x.items.flatMap itB from rfl)
  have HH := hide (show facHead x = [79, 73, 49] ++ txtB x.module ++ [(x.items.length : Int) % 256] from rfl)
  have HHl := hide (facHead_len x)
  generalize facBytes x = fby at *
  generalize facHead x = fhd at *
  obtain ⟨s, l⟩ := x
  simp only [] at hs hn H HB HH HHl f1 f2 f3
  have F3 := hide f3
  obtain ⟨n, hl⟩ : ∃ n, l.length = n := ⟨_, rfl⟩
  have HN := hide hl
  rw [hl] at f2 HH
  show Calls _ _ #[.agg #[.string s, .slice a l.length c]] _ _
  rw [hl]
  clear hfb h hl hs hn f3
  have hcv := oi_conv
  obtain ⟨w1, hw1⟩ : ∃ w1, w1 = w.alloc (.cells #[.string s, .slice a n c] 25) := ⟨_, rfl⟩
  have b1 : Below w.heap.size w w1 := by rw [hw1]; exact (Below.refl _ _).alloc (Nat.le_refl _) _
  have hbox : w1.heap[w.heap.size]? = some (.cells #[.string s, .slice a n c] 25 (0, 0)) := by rw [hw1]; exact Deep.blk_alloc_new w _
  have k0 : w1.cell? ⟨w.heap.size, 0, none⟩ = some (.string s) := (heapCells hbox).1 0
  have k1 : w1.cell? ⟨w.heap.size, 1, none⟩ = some (.slice a n c) := (heapCells hbox).1 1
  have hz : w.heap.size < w1.heap.size := (Array.getElem?_eq_some_iff.1 hbox).1
  have hcv2 := oi_conv (w.alloc (.cells #[.string s, .slice a n c] 25))
  rw [World.size_alloc] at hcv2
  clear hbox hcv
  go_enter Tryd.func28, Tryd.ntmps28
  have hs1 : Hid (w.heap.size + 1 = w1.heap.size) := hide (by rw [hw1]; simp)
  go_wp2_with fail
  rw [← hw1, hs1.out]
  clear hw1
  refine (appendText_full w1.heap.size _ [79, 73, 49] s _ (oi_full _ _) (by simp) (by simp) (by omega)).mono ?_
  rintro e w2 ⟨⟨u2, rfl, h2⟩, b2⟩
  have p0 := ((((Below.refl _ _).alloc (Nat.le_refl _) _).trans b2.bel).cell (p := ⟨w.heap.size, 1, none⟩) hz).trans k1
  have K2 : Kp w1.heap.size w1 w2 := ((Kp.refl _ _).alloc (Nat.le_refl _) _).trans b2
  have H2 := hide h2
  clear h2 b2
  go_wp2_with (at_builtin; refine wp_append_bytes rfl _ _ rfl w1.heap.size _ _ rfl (H2.out.alloc _) ⟨w2.heap.size, 0, none⟩ 1 1 [_] rfl rfl (one_new _ _ _) (by simp [txtB_len]; omega) (by have := K2.size; simp; omega) ?_; intro v3 w3 h3 b3; have p1 := ((((K2.bel.alloc K2.size _)).trans b3.bel).cell (p := ⟨w.heap.size, 1, none⟩) hz).trans k1)
  have H3 := hide (show Own w3 w1.heap.size v3 (fhd ++ (l.take 0).flatMap itB) by
    rw [List.take_zero, List.flatMap_nil, List.append_nil, HH.out, Int.emod_eq_of_lt (by omega) (by omega)]
    exact h3)
  have K3 : Kp w1.heap.size w1 w3 := (K2.alloc K2.size _).trans b3
  clear h3 b3 p0 p1 k0 k1
  go_loopw [3, 23] (fun b i wr => ∃ k : Nat, i = .int .i64 k ∧ k ≤ n ∧ Hid (Own wr w1.heap.size b (fhd ++ (l.take k).flatMap itB)) ∧ Kp w1.heap.size w1 wr) (fun _ i _ => n - (intOf i).toNat)
  case atStart => exact ⟨0, rfl, by omega, H3, K3⟩
  case round =>
    obtain ⟨k, rfl, hk, Hk, hbw⟩ := hrel
    have hB : w1.heap.size ≤ wr.heap.size := hbw.size
    by_cases hp : k < n
    · have i1 : (k : Int) < n := by omega
      have hkl : k < l.length := by rw [HN.out]; exact hp
      have hball : Below w.heap.size w wr := b1.trans (hbw.bel.mono b1.size)
      obtain ⟨b, o, rfl, -, hb2, -, he⟩ := rows_on ItmAt.stays H.out (hball.mono hm) k hkl
      have HT := hide (flat_take hkl)
      have hsm := itm_small (F3.out l[k] (List.getElem_mem _))
      have hpl := pre_len (k := k) F3.out (by rw [HN.out]; exact f2)
      obtain ⟨x, hx⟩ : ∃ x, l[k] = x := ⟨_, rfl⟩
      rw [hx] at he HT hsm
      obtain ⟨L, hL⟩ : ∃ L, fhd ++ (l.take k).flatMap itB = L := ⟨_, rfl⟩
      have hLl : L.length ≤ 5000 := by rw [← hL, List.length_append, HHl.out]; omega
      have HL := hide hL
      rw [hL] at Hk
      clear hx hL hpl
      obtain ⟨y0, y1, y2, y3, t, ps⟩ := x
      simp only [] at he HT hsm
      obtain ⟨g1, g2⟩ := hsm
      obtain ⟨⟨c0, c1, c2, c3, c4⟩, -, u, c5, hu⟩ := he
      have HU := hide hu
      obtain ⟨a', c', rfl, -⟩ := id hu
      simp only [Nat.add_zero] at c0 c1 c2 c3 c4 c5
      obtain ⟨q, hq⟩ : ∃ q, ps.length = q := ⟨_, rfl⟩
      have HQ := hide hq
      have HIt := hide (show L ++ itHead ⟨y0, y1, y2, y3, t, ps⟩ = L ++ [y0 % 256, y1 % 256, y2 % 256] ++ numB y3 ++ txtB t ++ [(q : Int)] by
        unfold itHead
        simp only [hq]
        rw [Int.emod_eq_of_lt (show (0 : Int) ≤ q by omega) (by omega)]
        simp [List.append_assoc])
      rw [hq] at c5 g2
      clear hu hq
      go_wp2_with (at_builtin; refine wp_append_bytes rfl _ _ rfl w1.heap.size _ L rfl ((Hk.out.alloc _).alloc _) ⟨wr.heap.size + 1, 0, none⟩ 3 3 [_, _, _] rfl rfl (three_at (by simp) _ _ _ _) (by omega) (by simp; omega) ?_; intro v4 w4 h4 b4; have q3 := box_cells (Deep.blk_alloc_new wr _) (((Kp.refl w1.heap.size _).alloc (by simp; omega) _).trans b4) (by decide) 3; simp at q3)
      have kb4 : Kp w1.heap.size (wr.alloc (.cells #[.int .i64 y0, .int .i64 y1, .int .i64 y2, .int .i64 y3, .string t, .slice a' q c'] 57)) w4 := ((Kp.refl w1.heap.size _).alloc (by simp; omega) _).trans b4
      have hB4 : w1.heap.size ≤ w4.heap.size := by have := kb4.size; simp at this; omega
      clear b4
      refine (appendNumber_any w1.heap.size _ _ y3 _ h4 hB4 (by simp; omega)).mono ?_
      rintro e w5 ⟨⟨u5, rfl, h5⟩, b5⟩
      have kb5 := kb4.trans b5
      have hB5 : w1.heap.size ≤ w5.heap.size := Nat.le_trans hB4 b5.size
      have q4 := box_cells (Deep.blk_alloc_new wr _) kb5 (by decide) 4
      simp at q4
      have H5 := hide h5
      clear q3 h4 b5 h5
      go_wp2_with fail
      refine (appendText_any w1.heap.size _ _ t _ H5.out hB5 (by simp [numB_len]; omega) (by omega)).mono ?_
      rintro e w6 ⟨⟨u6, rfl, h6⟩, b6⟩
      have kb6 := kb5.trans b6
      have hB6 : w1.heap.size ≤ w6.heap.size := Nat.le_trans hB5 b6.size
      have q5 := box_cells (Deep.blk_alloc_new wr _) kb6 (by decide) 5
      simp at q5
      have H6 := hide h6
      clear q4 b6 h6
      go_wp2_with (at_builtin; refine wp_append_bytes rfl _ _ rfl w1.heap.size _ _ rfl (H6.out.alloc _) ⟨w6.heap.size, 0, none⟩ 1 1 [_] rfl rfl (one_new _ _ _) (by simp [numB_len, txtB_len]; omega) (by simp; omega) ?_; intro v7 w7 h7 b7; have p5 := box_cells (Deep.blk_alloc_new wr _) ((kb6.alloc hB6 _).trans b7) (by decide) 5; simp at p5)
      have kb7 : Kp w1.heap.size wr w7 := ((Kp.refl _ _).alloc hB _).trans ((kb6.alloc hB6 _).trans b7)
      have H7 := hide (show Own w7 w1.heap.size v7 (L ++ itHead ⟨y0, y1, y2, y3, t, ps⟩ ++ (ps.take 0).map prmB) by
        rw [HIt.out, List.take_zero, List.map_nil, List.append_nil]
        exact h7)
      have hLh : (L ++ itHead ⟨y0, y1, y2, y3, t, ps⟩).length ≤ 6000 := by rw [List.length_append, itHead_len]; simp; omega
      clear h7 b7 kb6 kb5 kb4 p5 q5
      obtain ⟨Lh, hLh'⟩ : ∃ Lh, L ++ itHead ⟨y0, y1, y2, y3, t, ps⟩ = Lh := ⟨_, rfl⟩
      have HLh := hide hLh'
      rw [hLh'] at H7 hLh
      clear hLh'
      obtain ⟨w8, rfl⟩ : ∃ w8, w8 = wr := ⟨_, rfl⟩
      go_loopw [3, 57] (fun b i w2 => ∃ j : Nat, i = .int .i64 j ∧ j ≤ q ∧ Hid (Own w2 w1.heap.size b (Lh ++ (ps.take j).map prmB)) ∧ Kp w1.heap.size w8 w2) (fun _ i _ => q - (intOf i).toNat)
      case atStart => exact ⟨0, rfl, by omega, H7, kb7⟩
      case round =>
        obtain ⟨j, rfl, hj, Hj, hbj⟩ := hrel
        have hBj : w1.heap.size ≤ wr.heap.size := Nat.le_trans hB hbj.size
        by_cases hpj : j < q
        · have i2 : (j : Int) < q := by omega
          have hjl : j < ps.length := by rw [HQ.out]; exact hpj
          have hbel2 : Below w.heap.size w8 wr := hbj.bel.mono b1.size
          obtain ⟨b', o', rfl, hp'⟩ : ∃ b' o', a' = some ⟨b', o', none⟩ ∧ PrmAt (fun i => wr.cell? ⟨b', o' + j * 2 + i, none⟩) wr ((m.inner b).inner b') ps[j] := by
            obtain ⟨a3, c3, e3, h3⟩ := HU.out.on PrmAt.stays (hbel2.mono (by rw [Md.inner_hi]; exact hm))
            cases e3
            obtain ⟨b', o', e, -, -, -, hp'⟩ := h3 j hjl
            exact ⟨b', o', e, hp'⟩
          have HTj := hide (prm_take hjl)
          obtain ⟨p, hpp⟩ : ∃ p, ps[j] = p := ⟨_, rfl⟩
          rw [hpp] at hp' HTj
          clear hpp
          obtain ⟨z0, z1⟩ := p
          obtain ⟨d0, d1, -⟩ := hp'
          simp only [Nat.add_zero] at d0 d1
          have hpm : (ps.take j).length ≤ 20 := by simp; omega
          go_wp2_with (first
            | (go_at_call 51; refine (paramByte_any z0 z1 _).mono ?_; rintro e w9 ⟨rfl, b9⟩; have HO9 := hide ((Hj.out.alloc _).on b9); have hB9 : w1.heap.size ≤ w9.heap.size := (by have := b9.size; simp at this; omega); have kb9 := (hbj.alloc hBj _).trans (Kp.of_below b9 (by simp; omega)))
            | (at_builtin; refine wp_append_bytes rfl _ _ rfl w1.heap.size _ _ rfl (HO9.out.alloc _) ⟨w9.heap.size, 0, none⟩ 1 1 [_] rfl rfl (one_new _ _ _) (by simp; omega) (by simp; omega) ?_; intro v10 w10 h10 b10))
          have H10 := hide (show Own w10 w1.heap.size v10 (Lh ++ (ps.take (j + 1)).map prmB) by
            rw [HTj.out, ← List.append_assoc]
            exact h10)
          have kb10 := (kb9.alloc hB9 _).trans b10
          clear h10 b10
          go_roundw
          case rel => exact ⟨j + 1, by go_num, by omega, H10, kb10⟩
          case measure => simp [intOf]; omega
        · have i2 : ¬ (j : Int) < q := by omega
          obtain rfl : j = q := by omega
          go_wp2
          go_roundw
          case rel =>
            refine ⟨k + 1, by go_num, by omega, ?_, hbw.trans hbj⟩
            show Own _ _ _ _
            rw [HT.out, ← List.append_assoc, HL.out]
            have := Hj.out
            rw [List.take_of_length_le (by rw [HQ.out]; exact Nat.le_refl _), ← HLh.out] at this
            unfold itB
            rw [← List.append_assoc]
            exact this
          case measure => simp [intOf]; omega
    · have i1 : ¬ (k : Int) < n := by omega
      obtain rfl : k = n := by omega
      go_wp2
      go_ret
      refine ⟨⟨_, rfl, ?_⟩, b1.trans (hbw.bel.mono b1.size)⟩
      have := Hk.out
      rw [List.take_of_length_le (by rw [HN.out]; exact Nat.le_refl _), ← HB.out] at this
      exact this.low (Nat.le_of_lt hz)
theorem implBytes_any (v : Value) (m : Md) (x : Fac) (w : World) (h : FacAt w m v x) (hm : m.hi ≤ w.heap.size) (t : TypeId) (fr : Nat × Nat) (hg : w.heap[0]? = some (.cells keyRow t fr)) :
    Calls Tryd.prog 9 #[v] w fun e w' => (∃ u, e = .returned (.tuple #[u, .int .i64 (if facB x then 0 else 1)]) ∧ Own w' w.heap.size u (if facB x then facBytes x else [])) ∧ Below w.heap.size w w' := by
  have HI : Hid (∀ w', Below w.heap.size w w' → Calls Tryd.prog 17 #[v] w' fun e w2 => e = .returned (.bool (facB x)) ∧ Below w'.heap.size w' w2) := fun w' bel =>
    implInterfaceOK_any v m x w' (h.on (bel.mono hm)) (Nat.le_trans hm bel.size) t fr ((bel.block 0 (Array.getElem?_eq_some_iff.1 hg).1).trans hg)
  have HB : Hid (facB x = true → ∀ w', Below w.heap.size w w' → Calls Tryd.prog 28 #[v] w' fun e w2 => (∃ u, e = .returned u ∧ Own w2 w'.heap.size u (facBytes x)) ∧ Below w'.heap.size w' w2) := fun hf w' bel =>
    ifBytes_any v m x w' (h.on (bel.mono hm)) (Nat.le_trans hm bel.size) hf
  obtain ⟨u, rfl, hs, hn, a, c, rfl, -⟩ := h
  clear hg hs hn
  obtain ⟨n, hl⟩ : ∃ n, x.items.length = n := ⟨_, rfl⟩
  obtain ⟨s, hs⟩ : ∃ s, x.module = s := ⟨_, rfl⟩
  rw [hl, hs] at HI HB ⊢
  clear hl hs
  cases hfb : facB x with
  | false =>
    rw [hfb] at HI
    clear hfb HB
    go_enter Tryd.func9, Tryd.ntmps9
    go_wp2_with (go_at_call 17; refine (HI.out _ ((Below.refl _ _).alloc (Nat.le_refl _) _)).mono ?_; rintro e w1 ⟨rfl, bel⟩)
    go_ret2
    exact ⟨⟨_, rfl, Own.nil _ _⟩, ((Below.refl _ _).alloc (Nat.le_refl _) _).trans (bel.mono (by simp))⟩
  | true =>
    have HB2 := hide (HB.out hfb)
    rw [hfb] at HI
    rw [if_pos rfl, if_pos rfl]
    generalize facBytes x = fby at *
    clear hfb HB
    go_enter Tryd.func9, Tryd.ntmps9
    go_wp2_with fail
    refine (HI.out _ ((Below.refl _ _).alloc (Nat.le_refl _) _)).mono ?_
    rintro e w1 ⟨rfl, bel⟩
    have b1 : Below w.heap.size w w1 := ((Below.refl _ _).alloc (Nat.le_refl _) _).trans (bel.mono (by simp))
    have k0 := (bel.cell (p := ⟨w.heap.size, 0, none⟩) (by simp)).trans (show _ = some (Value.string s) by simp [go_sem])
    have k1 := (bel.cell (p := ⟨w.heap.size, 1, none⟩) (by simp)).trans (show _ = some (Value.slice a n c) by simp [go_sem])
    clear bel
    go_wp2_with fail
    refine (HB2.out _ b1).mono ?_
    rintro e w2 ⟨⟨u, rfl, ho⟩, b2⟩
    have HO := hide ho
    clear k0 k1 ho
    go_wp2
    go_ret2
    exact ⟨⟨_, rfl, HO.out.low b1.size⟩, b1.trans (b2.mono b1.size)⟩
end Go.Proofs.YtoomnimbokbadaaDoor
