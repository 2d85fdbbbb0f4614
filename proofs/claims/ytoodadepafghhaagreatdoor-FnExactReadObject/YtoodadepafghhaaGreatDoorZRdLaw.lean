/- FnExactReadObject: at every row of bytes the program's ReadObject answers as the model's, object and code; the answer is memory of its own; the bytes are as they were. The table of words is a premise. -/
import Derived.Test.YtoodadepafghhaaGreatDoorZHelN
import Derived.Test.YtoodadepafghhaaGreatDoorZRdArg
import Derived.Test.YtoodadepafghhaaGreatDoorZObjEq
namespace Go.Proofs.YtoodadepafghhaaGreatDoor
open Go.ChangeShapes Go.WideShapes Go.ChangeAt Go.RowKit Go.PlainAid Go.Deep

theorem rdVO_num {l : List Int} (h : ∀ y ∈ l, 0 ≤ y ∧ y ≤ 255) : ONum (rdVO l) := by
  unfold rdVO
  split
  · exact rdObj_num h
  · exact ⟨Nat.zero_le _, by show I64 0; unfold I64; omega, Nat.zero_le _, Nat.zero_le _, Nat.zero_le _, (fun y hy => by cases hy), (fun y hy => by cases hy), fun y hy => by cases hy⟩
theorem rdpo_form {l : List Int} {w w' : World} {e : Ending} (h : RdPO l w e w') : (∃ va vn vc ga gn gc pa pn pc L, e = .returned (.tuple #[.agg #[.string (rdVO l).module, .int .i64 (rdVO l).print, .slice va vn vc, .slice ga gn gc, .slice pa pn pc], .int .i64 (rdCO l)]) ∧ Hid (ObRow w' w.heap.size (.slice va vn vc) (.slice ga gn gc) (.slice pa pn pc) (rdVO l) L)) ∧ Below w.heap.size w w' := by
  obtain ⟨⟨u2, u3, u4, L, e1, h1⟩, b⟩ := h
  obtain ⟨a2, c2, q2⟩ := h1.1.form
  obtain ⟨a3, c3, q3⟩ := h1.2.1.form
  obtain ⟨a4, c4, q4⟩ := h1.2.2.1.1.form
  subst q2 q3 q4
  exact ⟨⟨_, _, _, _, _, _, _, _, _, L, e1, hide h1⟩, b⟩
theorem Tch.blk {S : Nat → Prop} {w w' : World} (t : Tch S w w') {b : Nat} (hb : ¬ S b) {o : Obj} (h : w.heap[b]? = some o) : w'.heap[b]? = some o := (t.block b (Array.getElem?_eq_some_iff.1 h).1 hb).trans h
set_option maxRecDepth 100000 in
set_option maxHeartbeats 16000000 in
theorem readObjLaw_any (a : Option Addr) (c : Nat) (l : List Int) (w : World) (hl : l.length ≤ 1048576) (hin : ∀ y ∈ l, 0 ≤ y ∧ y ≤ 255) (h : ArgB w a l) (t : TypeId) (fr : Nat × Nat) (hg : w.heap[2]? = some (.cells keyRow t fr)) :
    Calls Tryz.prog 5 #[.slice a l.length c] w fun e w' => e = .returned (.bool true) ∧ Below w.heap.size w w' := by
  obtain ⟨n, hn⟩ : ∃ n, l.length = n := ⟨_, rfl⟩
  have hnum := rdVO_num hin
  obtain ⟨x, hx⟩ : ∃ x, rdVO l = x := ⟨_, rfl⟩
  rw [hx] at hnum
  obtain ⟨fc, hfc⟩ : ∃ fc, rdCO l = fc := ⟨_, rfl⟩
  obtain ⟨s, hs⟩ : ∃ s, x.module = s := ⟨_, rfl⟩
  obtain ⟨p, hp⟩ : ∃ p, x.print = p := ⟨_, rfl⟩
  have HTo : Hid (∀ w', Below w.heap.size w w' → Calls Tryz.prog 22 #[.slice a n c] w' fun e w2 => (∃ g, e = .returned (.slice (some ⟨g, 0, none⟩) n n) ∧ Hid (g = w'.heap.size) ∧ Hid (Own w2 w'.heap.size (.slice (some ⟨g, 0, none⟩) n n) l)) ∧ Below w'.heap.size w' w2) := hide fun w' bel => by
    have := toByteS_any a c l w' hl (h.on bel)
    rw [hn] at this
    exact this.mono fun e w2 ⟨e1, o1, b1⟩ => ⟨⟨_, e1, rfl, o1⟩, b1⟩
  have HSp : Hid (∀ w' g B, Own w' B (.slice (some ⟨g, 0, none⟩) n n) l → Calls Tryz.prog 21 #[.slice (some ⟨g, 0, none⟩) n n] w' fun e w2 => (∃ va vn vc ga gn gc pa pn pc L, e = .returned (.tuple #[.agg #[.string s, .int .i64 p, .slice va vn vc, .slice ga gn gc, .slice pa pn pc], .int .i64 fc]) ∧ Hid (ObRow w2 w'.heap.size (.slice va vn vc) (.slice ga gn gc) (.slice pa pn pc) x L)) ∧ Below w'.heap.size w' w2) := hide fun w' g B ho => by
    have hs' := Own.slat ho hin
    rw [← hn] at hs'
    have := specReadO_any g 0 l.length ⟨B, w'.heap.size, false⟩ l w' hs' (Nat.le_refl _) (Nat.le_refl _) (by omega)
    rw [hn] at this
    refine this.mono fun e w2 h2 => ?_
    have := rdpo_form h2
    rw [hx, hs, hp, hfc] at this
    exact this
  have HIm : Hid (∀ w' g B, Below w.heap.size w w' → Own w' B (.slice (some ⟨g, 0, none⟩) n n) l → Calls Tryz.prog 23 #[.slice (some ⟨g, 0, none⟩) n n] w' fun e w2 => (∃ va vn vc ga gn gc pa pn pc L, e = .returned (.tuple #[.agg #[.string s, .int .i64 p, .slice va vn vc, .slice ga gn gc, .slice pa pn pc], .int .i64 fc]) ∧ Hid (ObRow w2 w'.heap.size (.slice va vn vc) (.slice ga gn gc) (.slice pa pn pc) x L)) ∧ Below w'.heap.size w' w2) := hide fun w' g B bel ho => by
    have hs' := Own.slat ho hin
    rw [← hn] at hs'
    have := implReadO_any g 0 l.length ⟨B, w'.heap.size, false⟩ l w' hs' (Nat.le_refl _) (Nat.le_refl _) (by omega) t fr ((bel.block 2 (Array.getElem?_eq_some_iff.1 hg).1).trans hg)
    rw [hn] at this
    refine this.mono fun e w2 h2 => ?_
    have := rdpo_form h2
    rw [hx, hs, hp, hfc] at this
    exact this
  have HV : Hid (∀ w' B u2 u3 u4 L, ObRow w' B u2 u3 u4 x L → ObjectVal w' ⟨B, w'.heap.size, false⟩ (.agg #[.string s, .int .i64 p, u2, u3, u4]) x) := hide fun w' B u2 u3 u4 L h => by
    rw [← hs, ← hp]
    exact objval_of_row h hnum
  have HNum := hide hnum
  have hnl : n ≤ 1048576 := by omega
  have HN := hide hn
  rw [hn]
  have i0 : ¬ (1048576 : Int) < n := by omega
  clear hx hfc hg h hl hn hnum hs hp
  go_enter Tryz.func5, Tryz.ntmps5
  go_wp2_with fail
  refine (HTo.out _ (Below.refl _ _)).mono ?_
  rintro e w1 ⟨⟨g1, rfl, -, ho1⟩, b1⟩
  go_wp2_with fail
  refine (HSp.out _ _ _ ho1.out).mono ?_
  rintro e w2 ⟨⟨va, vn, vc, ga, gn, gc, pa, pn, pc, L0, rfl, hi0⟩, b2⟩
  have hb2 : Below w.heap.size w w2 := b1.trans (b2.mono b1.size)
  have h12 : w1.heap.size ≤ w2.heap.size := b2.size
  have h01 : w.heap.size ≤ w1.heap.size := b1.size
  have HF2 := hide (HV.out _ _ _ _ _ _ hi0.out)
  clear b1 b2 ho1 hi0
  go_wp2_with fail
  have bX2 : Below w2.heap.size w2 (w2.alloc (.cells #[.string s, .int .i64 p, .slice va vn vc, .slice ga gn gc, .slice pa pn pc] 44)) := (Below.refl _ _).alloc (Nat.le_refl _) _
  have hp3 := Deep.blk_alloc_new w2 (.cells #[.string s, .int .i64 p, .slice va vn vc, .slice ga gn gc, .slice pa pn pc] 44)
  refine (HTo.out _ (hb2.trans (bX2.mono hb2.size))).mono ?_
  rintro e w4 ⟨⟨g4, rfl, HG4, ho4⟩, b4⟩
  have h4g : g4 = w2.heap.size + 1 := by rw [HG4.out]; simp
  have hg4 := hide h4g
  have hb24 : Below w2.heap.size w2 w4 := bX2.trans (b4.mono (by simp))
  have hb4 : Below w.heap.size w w4 := hb2.trans (hb24.mono hb2.size)
  have hp4 := (b4.block w2.heap.size (by simp)).trans hp3
  have HP4 := hide hp4
  have h24 : w2.heap.size + 2 ≤ w4.heap.size := by
    have := b4.size
    have hlt : g4 < w4.heap.size := by
      rcases ho4.out.2 with ⟨e, -⟩ | ⟨g', cap, cur, e, -, hg', -⟩
      · cases e
      · cases e; exact (Array.getElem?_eq_some_iff.1 hg').1
    omega
  have HF4 := hide (HF2.out.on hb24)
  clear bX2 hp3 b4 hb24 hp4 h4g HG4 HF2
  go_wp2_with fail
  refine (HIm.out _ _ _ hb4 ho4.out).mono ?_
  rintro e w5 ⟨⟨ua, un, uc, ya, yn, yc, za, zn, zc, L5, rfl, hi5⟩, b5⟩
  have h45 : w4.heap.size ≤ w5.heap.size := b5.size
  obtain ⟨w6, hw6⟩ : ∃ w6, w6 = w5.alloc (.cells #[.string s, .int .i64 p, .slice ua un uc, .slice ya yn yc, .slice za zn zc] 44) := ⟨_, rfl⟩
  have b56 : Below w5.heap.size w5 w6 := by rw [hw6]; exact (Below.refl _ _).alloc (Nat.le_refl _) _
  have b46 : Below w4.heap.size w4 w6 := b5.trans (b56.mono h45)
  have hp6 : w6.heap[w5.heap.size]? = some (.cells #[.string s, .int .i64 p, .slice ua un uc, .slice ya yn yc, .slice za zn zc] 44 (0, 0)) := by
    rw [hw6]
    exact Deep.blk_alloc_new w5 _
  have hp3 := (b46.block w2.heap.size (by omega)).trans HP4.out
  obtain ⟨⟨x0, x1, x2, x3, x4⟩, -⟩ := obj_cells hp3
  obtain ⟨⟨y0, y1, y2, y3, y4⟩, -⟩ := obj_cells hp6
  have HPX := hide hp3
  have HPY := hide hp6
  have HI6 := hide (hi5.out.on b56)
  have HO6 := hide (ho4.out.on b46)
  have HF6 := hide (HF4.out.on (b46.mono (show w2.heap.size ≤ w4.heap.size by omega)))
  have hoa := hi5.out.oa HNum.out
  have HV5 : Hid (∀ k, OS (.slice ua un uc) (.slice ya yn yc) (.slice za zn zc) L5 k → w4.heap.size ≤ k ∧ k < w5.heap.size) := hide hoa.lt
  have HB5 : Hid (x.needs.length ≤ 255 ∧ x.globals.length ≤ 255 ∧ L5.length ≤ 255 ∧ ∀ p ∈ L5, p.1.list.length ≤ 65535) := hide ⟨hoa.m2, hoa.m3, hoa.m4, hoa.mi⟩
  have hb6 : Below w.heap.size w w6 := hb4.trans (b46.mono hb4.size)
  have HB6 := hide hb6
  have h56 : w5.heap.size < w6.heap.size := (Array.getElem?_eq_some_iff.1 hp6).1
  have HFA : Hid (∀ w', Below w6.heap.size w6 w' → ObjectVal w' ⟨w1.heap.size, w2.heap.size, false⟩ (.agg #[.string s, .int .i64 p, .slice va vn vc, .slice ga gn gc, .slice pa pn pc]) x) := hide fun w' bel => HF6.out.on (bel.mono (by show w2.heap.size ≤ _; omega))
  have HFB : Hid (∀ w', Below w6.heap.size w6 w' → ObjectVal w' ⟨w4.heap.size, w'.heap.size, false⟩ (.agg #[.string s, .int .i64 p, .slice ua un uc, .slice ya yn yc, .slice za zn zc]) x) := hide fun w' bel => HV.out _ _ _ _ _ _ (HI6.out.on bel)
  clear b5 b56 b46 hp3 hp6 hi5 ho4 hb4 hb6 hoa HF4 HP4
  have HW6 := hide hw6
  rw [hw6] at x0 x1 x2 x3 x4 y0 y1 y2 y3 y4
  clear hw6
  go_wp2_with fail
  rw [← HW6.out]
  refine (eqObject_same _ _ _ _ x _ (HFB.out _ (Below.refl _ _)) (HFA.out _ (Below.refl _ _)) (Nat.le_refl _) (by show w2.heap.size ≤ _; omega)).mono ?_
  rintro e w7 ⟨rfl, b7⟩
  clear x0 x1 x2 x3 x4 y0 y1 y2 y3 y4
  go_wp2_with fail
  refine (HTo.out _ (HB6.out.trans (b7.mono HB6.out.size))).mono ?_
  rintro e w8 ⟨⟨g8, rfl, -, ho8⟩, b8⟩
  have b68 : Below w6.heap.size w6 w8 := b7.trans (b8.mono b7.size)
  clear b7 b8
  go_wp2_with fail
  refine (eqByteS_same _ _ _ _ l _ (by have := HN.out; omega) (HO6.out.on b68) ho8.out).mono ?_
  rintro e w9 ⟨rfl, b9⟩
  have b69 : Below w6.heap.size w6 w9 := b68.trans (b9.mono b68.size)
  have HO9 := hide (HO6.out.on b69)
  have hmk := markByteS_tch g4 n l w9 (by have := HN.out; omega) HO9.out.al
  rw [HN.out] at hmk
  have HMK := hide hmk
  have B69 := hide b69
  have hz : ¬ 1 + (n : Int) < 0 := by omega
  clear b68 b69 b9 ho8 hmk
  go_wp2_with fail
  refine HMK.out.mono ?_
  rintro e w10 ⟨rfl, t10⟩
  have HT10 : Hid (Tch (fun k => k = g4) w6 w10) := hide ((Tch.of_below B69.out).trans t10)
  have h610 : w6.heap.size ≤ w10.heap.size := HT10.out.size
  obtain ⟨⟨x0, x1, x2, x3, x4⟩, -⟩ := obj_cells (HT10.out.blk (by have := hg4.out; omega) HPX.out)
  obtain ⟨⟨y0, y1, y2, y3, y4⟩, -⟩ := obj_cells (HT10.out.blk (by have := hg4.out; omega) HPY.out)
  have HI10 : Hid (ObRow w10 w4.heap.size (.slice ua un uc) (.slice ya yn yc) (.slice za zn zc) x L5) := hide ((HI6.out.on B69.out).of_heap fun k hk hk2 => t10.block k hk2 (by have := hg4.out; omega))
  have HFA10 := hide ((HFA.out _ B69.out).same (w' := w10) fun k hk hk2 => t10.block k (by have := B69.out.size; simp at hk2; omega) (by have := hg4.out; simp at hk2; omega))
  clear t10 HMK HO9
  go_wp2_with fail
  refine (eqObject_same _ _ _ _ x _ (HV.out _ _ _ _ _ _ HI10.out) HFA10.out (Nat.le_refl _) (by show w2.heap.size ≤ _; omega)).mono ?_
  rintro e w11 ⟨rfl, b11⟩
  clear x0 x1 x2 x3 x4 y0 y1 y2 y3 y4
  have HT11 : Hid (Tch (fun k => k = g4) w6 w11) := hide (HT10.out.trans (Tch.of_below b11))
  obtain ⟨⟨y0, y1, y2, y3, y4⟩, -⟩ := obj_cells (HT11.out.blk (by have := hg4.out; omega) HPY.out)
  have hKb := oAt_bound HB5.out.1 HB5.out.2.1 HB5.out.2.2.1 HB5.out.2.2.2
  have hmi := markObject_mk s p _ _ _ _ _ L5 w4.heap.size w11 ((HI10.out.on b11).oa HNum.out)
  have HHE : Hid (∀ w', MkO w' (.slice ua un uc) (.slice ya yn yc) (.slice za zn zc) x.needs.length x.globals.length L5 → Calls Tryz.prog 24 #[.agg #[.string s, .int .i64 p, .slice ua un uc, .slice ya yn yc, .slice za zn zc], .int .i64 1] w' fun e w2 => e = .returned (.int .i64 (oAt x.needs.length x.globals.length L5)) ∧ Below w'.heap.size w' w2) := hide fun w' hm => heldObject_mk s p _ _ _ _ _ L5 w' HB5.out.1 HB5.out.2.1 HB5.out.2.2.1 HB5.out.2.2.2 hm
  generalize oAt x.needs.length x.globals.length L5 = K at *
  have hK0 : ¬ K < 0 := by omega
  have HMI := hide hmi
  clear hmi hKb HI10 HFA10 b11
  go_wp2_with fail
  refine HMI.out.mono ?_
  rintro e w12 ⟨rfl, hm12, t12⟩
  clear y0 y1 y2 y3 y4
  have HM12 := hide hm12
  have HT12 : Hid (Tch (fun k => k = g4 ∨ (w4.heap.size ≤ k ∧ k < w5.heap.size)) w6 w12) := hide ((HT11.out.wid fun k e => .inl e).trans (t12.wid fun k e => .inr (HV5.out k e)))
  obtain ⟨⟨y0, y1, y2, y3, y4⟩, -⟩ := obj_cells (HT12.out.blk (by have := hg4.out; omega) HPY.out)
  clear t12 hm12 HMI
  go_wp2_with fail
  refine (HHE.out _ HM12.out).mono ?_
  rintro e w13 ⟨rfl, b13⟩
  clear y0 y1 y2 y3 y4
  have HM13 := hide (HM12.out.on b13)
  have HT13 := hide (HT12.out.trans (Tch.of_below b13))
  have hb13 : Below w.heap.size w w13 := HB6.out.trans (HT13.out.below HB6.out.size (fun k hk e => by have := hg4.out; omega))
  clear b13
  go_wp2_with fail
  refine (HTo.out _ hb13).mono ?_
  rintro e w14 ⟨⟨g14, rfl, -, ho14⟩, b14⟩
  have hb14 : Below w.heap.size w w14 := hb13.trans (b14.mono hb13.size)
  have HM14 := hide (HM13.out.on b14)
  have HT14 := hide (HT13.out.trans (Tch.of_below b14))
  clear b14 hb13
  go_wp2_with fail
  refine (HIm.out _ _ _ hb14 ho14.out).mono ?_
  rintro e w15 ⟨⟨ta, tn, tc, ra, rn, rc, qa, qn, qc, L15, rfl, hi15⟩, b15⟩
  obtain ⟨w16, hw16⟩ : ∃ w16, w16 = w15.alloc (.cells #[.string s, .int .i64 p, .slice ta tn tc, .slice ra rn rc, .slice qa qn qc] 44) := ⟨_, rfl⟩
  have b156 : Below w15.heap.size w15 w16 := by rw [hw16]; exact (Below.refl _ _).alloc (Nat.le_refl _) _
  have b146 : Below w14.heap.size w14 w16 := b15.trans (b156.mono b15.size)
  have hp16 : w16.heap[w15.heap.size]? = some (.cells #[.string s, .int .i64 p, .slice ta tn tc, .slice ra rn rc, .slice qa qn qc] 44 (0, 0)) := by
    rw [hw16]
    exact Deep.blk_alloc_new w15 _
  have HT16 := hide (HT14.out.trans (Tch.of_below b146))
  have HM16 := hide (HM14.out.on b146)
  have hb16 : Below w.heap.size w w16 := hb14.trans (b146.mono hb14.size)
  have HB16 := hide hb16
  obtain ⟨⟨x0, x1, x2, x3, x4⟩, -⟩ := obj_cells (HT16.out.blk (by have := hg4.out; omega) HPX.out)
  obtain ⟨⟨y0, y1, y2, y3, y4⟩, -⟩ := obj_cells hp16
  have HFA16 := hide (HF6.out.same (w' := w16) fun k hk hk2 => HT16.out.block k (by simp at hk2; omega) (by have := hg4.out; simp at hk2; omega))
  have HFB16 := hide (HV.out _ _ _ _ _ _ (hi15.out.on b156))
  have h6 := HT16.out.size
  have HW16 := hide hw16
  rw [hw16] at x0 x1 x2 x3 x4 y0 y1 y2 y3 y4
  clear hw16 hp16 b15 b156 b146 hi15 ho14 hb14 hb16
  go_wp2_with fail
  rw [← HW16.out]
  refine (eqObject_same _ _ _ _ x _ HFB16.out HFA16.out (Nat.le_refl _) (by show w2.heap.size ≤ _; omega)).mono ?_
  rintro e w17 ⟨rfl, b17⟩
  clear x0 x1 x2 x3 x4 y0 y1 y2 y3 y4
  have HT17 := hide (HT16.out.trans (Tch.of_below b17))
  have HM17 := hide (HM16.out.on b17)
  have hb17 : Below w.heap.size w w17 := HB16.out.trans (b17.mono HB16.out.size)
  obtain ⟨⟨y0, y1, y2, y3, y4⟩, -⟩ := obj_cells (HT17.out.blk (by have := hg4.out; omega) HPY.out)
  clear b17 HFA16 HFB16
  go_wp2_with fail
  refine (HHE.out _ HM17.out).mono ?_
  rintro e w18 ⟨rfl, b18⟩
  go_wp2
  go_ret
  exact ⟨rfl, hb17.trans (b18.mono hb17.size)⟩
end Go.Proofs.YtoodadepafghhaaGreatDoor
