/- The program reads an object: the walk. No condition. -/
import Derived.Test.YtpaljmhoojpbdaaDoorZRdO3
namespace Go.Proofs.YtpaljmhoojpbdaaDoor
open Go.ChangeShapes Go.WideShapes Go.ChangeAt Go.RowKit Go.Deep

def ObRow (w : World) (B : Nat) (u2 u3 u4 : Value) (x : ObjectD) (L : List CV) : Prop := FRow needK w B u2 x.needs ∧ FRow globK w B u3 x.globals ∧ CRow w B u4 L ∧ L.map Prod.fst = x.procs
theorem ObRow.of_heap {w w' : World} {B : Nat} {u2 u3 u4 : Value} {x : ObjectD} {L : List CV} (h : ObRow w B u2 u3 u4 x L) (hk : ∀ k, B ≤ k → k < w.heap.size → w'.heap[k]? = w.heap[k]?) : ObRow w' B u2 u3 u4 x L :=
  ⟨h.1.of_heap fun k a b _ => hk k a b, h.2.1.of_heap fun k a b _ => hk k a b, h.2.2.1.of_heap hk, h.2.2.2⟩
theorem ObRow.le {w : World} {B C : Nat} {u2 u3 u4 : Value} {x : ObjectD} {L : List CV} (h : ObRow w B u2 u3 u4 x L) (hc : C ≤ B) : ObRow w C u2 u3 u4 x L := ⟨h.1.le hc, h.2.1.le hc, h.2.2.1.le hc, h.2.2.2⟩
theorem ObRow.on {w w' : World} {B : Nat} {u2 u3 u4 : Value} {x : ObjectD} {L : List CV} (h : ObRow w B u2 u3 u4 x L) (bel : Below w.heap.size w w') : ObRow w' B u2 u3 u4 x L := h.of_heap fun k _ hk => bel.block k hk
theorem FRow.grow_other {D D' : Type} {F : FlatK D} {G : FlatK D'} {w w2 : World} {B B' : Nat} {v v' : Value} {l : List D} {l' : List D'} (h : FRow F w B v l) (k : FRow G w B' v' l') (hne : F.ty ≠ G.ty) (hg : w.grownBy w2 v'.ownBlock) : FRow F w2 B v l := by
  refine h.of_heap fun j _ hj ⟨C, hC⟩ => hg.block j hj fun e => ?_
  obtain ⟨C', hC'⟩ := k.ty e.symm
  rw [hC'] at hC
  have := congrArg (fun o : Option Obj => match o with | some (.cells _ T _) => T | _ => 0) hC
  exact hne this.symm
theorem only_draw (R : Nat) (w : World) : Only R w w.drew := ⟨rfl, rfl, rfl, rfl, fun _ _ => rfl⟩
set_option maxRecDepth 100000 in
set_option maxHeartbeats 16000000 in
theorem readObject_any (R : Nat) (m : Md) (r : List Int) (w : World) (hl : r.length ≤ 1000000) (h : RS w R m r) :
    Calls Tryd.prog 100 #[.pointer (some ⟨R, 0, none⟩)] w fun e w' => (∃ u2 u3 u4 L, e = .returned (.agg #[.string (rdObj r).module, .int .i64 (rdObj r).print, u2, u3, u4]) ∧ ObRow w' w.heap.size u2 u3 u4 (rdObj r) L) ∧ Fr R w w' := by
  have HR := hide h
  have HIN := hide h.in
  have hRw : R < w.heap.size := by obtain ⟨_, _, h1, _⟩ := h; exact block_lt h1
  have HL := hide hl
  clear h
  obtain ⟨w0, hw0⟩ : ∃ w0, w0 = w.alloc (.cells #[.string ⟨#[]⟩, .int .i64 0, .slice none 0 0, .slice none 0 0, .slice none 0 0] 45) := ⟨_, rfl⟩
  have hb0 : Below w.heap.size w w0 := by rw [hw0]; exact (Below.refl _ _).alloc (Nat.le_refl _) _
  have hs0 : w0.heap.size = w.heap.size + 1 := by rw [hw0]; simp
  have HY0 := hide (show w0.heap[w.heap.size]? = some (.cells #[.string ⟨#[]⟩, .int .i64 0, .slice none 0 0, .slice none 0 0, .slice none 0 0] 45 (0, 0)) by rw [hw0]; exact Deep.blk_alloc_new w _)
  have F00 := hide (show FrB R w.heap.size w w0 from .of_below hb0)
  have HR0 := hide (HR.out.on hb0)
  obtain ⟨r0, e0⟩ : ∃ x, r.drop 3 = x := ⟨_, rfl⟩
  obtain ⟨md, hmd⟩ : ∃ x, tT r0 = x := ⟨_, rfl⟩
  obtain ⟨r1, e1⟩ : ∃ x, tR r0 = x := ⟨_, rfl⟩
  obtain ⟨pr, hpr⟩ : ∃ x, accN 0 r1 8 = x := ⟨_, rfl⟩
  obtain ⟨r2, e2⟩ : ∃ x, r1.drop 8 = x := ⟨_, rfl⟩
  obtain ⟨N2, hN2⟩ : ∃ x, tN r2 = x := ⟨_, rfl⟩
  obtain ⟨r3, e3⟩ : ∃ x, r2.drop 1 = x := ⟨_, rfl⟩
  obtain ⟨r4, e4⟩ : ∃ x, itR neF N2 r3 = x := ⟨_, rfl⟩
  obtain ⟨N3, hN3⟩ : ∃ x, tN r4 = x := ⟨_, rfl⟩
  obtain ⟨r5, e5⟩ : ∃ x, r4.drop 1 = x := ⟨_, rfl⟩
  obtain ⟨r6, e6⟩ : ∃ x, itR glF N3 r5 = x := ⟨_, rfl⟩
  obtain ⟨N4, hN4⟩ : ∃ x, tN r6 = x := ⟨_, rfl⟩
  obtain ⟨r7, e7⟩ : ∃ x, r6.drop 1 = x := ⟨_, rfl⟩
  have i0 : ∀ y ∈ r0, 0 ≤ y ∧ y ≤ 255 := by rw [← e0]; exact drop_in HIN.out _
  have i1 : ∀ y ∈ r1, 0 ≤ y ∧ y ≤ 255 := by rw [← e1]; exact tR_in i0
  have i2 : ∀ y ∈ r2, 0 ≤ y ∧ y ≤ 255 := by rw [← e2]; exact drop_in i1 _
  have i3 : ∀ y ∈ r3, 0 ≤ y ∧ y ≤ 255 := by rw [← e3]; exact drop_in i2 _
  have i4 : ∀ y ∈ r4, 0 ≤ y ∧ y ≤ 255 := by rw [← e4]; exact itR_in neF_in _ i3
  have i5 : ∀ y ∈ r5, 0 ≤ y ∧ y ≤ 255 := by rw [← e5]; exact drop_in i4 _
  have i6 : ∀ y ∈ r6, 0 ≤ y ∧ y ≤ 255 := by rw [← e6]; exact itR_in glF_in _ i5
  have i7 : ∀ y ∈ r7, 0 ≤ y ∧ y ≤ 255 := by rw [← e7]; exact drop_in i6 _
  have L0 : Hid (r0.length ≤ 1000000) := hide (by rw [← e0, List.length_drop]; omega)
  have L1 : Hid (r1.length ≤ 1000000) := hide (by rw [← e1]; exact Nat.le_trans (tR_len r0) L0.out)
  have L2 : Hid (r2.length ≤ 1000000) := hide (by have := L1.out; rw [← e2, List.length_drop]; omega)
  have L3 : Hid (r3.length ≤ 1000000) := hide (by have := L2.out; rw [← e3, List.length_drop]; omega)
  have L4 : Hid (r4.length ≤ 1000000) := hide (by rw [← e4]; exact Nat.le_trans (itR_len neF_len _ _) L3.out)
  have L5 : Hid (r5.length ≤ 1000000) := hide (by have := L4.out; rw [← e5, List.length_drop]; omega)
  have L6 : Hid (r6.length ≤ 1000000) := hide (by rw [← e6]; exact Nat.le_trans (itR_len glF_len _ _) L5.out)
  have L7 : Hid (r7.length ≤ 1000000) := hide (by have := L6.out; rw [← e7, List.length_drop]; omega)
  have HC : Hid (rdObj r = ⟨md, pr, itL neF neG N2 r3, itL glF glG N3 r5, itL coR rdCode N4 r7⟩) := hide (by
    have q1 : ob1 r = r1 := by unfold ob1; rw [e0, e1]
    have q3 : ob3 r = r3 := by unfold ob3; rw [q1, e2, e3]
    have q4 : ob4 r = r4 := by unfold ob4; rw [q3, q1, e2, hN2, e4]
    have q5 : ob5 r = r5 := by unfold ob5; rw [q4, e5]
    have q6 : ob6 r = r6 := by unfold ob6; rw [q5, q4, hN3, e6]
    have q7 : ob7 r = r7 := by unfold ob7; rw [q6, e7]
    unfold rdObj
    rw [q1, q3, q4, q5, q6, q7, e0, e2, hmd, hpr, hN2, hN3, hN4])
  have b2 : N2 ≤ 255 := by rw [← hN2]; exact tN_le i2
  have b3 : N3 ≤ 255 := by rw [← hN3]; exact tN_le i4
  have b4 : N4 ≤ 255 := by rw [← hN4]; exact tN_le i6
  have H2 : Hid (hd r2 = (N2 : Int)) := hide (by rw [← hN2]; exact tN_int i2)
  have H3 : Hid (hd r4 = (N3 : Int)) := hide (by rw [← hN3]; exact tN_int i4)
  have H4 : Hid (hd r6 = (N4 : Int)) := hide (by rw [← hN4]; exact tN_int i6)
  have E0 := hide e0
  have E1 := hide e1
  have E2 := hide e2
  have E3 := hide e3
  have E4 := hide e4
  have E5 := hide e5
  have E6 := hide e6
  have E7 := hide e7
  have I0 := hide i0
  have I3 := hide i3
  have I5 := hide i5
  have I7 := hide i7
  have Hmd := hide hmd
  have Hpr := hide hpr
  clear e0 e1 e2 e3 e4 e5 e6 e7 i0 i1 i2 i3 i4 i5 i6 i7 hmd hpr hN2 hN3 hN4
  go_enter Tryd.func100, Tryd.ntmps100
  go_wp2_with fail
  rw [← hw0]
  clear hw0 hb0
  refine (show Calls Tryd.prog 114 #[.pointer (some ⟨R, 0, none⟩), .int .i64 3] w0 _ from readText_any R m r 3 _ (by omega) (by omega) HR0.out).mono ?_
  rintro e w1 ⟨rfl, h1, o1⟩
  rw [E0.out] at h1
  have HR1 := hide h1
  clear h1
  go_wp2_with fail
  refine (readByte_any R m r0 _ (by have := L0.out; omega) HR1.out).mono ?_
  rintro e w2 ⟨rfl, h2, o2⟩
  have HR2 := hide h2
  clear h2 HR1
  go_wp2_with fail
  refine (readText_tR R m r0 _ (by have := L0.out; omega) I0.out HR2.out).mono ?_
  rintro e w3 ⟨rfl, h3, o3⟩
  rw [Hmd.out]
  rw [E1.out] at h3
  have HR3 := hide h3
  clear h3 HR2
  go_wp2_with fail
  refine (readNumber_any R m r1 _ (by have := L1.out; omega) HR3.out).mono ?_
  rintro e w4 ⟨rfl, h4, o4⟩
  rw [Hpr.out]
  rw [E2.out] at h4
  have oo : Only R w0 w4 := o1.trans (o2.trans (o3.trans o4))
  have hs4 : w4.heap.size = w.heap.size + 1 := oo.size.trans hs0
  have F4 := hide (FrB.of_only (B := w.heap.size + 1) oo)
  have HR4 := hide h4
  clear h4 HR3 o1 o2 o3 o4 oo
  go_wp2_with fail
  have bX : Below w4.heap.size w4 (w4.alloc (.cells #[.string md, .int .i64 pr, .slice none 0 0, .slice none 0 0, .slice none 0 0] 45)) := (Below.refl _ _).alloc (Nat.le_refl _) _
  have hx4 : (w4.alloc (.cells #[.string md, .int .i64 pr, .slice none 0 0, .slice none 0 0, .slice none 0 0] 45)).heap[w.heap.size + 1]? = some (.cells #[.string md, .int .i64 pr, .slice none 0 0, .slice none 0 0, .slice none 0 0] 45 (0, 0)) := by
    have := Deep.blk_alloc_new w4 (.cells #[.string md, .int .i64 pr, .slice none 0 0, .slice none 0 0, .slice none 0 0] 45)
    rwa [hs4] at this
  refine (readByte_any R m r2 _ (by have := L2.out; omega) (HR4.out.on bX)).mono ?_
  rintro e w5 ⟨rfl, h5, o5⟩
  rw [H2.out]
  rw [E3.out] at h5
  have hq : (w.heap.size + 1) ≠ R := by omega
  have HX5 := hide ((o5.block _ hq).trans hx4)
  have F5 := hide ((F4.out.trans (.of_below (bX.mono (by omega)))).trans (.of_only o5))
  have hs5 : w5.heap.size = w.heap.size + 2 := by rw [o5.size]; simp [hs4]
  have HR5 := hide h5
  clear h5 o5 HR4 hs4 F4 bX hx4
  go_wp2_with fail
  go_loopw [15] (fun i wr => ∃ (k : Nat) (v : Value), i = .int .i64 k ∧ k ≤ N2 ∧ Hid (wr.heap[w.heap.size + 1]? = some (.cells #[.string md, .int .i64 pr, v, .slice none 0 0, .slice none 0 0] 45 (0, 0))) ∧ Hid (FRow needK wr (w.heap.size + 2) v (itL neF neG k r3)) ∧ Hid (RS wr R m (itR neF k r3)) ∧ Hid (FrB R (w.heap.size + 1) w0 wr) ∧ w.heap.size + 2 ≤ wr.heap.size) (fun i _ => N2 - (intOf i).toNat)
  case atStart => exact ⟨0, _, rfl, by omega, HX5, hide (FRow.nil _ _ _), HR5, F5, by omega⟩
  case round =>
    obtain ⟨k, v, rfl, hk, Hx, Hi, Hr, Hf, hsz⟩ := hrel
    obtain ⟨va, vc, rfl⟩ := Hi.out.form
    rw [itL_len] at Hi Hx
    by_cases hp : k < N2
    · as_aux_lemma =>
      have i1 : (k : Int) < N2 := by omega
      have hin : ∀ y ∈ itR neF k r3, 0 ≤ y ∧ y ≤ 255 := itR_in neF_in k I3.out
      have hln : (itR neF k r3).length ≤ 1000000 := Nat.le_trans (itR_len neF_len k r3) L3.out
      obtain ⟨q, hq1⟩ : ∃ q, itR neF k r3 = q := ⟨_, rfl⟩
      rw [hq1] at hin hln Hr
      obtain ⟨t, ht⟩ : ∃ t, tT q = t := ⟨_, rfl⟩
      obtain ⟨n, hn⟩ : ∃ n, accN 0 (tR q) 8 = n := ⟨_, rfl⟩
      have HE : Hid (itL neF neG (k + 1) r3 = itL neF neG k r3 ++ [⟨t, n⟩]) := hide (by rw [itL, hq1]; unfold neG; rw [ht, hn])
      have HE2 : Hid (itR neF (k + 1) r3 = (tR q).drop 8) := hide (by rw [itR, hq1]; rfl)
      have HT := hide ht
      have HNn := hide hn
      have HIq := hide hin
      have HLq := hide hln
      have HLq2 : Hid ((tR q).length ≤ 1000000) := hide (Nat.le_trans (tR_len q) hln)
      have HJl : Hid ((itL neF neG k r3).length ≤ 1000000) := hide (by rw [itL_len]; omega)
      obtain ⟨⟨-, -, k2, -, -⟩, -⟩ := obj_cells Hx.out
      clear hin hln hq1 ht hn
      go_wp2_with fail
      go_region_law (first
        | (refine step_flat needOk (by rfl) _ _ (by rfl) (w.heap.size + 2) (.slice va k vc) (itL neF neG k r3) (by rfl) (Hi.out.of_heap fun j hj hj2 _ => HB.out.2.2.1 j (by omega) hj2) w8.heap.size ⟨t, n⟩ (by rfl) (flat_new needK w8 ⟨t, n⟩ _ _ rfl rfl) (need_one _) (Nat.le_trans HJl.out (by decide)) (by simp; omega) ?_
           intro g cap w9 ho hg
           have hx9 := (hg.block (w.heap.size + 1) (by simp; omega) (Hi.out.far (by omega))).trans HB.out.2.2.2
           have c9 : w9.cell? ⟨w.heap.size + 1, 2, none⟩ = some (.slice va k vc) := (heapCells hx9).1 2
           have z9 := (heapCells hx9).2 2
           have HG := hide (And.intro ho (And.intro hg hx9))
           clear ho hg hx9)
        | (go_simp
           go_at_call 116
           refine (readNumber_any R m (tR q) _ (by have := HLq2.out; omega) HA7.out.1).mono ?_
           rintro e w8 ⟨rfl, h8, o8⟩
           rw [HNn.out]
           have oo8 := HA7.out.2.trans o8
           have hs8 : w.heap.size + 2 ≤ w8.heap.size := by rw [oo8.size]; exact hsz
           have c8 : w8.cell? ⟨w.heap.size + 1, 2, none⟩ = some (.slice va k vc) := (heapCells ((oo8.block _ hq).trans Hx.out)).1 2
           have hlo : ∀ j, w.heap.size + 1 ≤ j → j < wr.heap.size → (w8.alloc (.cells #[.string t, .int .i64 n] 69)).heap[j]? = wr.heap[j]? := fun j hj hj2 => (Below.heap_alloc _ _ _ (by rw [oo8.size]; exact hj2)).trans (oo8.block j (by omega))
           have hxa := (hlo (w.heap.size + 1) (by omega) (by omega)).trans Hx.out
           have c8a : (w8.alloc (.cells #[.string t, .int .i64 n] 69)).cell? ⟨w.heap.size + 1, 2, none⟩ = some (.slice va k vc) := (heapCells hxa).1 2
           have HB := hide (And.intro h8 (And.intro oo8 (And.intro hlo hxa)))
           clear h8 o8 oo8 hlo hxa)
        | (go_simp
           go_at_call 114
           refine (readText_tR R m q _ (by have := HLq.out; omega) HIq.out HA6.out.1).mono ?_
           rintro e w7 ⟨rfl, h7, o7⟩
           rw [HT.out]
           have oo7 := HA6.out.2.trans o7
           have c7 : w7.cell? ⟨w.heap.size + 1, 2, none⟩ = some (.slice va k vc) := (heapCells ((oo7.block _ hq).trans Hx.out)).1 2
           have HA7 := hide (And.intro h7 oo7)
           clear h7 o7 oo7)
        | (go_simp
           go_at_call 115
           refine (readByte_any R m q _ (by have := HLq.out; omega) (Hr.out.on (Below.refl _ _).drew)).mono ?_
           rintro e w6 ⟨rfl, h6, o6⟩
           have oo6 : Only R wr w6 := (only_draw R wr).trans o6
           have c6 : w6.cell? ⟨w.heap.size + 1, 2, none⟩ = some (.slice va k vc) := (heapCells ((oo6.block _ hq).trans Hx.out)).1 2
           have HA6 := hide (And.intro h6 oo6)
           clear h6 o6 oo6)
        | fail)
      all_goals
        obtain ⟨ho, hg, hx9⟩ := HG.out
        obtain ⟨h8, oo8, hlo, hxa⟩ := HB.out
        have bA : Below (w.heap.size + 1) w8 (w8.alloc (.cells #[.string t, .int .i64 n] 69)) := (Below.refl _ _).alloc (by omega) _
        have bB : Below (w.heap.size + 1) w8 w9 := Below.grown bA hg (by simp; omega) (fun j hj => by have := (Hi.out.lt hj).1; omega)
        have bC : Below (w.heap.size + 1) w8 (w9.setCell ⟨w.heap.size + 1, 2, none⟩ (.slice (some ⟨g, 0, none⟩) ((itL neF neG k r3).length + 1) cap)) := bB.setCell (p := ⟨w.heap.size + 1, 2, none⟩) (Nat.le_refl _) _
        have HP := hide (FRow.of_heap (w' := w9.setCell ⟨w.heap.size + 1, 2, none⟩ (.slice (some ⟨g, 0, none⟩) ((itL neF neG k r3).length + 1) cap)) ho fun j hj _ _ => Below.heap_setCell _ _ _ _ (by show j ≠ w.heap.size + 1; omega))
        have HX10 := hide (block_set hx9 (o := 2) (.slice (some ⟨g, 0, none⟩) ((itL neF neG k r3).length + 1) cap))
        have HR10 := hide (h8.below bC (by omega))
        have HF10 := hide ((Hf.out.trans (.of_only oo8)).trans (.of_below bC))
        have hs10 := bC.size
        clear ho hg hx9 h8 oo8 hlo hxa bA bB bC
        go_wp2_with fail
        go_roundw
        case rel => exact ⟨k + 1, _, by go_num, by omega, HX10, by rw [HE.out]; exact HP, by rw [HE2.out]; exact HR10, HF10, by omega⟩
        case measure => simp [intOf]; omega
    · have i1 : ¬ (k : Int) < N2 := by omega
      obtain rfl : k = N2 := by omega
      rw [E4.out] at Hr
      have HNd := hide Hi.out
      have HXn := hide Hx.out
      have HFn := hide Hf.out
      have HRn := hide Hr.out
      have hszn := hsz
      obtain ⟨w9, rfl⟩ : ∃ w9, w9 = wr := ⟨_, rfl⟩
      clear Hi Hx Hf Hr hsz hk I3 E3 HX5 HR5 F5 hs5 b2 H2
      go_wp2_with fail
      refine (readByte_any R m r4 _ (by have := L4.out; omega) HRn.out).mono ?_
      rintro e w10 ⟨rfl, h10, o10⟩
      rw [H3.out]
      rw [E5.out] at h10
      have HX10 := hide ((o10.block _ hq).trans HXn.out)
      have HF10 := hide (HFn.out.trans (.of_only o10))
      have hs10 : w.heap.size + 2 ≤ w10.heap.size := by rw [o10.size]; exact hszn
      have HN10 := hide (HNd.out.of_heap (w' := w10) fun j hj _ _ => o10.block j (by omega))
      have HR10 := hide h10
      clear h10 o10 HNd HXn HFn HRn hszn
      go_wp2_with fail
      go_loopw [32] (fun i wr => ∃ (j : Nat) (v : Value), i = .int .i64 j ∧ j ≤ N3 ∧ Hid (wr.heap[w.heap.size + 1]? = some (.cells #[.string md, .int .i64 pr, .slice va k vc, v, .slice none 0 0] 45 (0, 0))) ∧ Hid (FRow needK wr (w.heap.size + 2) (.slice va k vc) (itL neF neG k r3)) ∧ Hid (FRow globK wr (w.heap.size + 2) v (itL glF glG j r5)) ∧ Hid (RS wr R m (itR glF j r5)) ∧ Hid (FrB R (w.heap.size + 1) w0 wr) ∧ w.heap.size + 2 ≤ wr.heap.size) (fun i _ => N3 - (intOf i).toNat)
      case atStart => exact ⟨0, _, rfl, by omega, HX10, HN10, hide (FRow.nil _ _ _), HR10, HF10, hs10⟩
      case round =>
        obtain ⟨j, v, rfl, hj, Hx, Hn, Hi, Hr, Hf, hsz⟩ := hrel
        obtain ⟨ua, uc, rfl⟩ := Hi.out.form
        rw [itL_len] at Hi Hx
        by_cases hp3 : j < N3
        · as_aux_lemma =>
          have i3 : (j : Int) < N3 := by omega
          have hin : ∀ y ∈ itR glF j r5, 0 ≤ y ∧ y ≤ 255 := itR_in glF_in j I5.out
          have hln : (itR glF j r5).length ≤ 1000000 := Nat.le_trans (itR_len glF_len j r5) L5.out
          obtain ⟨q, hq1⟩ : ∃ q, itR glF j r5 = q := ⟨_, rfl⟩
          rw [hq1] at hin hln Hr
          obtain ⟨t, ht⟩ : ∃ t, tT q = t := ⟨_, rfl⟩
          obtain ⟨n, hn⟩ : ∃ n, hd (tR q) = n := ⟨_, rfl⟩
          have HE : Hid (itL glF glG (j + 1) r5 = itL glF glG j r5 ++ [⟨t, n⟩]) := hide (by rw [itL, hq1]; unfold glG; rw [ht, hn])
          have HE2 : Hid (itR glF (j + 1) r5 = (tR q).drop 1) := hide (by rw [itR, hq1]; rfl)
          have HT := hide ht
          have HNn := hide hn
          have HIq := hide hin
          have HLq := hide hln
          have HLq2 : Hid ((tR q).length ≤ 1000000) := hide (Nat.le_trans (tR_len q) hln)
          have HJl : Hid ((itL glF glG j r5).length ≤ 1000000) := hide (by rw [itL_len]; omega)
          obtain ⟨⟨-, -, -, k3, -⟩, -⟩ := obj_cells Hx.out
          clear hin hln hq1 ht hn
          go_wp2_with fail
          go_region_law (first
            | (refine step_flat globOk (by rfl) _ _ (by rfl) (w.heap.size + 2) (.slice ua j uc) (itL glF glG j r5) (by rfl) (Hi.out.of_heap fun i hi hi2 _ => HB.out.2.2.1 i (by omega) hi2) w8.heap.size ⟨t, n⟩ (by rfl) (flat_new globK w8 ⟨t, n⟩ _ _ rfl rfl) (glob_one _) (Nat.le_trans HJl.out (by decide)) (by simp; omega) ?_
               intro g cap w9 ho hg
               have hx9 := (hg.block (w.heap.size + 1) (by simp; omega) (Hi.out.far (by omega))).trans HB.out.2.2.2
               have c9 : w9.cell? ⟨w.heap.size + 1, 3, none⟩ = some (.slice ua j uc) := (heapCells hx9).1 3
               have z9 := (heapCells hx9).2 3
               have HG := hide (And.intro ho (And.intro hg hx9))
               clear ho hg hx9)
            | (have hmk := HA7
               clear hmk
               go_simp
               go_at_call 115
               refine (readByte_any R m (tR q) _ (by have := HLq2.out; omega) HA7.out.1).mono ?_
               rintro e w8 ⟨rfl, h8, o8⟩
               rw [HNn.out]
               have oo8 := HA7.out.2.trans o8
               have hs8 : w.heap.size + 2 ≤ w8.heap.size := by rw [oo8.size]; exact hsz
               have c8 : w8.cell? ⟨w.heap.size + 1, 3, none⟩ = some (.slice ua j uc) := (heapCells ((oo8.block _ hq).trans Hx.out)).1 3
               have hlo : ∀ i, w.heap.size + 1 ≤ i → i < wr.heap.size → (w8.alloc (.cells #[.string t, .int .i64 n] 72)).heap[i]? = wr.heap[i]? := fun i hi hi2 => (Below.heap_alloc _ _ _ (by rw [oo8.size]; exact hi2)).trans (oo8.block i (by omega))
               have hxa := (hlo (w.heap.size + 1) (by omega) (by omega)).trans Hx.out
               have c8a : (w8.alloc (.cells #[.string t, .int .i64 n] 72)).cell? ⟨w.heap.size + 1, 3, none⟩ = some (.slice ua j uc) := (heapCells hxa).1 3
               have HB := hide (And.intro h8 (And.intro oo8 (And.intro hlo hxa)))
               clear h8 o8 oo8 hlo hxa)
            | (go_simp
               go_at_call 114
               refine (readText_tR R m q _ (by have := HLq.out; omega) HIq.out HA6.out.1).mono ?_
               rintro e w7 ⟨rfl, h7, o7⟩
               rw [HT.out]
               have oo7 := HA6.out.2.trans o7
               have c7 : w7.cell? ⟨w.heap.size + 1, 3, none⟩ = some (.slice ua j uc) := (heapCells ((oo7.block _ hq).trans Hx.out)).1 3
               have HA7 := hide (And.intro h7 oo7)
               clear h7 o7 oo7)
            | (go_simp
               go_at_call 115
               refine (readByte_any R m q _ (by have := HLq.out; omega) (Hr.out.on (Below.refl _ _).drew)).mono ?_
               rintro e w6 ⟨rfl, h6, o6⟩
               have oo6 : Only R wr w6 := (only_draw R wr).trans o6
               have c6 : w6.cell? ⟨w.heap.size + 1, 3, none⟩ = some (.slice ua j uc) := (heapCells ((oo6.block _ hq).trans Hx.out)).1 3
               have HA6 := hide (And.intro h6 oo6)
               clear h6 o6 oo6)
            | fail)
          all_goals
            obtain ⟨ho, hg, hx9⟩ := HG.out
            obtain ⟨h8, oo8, hlo, hxa⟩ := HB.out
            have bA : Below (w.heap.size + 1) w8 (w8.alloc (.cells #[.string t, .int .i64 n] 72)) := (Below.refl _ _).alloc (by omega) _
            have bB : Below (w.heap.size + 1) w8 w9 := Below.grown bA hg (by simp; omega) (fun i hi => by have := (Hi.out.lt hi).1; omega)
            have bC : Below (w.heap.size + 1) w8 (w9.setCell ⟨w.heap.size + 1, 3, none⟩ (.slice (some ⟨g, 0, none⟩) ((itL glF glG j r5).length + 1) cap)) := bB.setCell (p := ⟨w.heap.size + 1, 3, none⟩) (Nat.le_refl _) _
            have hIa := Hi.out.of_heap (w' := w8.alloc (.cells #[.string t, .int .i64 n] 72)) fun i hi hi2 _ => hlo i (by omega) hi2
            have hNa := Hn.out.of_heap (w' := w8.alloc (.cells #[.string t, .int .i64 n] 72)) fun i hi hi2 _ => hlo i (by omega) hi2
            have hNb := hNa.grow_other hIa (by decide) hg
            have HNc := hide (FRow.of_heap (w' := w9.setCell ⟨w.heap.size + 1, 3, none⟩ (.slice (some ⟨g, 0, none⟩) ((itL glF glG j r5).length + 1) cap)) hNb fun i hi _ _ => Below.heap_setCell _ _ _ _ (by show i ≠ w.heap.size + 1; omega))
            have HP := hide (FRow.of_heap (w' := w9.setCell ⟨w.heap.size + 1, 3, none⟩ (.slice (some ⟨g, 0, none⟩) ((itL glF glG j r5).length + 1) cap)) ho fun i hi _ _ => Below.heap_setCell _ _ _ _ (by show i ≠ w.heap.size + 1; omega))
            have HX11 := hide (block_set hx9 (o := 3) (.slice (some ⟨g, 0, none⟩) ((itL glF glG j r5).length + 1) cap))
            have HR11 := hide (h8.below bC (by omega))
            have HF11 := hide ((Hf.out.trans (.of_only oo8)).trans (.of_below bC))
            have hs11 := bC.size
            clear ho hg hx9 h8 oo8 hlo hxa bA bB bC hIa hNa hNb
            go_wp2_with fail
            go_roundw
            case rel => exact ⟨j + 1, _, by go_num, by omega, HX11, HNc, by rw [HE.out]; exact HP, by rw [HE2.out]; exact HR11, HF11, by omega⟩
            case measure => simp [intOf]; omega
        · have i3 : ¬ (j : Int) < N3 := by omega
          obtain rfl : j = N3 := by omega
          rw [E6.out] at Hr
          have HNd := hide Hn.out
          have HGd := hide Hi.out
          have HXn := hide Hx.out
          have HFn := hide Hf.out
          have HRn := hide Hr.out
          have hszn := hsz
          obtain ⟨w9, rfl⟩ : ∃ w9, w9 = wr := ⟨_, rfl⟩
          clear Hi Hx Hf Hr Hn hsz hj I5 E5 HX10 HR10 HF10 HN10 hs10 b3 H3
          go_wp2_with fail
          refine (readByte_any R m r6 _ (by have := L6.out; omega) HRn.out).mono ?_
          rintro e w11 ⟨rfl, h11, o11⟩
          rw [H4.out]
          rw [E7.out] at h11
          have HX11 := hide ((o11.block _ hq).trans HXn.out)
          have HF11 := hide (HFn.out.trans (.of_only o11))
          have hs11 : w.heap.size + 2 ≤ w11.heap.size := by rw [o11.size]; exact hszn
          have HN11 := hide (HNd.out.of_heap (w' := w11) fun i hi _ _ => o11.block i (by omega))
          have HG11 := hide (HGd.out.of_heap (w' := w11) fun i hi _ _ => o11.block i (by omega))
          have HR11 := hide h11
          clear h11 o11 HNd HGd HXn HFn HRn hszn
          go_wp2_with fail
          go_loopw [49] (fun i wr => ∃ (p : Nat) (v : Value) (L : List CV), i = .int .i64 p ∧ p ≤ N4 ∧ Hid (wr.heap[w.heap.size + 1]? = some (.cells #[.string md, .int .i64 pr, .slice va k vc, .slice ua j uc, v] 45 (0, 0))) ∧ Hid (FRow needK wr (w.heap.size + 2) (.slice va k vc) (itL neF neG k r3)) ∧ Hid (FRow globK wr (w.heap.size + 2) (.slice ua j uc) (itL glF glG j r5)) ∧ Hid (CRow wr (w.heap.size + 2) v L) ∧ Hid (L.map Prod.fst = itL coR rdCode p r7) ∧ Hid (RS wr R m (itR coR p r7)) ∧ Hid (FrB R (w.heap.size + 1) w0 wr) ∧ w.heap.size + 2 ≤ wr.heap.size) (fun i _ => N4 - (intOf i).toNat)
          case atStart => exact ⟨0, _, [], rfl, by omega, HX11, HN11, HG11, hide (CRow.nil _ _), rfl, HR11, HF11, hs11⟩
          case round =>
            obtain ⟨p, v, L, rfl, hpN, Hx, Hn, Hg, Hi, Hm, Hr, Hf, hsz⟩ := hrel
            obtain ⟨xa, xc, rfl⟩ := Hi.out.1.form
            have hLl : L.length = p := by have := congrArg List.length Hm.out; rwa [List.length_map, itL_len] at this
            rw [hLl] at Hi Hx
            have HLl := hide hLl
            clear hLl
            by_cases hp4 : p < N4
            · have i4 : (p : Int) < N4 := by omega
              have hin : ∀ y ∈ itR coR p r7, 0 ≤ y ∧ y ≤ 255 := itR_in (fun _ h => coR_in h) p I7.out
              have hln : (itR coR p r7).length ≤ 1000000 := Nat.le_trans (itR_len coR_len p r7) L7.out
              have hcall := readCode_any R m (itR coR p r7) wr.drew hln (Hr.out.on (Below.refl _ _).drew)
              have hnum := rdCode_num _ hin
              obtain ⟨it, hit⟩ : ∃ it, rdCode (itR coR p r7) = it := ⟨_, rfl⟩
              rw [hit] at hcall hnum
              have HIT := hide hit
              obtain ⟨cn, pp, ce, rr, cl⟩ := it
              simp only [] at hcall
              have HCl := hide hcall
              have HNum := hide hnum
              have HJl : Hid (L.length ≤ 1000000) := hide (by have := HLl.out; omega)
              obtain ⟨⟨-, -, -, -, k4⟩, -⟩ := obj_cells Hx.out
              clear hcall hit hnum hin hln
              go_wp2_with fail
              go_region_law (first
                | (refine step_flat codeOk (by rfl) _ _ (by rfl) (w.heap.size + 2) (.slice xa p xc) L (by rfl) (Hi.out.1.of_heap fun i hi hi2 _ => HA.out.2.2.2.1 i (by omega) hi2) w12.heap.size (⟨cn, pp, ce, rr, cl⟩, .slice ya yn yc) (by rfl) (flat_new codeK w12 (⟨cn, pp, ce, rr, cl⟩, .slice ya yn yc) _ _ rfl rfl) (code_one _ rfl) (Nat.le_trans HJl.out (by decide)) (by simp; omega) ?_
                   intro g cap w13 ho hg
                   have hx13 := (hg.block (w.heap.size + 1) (by simp; omega) (Hi.out.1.far (by omega))).trans HA.out.2.2.2.2
                   have c13 : w13.cell? ⟨w.heap.size + 1, 4, none⟩ = some (.slice xa p xc) := (heapCells hx13).1 4
                   have z13 := (heapCells hx13).2 4
                   have HG := hide (And.intro ho (And.intro hg hx13))
                   clear ho hg hx13)
                | (go_simp
                   go_at_call 117
                   refine HCl.out.mono ?_
                   rintro e w12 ⟨⟨u, rfl, hu⟩, h12, fr12⟩
                   obtain ⟨ya, yc, eu⟩ := hu.form
                   obtain ⟨yn, hyn⟩ : ∃ yn, cl.length = yn := ⟨_, rfl⟩
                   rw [hyn] at eu
                   clear hyn
                   subst eu
                   have hsz12 : w.heap.size + 2 ≤ w12.heap.size := Nat.le_trans hsz fr12.size
                   have hlo : ∀ i, w.heap.size + 1 ≤ i → i < wr.heap.size → (w12.alloc (.cells #[.string cn, .int .i64 pp, .int .i64 ce, .int .i64 rr, .slice ya yn yc] 30)).heap[i]? = wr.heap[i]? := fun i hi hi2 => (Below.heap_alloc _ _ _ (Nat.lt_of_lt_of_le hi2 fr12.size)).trans (fr12.block i hi2 (by omega))
                   have hxa := (hlo (w.heap.size + 1) (by omega) (by omega)).trans Hx.out
                   have d1 : w12.cell? ⟨w.heap.size + 1, 4, none⟩ = some (.slice xa p xc) := (heapCells ((fr12.block (w.heap.size + 1) (by show w.heap.size + 1 < wr.heap.size; omega) (by omega)).trans Hx.out)).1 4
                   have d1a : (w12.alloc (.cells #[.string cn, .int .i64 pp, .int .i64 ce, .int .i64 rr, .slice ya yn yc] 30)).cell? ⟨w.heap.size + 1, 4, none⟩ = some (.slice xa p xc) := (heapCells hxa).1 4
                   have HA := hide (And.intro hu (And.intro h12 (And.intro fr12 (And.intro hlo hxa))))
                   clear hu h12 fr12 hlo hxa)
                | fail)
              all_goals
                obtain ⟨ho, hg, hx13⟩ := HG.out
                obtain ⟨hu, h12, fr12, hlo, hxa⟩ := HA.out
                have bA : Below (w.heap.size + 1) w12 (w12.alloc (.cells #[.string cn, .int .i64 pp, .int .i64 ce, .int .i64 rr, .slice ya yn yc] 30)) := (Below.refl _ _).alloc (by omega) _
                have bB : Below (w.heap.size + 1) w12 w13 := Below.grown bA hg (by simp; omega) (fun i hi => by have := (Hi.out.1.lt hi).1; omega)
                have bC : Below (w.heap.size + 1) w12 (w13.setCell ⟨w.heap.size + 1, 4, none⟩ (.slice (some ⟨g, 0, none⟩) (L.length + 1) cap)) := bB.setCell (p := ⟨w.heap.size + 1, 4, none⟩) (Nat.le_refl _) _
                have hIa := Hi.out.1.of_heap (w' := w12.alloc (.cells #[.string cn, .int .i64 pp, .int .i64 ce, .int .i64 rr, .slice ya yn yc] 30)) fun i hi hi2 _ => hlo i (by omega) hi2
                have hNa := Hn.out.of_heap (w' := w12.alloc (.cells #[.string cn, .int .i64 pp, .int .i64 ce, .int .i64 rr, .slice ya yn yc] 30)) fun i hi hi2 _ => hlo i (by omega) hi2
                have hGa := Hg.out.of_heap (w' := w12.alloc (.cells #[.string cn, .int .i64 pp, .int .i64 ce, .int .i64 rr, .slice ya yn yc] 30)) fun i hi hi2 _ => hlo i (by omega) hi2
                have hNb := hNa.grow_other hIa (by decide) hg
                have hGb := hGa.grow_other hIa (by decide) hg
                have hP := CRow.push Hi.out (fun i hi hi2 => hlo i (by omega) hi2) (FRow.on hu ((Below.refl _ _).alloc (Nat.le_refl _) _)) HNum.out hsz hg ho
                have HNc := hide (FRow.of_heap (w' := w13.setCell ⟨w.heap.size + 1, 4, none⟩ (.slice (some ⟨g, 0, none⟩) (L.length + 1) cap)) hNb fun i hi _ _ => Below.heap_setCell _ _ _ _ (by show i ≠ w.heap.size + 1; omega))
                have HGc := hide (FRow.of_heap (w' := w13.setCell ⟨w.heap.size + 1, 4, none⟩ (.slice (some ⟨g, 0, none⟩) (L.length + 1) cap)) hGb fun i hi _ _ => Below.heap_setCell _ _ _ _ (by show i ≠ w.heap.size + 1; omega))
                have HP := hide (CRow.of_heap (w' := w13.setCell ⟨w.heap.size + 1, 4, none⟩ (.slice (some ⟨g, 0, none⟩) (L.length + 1) cap)) hP fun i hi _ => Below.heap_setCell _ _ _ _ (by show i ≠ w.heap.size + 1; omega))
                have HX14 := hide (block_set hx13 (o := 4) (.slice (some ⟨g, 0, none⟩) (L.length + 1) cap))
                have HR14 := hide (h12.below bC (by omega))
                have HF14 := hide (((Hf.out.trans (.of_below (Below.refl _ _).drew)).trans (fr12.frB (by show w.heap.size + 1 ≤ wr.heap.size; omega))).trans (.of_below bC))
                have hs14 := bC.size
                have HM14 : Hid ((L ++ [((⟨cn, pp, ce, rr, cl⟩ : CodeD), Value.slice ya yn yc)]).map Prod.fst = itL coR rdCode (p + 1) r7) := hide (by
                  rw [itL, ← Hm.out, HIT.out]
                  simp)
                clear ho hg hx13 hu h12 fr12 hlo hxa bA bB bC hIa hNa hGa hNb hGb hP
                go_wp2_with fail
                go_roundw
                case rel => exact ⟨p + 1, _, _, by go_num, by omega, HX14, HNc, HGc, HP, HM14, HR14, HF14, by omega⟩
                case measure => simp [intOf]; omega
            · have i4 : ¬ (p : Int) < N4 := by omega
              obtain rfl : p = N4 := by omega
              have hyy := (Hf.out.block w.heap.size (by omega) (by omega)).trans HY0.out
              obtain ⟨⟨p0, p1, p2, p3, p4⟩, -⟩ := obj_cells Hx.out
              obtain ⟨⟨q0, q1, q2, q3, q4⟩, s⟩ := obj_cells hyy
              have s0 := s 0
              have s1 := s 1
              have s2 := s 2
              have s3 := s 3
              have s4 := s 4
              clear s hyy
              go_wp2
              refine bodyPost_ret (v := .agg #[.string md, .int .i64 pr, .slice va k vc, .slice ua j uc, .slice xa p xc]) (by simp [results, Tryd.results100, go_sem, q0, q1, q2, q3, q4]) rfl ?_
              have oz := Only.trans (Only.trans (Only.trans (Only.trans (Only.set w.heap.size 0 wr (.string md)) (Only.set w.heap.size 1 _ (.int .i64 pr))) (Only.set w.heap.size 2 _ (.slice va k vc))) (Only.set w.heap.size 3 _ (.slice ua j uc))) (Only.set w.heap.size 4 _ (.slice xa p xc))
              have bz := oz.below (Nat.le_refl _)
              refine ⟨⟨.slice va k vc, .slice ua j uc, .slice xa p xc, by rw [HC.out], L, ?_⟩, ?_⟩
              · rw [HC.out]
                refine ObRow.le (B := w.heap.size + 2) ⟨Hn.out.of_heap fun i hi _ _ => oz.block i (by omega), Hg.out.of_heap fun i hi _ _ => oz.block i (by omega), Hi.out.of_heap fun i hi _ => oz.block i (by omega), Hm.out⟩ (by omega)
              · have F := F00.out.trans (FrB.trans ⟨Hf.out.os, Hf.out.tape, Hf.out.output, Hf.out.size, fun i hi hr => Hf.out.block i (by omega) hr⟩ (FrB.of_below bz))
                exact ⟨F.os, F.tape, F.output, F.size, F.block⟩
end Go.Proofs.YtpaljmhoojpbdaaDoor
