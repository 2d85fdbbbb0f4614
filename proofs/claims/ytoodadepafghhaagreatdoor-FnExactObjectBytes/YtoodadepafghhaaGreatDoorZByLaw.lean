/- FnExactObjectBytes: at every object the program's ObjectBytes answers as the model's, bytes and code; the answer is memory of its own; the object reads as it did. Listed: the program's table of words and the library's tables, tied. No other condition. -/
import Derived.Test.YtoodadepafghhaaGreatDoorZByX
import Derived.Test.YtoodadepafghhaaGreatDoorZOuts
import Derived.Test.YtoodadepafghhaaGreatDoorZMarkO
import Derived.Test.YtoodadepafghhaaGreatDoorZObjSz
import Derived.Test.YtoodadepafghhaaGreatDoorZObjEq
namespace Go.Proofs.YtoodadepafghhaaGreatDoor
open Go.ChangeShapes Go.WideShapes Go.ChangeAt Go.RowKit Go.PlainAid Go.Deep

theorem Own.out' {w w' : World} {B lo hi : Nat} {v : Value} {l : List Int} (h : Own w B v l) (k : Out lo hi w w') (hb : hi ≤ B) : Own w' B v l := by
  refine ⟨h.1, ?_⟩
  rcases h.2 with h2 | ⟨g, cap, cur, e, hb', hg, r⟩
  · exact .inl h2
  · exact .inr ⟨g, cap, cur, e, hb', (k.block g (Array.getElem?_eq_some_iff.1 hg).1 (.inr (by omega))).trans hg, r⟩
set_option maxRecDepth 100000 in
set_option maxHeartbeats 16000000 in
theorem objBytesLaw_any (x : ObjectD) (v : Value) (w : World) (h : ObjectVal w ⟨0, w.heap.size, false⟩ v x) (t : TypeId) (fr : Nat × Nat) (hg : w.heap[2]? = some (.cells keyRow t fr)) :
    Calls Tryz.prog 4 #[v] w fun e w' => e = .returned (.bool true) ∧ Below w.heap.size w w' := by
  obtain ⟨fb, hfb⟩ : ∃ fb, obF x = fb := ⟨_, rfl⟩
  obtain ⟨fc, hfc⟩ : ∃ fc, obC x = fc := ⟨_, rfl⟩
  have hfl : fb.length ≤ 65536 := by rw [← hfb]; exact obF_len x
  have HSz : Hid (∀ w', Below w.heap.size w w' → Calls Tryz.prog 12 #[v, .int .i64 1048576] w' fun e w2 => (∃ k : Int, e = .returned (.int .i64 k) ∧ (0 ≤ k → ObjectSm x)) ∧ Below w'.heap.size w' w2) := hide fun w' bel => (szObject_any v _ x 1048576 w' (by decide) (by decide) (h.on bel) bel.size).mono fun _ _ ⟨⟨k, a, _, _, b⟩, c⟩ => ⟨⟨k, a, b⟩, c⟩
  have HSp : Hid (∀ w' m u, ObjectVal w' m u x → m.hi ≤ w'.heap.size → Calls Tryz.prog 13 #[u] w' fun e w2 => (∃ u2, e = .returned (.tuple #[u2, .int .i64 fc]) ∧ Own w2 w'.heap.size u2 fb) ∧ Below w'.heap.size w' w2) := hide fun w' m u hu hm => by
    have := specObjectBytes_any u m x w' hu hm
    rwa [hfb, hfc] at this
  have HIm : Hid (∀ w' m u, Below w.heap.size w w' → ObjectVal w' m u x → m.hi ≤ w'.heap.size → Calls Tryz.prog 15 #[u] w' fun e w2 => (∃ u2, e = .returned (.tuple #[u2, .int .i64 fc]) ∧ Own w2 w'.heap.size u2 fb) ∧ Below w'.heap.size w' w2) := hide fun w' m u bel hu hm => by
    have := implObjectBytes_any u m x w' hu hm t fr ((bel.block 2 (Array.getElem?_eq_some_iff.1 hg).1).trans hg)
    rwa [hfb, hfc] at this
  obtain ⟨s, p, ns, gs, ps⟩ := x
  obtain ⟨n2, e2⟩ : ∃ n2, ns.length = n2 := ⟨_, rfl⟩
  obtain ⟨n3, e3⟩ : ∃ n3, gs.length = n3 := ⟨_, rfl⟩
  obtain ⟨n4, e4⟩ : ∃ n4, ps.length = n4 := ⟨_, rfl⟩
  have HTo : Hid (ObjectSm ⟨s, p, ns, gs, ps⟩ → ∀ w', Below w.heap.size w w' → Calls Tryz.prog 14 #[v] w' fun e w2 => (∃ a2 c2 a3 c3 a4 c4, e = .returned (.agg #[.string s, .int .i64 p, .slice a2 n2 c2, .slice a3 n3 c3, .slice a4 n4 c4]) ∧ Hid (ObjectSep w2 w'.heap.size w2.heap.size (.agg #[.string s, .int .i64 p, .slice a2 n2 c2, .slice a3 n3 c3, .slice a4 n4 c4]) ⟨s, p, ns, gs, ps⟩)) ∧ Below w'.heap.size w' w2) := hide fun hx w' bel => (toObject_sep v _ _ w' hx (h.on bel) bel.size).mono fun e w2 hq => by
    obtain ⟨⟨u, hu, hc⟩, hb⟩ := hq
    have hc' := hc.out
    obtain ⟨u2, u3, u4, -, -, -, -, -, -, e1, eb, -, ⟨a2, c2, f2, r2⟩, ⟨a3, c3, f3, r3⟩, ⟨a4, c4, f4, r4⟩⟩ := hc'
    subst f2 f3 f4
    subst e1
    simp only [] at *
    rw [e2, e3, e4] at hu hc
    exact ⟨⟨a2, c2, a3, c3, a4, c4, hu, hc⟩, hb⟩
  obtain ⟨u2, u3, u4, rfl, -, ⟨a2, c2, rfl, -⟩, ⟨a3, c3, rfl, -⟩, ⟨a4, c4, rfl, -⟩⟩ := h
  rw [e2, e3, e4] at HSz HTo ⊢
  clear e2 e3 e4 hg hfb hfc
  go_enter Tryz.func4, Tryz.ntmps4
  go_wp2_with fail
  refine (HSz.out _ ((Below.refl _ _).alloc (Nat.le_refl _) _)).mono ?_
  rintro e w1 ⟨⟨k, rfl, hk⟩, b1⟩
  have hb1 : Below w.heap.size w w1 := ((Below.refl _ _).alloc (Nat.le_refl _) _).trans (b1.mono (by simp))
  have hz1 : w.heap.size < w1.heap.size := by have := b1.size; simp at this; omega
  have HK := hide hk
  have kk := (b1.block w.heap.size (by simp)).trans (Deep.blk_alloc_new w (.cells #[.string s, .int .i64 p, .slice a2 n2 c2, .slice a3 n3 c3, .slice a4 n4 c4] 36))
  have HK0 := hide kk
  have k0 := (heapCells kk).1 0
  have k1 := (heapCells kk).1 1
  have k2 := (heapCells kk).1 2
  have k3 := (heapCells kk).1 3
  have k4 := (heapCells kk).1 4
  simp only [List.getElem?_toArray, List.getElem?_cons_zero, List.getElem?_cons_succ] at k0 k1 k2 k3 k4
  clear b1 hk kk
  by_cases hk0 : k < 0
  · go_wp2
    go_ret
    exact ⟨rfl, hb1⟩
  · have HSm := hide (HK.out (by omega))
    go_wp2_with fail
    refine (HTo.out HSm.out _ hb1).mono ?_
    rintro e w2 ⟨⟨b2, d2, b3, d3, b4, d4, rfl, HF2⟩, bl2⟩
    go_wp2_with fail
    refine (HSp.out _ _ _ HF2.out.val (Nat.le_refl _)).mono ?_
    rintro e w3 ⟨⟨u0, rfl, hu0⟩, bl3⟩
    have HU0 := hide hu0
    have hb3 : Below w1.heap.size w1 w3 := bl2.trans (bl3.mono bl2.size)
    have hbw3 := hb1.trans (hb3.mono hb1.size)
    have hz3 : w.heap.size < w3.heap.size := Nat.lt_of_lt_of_le hz1 hb3.size
    have kk := (hb3.block w.heap.size hz1).trans HK0.out
    have HK3 := hide kk
    have l0 := (heapCells kk).1 0
    have l1 := (heapCells kk).1 1
    have l2 := (heapCells kk).1 2
    have l3 := (heapCells kk).1 3
    have l4 := (heapCells kk).1 4
    simp only [List.getElem?_toArray, List.getElem?_cons_zero, List.getElem?_cons_succ] at l0 l1 l2 l3 l4
    clear bl2 bl3 k0 k1 k2 k3 k4 hb3 kk hu0
    go_wp2_with fail
    refine (HTo.out HSm.out _ hbw3).mono ?_
    rintro e w4 ⟨⟨f2, g2, f3, g3, f4, g4, rfl, HF4⟩, bl4⟩
    have hbw4 := hbw3.trans (bl4.mono hbw3.size)
    have hz4 : w.heap.size < w4.heap.size := Nat.lt_of_lt_of_le hz3 bl4.size
    have HK4 := hide ((bl4.block w.heap.size hz3).trans HK3.out)
    clear l0 l1 l2 l3 l4
    go_wp2_with fail
    refine (HIm.out _ _ _ (hbw4.alloc hbw4.size _) (HF4.out.val.on ((Below.refl _ _).alloc (Nat.le_refl _) _)) (by simp)).mono ?_
    rintro e w5 ⟨⟨u5, rfl, hu5⟩, bl5⟩
    obtain ⟨a5, c5, rfl, -⟩ := hu5.at
    have HU5 := hide (hu5.low (B' := w4.heap.size) (by simp))
    have h45 : Below w4.heap.size w4 w5 := ((Below.refl _ _).alloc (Nat.le_refl _) _).trans (bl5.mono (by simp))
    have HK5 := hide ((h45.block w.heap.size hz4).trans HK4.out)
    have HQ5 := hide ((bl5.block w4.heap.size (by simp)).trans (Deep.blk_alloc_new w4 (.cells #[.string s, .int .i64 p, .slice f2 n2 g2, .slice f3 n3 g3, .slice f4 n4 g4] 44)))
    have hbw5 := hbw4.trans (h45.mono hbw4.size)
    have hz5 : w4.heap.size < w5.heap.size := (Array.getElem?_eq_some_iff.1 HQ5.out).1
    have HF5 := hide (HF4.out.on h45)
    have h35 : Below w3.heap.size w3 w5 := bl4.trans (h45.mono bl4.size)
    clear bl5 hu5
    go_wp2_with fail
    refine (eqByteS_same _ _ _ _ fb _ (by omega) HU5.out (HU0.out.on h35)).mono ?_
    rintro e w6 ⟨rfl, b6⟩
    have HK6 := hide ((b6.block w.heap.size (by show w.heap.size < w5.heap.size; omega)).trans HK5.out)
    have HQ6 := hide ((b6.block w4.heap.size hz5).trans HQ5.out)
    have n0 := (heapCells HK6.out).1 0
    have n1 := (heapCells HK6.out).1 1
    have m2 := (heapCells HK6.out).1 2
    have m3 := (heapCells HK6.out).1 3
    have m4 := (heapCells HK6.out).1 4
    have p0 := (heapCells HQ6.out).1 0
    have p1 := (heapCells HQ6.out).1 1
    have p2 := (heapCells HQ6.out).1 2
    have p3 := (heapCells HQ6.out).1 3
    have p4 := (heapCells HQ6.out).1 4
    simp only [List.getElem?_toArray, List.getElem?_cons_zero, List.getElem?_cons_succ] at n0 n1 m2 m3 m4 p0 p1 p2 p3 p4
    have hz6 : w4.heap.size < w6.heap.size := Nat.lt_of_lt_of_le hz5 b6.size
    have h46 := h45.trans (b6.mono (Nat.le_of_lt hz5))
    have h36 := h35.trans (b6.mono h35.size)
    have hbw6 := hbw5.trans (b6.mono hbw5.size)
    have HF6 := hide (HF5.out.on (b6.mono (Nat.le_of_lt hz5)))
    have HU6 := hide (HU5.out.on b6)
    clear b6
    go_wp2
    go_region_with (first
      | (go_at_call 14; refine (HTo.out HSm.out _ hbw6.drew).mono ?_; rintro e w7 ⟨⟨h2, i2, h3, i3, h4, i4, rfl, HF7⟩, b7⟩; have qq := (b7.block w4.heap.size hz6).trans HQ6.out; have q0 := (heapCells qq).1 0; have q1 := (heapCells qq).1 1; have q2 := (heapCells qq).1 2; have q3 := (heapCells qq).1 3; have q4 := (heapCells qq).1 4; simp only [List.getElem?_toArray, List.getElem?_cons_zero, List.getElem?_cons_succ] at q0 q1 q2 q3 q4)
      | (go_at_call 17; refine (eqObject_same _ _ _ _ ⟨s, p, ns, gs, ps⟩ _ (HF6.out.val.on (Below.trans ((Below.refl _ _).drew) b7 |>.mono (Nat.le_of_lt hz6))) HF7.out.val (Nat.le_trans (Nat.le_of_lt hz6) b7.size) (Nat.le_refl _)).mono ?_; rintro e w8 ⟨rfl, b8⟩))
    all_goals
      have h68 : Below w6.heap.size w6 w8 := ((Below.refl _ _).drew).trans (b7.trans (b8.mono b7.size))
      have HK8 := hide ((h68.block w.heap.size (by show w.heap.size < w6.heap.size; omega)).trans HK6.out)
      have qq := (h68.block w4.heap.size hz6).trans HQ6.out
      have r0 := (heapCells qq).1 0
      have r1 := (heapCells qq).1 1
      have r2 := (heapCells qq).1 2
      have r3 := (heapCells qq).1 3
      have r4 := (heapCells qq).1 4
      simp only [List.getElem?_toArray, List.getElem?_cons_zero, List.getElem?_cons_succ] at r0 r1 r2 r3 r4
      have hbw8 := hbw6.trans (h68.mono hbw6.size)
      have h38 := h36.trans (h68.mono h36.size)
      have h48 := h46.trans (h68.mono h46.size)
      have HU8 := hide (HU6.out.on h68)
      have HF8 := hide (HF6.out.on (h68.mono (Nat.le_of_lt hz6)))
      clear b7 b8 h68 qq n0 n1 m2 m3 m4 p0 p1 p2 p3 p4
      go_wp2_with fail
      refine (markObject_any _ _ _ ⟨s, p, ns, gs, ps⟩ _ HSm.out h48.size HF8.out).mono ?_
      rintro e w9 ⟨⟨K, rfl, hK⟩, o9⟩
      have hK' : ¬ K < 0 := by omega
      have h39 : Below w3.heap.size w3 w9 := h38.trans (o9.below h38.size)
      have HU9 := hide (HU8.out.out' o9 (Nat.le_refl _))
      have HK9 := hide (((o9.below h38.size).block w.heap.size hz3).trans HK8.out)
      clear hK r0 r1 r2 r3 r4
      go_wp2_with fail
      refine (eqByteS_same _ _ _ _ fb _ (by omega) HU9.out (HU0.out.on h39)).mono ?_
      rintro e w10 ⟨rfl, b10⟩
      have h310 := h39.trans (b10.mono h39.size)
      have HU10 := hide (HU9.out.on b10)
      obtain ⟨a10, c10, e10, hb10⟩ := HU10.out.at
      cases e10
      have HB10 := hide hb10
      have HK10 := hide ((b10.block w.heap.size (by show w.heap.size < w9.heap.size; have := h39.size; omega)).trans HK9.out)
      have z1 : ¬ 1 + (fb.length : Int) < 0 := by omega
      clear b10 hb10
      go_wp2_with fail
      refine (markByteS_any w4.heap.size _ _ fb _ (by omega) HB10.out).mono ?_
      rintro e w11 ⟨rfl, hm11, b11⟩
      have HM11 := hide hm11
      have h311 := h310.trans (b11.mono bl4.size)
      have HK11 := hide ((b11.block w.heap.size hz4).trans HK10.out)
      clear hm11 b11
      go_wp2_with fail
      refine (heldByteS_any w4.heap.size _ _ fb.length _ (by omega) HM11.out).mono ?_
      rintro e w12 ⟨rfl, b12⟩
      have h312 := h311.trans (b12.mono h311.size)
      have HM12 := hide (HM11.out.on b12)
      have kk := (b12.block w.heap.size (by show w.heap.size < w11.heap.size; have := h311.size; omega)).trans HK11.out
      have x0 := (heapCells kk).1 0
      have x1 := (heapCells kk).1 1
      have x2 := (heapCells kk).1 2
      have x3 := (heapCells kk).1 3
      have x4 := (heapCells kk).1 4
      simp only [List.getElem?_toArray, List.getElem?_cons_zero, List.getElem?_cons_succ] at x0 x1 x2 x3 x4
      clear b12 kk
      go_wp2_with fail
      refine (HTo.out HSm.out _ (hbw3.trans (h312.mono hbw3.size))).mono ?_
      rintro e w13 ⟨⟨i2, j2, i3, j3, i4, j4, rfl, HF13⟩, b13⟩
      have h313 := h312.trans (b13.mono h312.size)
      have HM13 := hide (HM12.out.on b13)
      clear x0 x1 x2 x3 x4
      go_wp2_with fail
      refine (HIm.out _ _ _ (hbw3.trans (h313.mono hbw3.size)) HF13.out.val (Nat.le_refl _)).mono ?_
      rintro e w14 ⟨⟨u14, rfl, hu14⟩, b14⟩
      have h314 := h313.trans (b14.mono h313.size)
      have HM14 := hide (HM13.out.on b14)
      have HU14 := hide hu14
      clear hu14
      go_wp2_with fail
      refine (eqByteS_same _ _ _ _ fb _ (by omega) HU14.out (HU0.out.on h314)).mono ?_
      rintro e w15 ⟨rfl, b15⟩
      have h315 := h314.trans (b15.mono h314.size)
      have HM15 := hide (HM14.out.on b15)
      go_wp2_with fail
      refine (heldByteS_any w4.heap.size _ _ fb.length _ (by omega) HM15.out).mono ?_
      rintro e w16 ⟨rfl, b16⟩
      go_wp2
      go_ret
      exact ⟨rfl, hbw3.trans ((h315.trans (b16.mono h315.size)).mono hbw3.size)⟩
end Go.Proofs.YtoodadepafghhaaGreatDoor
