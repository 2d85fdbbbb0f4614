/- FnExactObjectOK: at every object the program's ObjectOK answers as the model's, and the object reads as it did. Listed: the program's table of words and the library's tables, tied. No other condition. -/
import Derived.Test.YtjficafpkdeibaaDoorObSpec
import Derived.Test.YtjficafpkdeibaaDoorObI
import Derived.Test.YtjficafpkdeibaaDoorObO
import Derived.Test.YtjficafpkdeibaaDoorObjSz
import Derived.Test.YtjficafpkdeibaaDoorObjTo
import Derived.Test.YtjficafpkdeibaaDoorObjEq
import Derived.Test.YtjficafpkdeibaaDoorVerRow
namespace Go.Proofs.YtjficafpkdeibaaDoor
open Go.ChangeShapes Go.WideShapes Go.ChangeAt Go.RowKit Go.PlainAid Go.Deep

set_option maxRecDepth 100000 in
set_option maxHeartbeats 8000000 in
theorem objectLaw_any (x : ObjectD) (v : Value) (w : World) (h : ObjectVal w ⟨0, w.heap.size, false⟩ v x) (t : TypeId) (fr : Nat × Nat) (hg : w.heap[1]? = some (.cells keyRow t fr)) :
    Calls Tryd.prog 4 #[v] w fun e w' => e = .returned (.bool true) ∧ Below w.heap.size w w' := by
  obtain ⟨T, hT⟩ : ∃ T, objB x = T := ⟨_, rfl⟩
  have HSz : Hid (∀ w', Below w.heap.size w w' → Calls Tryd.prog 10 #[v, .int .i64 1048576] w' fun e w2 => (∃ k : Int, e = .returned (.int .i64 k) ∧ (0 ≤ k → ObjectSm x)) ∧ Below w'.heap.size w' w2) := hide fun w' bel => (szObject_any v _ x 1048576 w' (by decide) (by decide) (h.on bel) bel.size).mono fun _ _ ⟨⟨k, a, _, _, b⟩, c⟩ => ⟨⟨k, a, b⟩, c⟩
  have HSp : Hid (∀ w' m u, ObjectVal w' m u x → m.hi ≤ w'.heap.size → Calls Tryd.prog 11 #[u] w' fun e w2 => e = .returned (.bool T) ∧ Below w'.heap.size w' w2) := hide fun w' m u hu hm => by
    have := specObjectOK_any u m x w' hu hm
    rwa [hT] at this
  have HIm : Hid (∀ w' m u, Below w.heap.size w w' → ObjectVal w' m u x → m.hi ≤ w'.heap.size → Calls Tryd.prog 13 #[u] w' fun e w2 => e = .returned (.bool T) ∧ Below w'.heap.size w' w2) := hide fun w' m u bel hu hm => by
    have := implObjectOK_any u m x w' hu hm t fr ((bel.block 1 (Array.getElem?_eq_some_iff.1 hg).1).trans hg)
    rwa [hT] at this
  obtain ⟨s, p, ns, gs, ps⟩ := x
  obtain ⟨n2, e2⟩ : ∃ n2, ns.length = n2 := ⟨_, rfl⟩
  obtain ⟨n3, e3⟩ : ∃ n3, gs.length = n3 := ⟨_, rfl⟩
  obtain ⟨n4, e4⟩ : ∃ n4, ps.length = n4 := ⟨_, rfl⟩
  have HTo : Hid (ObjectSm ⟨s, p, ns, gs, ps⟩ → ∀ w', Below w.heap.size w w' → Calls Tryd.prog 12 #[v] w' fun e w2 => (∃ a2 c2 a3 c3 a4 c4, e = .returned (.agg #[.string s, .int .i64 p, .slice a2 n2 c2, .slice a3 n3 c3, .slice a4 n4 c4]) ∧ Hid (ObjectVal w2 ⟨w'.heap.size, w2.heap.size, true⟩ (.agg #[.string s, .int .i64 p, .slice a2 n2 c2, .slice a3 n3 c3, .slice a4 n4 c4]) ⟨s, p, ns, gs, ps⟩)) ∧ Below w'.heap.size w' w2) := hide fun hx w' bel => (toObject_any v _ _ w' hx (h.on bel) bel.size).mono fun e w2 hq => by
    obtain ⟨⟨u, hu, hc⟩, hb⟩ := hq
    have hc' := hc.out
    obtain ⟨u2, u3, u4, e1, eb, ⟨a2, c2, f2, r2⟩, ⟨a3, c3, f3, r3⟩, ⟨a4, c4, f4, r4⟩⟩ := hc'
    subst f2 f3 f4
    subst e1
    simp only [] at *
    rw [e2, e3, e4] at hu hc
    exact ⟨⟨a2, c2, a3, c3, a4, c4, hu, hc⟩, hb⟩
  obtain ⟨u2, u3, u4, rfl, -, ⟨a2, c2, rfl, -⟩, ⟨a3, c3, rfl, -⟩, ⟨a4, c4, rfl, -⟩⟩ := h
  rw [e2, e3, e4] at HSz HTo ⊢
  clear e2 e3 e4 hg hT
  go_enter Tryd.func4, Tryd.ntmps4
  go_wp2_with fail
  refine (HSz.out _ ((Below.refl _ _).alloc (Nat.le_refl _) _)).mono ?_
  rintro e w1 ⟨⟨k, rfl, hk⟩, b1⟩
  have hb1 : Below w.heap.size w w1 := ((Below.refl _ _).alloc (Nat.le_refl _) _).trans (b1.mono (by simp))
  have hz1 : w.heap.size < w1.heap.size := by have := b1.size; simp at this; omega
  have HK := hide hk
  have kk := (b1.block w.heap.size (by simp)).trans (Deep.blk_alloc_new w (.cells #[.string s, .int .i64 p, .slice a2 n2 c2, .slice a3 n3 c3, .slice a4 n4 c4] 38))
  have HK0 := hide kk
  have k0 := (heapCells kk).1 0
  have k1 := (heapCells kk).1 1
  have k2 := (heapCells kk).1 2
  have k3 := (heapCells kk).1 3
  have k4 := (heapCells kk).1 4
  simp only [List.getElem?_toArray, List.getElem?_cons_zero, List.getElem?_cons_succ] at k0 k1 k2 k3 k4
  clear b1 hk kk
  by_cases hk0 : k < 0
  · go_wp2
    go_ret
    exact ⟨rfl, hb1⟩
  · have HSm := hide (HK.out (by omega))
    go_wp2_with fail
    refine (HTo.out HSm.out _ hb1).mono ?_
    rintro e w2 ⟨⟨b2, d2, b3, d3, b4, d4, rfl, HF2⟩, bl2⟩
    go_wp2_with fail
    refine (HSp.out _ _ _ HF2.out (Nat.le_refl _)).mono ?_
    rintro e w3 ⟨rfl, bl3⟩
    have hb3 : Below w1.heap.size w1 w3 := bl2.trans (bl3.mono bl2.size)
    have hbw3 := hb1.trans (hb3.mono hb1.size)
    have hz3 : w.heap.size < w3.heap.size := Nat.lt_of_lt_of_le hz1 hb3.size
    have kk := (hb3.block w.heap.size hz1).trans HK0.out
    have HK3 := hide kk
    have l0 := (heapCells kk).1 0
    have l1 := (heapCells kk).1 1
    have l2 := (heapCells kk).1 2
    have l3 := (heapCells kk).1 3
    have l4 := (heapCells kk).1 4
    simp only [List.getElem?_toArray, List.getElem?_cons_zero, List.getElem?_cons_succ] at l0 l1 l2 l3 l4
    clear bl2 bl3 k0 k1 k2 k3 k4 hb3 kk
    go_wp2_with fail
    refine (HTo.out HSm.out _ hbw3).mono ?_
    rintro e w4 ⟨⟨f2, g2, f3, g3, f4, g4, rfl, HF4⟩, bl4⟩
    have hbw4 := hbw3.trans (bl4.mono hbw3.size)
    have hz4 : w.heap.size < w4.heap.size := Nat.lt_of_lt_of_le hz3 bl4.size
    have HK4 := hide ((bl4.block w.heap.size hz3).trans HK3.out)
    clear l0 l1 l2 l3 l4
    go_wp2_with fail
    refine (HIm.out _ _ _ (hbw4.alloc hbw4.size _) (HF4.out.on ((Below.refl _ _).alloc (Nat.le_refl _) _)) (by simp)).mono ?_
    rintro e w5 ⟨rfl, bl5⟩
    have h45 : Below w4.heap.size w4 w5 := ((Below.refl _ _).alloc (Nat.le_refl _) _).trans (bl5.mono (by simp))
    have kk := (h45.block w.heap.size hz4).trans HK4.out
    have n0 := (heapCells kk).1 0
    have n1 := (heapCells kk).1 1
    have m2 := (heapCells kk).1 2
    have m3 := (heapCells kk).1 3
    have m4 := (heapCells kk).1 4
    have qq := (bl5.block w4.heap.size (by simp)).trans (Deep.blk_alloc_new w4 (.cells #[.string s, .int .i64 p, .slice f2 n2 g2, .slice f3 n3 g3, .slice f4 n4 g4] 45))
    have p0 := (heapCells qq).1 0
    have p1 := (heapCells qq).1 1
    have p2 := (heapCells qq).1 2
    have p3 := (heapCells qq).1 3
    have p4 := (heapCells qq).1 4
    simp only [List.getElem?_toArray, List.getElem?_cons_zero, List.getElem?_cons_succ] at n0 n1 m2 m3 m4 p0 p1 p2 p3 p4
    have hbw5 := hbw4.trans (h45.mono hbw4.size)
    have hz5 : w4.heap.size < w5.heap.size := (Array.getElem?_eq_some_iff.1 qq).1
    have HF5 := hide (HF4.out.on h45)
    have HQQ := hide qq
    clear bl5 bl4 h45 kk qq
    have hTT : (T != T) = false := by simp
    go_wp2
    go_region_with (first
      | (go_at_call 12; refine (HTo.out HSm.out _ hbw5.drew).mono ?_; rintro e w6 ⟨⟨h2, i2, h3, i3, h4, i4, rfl, HF6⟩, b6⟩; have qq := (b6.block w4.heap.size hz5).trans HQQ.out; have q0 := (heapCells qq).1 0; have q1 := (heapCells qq).1 1; have q2 := (heapCells qq).1 2; have q3 := (heapCells qq).1 3; have q4 := (heapCells qq).1 4; simp only [List.getElem?_toArray, List.getElem?_cons_zero, List.getElem?_cons_succ] at q0 q1 q2 q3 q4)
      | (go_at_call 14; refine (eqObject_same _ _ _ _ ⟨s, p, ns, gs, ps⟩ _ (HF5.out.on (Below.trans ((Below.refl _ _).drew) b6 |>.mono (Nat.le_of_lt hz5))) HF6.out (Nat.le_trans (Nat.le_of_lt hz5) b6.size) (Nat.le_refl _)).mono ?_; rintro e w7 ⟨rfl, b7⟩))
    all_goals
      go_wp2
      go_ret
      exact ⟨rfl, hbw5.trans ((((Below.refl _ _).drew).trans (b6.trans (b7.mono b6.size))).mono hbw5.size)⟩
end Go.Proofs.YtjficafpkdeibaaDoor
