/- FnExactListing: at every code the program's Listing answers as the model's, text and code, and the code reads as it did. Listed: the program's tables of words and signs, the library's errors.errorType and powers of ten, tied. No other condition. -/
import Derived.Test.YtjficafpkdeibaaGreatDoorListD
import Derived.Test.YtjficafpkdeibaaGreatDoorSpecL
import Derived.Test.YtjficafpkdeibaaGreatDoorImplL
import Derived.Test.YtjficafpkdeibaaGreatDoorObjSz
import Derived.Test.YtjficafpkdeibaaGreatDoorObjTo
import Derived.Test.YtjficafpkdeibaaGreatDoorObjEq
import Derived.Test.YtjficafpkdeibaaGreatDoorCards
import Derived.Test.YtjficafpkdeibaaGreatDoorTie
import Derived.LaidMore
import Derived.Lay
import Derived.Stop.Joined
import Derived.SevenTiedAt
namespace Go.Proofs.YtjficafpkdeibaaGreatDoor
open Go.ChangeShapes Go.WideShapes Go.ChangeAt Go.RowKit Go.PlainAid Go.Deep

theorem list_ab (x : CodeD) : listB (verC x).1 x.list = listA x := rfl
theorem vals_of {w : World} {m : Md} {v : Value} {x : CodeD} (hv : CodeVal w m v x) : ∀ y ∈ x.list, I64 y.a ∧ I64 y.b := by
  obtain ⟨u4, -, -, a, c, -, hr⟩ := hv
  intro y hy
  obtain ⟨j, hj, rfl⟩ := List.getElem_of_mem hy
  obtain ⟨b, o, -, -, -, -, he⟩ := hr j hj
  exact ⟨he.2.2.1, he.2.2.2.1⟩
theorem specListing_any (v : Value) (m : Md) (x : CodeD) (w : World) (hv : CodeVal w m v x) (hm : m.hi ≤ w.heap.size) : Calls Tryz.prog 11 #[v] w fun e w' => e = .returned (.tuple #[.string (listA x).1, .int .i64 (listA x).2]) ∧ Below w.heap.size w w' := by
  have := specListing_of x.name x.params x.cells x.result x.list v m w hv hm (verC x).1 (verC x).2 (fun w' bel => by
    have := l04Verify_any v m x w' (hv.on (bel.mono hm)) (Nat.le_trans hm bel.size)
    unfold VPost at this
    exact this) (fun h => good_of h (vals_of hv))
  rwa [list_ab] at this
theorem implListing_any (v : Value) (m : Md) (x : CodeD) (w : World) (hv : CodeVal w m v x) (hm : m.hi ≤ w.heap.size) (t : TypeId) (fr : Nat × Nat) (hg : w.heap[2]? = some (.cells keyRow t fr)) (he : w.cell? ⟨0, 0, none⟩ = some errCell) (hlt : 0 < w.heap.size) (hP : PowT w) (hS : SignT w) :
    Calls Tryz.prog 10 #[v] w fun e w' => e = .returned (.tuple #[.string (listA x).1, .int .i64 (listA x).2]) ∧ Below w.heap.size w w' := by
  have := implListing_of x.name x.params x.cells x.result x.list v m w hv hm (verC x).1 (verC x).2 (fun w' bel => implVerifyCode_any v m x w' (hv.on (bel.mono hm)) (Nat.le_trans hm bel.size) t fr ((bel.block 2 (Array.getElem?_eq_some_iff.1 hg).1).trans hg) ((bel.cell (p := ⟨0, 0, none⟩) hlt).trans he) (Nat.lt_of_lt_of_le hlt bel.size)) (fun h => good_of h (vals_of hv)) hP hS
  rwa [list_ab] at this
set_option maxRecDepth 100000 in
set_option maxHeartbeats 8000000 in
theorem listLaw_any (x : CodeD) (v : Value) (w : World) (h : CodeVal w ⟨0, w.heap.size, false⟩ v x) (t : TypeId) (fr : Nat × Nat) (hg : w.heap[2]? = some (.cells keyRow t fr)) (he : w.cell? ⟨0, 0, none⟩ = some errCell) (hlt : 0 < w.heap.size) (hP : PowT w) (hS : SignT w) :
    Calls Tryz.prog 6 #[v] w fun e w' => e = .returned (.bool true) ∧ Below w.heap.size w w' := by
  obtain ⟨T1, hT1⟩ : ∃ T1, (listA x).1 = T1 := ⟨_, rfl⟩
  obtain ⟨T2, hT2⟩ : ∃ T2, (listA x).2 = T2 := ⟨_, rfl⟩
  have HSz : Hid (∀ w', Below w.heap.size w w' → Calls Tryz.prog 25 #[v, .int .i64 1048576] w' fun e w2 => (∃ k : Int, e = .returned (.int .i64 k) ∧ (0 ≤ k → CodeSm x)) ∧ Below w'.heap.size w' w2) := hide fun w' bel => (szCode_any v _ x 1048576 w' (by decide) (by decide) (h.on bel) bel.size).mono fun _ _ ⟨⟨k, a, _, _, b⟩, c⟩ => ⟨⟨k, a, b⟩, c⟩
  have HSp : Hid (∀ w' m u, CodeVal w' m u x → m.hi ≤ w'.heap.size → Calls Tryz.prog 11 #[u] w' fun e w2 => e = .returned (.tuple #[.string T1, .int .i64 T2]) ∧ Below w'.heap.size w' w2) := hide fun w' m u hu hm => by
    have := specListing_any u m x w' hu hm
    rwa [hT1, hT2] at this
  have HIm : Hid (∀ w' m u, Below w.heap.size w w' → CodeVal w' m u x → m.hi ≤ w'.heap.size → Calls Tryz.prog 10 #[u] w' fun e w2 => e = .returned (.tuple #[.string T1, .int .i64 T2]) ∧ Below w'.heap.size w' w2) := hide fun w' m u bel hu hm => by
    have := implListing_any u m x w' hu hm t fr ((bel.block 2 (Array.getElem?_eq_some_iff.1 hg).1).trans hg) ((bel.cell (p := ⟨0, 0, none⟩) hlt).trans he) (Nat.lt_of_lt_of_le hlt bel.size) (hP.on bel) (hS.on bel)
    rwa [hT1, hT2] at this
  obtain ⟨cn, pp, ce, rr, l⟩ := x
  obtain ⟨n, hn⟩ : ∃ n, l.length = n := ⟨_, rfl⟩
  have HTo : Hid (CodeSm ⟨cn, pp, ce, rr, l⟩ → ∀ w', Below w.heap.size w w' → Calls Tryz.prog 26 #[v] w' fun e w2 => (∃ a c, e = .returned (.agg #[.string cn, .int .i64 pp, .int .i64 ce, .int .i64 rr, .slice a n c]) ∧ Hid (CodeVal w2 ⟨w'.heap.size, w2.heap.size, true⟩ (.agg #[.string cn, .int .i64 pp, .int .i64 ce, .int .i64 rr, .slice a n c]) ⟨cn, pp, ce, rr, l⟩)) ∧ Below w'.heap.size w' w2) := hide fun hx w' bel => (toCode_any v _ _ w' hx (h.on bel) bel.size).mono fun e w2 hq => by
    obtain ⟨⟨u, hu, hc⟩, hb⟩ := hq
    have hc' := hc.out
    obtain ⟨u4, e1, e2, a, c, e3, e4⟩ := hc'
    subst e3
    subst e1
    rw [← hn]
    exact ⟨⟨a, c, hu, hide ⟨_, rfl, e2, a, c, rfl, e4⟩⟩, hb⟩
  obtain ⟨u4, rfl, -, a, c, rfl, -⟩ := h
  rw [hn] at HSz HTo ⊢
  clear hn hg he hlt hT1 hT2 hP hS
  go_enter Tryz.func6, Tryz.ntmps6
  go_wp2_with fail
  refine (HSz.out _ ((Below.refl _ _).alloc (Nat.le_refl _) _)).mono ?_
  rintro e w1 ⟨⟨k, rfl, hk⟩, b1⟩
  have hb1 : Below w.heap.size w w1 := ((Below.refl _ _).alloc (Nat.le_refl _) _).trans (b1.mono (by simp))
  have hz1 : w.heap.size < w1.heap.size := by have := b1.size; simp at this; omega
  have HK := hide hk
  have kk := (b1.block w.heap.size (by simp)).trans (Deep.blk_alloc_new w (.cells #[.string cn, .int .i64 pp, .int .i64 ce, .int .i64 rr, .slice a n c] 56))
  have HK0 := hide kk
  have k0 := (heapCells kk).1 0
  have k1 := (heapCells kk).1 1
  have k2 := (heapCells kk).1 2
  have k3 := (heapCells kk).1 3
  have k4 := (heapCells kk).1 4
  simp only [List.getElem?_toArray, List.getElem?_cons_zero, List.getElem?_cons_succ] at k0 k1 k2 k3 k4
  clear b1 hk kk
  by_cases hk0 : k < 0
  · go_wp2
    go_ret
    exact ⟨rfl, hb1⟩
  · have HSm := hide (HK.out (by omega))
    go_wp2_with fail
    refine (HTo.out HSm.out _ hb1).mono ?_
    rintro e w2 ⟨⟨a2, c2, rfl, HF2⟩, b2⟩
    go_wp2_with fail
    refine (HSp.out _ _ _ HF2.out (Nat.le_refl _)).mono ?_
    rintro e w3 ⟨rfl, b3⟩
    have hb3 : Below w1.heap.size w1 w3 := b2.trans (b3.mono b2.size)
    have hbw3 := hb1.trans (hb3.mono hb1.size)
    have hz3 : w.heap.size < w3.heap.size := Nat.lt_of_lt_of_le hz1 hb3.size
    have kk := (hb3.block w.heap.size hz1).trans HK0.out
    have HK3 := hide kk
    have l0 := (heapCells kk).1 0
    have l1 := (heapCells kk).1 1
    have l2 := (heapCells kk).1 2
    have l3 := (heapCells kk).1 3
    have l4 := (heapCells kk).1 4
    simp only [List.getElem?_toArray, List.getElem?_cons_zero, List.getElem?_cons_succ] at l0 l1 l2 l3 l4
    clear b2 b3 k0 k1 k2 k3 k4 hb3 kk
    go_wp2_with fail
    refine (HTo.out HSm.out _ hbw3).mono ?_
    rintro e w4 ⟨⟨a4, c4, rfl, HF4⟩, b4⟩
    have hbw4 := hbw3.trans (b4.mono hbw3.size)
    have hz4 : w.heap.size < w4.heap.size := Nat.lt_of_lt_of_le hz3 b4.size
    have HK4 := hide ((b4.block w.heap.size hz3).trans HK3.out)
    clear l0 l1 l2 l3 l4
    go_wp2_with fail
    refine (HIm.out _ _ _ (hbw4.alloc hbw4.size _) (HF4.out.on ((Below.refl _ _).alloc (Nat.le_refl _) _)) (by simp)).mono ?_
    rintro e w5 ⟨rfl, b5⟩
    have h45 : Below w4.heap.size w4 w5 := ((Below.refl _ _).alloc (Nat.le_refl _) _).trans (b5.mono (by simp))
    have kk := (h45.block w.heap.size hz4).trans HK4.out
    have n0 := (heapCells kk).1 0
    have n1 := (heapCells kk).1 1
    have n2 := (heapCells kk).1 2
    have n3 := (heapCells kk).1 3
    have n4 := (heapCells kk).1 4
    have qq := (b5.block w4.heap.size (by simp)).trans (Deep.blk_alloc_new w4 (.cells #[.string cn, .int .i64 pp, .int .i64 ce, .int .i64 rr, .slice a4 n c4] 25))
    have p0 := (heapCells qq).1 0
    have p1 := (heapCells qq).1 1
    have p2 := (heapCells qq).1 2
    have p3 := (heapCells qq).1 3
    have p4 := (heapCells qq).1 4
    simp only [List.getElem?_toArray, List.getElem?_cons_zero, List.getElem?_cons_succ] at n0 n1 n2 n3 n4 p0 p1 p2 p3 p4
    have hbw5 := hbw4.trans (h45.mono hbw4.size)
    have hz5 : w4.heap.size < w5.heap.size := (Array.getElem?_eq_some_iff.1 qq).1
    have HF5 := hide (HF4.out.on h45)
    have HQQ := hide qq
    clear b5 b4 h45 kk qq
    go_wp2
    go_region_with (first
      | (go_at_call 26; refine (HTo.out HSm.out _ hbw5.drew).mono ?_; rintro e w6 ⟨⟨a6, c6, rfl, HF6⟩, b6⟩; have qq := (b6.block w4.heap.size hz5).trans HQQ.out; have q0 := (heapCells qq).1 0; have q1 := (heapCells qq).1 1; have q2 := (heapCells qq).1 2; have q3 := (heapCells qq).1 3; have q4 := (heapCells qq).1 4; simp only [List.getElem?_toArray, List.getElem?_cons_zero, List.getElem?_cons_succ] at q0 q1 q2 q3 q4)
      | (go_at_call 27; refine (eqCode_same _ _ _ _ ⟨cn, pp, ce, rr, l⟩ _ (HF5.out.on (Below.trans ((Below.refl _ _).drew) b6 |>.mono (Nat.le_of_lt hz5))) HF6.out (Nat.le_trans (Nat.le_of_lt hz5) b6.size) (Nat.le_refl _)).mono ?_; rintro e w7 ⟨rfl, b7⟩))
    all_goals
      go_wp2
      go_ret
      exact ⟨rfl, hbw5.trans ((((Below.refl _ _).drew).trans (b6.trans (b7.mono b6.size))).mono hbw5.size)⟩
end Go.Proofs.YtjficafpkdeibaaGreatDoor
