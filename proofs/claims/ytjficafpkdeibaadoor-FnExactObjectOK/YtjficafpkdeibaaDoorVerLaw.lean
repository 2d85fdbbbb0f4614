/- FnExactVerifyCode: at every code the program's VerifyCode answers as the model's, and the code reads as it did. Listed: the program's table of words and the library's errors.errorType, tied. No other condition. -/
import Derived.Test.YtjficafpkdeibaaDoorWkI5
import Derived.Test.YtjficafpkdeibaaDoorAsH
import Derived.Test.YtjficafpkdeibaaDoorObjSz
import Derived.Test.YtjficafpkdeibaaDoorObjTo
import Derived.Test.YtjficafpkdeibaaDoorObjEq
import Derived.Test.YtjficafpkdeibaaDoorCards
import Derived.Test.YtjficafpkdeibaaDoorTie
import Derived.LaidMore
import Derived.Lay
import Derived.Stop.Joined
import Derived.SevenTiedAt
namespace Go.Proofs.YtjficafpkdeibaaDoor
open Go.ChangeShapes Go.WideShapes Go.ChangeAt Go.RowKit Go.PlainAid Go.Deep

theorem goTo_bad {n i : Nat} {now : Int} : ∀ (ts : List Int) (d : List Int) (ag : Bool) (c p : Int), goTo n i now ts d ag = .bad c p → c ≠ 0
  | [], d, ag, c, p, e => by cases e
  | t :: r, d, ag, c, p, e => by
    rw [goTo] at e
    by_cases h1 : t = (n : Int)
    · rw [if_pos h1] at e
      cases e
      decide
    · rw [if_neg h1] at e
      by_cases h2 : d.getD t.toNat 0 < 0
      · rw [if_pos h2] at e
        exact goTo_bad r _ _ _ _ e
      · rw [if_neg h2] at e
        by_cases h3 : d.getD t.toNat 0 ≠ now
        · rw [if_pos h3] at e
          cases e
          decide
        · rw [if_neg h3] at e
          exact goTo_bad r _ _ _ _ e
theorem oneV_bad {n i : Nat} {x : InsD} {d : List Int} {ag : Bool} {c p : Int} (e : oneV n i x d ag = .bad c p) : c ≠ 0 := by
  unfold oneV at e
  simp only [] at e
  split at e
  · cases e
  · split at e
    · cases e; decide
    · split at e
      · cases e; decide
      · split at e
        · cases e; decide
        · exact goTo_bad _ _ _ _ _ e
theorem fromV_bad {n : Nat} : ∀ (l : List InsD) (i : Nat) (d : List Int) (ag : Bool) (c p : Int), fromV n i l d ag = .bad c p → c ≠ 0
  | [], _, _, _, _, _, e => by cases e
  | x :: r, i, d, ag, c, p, e => by
    rw [fromV] at e
    cases h : oneV n i x d ag with
    | bad c9 p9 =>
      rw [h] at e
      cases e
      exact oneV_bad h
    | go d9 ag9 =>
      rw [h] at e
      exact fromV_bad r _ _ _ _ _ e
theorem roundsV_zero {l : List InsD} : ∀ (f : Nat) (d : List Int), (roundsV l f d).1 = 0 → roundsV l f d = (0, 0)
  | 0, _, _ => rfl
  | f + 1, d, e => by
    rw [roundsV] at e ⊢
    cases h : fromV l.length 0 l d false with
    | bad c p =>
      rw [h] at e
      exact absurd e (fromV_bad _ _ _ _ _ _ h)
    | go d' ag =>
      rw [h] at e
      cases ag with
      | true => exact roundsV_zero f d' e
      | false => rfl
theorem verC_zero {x : CodeD} (h : (verC x).1 = 0) : verC x = (0, 0) := by
  unfold verC at h ⊢
  split at h
  · split at h
    · cases h
    · rename_i h1 _ h2
      rw [if_pos h1]
      exact roundsV_zero _ _ h
  · cases h
theorem l04Verify_any (v : Value) (m : Md) (x : CodeD) (w : World) (hv : CodeVal w m v x) (hm : m.hi ≤ w.heap.size) : Calls Tryd.prog 16 #[v] w fun e w' => VPost x w e w' := by
  obtain ⟨cn, params, cells, result, l⟩ := x
  obtain ⟨u4, rfl, hb, a, c, rfl, H⟩ := hv
  cases hh : headB ⟨cn, params, cells, result, l⟩ with
  | false => exact verify_head cn params cells result l a l.length c w rfl hb.1 hh
  | true => exact verify_form cn params cells result l a c m w hb.1 hh ⟨a, c, rfl, H⟩ hm
set_option maxRecDepth 100000 in
theorem specVerifyCode_any (v : Value) (m : Md) (x : CodeD) (w : World) (hv : CodeVal w m v x) (hm : m.hi ≤ w.heap.size) : Calls Tryd.prog 6 #[v] w fun e w' => e = .returned (.tuple #[.int .i64 (verC x).1, .int .i64 (verC x).2]) ∧ Below w.heap.size w w' := by
  have HV : Hid (∀ w', Below w.heap.size w w' → Calls Tryd.prog 16 #[v] w' fun e w2 => VPost x w' e w2) := hide fun w' bel => l04Verify_any v m x w' (hv.on (bel.mono hm)) (Nat.le_trans hm bel.size)
  obtain ⟨T, hT⟩ : ∃ T, verC x = T := ⟨_, rfl⟩
  have HT := hide hT
  rw [hT]
  obtain ⟨u4, rfl, -, a, c, rfl, -⟩ := hv
  clear hT
  go_enter Tryd.func6, Tryd.ntmps6
  go_wp2_with (go_at_call 16; refine (HV.out _ ((Below.refl _ _).alloc (Nat.le_refl _) _)).mono ?_; rintro e w1 ⟨he, b1⟩; rw [HT.out] at he; subst he)
  go_ret2
  exact ⟨rfl, ((Below.refl _ _).alloc (Nat.le_refl _) _).trans (b1.mono (by simp))⟩
def errCell : Value := .iface 132 (.agg #[.pointer (some ⟨6, 53, none⟩)])
set_option maxRecDepth 100000 in
theorem implVerifyCode_any (v : Value) (m : Md) (x : CodeD) (w : World) (hv : CodeVal w m v x) (hm : m.hi ≤ w.heap.size) (t : TypeId) (fr : Nat × Nat) (hg : w.heap[1]? = some (.cells keyRow t fr)) (he : w.cell? ⟨0, 0, none⟩ = some errCell) (hlt : 0 < w.heap.size) :
    Calls Tryd.prog 8 #[v] w fun e w' => e = .returned (.tuple #[.int .i64 (verC x).1, .int .i64 (verC x).2]) ∧ Below w.heap.size w w' := by
  have HC : Hid (∀ w', Below w.heap.size w w' → Calls Tryd.prog 19 #[v] w' (ErrR (verC x) w'.heap.size w')) := hide fun w' bel => by
    obtain ⟨cn, params, cells, result, l⟩ := x
    exact codeFault_any cn params cells result l v m w' (hv.on (bel.mono hm)) (Nat.le_trans hm bel.size) t fr ((bel.block 1 (Array.getElem?_eq_some_iff.1 hg).1).trans hg)
  have HE : Hid (∀ w', Below w.heap.size w w' → w'.cell? ⟨0, 0, none⟩ = some errCell) := hide fun w' bel => (bel.cell (p := ⟨0, 0, none⟩) hlt).trans he
  by_cases hz : (verC x).1 = 0
  · have HZ := hide (verC_zero hz)
    rw [HZ.out]
    have HCz : Hid (∀ w', Below w.heap.size w w' → Calls Tryd.prog 19 #[v] w' fun e w2 => e = .returned .nilIface ∧ Below w'.heap.size w' w2) := hide fun w' bel => (HC.out w' bel).mono fun _ _ ⟨a, b⟩ => ⟨by rw [b, HZ.out]; rfl, a⟩
    obtain ⟨u4, rfl, -, a, c, rfl, -⟩ := hv
    clear hz hg he
    go_enter Tryd.func8, Tryd.ntmps8
    go_wp2_with (first
      | (go_at_call 19; refine (HCz.out _ ((Below.refl _ _).alloc (Nat.le_refl _) _)).mono ?_; rintro e w1 ⟨rfl, b1⟩)
      | (go_at_call 18; refine (foundFault_nil _).mono ?_; rintro e w2 ⟨rfl, b2⟩))
    go_ret2
    exact ⟨rfl, (((Below.refl _ _).alloc (Nat.le_refl _) _).trans (b1.mono (by simp))).trans (b2.mono (by have := b1.size; simp at this; omega))⟩
  · obtain ⟨T1, hT1⟩ : ∃ T1, (verC x).1 = T1 := ⟨_, rfl⟩
    obtain ⟨T2, hT2⟩ : ∃ T2, (verC x).2 = T2 := ⟨_, rfl⟩
    have HCf : Hid (∀ w', Below w.heap.size w w' → Calls Tryd.prog 19 #[v] w' fun e w2 => e = .returned (.iface 87 (.agg #[.int .i64 T1, .int .i64 T2])) ∧ Below w'.heap.size w' w2) := hide fun w' bel => (HC.out w' bel).mono fun _ _ ⟨a, b⟩ => ⟨by rw [b, if_neg hz, hT1, hT2]; rfl, a⟩
    rw [hT1, hT2]
    obtain ⟨u4, rfl, -, a, c, rfl, -⟩ := hv
    clear hz hg he hT1 hT2
    go_enter Tryd.func8, Tryd.ntmps8
    go_wp2_with (first
      | (go_at_call 19; refine (HCf.out _ ((Below.refl _ _).alloc (Nat.le_refl _) _)).mono ?_; rintro e w1 ⟨rfl, b1⟩)
      | (go_at_call 18; refine (foundFault_hit T1 T2 _ (HE.out _ (((Below.refl _ _).alloc (Nat.le_refl _) _).trans (b1.mono (by simp))))).mono ?_; rintro e w2 ⟨rfl, b2⟩))
    go_ret2
    exact ⟨rfl, (((Below.refl _ _).alloc (Nat.le_refl _) _).trans (b1.mono (by simp))).trans (b2.mono (by have := b1.size; simp at this; omega))⟩
section
variable {H : Type} {enc : TypeId × Value → H} {w : World}
set_option maxRecDepth 100000 in
theorem open_code {r : Reach} {b0 : Nat} {v : Value} {d : DataW H} {ps : List MemPlace} (hval : Value.okWide Tryd.prog w r b0 24 v) (h : DataW.Trod enc Tryd.prog w 0 (fun _ => true) true 24 v d ps) : ∃ x, CodeVal w ⟨0, w.heap.size, false⟩ v x := by
  obtain ⟨cs, rfl, _⟩ := okWide_struct Tryd.underlying24 hval
  obtain ⟨fuel, h⟩ := h
  obtain ⟨hl, -⟩ := open_fields Tryd.underlying24 (hone_of (by kernel_rfl)) (by kernel_rfl) h
  obtain ⟨x, hx⟩ := opens_Code _ _ _ h
  obtain ⟨l, rfl⟩ : ∃ l : List Value, cs = l.toArray := ⟨cs.toList, by simp⟩
  obtain ⟨⟨c0, c1, c2, c3⟩, hr, u4, c4, hs⟩ := hx (fun j => l[j]?) (fun j _ => by simp [Value.cells])
  refine ⟨x, u4, ?_, hr, hs⟩
  have hl' : l.length = 5 := by simpa [Value.cells] using hl
  match l, hl' with
  | [a, b, c, d, e], _ =>
    simp only [List.getElem?_cons_zero, List.getElem?_cons_succ, Option.some.injEq] at c0 c1 c2 c3 c4
    subst c0 c1 c2 c3 c4
    rfl
end
set_option maxRecDepth 100000 in
set_option maxHeartbeats 8000000 in
theorem codeLaw_any (x : CodeD) (v : Value) (w : World) (h : CodeVal w ⟨0, w.heap.size, false⟩ v x) (t : TypeId) (fr : Nat × Nat) (hg : w.heap[1]? = some (.cells keyRow t fr)) (he : w.cell? ⟨0, 0, none⟩ = some errCell) (hlt : 0 < w.heap.size) :
    Calls Tryd.prog 3 #[v] w fun e w' => e = .returned (.bool true) ∧ Below w.heap.size w w' := by
  obtain ⟨T1, hT1⟩ : ∃ T1, (verC x).1 = T1 := ⟨_, rfl⟩
  obtain ⟨T2, hT2⟩ : ∃ T2, (verC x).2 = T2 := ⟨_, rfl⟩
  have HSz : Hid (∀ w', Below w.heap.size w w' → Calls Tryd.prog 5 #[v, .int .i64 1048576] w' fun e w2 => (∃ k : Int, e = .returned (.int .i64 k) ∧ (0 ≤ k → CodeSm x)) ∧ Below w'.heap.size w' w2) := hide fun w' bel => (szCode_any v _ x 1048576 w' (by decide) (by decide) (h.on bel) bel.size).mono fun _ _ ⟨⟨k, a, _, _, b⟩, c⟩ => ⟨⟨k, a, b⟩, c⟩
  have HSp : Hid (∀ w' m u, CodeVal w' m u x → m.hi ≤ w'.heap.size → Calls Tryd.prog 6 #[u] w' fun e w2 => e = .returned (.tuple #[.int .i64 T1, .int .i64 T2]) ∧ Below w'.heap.size w' w2) := hide fun w' m u hu hm => by
    have := specVerifyCode_any u m x w' hu hm
    rwa [hT1, hT2] at this
  have HIm : Hid (∀ w' m u, Below w.heap.size w w' → CodeVal w' m u x → m.hi ≤ w'.heap.size → Calls Tryd.prog 8 #[u] w' fun e w2 => e = .returned (.tuple #[.int .i64 T1, .int .i64 T2]) ∧ Below w'.heap.size w' w2) := hide fun w' m u bel hu hm => by
    have := implVerifyCode_any u m x w' hu hm t fr ((bel.block 1 (Array.getElem?_eq_some_iff.1 hg).1).trans hg) ((bel.cell (p := ⟨0, 0, none⟩) hlt).trans he) (Nat.lt_of_lt_of_le hlt bel.size)
    rwa [hT1, hT2] at this
  obtain ⟨cn, pp, ce, rr, l⟩ := x
  obtain ⟨n, hn⟩ : ∃ n, l.length = n := ⟨_, rfl⟩
  have HTo : Hid (CodeSm ⟨cn, pp, ce, rr, l⟩ → ∀ w', Below w.heap.size w w' → Calls Tryd.prog 7 #[v] w' fun e w2 => (∃ a c, e = .returned (.agg #[.string cn, .int .i64 pp, .int .i64 ce, .int .i64 rr, .slice a n c]) ∧ Hid (CodeVal w2 ⟨w'.heap.size, w2.heap.size, true⟩ (.agg #[.string cn, .int .i64 pp, .int .i64 ce, .int .i64 rr, .slice a n c]) ⟨cn, pp, ce, rr, l⟩)) ∧ Below w'.heap.size w' w2) := hide fun hx w' bel => (toCode_any v _ _ w' hx (h.on bel) bel.size).mono fun e w2 hq => by
    obtain ⟨⟨u, hu, hc⟩, hb⟩ := hq
    have hc' := hc.out
    obtain ⟨u4, e1, e2, a, c, e3, e4⟩ := hc'
    subst e3
    subst e1
    rw [← hn]
    exact ⟨⟨a, c, hu, hide ⟨_, rfl, e2, a, c, rfl, e4⟩⟩, hb⟩
  obtain ⟨u4, rfl, -, a, c, rfl, -⟩ := h
  rw [hn] at HSz HTo ⊢
  clear hn hg he hlt hT1 hT2
  go_enter Tryd.func3, Tryd.ntmps3
  go_wp2_with fail
  refine (HSz.out _ ((Below.refl _ _).alloc (Nat.le_refl _) _)).mono ?_
  rintro e w1 ⟨⟨k, rfl, hk⟩, b1⟩
  have hb1 : Below w.heap.size w w1 := ((Below.refl _ _).alloc (Nat.le_refl _) _).trans (b1.mono (by simp))
  have hz1 : w.heap.size < w1.heap.size := by have := b1.size; simp at this; omega
  have HK := hide hk
  have kk := (b1.block w.heap.size (by simp)).trans (Deep.blk_alloc_new w (.cells #[.string cn, .int .i64 pp, .int .i64 ce, .int .i64 rr, .slice a n c] 24))
  have HK0 := hide kk
  have k0 := (heapCells kk).1 0
  have k1 := (heapCells kk).1 1
  have k2 := (heapCells kk).1 2
  have k3 := (heapCells kk).1 3
  have k4 := (heapCells kk).1 4
  simp only [List.getElem?_toArray, List.getElem?_cons_zero, List.getElem?_cons_succ] at k0 k1 k2 k3 k4
  clear b1 hk kk
  by_cases hk0 : k < 0
  · go_wp2
    go_ret
    exact ⟨rfl, hb1⟩
  · have HSm := hide (HK.out (by omega))
    go_wp2_with fail
    refine (HTo.out HSm.out _ hb1).mono ?_
    rintro e w2 ⟨⟨a2, c2, rfl, HF2⟩, b2⟩
    go_wp2_with fail
    refine (HSp.out _ _ _ HF2.out (Nat.le_refl _)).mono ?_
    rintro e w3 ⟨rfl, b3⟩
    have hb3 : Below w1.heap.size w1 w3 := b2.trans (b3.mono b2.size)
    have hbw3 := hb1.trans (hb3.mono hb1.size)
    have hz3 : w.heap.size < w3.heap.size := Nat.lt_of_lt_of_le hz1 hb3.size
    have kk := (hb3.block w.heap.size hz1).trans HK0.out
    have HK3 := hide kk
    have l0 := (heapCells kk).1 0
    have l1 := (heapCells kk).1 1
    have l2 := (heapCells kk).1 2
    have l3 := (heapCells kk).1 3
    have l4 := (heapCells kk).1 4
    simp only [List.getElem?_toArray, List.getElem?_cons_zero, List.getElem?_cons_succ] at l0 l1 l2 l3 l4
    clear b2 b3 k0 k1 k2 k3 k4 hb3 kk
    go_wp2_with fail
    refine (HTo.out HSm.out _ hbw3).mono ?_
    rintro e w4 ⟨⟨a4, c4, rfl, HF4⟩, b4⟩
    have hbw4 := hbw3.trans (b4.mono hbw3.size)
    have hz4 : w.heap.size < w4.heap.size := Nat.lt_of_lt_of_le hz3 b4.size
    have HK4 := hide ((b4.block w.heap.size hz3).trans HK3.out)
    clear l0 l1 l2 l3 l4
    go_wp2_with fail
    refine (HIm.out _ _ _ (hbw4.alloc hbw4.size _) (HF4.out.on ((Below.refl _ _).alloc (Nat.le_refl _) _)) (by simp)).mono ?_
    rintro e w5 ⟨rfl, b5⟩
    have h45 : Below w4.heap.size w4 w5 := ((Below.refl _ _).alloc (Nat.le_refl _) _).trans (b5.mono (by simp))
    have kk := (h45.block w.heap.size hz4).trans HK4.out
    have n0 := (heapCells kk).1 0
    have n1 := (heapCells kk).1 1
    have n2 := (heapCells kk).1 2
    have n3 := (heapCells kk).1 3
    have n4 := (heapCells kk).1 4
    have qq := (b5.block w4.heap.size (by simp)).trans (Deep.blk_alloc_new w4 (.cells #[.string cn, .int .i64 pp, .int .i64 ce, .int .i64 rr, .slice a4 n c4] 30))
    have p0 := (heapCells qq).1 0
    have p1 := (heapCells qq).1 1
    have p2 := (heapCells qq).1 2
    have p3 := (heapCells qq).1 3
    have p4 := (heapCells qq).1 4
    simp only [List.getElem?_toArray, List.getElem?_cons_zero, List.getElem?_cons_succ] at n0 n1 n2 n3 n4 p0 p1 p2 p3 p4
    have hbw5 := hbw4.trans (h45.mono hbw4.size)
    have hz5 : w4.heap.size < w5.heap.size := (Array.getElem?_eq_some_iff.1 qq).1
    have HF5 := hide (HF4.out.on h45)
    have HQQ := hide qq
    clear b5 b4 h45 kk qq
    go_wp2
    go_region_with (first
      | (go_at_call 7; refine (HTo.out HSm.out _ hbw5.drew).mono ?_; rintro e w6 ⟨⟨a6, c6, rfl, HF6⟩, b6⟩; have qq := (b6.block w4.heap.size hz5).trans HQQ.out; have q0 := (heapCells qq).1 0; have q1 := (heapCells qq).1 1; have q2 := (heapCells qq).1 2; have q3 := (heapCells qq).1 3; have q4 := (heapCells qq).1 4; simp only [List.getElem?_toArray, List.getElem?_cons_zero, List.getElem?_cons_succ] at q0 q1 q2 q3 q4)
      | (go_at_call 9; refine (eqCode_same _ _ _ _ ⟨cn, pp, ce, rr, l⟩ _ (HF5.out.on (Below.trans ((Below.refl _ _).drew) b6 |>.mono (Nat.le_of_lt hz5))) HF6.out (Nat.le_trans (Nat.le_of_lt hz5) b6.size) (Nat.le_refl _)).mono ?_; rintro e w7 ⟨rfl, b7⟩))
    all_goals
      go_wp2
      go_ret
      exact ⟨rfl, hbw5.trans ((((Below.refl _ _).drew).trans (b6.trans (b7.mono b6.size))).mono hbw5.size)⟩
end Go.Proofs.YtjficafpkdeibaaDoor
