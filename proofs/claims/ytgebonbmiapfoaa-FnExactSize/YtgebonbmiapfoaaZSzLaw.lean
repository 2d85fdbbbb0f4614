/- FnExactSize: of every tree the program's Size answers as the model's, and the tree reads as it did. No condition. -/
import Derived.Test.YtgebonbmiapfoaaZSzI
import Derived.Test.YtgebonbmiapfoaaZTrSz
import Derived.Test.YtgebonbmiapfoaaZTrTo
import Derived.Test.YtgebonbmiapfoaaZTrEq
namespace Go.Proofs.Ytgebonbmiapfoaa
open Go.ChangeShapes Go.WideShapes Go.ChangeAt Go.RowKit Go.Deep

theorem specSize_any (h : Nat) (v : Value) (m : Md) (x : NodeD) (w : World) (hz : kidsSz x.kids ≤ 1048576) (hv : NodeVal h w m v x) (hm : m.hi ≤ w.heap.size) :
    Calls Try.prog 5 #[v] w fun e w' => e = .returned (.int .i64 (nodeSz x : Int)) ∧ Below w.heap.size w w' := by
  have HC : Hid (∀ w', Below w.heap.size w w' → Calls Try.prog 10 #[v] w' fun e w2 => e = .returned (.int .i64 (nodeSz x : Int)) ∧ Below w'.heap.size w' w2) := hide fun w' bel => spSize_any h v m x w' hz (hv.on (bel.mono hm)) (Nat.le_trans hm bel.size)
  obtain ⟨u4, rfl, -, ⟨a4, c4, rfl, -⟩⟩ := hv
  obtain ⟨T, hT⟩ : ∃ T, nodeSz x = T := ⟨_, rfl⟩
  obtain ⟨n, hn⟩ : ∃ n, x.kids.length = n := ⟨_, rfl⟩
  rw [hT] at HC ⊢
  rw [hn] at HC ⊢
  clear hT hn
  go_enter Try.func5, Try.ntmps5
  go_wp2_with fail
  refine (HC.out _ ((Below.refl _ _).alloc (Nat.le_refl _) _)).mono ?_
  rintro e w1 ⟨rfl, b1⟩
  go_wp2
  go_ret
  exact ⟨rfl, ((Below.refl _ _).alloc (Nat.le_refl _) _).trans (b1.mono (by simp))⟩
theorem node_cells {w : World} {b : Nat} {x0 x1 x2 x3 x4 : Value} {T : TypeId} (h : w.heap[b]? = some (.cells #[x0, x1, x2, x3, x4] T (0, 0))) :
    w.cell? ⟨b, 0, none⟩ = some x0 ∧ w.cell? ⟨b, 1, none⟩ = some x1 ∧ w.cell? ⟨b, 2, none⟩ = some x2 ∧ w.cell? ⟨b, 3, none⟩ = some x3 ∧ w.cell? ⟨b, 4, none⟩ = some x4 :=
  ⟨(heapCells h).1 0, (heapCells h).1 1, (heapCells h).1 2, (heapCells h).1 3, (heapCells h).1 4⟩
set_option maxRecDepth 100000 in
set_option maxHeartbeats 8000000 in
theorem sizeLaw_any (h : Nat) (x : NodeD) (v : Value) (w : World) (hv : NodeVal h w ⟨0, w.heap.size, false⟩ v x) :
    Calls Try.prog 3 #[v] w fun e w' => e = .returned (.bool true) ∧ Below w.heap.size w w' := by
  have HSz : Hid (∀ w', Below w.heap.size w w' → Calls Try.prog 4 #[v, .int .i64 1048576] w' fun e w2 => (∃ k : Int, e = .returned (.int .i64 k) ∧ (0 ≤ k → kidsSz x.kids ≤ 1048576)) ∧ Below w'.heap.size w' w2) := hide fun w' bel =>
    (szNode_any h v _ x 1048576 w' (by decide) (by decide) (hv.on bel) bel.size).mono fun _ _ ⟨⟨k, a, _, _, b⟩, c⟩ => ⟨⟨k, a, fun hk => by have := b hk; omega⟩, c⟩
  obtain ⟨T, hT⟩ : ∃ T, nodeSz x = T := ⟨_, rfl⟩
  have HSp : Hid (kidsSz x.kids ≤ 1048576 → ∀ w' m u, NodeVal h w' m u x → m.hi ≤ w'.heap.size → Calls Try.prog 5 #[u] w' fun e w2 => e = .returned (.int .i64 (T : Int)) ∧ Below w'.heap.size w' w2) := hide fun hz w' m u hu hm => by
    have := specSize_any h u m x w' hz hu hm
    rwa [hT] at this
  have HIm : Hid (kidsSz x.kids ≤ 1048576 → ∀ w' m u, m.made = true → NodeVal h w' m u x → m.hi ≤ w'.heap.size → Calls Try.prog 7 #[u] w' fun e w2 => e = .returned (.int .i64 (T : Int)) ∧ Below w'.heap.size w' w2) := hide fun hz w' m u hmd hu hm => by
    have := implSize_any h m u x w' hz hm hmd hu
    rwa [hT] at this
  have HEq : Hid (∀ w' m m' u u', NodeVal h w' m u x → NodeVal h w' m' u' x → m.hi ≤ w'.heap.size → m'.hi ≤ w'.heap.size → Calls Try.prog 8 #[u, u'] w' fun e w2 => e = .returned (.bool true) ∧ Below w'.heap.size w' w2) := hide fun w' m m' u u' hu hu' hm hm' => eqNode_any h h u u' m m' x w' hu hu' hm hm'
  obtain ⟨nl, hnl⟩ : ∃ k, x.kids.length = k := ⟨_, rfl⟩
  obtain ⟨kd, hkd⟩ : ∃ k, x.kind = k := ⟨_, rfl⟩
  obtain ⟨kn, hkn⟩ : ∃ k, x.n = k := ⟨_, rfl⟩
  obtain ⟨nm, hnm⟩ : ∃ k, x.name = k := ⟨_, rfl⟩
  obtain ⟨ofn, hof⟩ : ∃ k, x.of = k := ⟨_, rfl⟩
  have HTo : Hid (kidsSz x.kids ≤ 1048576 → ∀ w', Below w.heap.size w w' → Calls Try.prog 6 #[v] w' fun e w2 => (∃ a4 c4, e = .returned (.agg #[.int .i64 kd, .int .i64 kn, .string nm, .string ofn, .slice a4 nl c4]) ∧ Hid (NodeVal h w2 ⟨w'.heap.size, w2.heap.size, true⟩ (.agg #[.int .i64 kd, .int .i64 kn, .string nm, .string ofn, .slice a4 nl c4]) x)) ∧ Below w'.heap.size w' w2) := hide fun hz w' bel => (toNode_any h v _ x w' hz (hv.on bel) bel.size).mono fun e w2 hq => by
    obtain ⟨⟨u, hu, hc⟩, hb⟩ := hq
    have hc' := hc.out
    obtain ⟨u4, e1, -, ⟨a4, c4, f4, -⟩⟩ := hc'
    subst f4
    subst e1
    rw [hnl, hkd, hkn, hnm, hof] at hu hc
    exact ⟨⟨a4, c4, hu, hc⟩, hb⟩
  obtain ⟨u4, rfl, -, ⟨a4, c4, rfl, -⟩⟩ := hv
  rw [hnl, hkd, hkn, hnm, hof] at HSz HTo ⊢
  clear hnl hkd hkn hnm hof hT
  go_enter Try.func3, Try.ntmps3
  go_wp2_with fail
  refine (HSz.out _ ((Below.refl _ _).alloc (Nat.le_refl _) _)).mono ?_
  rintro e w1 ⟨⟨k, rfl, hk⟩, b1⟩
  have hb1 : Below w.heap.size w w1 := ((Below.refl _ _).alloc (Nat.le_refl _) _).trans (b1.mono (by simp))
  have hz1 : w.heap.size < w1.heap.size := by have := b1.size; simp at this; omega
  have HK := hide hk
  have kk := (b1.block w.heap.size (by simp)).trans (Deep.blk_alloc_new w (.cells #[.int .i64 kd, .int .i64 kn, .string nm, .string ofn, .slice a4 nl c4] 24))
  have HK0 := hide kk
  obtain ⟨k0, k1, k2, k3, k4⟩ := node_cells kk
  clear b1 hk kk
  by_cases hk0 : k < 0
  · go_wp2
    go_ret
    exact ⟨rfl, hb1⟩
  · have HSm := hide (HK.out (by omega))
    go_wp2_with fail
    refine (HTo.out HSm.out _ hb1).mono ?_
    rintro e w2 ⟨⟨b4, d4, rfl, HF2⟩, bl2⟩
    go_wp2_with fail
    refine (HSp.out HSm.out _ _ _ HF2.out (Nat.le_refl _)).mono ?_
    rintro e w3 ⟨rfl, bl3⟩
    have hb3 : Below w1.heap.size w1 w3 := bl2.trans (bl3.mono bl2.size)
    have hbw3 := hb1.trans (hb3.mono hb1.size)
    have hz3 : w.heap.size < w3.heap.size := Nat.lt_of_lt_of_le hz1 hb3.size
    have kk := (hb3.block w.heap.size hz1).trans HK0.out
    have HK3 := hide kk
    clear k0 k1 k2 k3 k4
    obtain ⟨l0, l1, l2, l3, l4⟩ := node_cells kk
    clear bl2 bl3 hb3 kk
    go_wp2_with fail
    refine (HTo.out HSm.out _ hbw3).mono ?_
    rintro e w4 ⟨⟨f4, g4, rfl, HF4⟩, bl4⟩
    have hbw4 := hbw3.trans (bl4.mono hbw3.size)
    have hz4 : w.heap.size < w4.heap.size := Nat.lt_of_lt_of_le hz3 bl4.size
    have HK4 := hide ((bl4.block w.heap.size hz3).trans HK3.out)
    clear l0 l1 l2 l3 l4
    go_wp2_with fail
    refine (HIm.out HSm.out _ _ _ rfl (HF4.out.on ((Below.refl _ _).alloc (Nat.le_refl _) _)) (by simp)).mono ?_
    rintro e w5 ⟨rfl, bl5⟩
    have h45 : Below w4.heap.size w4 w5 := ((Below.refl _ _).alloc (Nat.le_refl _) _).trans (bl5.mono (by simp))
    have kk := (h45.block w.heap.size hz4).trans HK4.out
    obtain ⟨l0, l1, l2, l3, l4⟩ := node_cells kk
    have qq := (bl5.block w4.heap.size (by simp)).trans (Deep.blk_alloc_new w4 (.cells #[.int .i64 kd, .int .i64 kn, .string nm, .string ofn, .slice f4 nl g4] 29))
    obtain ⟨p0, p1, p2, p3, p4⟩ := node_cells qq
    have hbw5 := hbw4.trans (h45.mono hbw4.size)
    have hz5 : w4.heap.size < w5.heap.size := (Array.getElem?_eq_some_iff.1 qq).1
    have HF5 := hide (HF4.out.on h45)
    have HQQ := hide qq
    clear bl5 bl4 h45 kk qq
    go_wp2
    go_region_with (first
      | (go_at_call 6; refine (HTo.out HSm.out _ hbw5.drew).mono ?_; rintro e w6 ⟨⟨h4, i4, rfl, HF6⟩, b6⟩; have qq := (b6.block w4.heap.size hz5).trans HQQ.out; obtain ⟨q0, q1, q2, q3, q4⟩ := node_cells qq; clear qq)
      | (go_at_call 8; refine (HEq.out _ _ _ _ _ (HF5.out.on (Below.trans ((Below.refl _ _).drew) b6 |>.mono (Nat.le_of_lt hz5))) HF6.out (Nat.le_trans (Nat.le_of_lt hz5) b6.size) (Nat.le_refl _)).mono ?_; rintro e w7 ⟨rfl, b7⟩))
    all_goals
      go_wp2
      go_ret
      exact ⟨rfl, hbw5.trans ((((Below.refl _ _).drew).trans (b6.trans (b7.mono b6.size))).mono hbw5.size)⟩
theorem open_node {H : Type} {enc : TypeId × Value → H} {w : World} {r : Reach} {b0 : Nat} {v : Value} {d : DataW H} {ps : List MemPlace} (hval : Value.okWide Try.prog w r b0 24 v) (h : DataW.Trod enc Try.prog w 0 (fun _ => true) true 24 v d ps) : ∃ h x, NodeVal h w ⟨0, w.heap.size, false⟩ v x := by
  obtain ⟨cs, rfl, _⟩ := okWide_struct Try.underlying24 hval
  obtain ⟨fuel, h⟩ := h
  obtain ⟨hl, -⟩ := open_fields Try.underlying24 (hone_of (by kernel_rfl)) (by kernel_rfl) h
  obtain ⟨x, hx⟩ := opens_Node fuel _ _ h
  obtain ⟨l, rfl⟩ : ∃ l : List Value, cs = l.toArray := ⟨cs.toList, by simp⟩
  have hq := hx (fun j => l[j]?) (fun j _ => by simp [Value.cells])
  rcases fuel with _ | fuel
  · exact hq.elim
  obtain ⟨⟨c0, c1, c2, c3⟩, hr, u4, c4, hs⟩ := hq
  refine ⟨fuel, x, u4, ?_, hr, hs⟩
  have hl' : l.length = 5 := by simpa [Value.cells] using hl
  match l, hl' with
  | [a, b, c, d, e], _ =>
    simp only [List.getElem?_cons_zero, List.getElem?_cons_succ, Option.some.injEq] at c0 c1 c2 c3 c4
    subst c0 c1 c2 c3 c4
    rfl
end Go.Proofs.Ytgebonbmiapfoaa
