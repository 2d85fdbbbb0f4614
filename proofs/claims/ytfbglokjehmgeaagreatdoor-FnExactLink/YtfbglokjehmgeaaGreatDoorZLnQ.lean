/- The program asks that all objects are right, no two of one module. The table of words is a premise. -/
import Derived.Test.YtfbglokjehmgeaaGreatDoorZObP
import Derived.Test.YtfbglokjehmgeaaGreatDoorZLnE
import Derived.Test.YtfbglokjehmgeaaGreatDoorZLnW
/- The program's ObjectOK answers 'objB'. Its table of words is a premise. -/
namespace Go.Proofs.YtfbglokjehmgeaaGreatDoor
open Go.ChangeShapes Go.WideShapes Go.ChangeAt Go.RowKit Go.PlainAid Go.Deep Go.Maps Go.WideMaps

set_option maxRecDepth 100000 in
set_option maxHeartbeats 8000000 in
theorem implObjectOK_any (v : Value) (m : Md) (x : ObjectD) (w : World) (hv : ObjectVal w m v x) (hm : m.hi ≤ w.heap.size) (t : TypeId) (fr : Nat × Nat) (hg : w.heap[1]? = some (.cells keyRow t fr)) :
    Calls Tryz.prog 19 #[v] w fun e w' => e = .returned (.bool (objB x)) ∧ Below w.heap.size w w' := by
  have hgz : 1 < w.heap.size := (Array.getElem?_eq_some_iff.1 hg).1
  have hgw : ∀ w', Below w.heap.size w w' → w'.heap[1]? = some (.cells keyRow t fr) := fun w' bel => (bel.block 1 hgz).trans hg
  obtain ⟨s, p, ns, gs, ps⟩ := x
  obtain ⟨u2, u3, u4, rfl, ⟨hs, -, hn2, hn3, hn4⟩, H2, H3, H4⟩ := hv
  simp only [] at hs hn2 hn3 hn4 H2 H3 H4
  obtain ⟨N, hN⟩ : ∃ N, (decide (ns.length ≤ 20) && ns.all needB) = N := ⟨_, rfl⟩
  obtain ⟨G, hG⟩ : ∃ G, (decide (gs.length ≤ 100) && globsB [] gs) = G := ⟨_, rfl⟩
  obtain ⟨P, hP⟩ : ∃ P, (decide (1 ≤ ps.length) && decide (ps.length ≤ 60) && procsB (gs.map fun x => x.name) ps) = P := ⟨_, rfl⟩
  have HX : Hid (objB ⟨s, p, ns, gs, ps⟩ = (ownB s && inB p 0 4294967295 && N && G && P)) := hide (by rw [← hN, ← hG, ← hP]; rfl)
  have HO : Hid (∀ w1, Below w.heap.size w w1 → Calls Tryz.prog 53 #[.string s] w1 fun e w' => e = .returned (.bool (ownB s)) ∧ Below w1.heap.size w1 w') := hide fun w1 bel => ownName_any s w1 hs t fr (hgw w1 bel)
  have HNe : Hid (∀ w1, Below w.heap.size w w1 → Calls Tryz.prog 55 #[u2] w1 fun e w' => e = .returned (.bool N) ∧ Below w1.heap.size w1 w') := hide fun w1 bel => by
    have := needsOK_any u2 m ns w1 (H2.on NeedAt.stays (bel.mono hm)) (Nat.le_trans hm bel.size) t fr (hgw w1 bel)
    rwa [hN] at this
  have HGl : Hid (∀ w1 b, Below w.heap.size w w1 → w.heap.size ≤ b → MapAt w1 b 0 (.map []) → Calls Tryz.prog 56 #[u3, .map (some b)] w1 (MetPost G b (0 + gs.length) ([] ++ gs.map fun x => x.name) w1)) := hide fun w1 b bel hb hmap => by
    have := globalsOK_any u3 m gs b 0 (.map []) [] w1 (H3.on GlobalAt.stays (bel.mono hm)) (Nat.le_trans hm hb) hmap keysB_start (by decide) (Nat.lt_of_lt_of_le hgz hb) t fr (hgw w1 bel)
    rwa [hG] at this
  have HPr : Hid (∀ w1 b n D, Below w.heap.size w w1 → w.heap.size ≤ b → n ≤ 100000 → MapAt w1 b n D → KeysB D (gs.map fun x => x.name) → Calls Tryz.prog 57 #[u4, .map (some b)] w1 fun e w' => e = .returned (.bool P) ∧ Below b w1 w') := hide fun w1 b n D bel hb hn hmap hk => by
    have := procsOK_any u4 m ps b n D (gs.map fun x => x.name) w1 (H4.on CodeAt.stays (bel.mono hm)) (Nat.le_trans hm hb) hmap hk hn (Nat.lt_of_lt_of_le hgz hb) t fr (hgw w1 bel)
    rw [hP] at this
    exact this.mono fun _ _ ⟨a, b, _⟩ => ⟨a, b⟩
  have HGb : Hid (G = true → gs.length ≤ 100) := hide fun e => by
    rw [← hG] at e
    simp only [Bool.and_eq_true, decide_eq_true_eq] at e
    exact e.1
  rw [HX.out]
  obtain ⟨a2, d2, rfl, -⟩ := H2
  obtain ⟨a3, d3, rfl, -⟩ := H3
  obtain ⟨a4, d4, rfl, -⟩ := H4
  generalize ns.length = n2 at *
  obtain ⟨n3, hn3'⟩ : ∃ n3, gs.length = n3 := ⟨_, rfl⟩
  generalize ps.length = n4 at *
  rw [hn3'] at HGl HGb ⊢
  have one : Below w.heap.size w (w.alloc (.cells #[.string s, .int .i64 p, .slice a2 n2 d2, .slice a3 n3 d3, .slice a4 n4 d4] 48)) := (Below.refl _ _).alloc (Nat.le_refl _) _
  have B1 := hide one
  have hmm := @run_makeMap Tryz.prog
  clear hs hn2 hn3 hn4 hN hG hP hg hgw one hn3' hm hgz
  cases ho : ownB s with
  | false =>
    go_enter Tryz.func19, Tryz.ntmps19
    go_wp2_with (go_at_call 53; refine (HO.out _ B1.out).mono ?_; rintro e w2 ⟨rfl, b2⟩; rw [ho]; obtain ⟨hcc, hff⟩ := bcell b2)
    go_ret
    exact ⟨ret_bool (by simp), B1.out.trans (b2.mono B1.out.size)⟩
  | true =>
    cases hp : inB p 0 4294967295 with
    | false =>
      go_enter Tryz.func19, Tryz.ntmps19
      go_wp2_with (first
        | (go_at_call 53; refine (HO.out _ B1.out).mono ?_; rintro e w2 ⟨rfl, b2⟩; rw [ho]; obtain ⟨hcc, hff⟩ := bcell b2)
        | (go_at_call 54; refine (printFits_any p _).mono ?_; rintro e w6 ⟨rfl, rfl⟩; rw [hp]))
      go_ret
      exact ⟨ret_bool (by simp), B1.out.trans (b2.mono B1.out.size)⟩
    | true =>
      cases N with
      | false =>
        go_enter Tryz.func19, Tryz.ntmps19
        go_wp2_with (first
          | (go_at_call 53; refine (HO.out _ B1.out).mono ?_; rintro e w2 ⟨rfl, b2⟩; rw [ho]; obtain ⟨hcc, hff⟩ := bcell b2; have HB2 := hide (B1.out.trans (b2.mono B1.out.size)))
          | (go_at_call 54; refine (printFits_any p _).mono ?_; rintro e w6 ⟨rfl, rfl⟩; rw [hp])
          | (go_at_call 55; refine (HNe.out _ HB2.out).mono ?_; rintro e w3 ⟨rfl, b3⟩))
        go_ret
        exact ⟨ret_bool (by simp), HB2.out.trans (b3.mono HB2.out.size)⟩
      | true =>
        have HBx : Hid (∀ w2 w3, Below (w.alloc (.cells #[.string s, .int .i64 p, .slice a2 n2 d2, .slice a3 n3 d3, .slice a4 n4 d4] 48)).heap.size (w.alloc (.cells #[.string s, .int .i64 p, .slice a2 n2 d2, .slice a3 n3 d3, .slice a4 n4 d4] 48)) w2 → Below w2.heap.size w2 w3 → Below w.heap.size w w3 ∧ w.heap.size < w3.heap.size ∧ w3.heap[w.heap.size]? = some (.cells #[.string s, .int .i64 p, .slice a2 n2 d2, .slice a3 n3 d3, .slice a4 n4 d4] 48 (0, 0))) := hide fun w2 w3 b2 b3 => by
          have hb := b2.trans (b3.mono b2.size)
          have hs := hb.size
          have hc := (hb.block w.heap.size (by simp)).trans (Deep.blk_alloc_new w (.cells #[.string s, .int .i64 p, .slice a2 n2 d2, .slice a3 n3 d3, .slice a4 n4 d4] 48))
          simp at hs
          exact ⟨B1.out.trans (hb.mono B1.out.size), by omega, hc⟩
        cases G with
        | false =>
          go_enter Tryz.func19, Tryz.ntmps19
          go_wp2_with (first
            | (go_at_call 53; refine (HO.out _ B1.out).mono ?_; rintro e w2 ⟨rfl, b2⟩; rw [ho]; obtain ⟨hcc, hff⟩ := bcell b2; have HB2 := hide (B1.out.trans (b2.mono B1.out.size)))
            | (go_at_call 54; refine (printFits_any p _).mono ?_; rintro e w6 ⟨rfl, rfl⟩; rw [hp])
            | (go_at_call 55; refine (HNe.out _ HB2.out).mono ?_; rintro e w3 ⟨rfl, b3⟩; obtain ⟨hB3, hz3, x3⟩ := HBx.out _ _ b2 b3; have q3 := (heapCells x3).1 3; have q4 := (heapCells x3).1 4; simp only [List.getElem?_toArray, List.getElem?_cons_zero, List.getElem?_cons_succ] at q3 q4)
            | (go_at_call 56; refine (HGl.out _ w3.heap.size (hB3.alloc hB3.size _) hB3.size (World.ownsMap_made _ _ _ _)).mono ?_; rintro e w4 ⟨rfl, b4, -⟩))
          go_ret
          exact ⟨ret_bool (by simp), (hB3.alloc hB3.size _).trans (b4.mono hB3.size)⟩
        | true =>
          go_enter Tryz.func19, Tryz.ntmps19
          go_wp2_with (first
            | (go_at_call 53; refine (HO.out _ B1.out).mono ?_; rintro e w2 ⟨rfl, b2⟩; rw [ho]; obtain ⟨hcc, hff⟩ := bcell b2; have HB2 := hide (B1.out.trans (b2.mono B1.out.size)))
            | (go_at_call 54; refine (printFits_any p _).mono ?_; rintro e w6 ⟨rfl, rfl⟩; rw [hp])
            | (go_at_call 55; refine (HNe.out _ HB2.out).mono ?_; rintro e w3 ⟨rfl, b3⟩; obtain ⟨hB3, hz3, x3⟩ := HBx.out _ _ b2 b3; have q3 := (heapCells x3).1 3; have q4 := (heapCells x3).1 4; simp only [List.getElem?_toArray, List.getElem?_cons_zero, List.getElem?_cons_succ] at q3 q4)
            | (go_at_call 56; refine (HGl.out _ w3.heap.size (hB3.alloc hB3.size _) hB3.size (World.ownsMap_made _ _ _ _)).mono ?_; rintro e w4 ⟨rfl, b4, hm4⟩; obtain ⟨cn4, D4, hM4, hc4, hk4⟩ := hm4 rfl; have hB4 := (hB3.alloc hB3.size _).trans (b4.mono hB3.size); have x4 := (b4.block w.heap.size hz3).trans ((Below.heap_alloc _ _ _ hz3).trans x3); have q5 := (heapCells x4).1 4; simp only [List.getElem?_toArray, List.getElem?_cons_zero, List.getElem?_cons_succ] at q5)
            | (go_at_call 57; refine (HPr.out _ w3.heap.size cn4 D4 hB4 hB3.size (by have := HGb.out trivial; omega) hM4 (by simpa using hk4)).mono ?_; rintro e w5 ⟨rfl, b5⟩))
          go_ret
          exact ⟨ret_bool (by simp), hB4.trans (b5.mono hB3.size)⟩
end Go.Proofs.YtfbglokjehmgeaaGreatDoor

namespace Go.Proofs.YtfbglokjehmgeaaGreatDoor
open Go.ChangeShapes Go.WideShapes Go.ChangeAt Go.RowKit Go.PlainAid Go.Deep

def oneOk (L : List ObjectD) (i : Nat) : Bool := match L[i]? with | some x => objB x && (objAt (L.take i) x.module).isNone | none => true
def allB (L : List ObjectD) : Bool := (List.range L.length).all (oneOk L)
theorem allB_iff (L : List ObjectD) : allB L = true ↔ allOk objB L L.length := by
  unfold allB allOk
  rw [List.all_eq_true]
  constructor
  · intro h i hi _
    have := h i (List.mem_range.2 hi)
    unfold oneOk at this
    rw [List.getElem?_eq_getElem hi] at this
    simp only [Bool.and_eq_true, Option.isNone_iff_eq_none] at this
    exact this
  · intro h i hi
    have hi := List.mem_range.1 hi
    unfold oneOk
    rw [List.getElem?_eq_getElem hi]
    simp only [Bool.and_eq_true, Option.isNone_iff_eq_none]
    exact h i hi hi
theorem allB_no {L : List ObjectD} {i : Nat} (hi : i < L.length) (h : oneOk L i = false) : allB L = false := by
  unfold allB
  rw [List.all_eq_false]
  exact ⟨i, List.mem_range.2 hi, by rw [h]; decide⟩
theorem prefix_dist {L : List ObjectD} {k : Nat} (h : allOk objB L k) (hk : k ≤ L.length) : Dist (L.take k) := by
  have key : ∀ i j (hi : i < L.length) (hj : j < L.length), i < j → j < k → L[i].module ≠ L[j].module := fun i j hi hj hij hjk => by
    have h2 := objAt_no (h j hj hjk).2
    refine h2 L[i] ?_
    rw [List.mem_iff_getElem]
    exact ⟨i, by rw [List.length_take]; omega, by simp⟩
  intro i j hi hj e
  rw [List.length_take] at hi hj
  rw [List.getElem_take, List.getElem_take] at e
  rcases Nat.lt_trichotomy i j with c | c | c
  · exact absurd e (key i j (by omega) (by omega) c (by omega))
  · exact c
  · exact absurd e.symm (key j i (by omega) (by omega) c (by omega))
theorem allOk_step {L : List ObjectD} {k : Nat} (h : allOk objB L k) (hk : k < L.length) (h1 : objB L[k] = true) (h2 : objAt (L.take k) L[k].module = none) : allOk objB L (k + 1) := by
  intro i hi hik
  by_cases c : i < k
  · exact h i hi c
  · obtain rfl : i = k := by omega
    exact ⟨h1, h2⟩
theorem linkModule_any (s : ByteArray) (p : Int) (a2 a3 a4 : Option Addr) (n2 n3 n4 c2 c3 c4 : Nat) (w : World) :
    Calls Tryz.prog 20 #[.agg #[.string s, .int .i64 p, .slice a2 n2 c2, .slice a3 n3 c3, .slice a4 n4 c4]] w fun e w' => e = .returned (.string s) ∧ Below w.heap.size w w' := by
  go_enter Tryz.func20, Tryz.ntmps20
  go_wp2
  go_ret
  exact ⟨rfl, (Below.refl _ _).alloc (Nat.le_refl _) _⟩
set_option maxRecDepth 100000 in
set_option maxHeartbeats 8000000 in
theorem allOnceO_any (a : Option Addr) (cp : Nat) (m : Md) (L : List ObjectD) (w : World) (hs : SlAt ObjectAt 5 w m (.slice a L.length cp) L) (hm : m.hi ≤ w.heap.size) (hL : L.length ≤ 1000) (t : TypeId) (fr : Nat × Nat) (hg : w.heap[1]? = some (.cells keyRow t fr)) :
    Calls Tryz.prog 18 #[.slice a L.length cp, .func (.func 19) #[] #[], .func (.func 20) #[] #[]] w fun e w' => e = .returned (.bool (allB L)) ∧ Below w.heap.size w w' := by
  have HS := hide hs
  have HG := hide hg
  have HM := hide hm
  have HYes := hide (allB_iff L).2
  have HNo := hide (fun i hi h => allB_no (L := L) (i := i) hi h)
  obtain ⟨R, hR⟩ : ∃ R, allB L = R := ⟨_, rfl⟩
  obtain ⟨n, hn⟩ : ∃ n, L.length = n := ⟨_, rfl⟩
  have HN := hide hn
  rw [hR] at HYes HNo ⊢
  rw [hn] at HS hL ⊢
  clear hs hg hR hn hm
  have hmk : ∀ w' : World, (Instr.makeMap 98 none).run Tryz.prog w' = .ok (.map (some w'.heap.size)) (w'.alloc (.map #[] 0)) := fun w' => by simp [Instr.makeMap, Result.andThen]
  obtain ⟨W1, hW1⟩ : ∃ W1, w.alloc (.map #[] 0) = W1 := ⟨_, rfl⟩
  have b1 : Below w.heap.size w W1 := by rw [← hW1]; exact (Below.refl _ _).alloc (Nat.le_refl _) _
  have hM1 := GM.made sM w
  rw [hW1] at hM1
  have HM1 := hide hM1
  have HB1 := hide b1
  have HW1 := hide hW1
  clear b1 hM1 hW1
  go_enter Tryz.func18, Tryz.ntmps18
  go_upto_region 3 with fail
  rw [HW1.out]
  clear hmk
  go_loopw [15] (fun i wr => ∃ k : Nat, i = .int .i64 k ∧ k ≤ n ∧ Hid (allOk objB L k) ∧ Hid (GM sM wr w.heap.size (sM.putW (numL (L.take k)) [] 0)) ∧ Hid (Below w.heap.size w wr)) (fun i _ => n - (intOf i).toNat)
  case atStart => exact ⟨0, rfl, by omega, hide (fun i _ h => absurd h (by omega)), HM1, HB1⟩
  case round =>
    obtain ⟨k, rfl, hk, Ha, HMk, Hb⟩ := hrel
    by_cases hp : k < n
    · have i1 : (k : Int) < n := by omega
      have hkl : k < L.length := by rw [HN.out]; exact hp
      have hsr := HS.out
      rw [← HN.out] at hsr
      obtain ⟨a', c', e, hrows⟩ := hsr.on ObjectAt.stays (Hb.out.mono HM.out)
      cases e
      obtain ⟨gb, of, rfl, g1, g2, -, he⟩ := hrows k hkl
      rw [HN.out] at g1
      have HOne := hide (fun h => HNo.out k hkl h)
      have HOk : Hid (oneOk L k = (objB L[k] && (objAt (L.take k) L[k].module).isNone)) := hide (by unfold oneOk; rw [List.getElem?_eq_getElem hkl])
      have HStep := hide (fun h1 h2 => allOk_step (k := k) Ha.out hkl h1 h2)
      have HPut := hide (numM_step hkl)
      have HGet : Hid (∀ s, sM.get (sM.putW (numL (L.take k)) [] 0) s = (objAt (L.take k) s).map fun i : Nat => (i : Int)) := hide fun s => numM_get (prefix_dist Ha.out (by omega)) s
      obtain ⟨x, hx⟩ : ∃ x, L[k] = x := ⟨_, rfl⟩
      rw [hx] at he HOk HStep HPut
      obtain ⟨⟨d0, d1⟩, hbd, u2, u3, u4, ⟨d2, d3, d4⟩, s2, s3, s4⟩ := he
      have HVal : Hid (∀ w', Below wr.heap.size wr w' → Calls Tryz.prog 19 #[.agg #[.string x.module, .int .i64 x.print, u2, u3, u4]] w' fun e w2 => e = .returned (.bool (objB x)) ∧ Below w'.heap.size w' w2) := hide fun w' bel => by
        have hbw := Hb.out.trans (bel.mono Hb.out.size)
        exact implObjectOK_any _ (m.inner gb) x w' ((show ObjectVal wr (m.inner gb) (.agg #[.string x.module, .int .i64 x.print, u2, u3, u4]) x from ⟨u2, u3, u4, rfl, hbd, s2, s3, s4⟩).on (bel.mono (by rw [Md.inner_hi]; exact Nat.le_trans HM.out Hb.out.size))) (by rw [Md.inner_hi]; exact Nat.le_trans HM.out hbw.size) t fr ((hbw.block _ (Array.getElem?_eq_some_iff.1 HG.out).1).trans HG.out)
      obtain ⟨a2, c2, rfl, -⟩ := s2
      obtain ⟨a3, c3, rfl, -⟩ := s3
      obtain ⟨a4, c4, rfl, -⟩ := s4
      simp only [Nat.add_zero] at d0
      have HGx := hide (HGet.out x.module)
      generalize objB x = rn at *
      generalize x.module = mo at *
      generalize x.print = pr at *
      generalize x.needs.length = l2 at *
      generalize x.globals.length = l3 at *
      generalize x.procs.length = l4 at *
      obtain ⟨W5, hW5⟩ : ∃ W5, wr.alloc (.cells #[.string mo, .int .i64 pr, .slice a2 l2 c2, .slice a3 l3 c3, .slice a4 l4 c4] 48) = W5 := ⟨_, rfl⟩
      have b5 : Below wr.heap.size wr W5 := by rw [← hW5]; exact (Below.refl _ _).alloc (Nat.le_refl _) _
      have x5 := Deep.blk_alloc_new wr (.cells #[.string mo, .int .i64 pr, .slice a2 l2 c2, .slice a3 l3 c3, .slice a4 l4 c4] 48)
      rw [hW5] at x5
      have HX5 := hide x5
      have HB5 := hide b5
      have HW5 := hide hW5
      clear hx hrows hbd hsr x5 b5 hW5
      have hsz5 : wr.heap.size < W5.heap.size := (Array.getElem?_eq_some_iff.1 HX5.out).1
      have hmr : w.heap.size < wr.heap.size := HMk.out.lt
      have HBox : Hid (∀ w', Below W5.heap.size W5 w' → w'.heap[wr.heap.size]? = some (.cells #[.string mo, .int .i64 pr, .slice a2 l2 c2, .slice a3 l3 c3, .slice a4 l4 c4] 48 (0, 0))) := hide fun w' bel => (bel.block _ hsz5).trans HX5.out
      have HMap : Hid (∀ w', Below W5.heap.size W5 w' → GM sM w' w.heap.size (sM.putW (numL (L.take k)) [] 0)) := hide fun w' bel => (HMk.out.below HB5.out).below bel
      have HKey := hide fun w' => linkModule_any mo pr a2 a3 a4 l2 l3 l4 c2 c3 c4 w'
      obtain ⟨o0, o1, o2, o3, o4⟩ : (W5.cell? ⟨wr.heap.size, 0, none⟩ = some (.string mo)) ∧ (W5.cell? ⟨wr.heap.size, 1, none⟩ = some (.int .i64 pr)) ∧ (W5.cell? ⟨wr.heap.size, 2, none⟩ = some (.slice a2 l2 c2)) ∧ (W5.cell? ⟨wr.heap.size, 3, none⟩ = some (.slice a3 l3 c3)) ∧ (W5.cell? ⟨wr.heap.size, 4, none⟩ = some (.slice a4 l4 c4)) := ⟨(heapCells HX5.out).1 0, (heapCells HX5.out).1 1, (heapCells HX5.out).1 2, (heapCells HX5.out).1 3, (heapCells HX5.out).1 4⟩
      go_upto_region 5 with fail
      rw [HW5.out]
      clear d0 d1 d2 d3 d4
      cases hmet : objAt (L.take k) mo with
      | some i =>
        have hg1 : sM.get (sM.putW (numL (L.take k)) [] 0) mo = some (i : Int) := by rw [HGx.out, hmet]; rfl
        have HG1 := hide hg1
        have HRf : Hid (R = false) := hide (HOne.out (by rw [HOk.out, hmet]; simp))
        clear hg1 hmet
        go_wp2_with (first
          | (go_at_call 20; refine (HKey.out _).mono ?_; rintro e w6 ⟨rfl, b6⟩; have hb6 := hide b6; obtain ⟨t0, t1, t2, t3, t4⟩ : (w6.cell? ⟨wr.heap.size, 0, none⟩ = some (.string mo)) ∧ (w6.cell? ⟨wr.heap.size, 1, none⟩ = some (.int .i64 pr)) ∧ (w6.cell? ⟨wr.heap.size, 2, none⟩ = some (.slice a2 l2 c2)) ∧ (w6.cell? ⟨wr.heap.size, 3, none⟩ = some (.slice a3 l3 c3)) ∧ (w6.cell? ⟨wr.heap.size, 4, none⟩ = some (.slice a4 l4 c4)) := ⟨(heapCells (HBox.out _ b6)).1 0, (heapCells (HBox.out _ b6)).1 1, (heapCells (HBox.out _ b6)).1 2, (heapCells (HBox.out _ b6)).1 3, (heapCells (HBox.out _ b6)).1 4⟩; clear b6)
          | (at_lookup; refine wpList_look_some sM_ok rfl _ _ rfl w.heap.size (sM.putW (numL (L.take k)) [] 0) mo rfl rfl (HMap.out _ hb6.out) i HG1.out ?_)
          | fail)
        go_ret
        exact ⟨by rw [HRf.out]; rfl, Hb.out.trans ((HB5.out.trans (hb6.out.mono HB5.out.size)).mono Hb.out.size)⟩
      | none =>
        have hg1 : sM.get (sM.putW (numL (L.take k)) [] 0) mo = none := by rw [HGx.out, hmet]; rfl
        have HG1 := hide hg1
        have HMet := hide hmet
        clear hg1 hmet
        go_upto_region 6 with (first
          | (go_at_call 20; refine (HKey.out _).mono ?_; rintro e w6 ⟨rfl, b6⟩; have hb6 := hide b6; obtain ⟨t0, t1, t2, t3, t4⟩ : (w6.cell? ⟨wr.heap.size, 0, none⟩ = some (.string mo)) ∧ (w6.cell? ⟨wr.heap.size, 1, none⟩ = some (.int .i64 pr)) ∧ (w6.cell? ⟨wr.heap.size, 2, none⟩ = some (.slice a2 l2 c2)) ∧ (w6.cell? ⟨wr.heap.size, 3, none⟩ = some (.slice a3 l3 c3)) ∧ (w6.cell? ⟨wr.heap.size, 4, none⟩ = some (.slice a4 l4 c4)) := ⟨(heapCells (HBox.out _ b6)).1 0, (heapCells (HBox.out _ b6)).1 1, (heapCells (HBox.out _ b6)).1 2, (heapCells (HBox.out _ b6)).1 3, (heapCells (HBox.out _ b6)).1 4⟩; clear b6)
          | (at_lookup; refine wpList_look_none sM_ok rfl _ _ rfl w.heap.size (sM.putW (numL (L.take k)) [] 0) mo rfl rfl (HMap.out _ hb6.out) HG1.out ?_)
          | fail)
        cases hrn : rn with
        | false =>
          have HRf : Hid (R = false) := hide (HOne.out (by rw [HOk.out, hrn]; rfl))
          rw [hrn] at HVal
          clear hrn
          go_wp2_with (go_at_call 19; refine (HVal.out _ (HB5.out.trans (hb6.out.mono HB5.out.size))).mono ?_; rintro e w7 ⟨rfl, b7⟩; have hb7 := hide b7; clear b7)
          go_ret
          exact ⟨by rw [HRf.out]; rfl, Hb.out.trans ((HB5.out.trans ((hb6.out.trans (hb7.out.mono hb6.out.size)).mono HB5.out.size)).mono Hb.out.size)⟩
        | true =>
          have HNext := hide (HStep.out hrn HMet.out)
          rw [hrn] at HVal
          clear hrn
          go_upto_region 8 with (go_at_call 19; refine (HVal.out _ (HB5.out.trans (hb6.out.mono HB5.out.size))).mono ?_; rintro e w7 ⟨rfl, b7⟩; have hb7 := hide (hb6.out.trans (b7.mono hb6.out.size)); obtain ⟨s0, s1, s2, s3, s4⟩ : (w7.cell? ⟨wr.heap.size, 0, none⟩ = some (.string mo)) ∧ (w7.cell? ⟨wr.heap.size, 1, none⟩ = some (.int .i64 pr)) ∧ (w7.cell? ⟨wr.heap.size, 2, none⟩ = some (.slice a2 l2 c2)) ∧ (w7.cell? ⟨wr.heap.size, 3, none⟩ = some (.slice a3 l3 c3)) ∧ (w7.cell? ⟨wr.heap.size, 4, none⟩ = some (.slice a4 l4 c4)) := ⟨(heapCells (HBox.out _ hb7.out)).1 0, (heapCells (HBox.out _ hb7.out)).1 1, (heapCells (HBox.out _ hb7.out)).1 2, (heapCells (HBox.out _ hb7.out)).1 3, (heapCells (HBox.out _ hb7.out)).1 4⟩; clear b7)
          clear t0 t1 t2 t3 t4
          go_wp2_with (first
            | (go_at_call 20; refine (HKey.out _).mono ?_; rintro e w8 ⟨rfl, b8⟩; have hb8 := hide (hb7.out.trans (b8.mono hb7.out.size)); clear b8)
            | (at_mapUpdate; refine wpList_put_g sM_ok rfl _ _ _ rfl w.heap.size (sM.putW (numL (L.take k)) [] 0) mo (k : Int) rfl rfl rfl (HMap.out _ hb8.out) ?_; intro w9 hM9 hg9 hs9; have HM9 := hide hM9; have HG9 := hide hg9; clear hM9 hg9 hs9)
            | fail)
          have hbr8 := Hb.out.trans ((HB5.out.trans (hb8.out.mono HB5.out.size)).mono Hb.out.size)
          have HB9 := hide (hbr8.grown HG9.out hbr8.size (fun j hj => by cases hj; exact Nat.le_refl _))
          go_roundw
          case rel => exact ⟨k + 1, by go_num, by omega, HNext, hide (by rw [HPut.out]; exact HM9.out), HB9⟩
          case measure => simp [intOf]; omega
    · have i1 : ¬ (k : Int) < n := by omega
      obtain rfl : k = n := by omega
      go_wp2
      go_ret
      exact ⟨by rw [HYes.out (by rw [HN.out]; exact Ha.out)]; rfl, Hb.out⟩
end Go.Proofs.YtfbglokjehmgeaaGreatDoor
