/- The program's ObjectOK answers 'objB'. Its table of words is a premise. -/
import Derived.Test.YtjficafpkdeibaaDoorObP
namespace Go.Proofs.YtjficafpkdeibaaDoor
open Go.ChangeShapes Go.WideShapes Go.ChangeAt Go.RowKit Go.PlainAid Go.Deep Go.Maps Go.WideMaps

set_option maxRecDepth 100000 in
set_option maxHeartbeats 8000000 in
theorem implObjectOK_any (v : Value) (m : Md) (x : ObjectD) (w : World) (hv : ObjectVal w m v x) (hm : m.hi ≤ w.heap.size) (t : TypeId) (fr : Nat × Nat) (hg : w.heap[1]? = some (.cells keyRow t fr)) :
    Calls Tryd.prog 13 #[v] w fun e w' => e = .returned (.bool (objB x)) ∧ Below w.heap.size w w' := by
  have hgz : 1 < w.heap.size := (Array.getElem?_eq_some_iff.1 hg).1
  have hgw : ∀ w', Below w.heap.size w w' → w'.heap[1]? = some (.cells keyRow t fr) := fun w' bel => (bel.block 1 hgz).trans hg
  obtain ⟨s, p, ns, gs, ps⟩ := x
  obtain ⟨u2, u3, u4, rfl, ⟨hs, -, hn2, hn3, hn4⟩, H2, H3, H4⟩ := hv
  simp only [] at hs hn2 hn3 hn4 H2 H3 H4
  obtain ⟨N, hN⟩ : ∃ N, (decide (ns.length ≤ 20) && ns.all needB) = N := ⟨_, rfl⟩
  obtain ⟨G, hG⟩ : ∃ G, (decide (gs.length ≤ 100) && globsB [] gs) = G := ⟨_, rfl⟩
  obtain ⟨P, hP⟩ : ∃ P, (decide (1 ≤ ps.length) && decide (ps.length ≤ 60) && procsB (gs.map fun x => x.name) ps) = P := ⟨_, rfl⟩
  have HX : Hid (objB ⟨s, p, ns, gs, ps⟩ = (ownB s && inB p 0 4294967295 && N && G && P)) := hide (by rw [← hN, ← hG, ← hP]; rfl)
  have HO : Hid (∀ w1, Below w.heap.size w w1 → Calls Tryd.prog 30 #[.string s] w1 fun e w' => e = .returned (.bool (ownB s)) ∧ Below w1.heap.size w1 w') := hide fun w1 bel => ownName_any s w1 hs t fr (hgw w1 bel)
  have HNe : Hid (∀ w1, Below w.heap.size w w1 → Calls Tryd.prog 32 #[u2] w1 fun e w' => e = .returned (.bool N) ∧ Below w1.heap.size w1 w') := hide fun w1 bel => by
    have := needsOK_any u2 m ns w1 (H2.on NeedAt.stays (bel.mono hm)) (Nat.le_trans hm bel.size) t fr (hgw w1 bel)
    rwa [hN] at this
  have HGl : Hid (∀ w1 b, Below w.heap.size w w1 → w.heap.size ≤ b → MapAt w1 b 0 (.map []) → Calls Tryd.prog 33 #[u3, .map (some b)] w1 (MetPost G b (0 + gs.length) ([] ++ gs.map fun x => x.name) w1)) := hide fun w1 b bel hb hmap => by
    have := globalsOK_any u3 m gs b 0 (.map []) [] w1 (H3.on GlobalAt.stays (bel.mono hm)) (Nat.le_trans hm hb) hmap keysB_start (by decide) (Nat.lt_of_lt_of_le hgz hb) t fr (hgw w1 bel)
    rwa [hG] at this
  have HPr : Hid (∀ w1 b n D, Below w.heap.size w w1 → w.heap.size ≤ b → n ≤ 100000 → MapAt w1 b n D → KeysB D (gs.map fun x => x.name) → Calls Tryd.prog 34 #[u4, .map (some b)] w1 fun e w' => e = .returned (.bool P) ∧ Below b w1 w') := hide fun w1 b n D bel hb hn hmap hk => by
    have := procsOK_any u4 m ps b n D (gs.map fun x => x.name) w1 (H4.on CodeAt.stays (bel.mono hm)) (Nat.le_trans hm hb) hmap hk hn (Nat.lt_of_lt_of_le hgz hb) t fr (hgw w1 bel)
    rw [hP] at this
    exact this.mono fun _ _ ⟨a, b, _⟩ => ⟨a, b⟩
  have HGb : Hid (G = true → gs.length ≤ 100) := hide fun e => by
    rw [← hG] at e
    simp only [Bool.and_eq_true, decide_eq_true_eq] at e
    exact e.1
  rw [HX.out]
  obtain ⟨a2, d2, rfl, -⟩ := H2
  obtain ⟨a3, d3, rfl, -⟩ := H3
  obtain ⟨a4, d4, rfl, -⟩ := H4
  generalize ns.length = n2 at *
  obtain ⟨n3, hn3'⟩ : ∃ n3, gs.length = n3 := ⟨_, rfl⟩
  generalize ps.length = n4 at *
  rw [hn3'] at HGl HGb ⊢
  have one : Below w.heap.size w (w.alloc (.cells #[.string s, .int .i64 p, .slice a2 n2 d2, .slice a3 n3 d3, .slice a4 n4 d4] 45)) := (Below.refl _ _).alloc (Nat.le_refl _) _
  have B1 := hide one
  have hmm := @run_makeMap Tryd.prog
  clear hs hn2 hn3 hn4 hN hG hP hg hgw one hn3' hm hgz
  cases ho : ownB s with
  | false =>
    go_enter Tryd.func13, Tryd.ntmps13
    go_wp2_with (go_at_call 30; refine (HO.out _ B1.out).mono ?_; rintro e w2 ⟨rfl, b2⟩; rw [ho]; obtain ⟨hcc, hff⟩ := bcell b2)
    go_ret
    exact ⟨ret_bool (by simp), B1.out.trans (b2.mono B1.out.size)⟩
  | true =>
    cases hp : inB p 0 4294967295 with
    | false =>
      go_enter Tryd.func13, Tryd.ntmps13
      go_wp2_with (first
        | (go_at_call 30; refine (HO.out _ B1.out).mono ?_; rintro e w2 ⟨rfl, b2⟩; rw [ho]; obtain ⟨hcc, hff⟩ := bcell b2)
        | (go_at_call 31; refine (printFits_any p _).mono ?_; rintro e w6 ⟨rfl, rfl⟩; rw [hp]))
      go_ret
      exact ⟨ret_bool (by simp), B1.out.trans (b2.mono B1.out.size)⟩
    | true =>
      cases N with
      | false =>
        go_enter Tryd.func13, Tryd.ntmps13
        go_wp2_with (first
          | (go_at_call 30; refine (HO.out _ B1.out).mono ?_; rintro e w2 ⟨rfl, b2⟩; rw [ho]; obtain ⟨hcc, hff⟩ := bcell b2; have HB2 := hide (B1.out.trans (b2.mono B1.out.size)))
          | (go_at_call 31; refine (printFits_any p _).mono ?_; rintro e w6 ⟨rfl, rfl⟩; rw [hp])
          | (go_at_call 32; refine (HNe.out _ HB2.out).mono ?_; rintro e w3 ⟨rfl, b3⟩))
        go_ret
        exact ⟨ret_bool (by simp), HB2.out.trans (b3.mono HB2.out.size)⟩
      | true =>
        have HBx : Hid (∀ w2 w3, Below (w.alloc (.cells #[.string s, .int .i64 p, .slice a2 n2 d2, .slice a3 n3 d3, .slice a4 n4 d4] 45)).heap.size (w.alloc (.cells #[.string s, .int .i64 p, .slice a2 n2 d2, .slice a3 n3 d3, .slice a4 n4 d4] 45)) w2 → Below w2.heap.size w2 w3 → Below w.heap.size w w3 ∧ w.heap.size < w3.heap.size ∧ w3.heap[w.heap.size]? = some (.cells #[.string s, .int .i64 p, .slice a2 n2 d2, .slice a3 n3 d3, .slice a4 n4 d4] 45 (0, 0))) := hide fun w2 w3 b2 b3 => by
          have hb := b2.trans (b3.mono b2.size)
          have hs := hb.size
          have hc := (hb.block w.heap.size (by simp)).trans (Deep.blk_alloc_new w (.cells #[.string s, .int .i64 p, .slice a2 n2 d2, .slice a3 n3 d3, .slice a4 n4 d4] 45))
          simp at hs
          exact ⟨B1.out.trans (hb.mono B1.out.size), by omega, hc⟩
        cases G with
        | false =>
          go_enter Tryd.func13, Tryd.ntmps13
          go_wp2_with (first
            | (go_at_call 30; refine (HO.out _ B1.out).mono ?_; rintro e w2 ⟨rfl, b2⟩; rw [ho]; obtain ⟨hcc, hff⟩ := bcell b2; have HB2 := hide (B1.out.trans (b2.mono B1.out.size)))
            | (go_at_call 31; refine (printFits_any p _).mono ?_; rintro e w6 ⟨rfl, rfl⟩; rw [hp])
            | (go_at_call 32; refine (HNe.out _ HB2.out).mono ?_; rintro e w3 ⟨rfl, b3⟩; obtain ⟨hB3, hz3, x3⟩ := HBx.out _ _ b2 b3; have q3 := (heapCells x3).1 3; have q4 := (heapCells x3).1 4; simp only [List.getElem?_toArray, List.getElem?_cons_zero, List.getElem?_cons_succ] at q3 q4)
            | (go_at_call 33; refine (HGl.out _ w3.heap.size (hB3.alloc hB3.size _) hB3.size (World.ownsMap_made _ _ _ _)).mono ?_; rintro e w4 ⟨rfl, b4, -⟩))
          go_ret
          exact ⟨ret_bool (by simp), (hB3.alloc hB3.size _).trans (b4.mono hB3.size)⟩
        | true =>
          go_enter Tryd.func13, Tryd.ntmps13
          go_wp2_with (first
            | (go_at_call 30; refine (HO.out _ B1.out).mono ?_; rintro e w2 ⟨rfl, b2⟩; rw [ho]; obtain ⟨hcc, hff⟩ := bcell b2; have HB2 := hide (B1.out.trans (b2.mono B1.out.size)))
            | (go_at_call 31; refine (printFits_any p _).mono ?_; rintro e w6 ⟨rfl, rfl⟩; rw [hp])
            | (go_at_call 32; refine (HNe.out _ HB2.out).mono ?_; rintro e w3 ⟨rfl, b3⟩; obtain ⟨hB3, hz3, x3⟩ := HBx.out _ _ b2 b3; have q3 := (heapCells x3).1 3; have q4 := (heapCells x3).1 4; simp only [List.getElem?_toArray, List.getElem?_cons_zero, List.getElem?_cons_succ] at q3 q4)
            | (go_at_call 33; refine (HGl.out _ w3.heap.size (hB3.alloc hB3.size _) hB3.size (World.ownsMap_made _ _ _ _)).mono ?_; rintro e w4 ⟨rfl, b4, hm4⟩; obtain ⟨cn4, D4, hM4, hc4, hk4⟩ := hm4 rfl; have hB4 := (hB3.alloc hB3.size _).trans (b4.mono hB3.size); have x4 := (b4.block w.heap.size hz3).trans ((Below.heap_alloc _ _ _ hz3).trans x3); have q5 := (heapCells x4).1 4; simp only [List.getElem?_toArray, List.getElem?_cons_zero, List.getElem?_cons_succ] at q5)
            | (go_at_call 34; refine (HPr.out _ w3.heap.size cn4 D4 hB4 hB3.size (by have := HGb.out trivial; omega) hM4 (by simpa using hk4)).mono ?_; rintro e w5 ⟨rfl, b5⟩))
          go_ret
          exact ⟨ret_bool (by simp), hB4.trans (b5.mono hB3.size)⟩
end Go.Proofs.YtjficafpkdeibaaDoor
