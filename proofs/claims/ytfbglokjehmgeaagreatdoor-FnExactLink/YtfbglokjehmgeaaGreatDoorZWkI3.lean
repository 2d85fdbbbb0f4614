/- The program's step: an instruction that waits is looked at. No condition. -/
import Derived.Test.YtfbglokjehmgeaaGreatDoorZWkI2
import Derived.Test.YtfbglokjehmgeaaGreatDoorZVerM2
import Derived.Test.YtfbglokjehmgeaaGreatDoorZWkD
namespace Go.Proofs.YtfbglokjehmgeaaGreatDoor
open Go.ChangeShapes Go.WideShapes Go.ChangeAt Go.RowKit Go.Deep

theorem ins_op {x : InsD} {cells len result : Int} (h : insB x cells len result = true) : 1 ≤ x.op ∧ x.op ≤ 17 := by
  by_cases ho : 1 ≤ x.op ∧ x.op ≤ 17
  · exact ho
  · unfold insB at h
    rw [arg_out ho, Bool.and_false] at h
    cases h
theorem step_range {n i : Nat} {x : InsD} {d : List Int} {wt : List Bool} {di : Int} (e : d.getD i 0 = di) (h1 : di < takes x) : stepW n i x d wt = .bad 11 i := by
  unfold stepW
  simp only [e]
  rw [if_pos h1]
theorem step_deep {n i : Nat} {x : InsD} {d : List Int} {wt : List Bool} {di : Int} (e : d.getD i 0 = di) (h1 : ¬ di < takes x) (h2 : 60 < di - takes x + leaves x) : stepW n i x d wt = .bad 14 i := by
  unfold stepW
  simp only [e]
  rw [if_neg h1, if_pos h2]
theorem step_full {n i : Nat} {x : InsD} {d : List Int} {wt : List Bool} {di : Int} (e : d.getD i 0 = di) (h1 : ¬ di < takes x) (h2 : ¬ 60 < di - takes x + leaves x) (h3 : x.op = 14 ∧ di - takes x + leaves x ≠ 0) : stepW n i x d wt = .bad 8 i := by
  unfold stepW
  simp only [e]
  rw [if_neg h1, if_neg h2, if_pos h3]
theorem step_goes {n i : Nat} {x : InsD} {d : List Int} {wt : List Bool} {di : Int} (e : d.getD i 0 = di) (h1 : ¬ di < takes x) (h2 : ¬ 60 < di - takes x + leaves x) (h3 : ¬(x.op = 14 ∧ di - takes x + leaves x ≠ 0)) : stepW n i x d wt = goW n i (di - takes x + leaves x) (follows x i) d wt := by
  unfold stepW
  simp only [e]
  rw [if_neg h1, if_neg h2, if_neg h3]
theorem goW_two_bad {n i : Nat} {now t u : Int} {d : List Int} {wt : List Bool} {c p : Int} (h : goW n i now [t] d wt = .bad c p) : goW n i now [t, u] d wt = .bad c p := by
  by_cases h1 : t = (n : Int)
  · rw [goW, if_pos h1] at h ⊢
    exact h
  · by_cases h2 : d.getD t.toNat 0 < 0
    · rw [goW, if_neg h1, if_pos h2, goW] at h
      cases h
    · by_cases h3 : d.getD t.toNat 0 ≠ now
      · rw [goW, if_neg h1, if_neg h2, if_pos h3] at h ⊢
        exact h
      · rw [goW, if_neg h1, if_neg h2, if_neg h3, goW] at h
        cases h
theorem goW_two_go {n i : Nat} {now t u : Int} {d d' : List Int} {wt wt' : List Bool} (h : goW n i now [t] d wt = .go d' wt') : goW n i now [t, u] d wt = goW n i now [u] d' wt' := by
  by_cases h1 : t = (n : Int)
  · rw [goW, if_pos h1] at h
    cases h
  · by_cases h2 : d.getD t.toNat 0 < 0
    · rw [goW, if_neg h1, if_pos h2, goW] at h
      cases h
      rw [goW, if_neg h1, if_pos h2]
    · by_cases h3 : d.getD t.toNat 0 ≠ now
      · rw [goW, if_neg h1, if_neg h2, if_pos h3] at h
        cases h
      · rw [goW, if_neg h1, if_neg h2, if_neg h3, goW] at h
        cases h
        rw [goW, if_neg h1, if_neg h2, if_neg h3]
theorem StepR.from {r : VerW} {g : Nat} {sl : Value} {n : Nat} {w w1 w' : World} {e : Ending} (h : StepR r g sl n w1 e w') (b : Below g w w1) : StepR r g sl n w e w' := ⟨b.trans h.1, h.2⟩
set_option maxRecDepth 100000 in
set_option maxHeartbeats 8000000 in
theorem step_any (g : Nat) (a : Option Addr) (c n i : Nat) (l : List InsD) (m : Md) (cells result : Int) (d : List Int) (wt : List Bool) (w : World) (h : WkAt w g (.slice a n c) n d wt) (hn : l.length = n)
    (H : ∀ k (h : k < l.length), ∃ b o, a = some ⟨b, o, none⟩ ∧ (m.lo ≤ b ∧ l.length ≤ c) ∧ b < m.hi ∧ (m.made = true → ∀ j, w.frozen? ⟨b, j, none⟩ = false) ∧ InsAt (fun j => w.cell? ⟨b, o + k * 5 + j, none⟩) w (m.inner b) l[k]) (hm : m.hi ≤ g)
    (hi : i < l.length) (hI : insB l[i] cells n result = true) (hr : inB result 0 1 = true) (h0 : 0 ≤ d.getD i 0) (h60 : d.getD i 0 ≤ 60) :
    Calls Tryz.prog 133 #[.pointer (some ⟨g, 0, none⟩), .int .i64 i] w (StepR (stepW n i l[i] d wt) g (.slice a n c) n w) := by
  have hmix : Tryz.prog.follows .mixedOrders = true := by kernel_rfl
  have HWk := hide h
  obtain ⟨C, hC, hW⟩ := h
  obtain ⟨h1, h2, h3, ⟨h4, h5, h6⟩, h7⟩ := hW
  have hgz : g < w.heap.size := (Array.getElem?_eq_some_iff.1 hC).1
  have k0 := ((heapCells hC).1 0).trans h2
  obtain ⟨b, o, rfl, hb1, hb2, -, he⟩ := H i hi
  have hcap : i ≤ c := by have := hb1.2; omega
  have ho := ins_op hI
  have hbt := ins_takes hI hr
  have hlv := ins_leaves hI
  have hfl := follows_in hI (show i < n by omega)
  obtain ⟨x, hx⟩ : ∃ x, l[i] = x := ⟨_, rfl⟩
  rw [hx] at he ho hbt hlv hfl ⊢
  obtain ⟨op, ia, ib, im, iname⟩ := x
  obtain ⟨k, rfl⟩ : ∃ k : Nat, op = k := ⟨op.toNat, by simp only [] at ho; omega⟩
  obtain ⟨⟨c0, c1, c2, c3, c4⟩, -⟩ := he
  simp only [Nat.add_zero] at c0 c1 c2 c3 c4 ho
  obtain ⟨wd, tl, ll, f1, f2, o0, o1, o2, o3, o4, hop⟩ := op_row k (by omega) (by omega)
  obtain ⟨tk, htk⟩ : ∃ tk, takes ⟨k, ia, ib, im, iname⟩ = tk := ⟨_, rfl⟩
  obtain ⟨lv, hlv'⟩ : ∃ lv, leaves ⟨k, ia, ib, im, iname⟩ = lv := ⟨_, rfl⟩
  have HM : Hid (∀ w', Calls Tryz.prog 136 #[.agg #[.int .i64 (k : Int), .int .i64 ia, .int .i64 ib, .string im, .string iname], .agg #[.string wd, .int .i64 tl, .int .i64 ll, .func (.func f1) #[] #[], .func (.func f2) #[] #[]]] w' fun e w2 => e = .returned (.tuple #[.int .i64 tk, .int .i64 lv]) ∧ Gw w' w2) := hide fun w' => by
    have := moves_any k (by omega) (by omega) ia ib im iname wd tl ll f1 f2 (hop ia ib im iname) w'
    rwa [htk, hlv'] at this
  have HTL := hide (And.intro htk hlv')
  rw [htk, hlv'] at hbt
  rw [hlv'] at hlv
  obtain ⟨di, hdi⟩ : ∃ di, d.getD i 0 = di := ⟨_, rfl⟩
  have dc := ((heapCells hC).1 (91 + i)).trans ((h7 i (by omega)).2.1 h0)
  rw [hdi] at dc h0 h60
  have HDi := hide hdi
  have hw1 : wrap64 (di - tk) = di - tk := by unfold wrap64; omega
  have hw2 : wrap64 (di - tk + lv) = di - tk + lv := by unfold wrap64; omega
  have k17 : (k : Int) < 18 := by omega
  have kn : k < 18 := by omega
  have i2 : (i : Int) < 2000 := by omega
  have i3 : i < 2000 := by omega
  have i4 : (i : Int) < n := by omega
  have i5 : i < n := by omega
  have hbz : b < w.heap.size := by omega
  have HL : Hid (∀ (t : Nat) (ti : Int) (d1 : List Int) (wt1 : List Bool) (w' : World), ti = (t : Int) → t ≤ n → 0 ≤ di - tk + lv → WkAt w' g (.slice (some ⟨b, o, none⟩) n c) n d1 wt1 → Calls Tryz.prog 137 #[.pointer (some ⟨g, 0, none⟩), .int .i64 i, .int .i64 ti, .int .i64 (di - tk + lv)] w' (StepR (goW n i (di - tk + lv) [ti] d1 wt1) g (.slice (some ⟨b, o, none⟩) n c) n w')) := hide fun t ti d1 wt1 w' e ht hq hw => by
    subst e
    exact lead_any g _ c n i t _ d1 wt1 w' hw ht hq
  obtain ⟨W, hW⟩ : ∃ W, W = w.alloc (.cells #[.int .i64 (k : Int), .int .i64 ia, .int .i64 ib, .string im, .string iname] 139) := ⟨_, rfl⟩
  have bW : Below w.heap.size w W := by rw [hW]; exact (Below.refl _ _).alloc (Nat.le_refl _) _
  have x0 : W.heap[w.heap.size]? = some (.cells #[.int .i64 (k : Int), .int .i64 ia, .int .i64 ib, .string im, .string iname] 139 (0, 0)) := by rw [hW]; exact Deep.blk_alloc_new w _
  have hC' := (bW.block g hgz).trans hC
  have zW : w.heap.size < W.heap.size := (Array.getElem?_eq_some_iff.1 x0).1
  have R0 := ((heapCells hC').1 (1 + k * 5)).trans ((h3 (k * 5) (by omega)).trans o0)
  have R1 := ((heapCells hC').1 (1 + k * 5 + 1)).trans ((h3 (k * 5 + 1) (by omega)).trans o1)
  have R2 := ((heapCells hC').1 (1 + k * 5 + 2)).trans ((h3 (k * 5 + 2) (by omega)).trans o2)
  have R3 := ((heapCells hC').1 (1 + k * 5 + 3)).trans ((h3 (k * 5 + 3) (by omega)).trans o3)
  have R4 := ((heapCells hC').1 (1 + k * 5 + 4)).trans ((h3 (k * 5 + 4) (by omega)).trans o4)
  have C0 := (heapCells x0).1 0
  have C1 := (heapCells x0).1 1
  have C2 := (heapCells x0).1 2
  have C3 := (heapCells x0).1 3
  have C4 := (heapCells x0).1 4
  simp only [List.getElem?_toArray, List.getElem?_cons_zero, List.getElem?_cons_succ] at C0 C1 C2 C3 C4
  have D0 := (bW.cell (p := ⟨g, 91 + i, none⟩) hgz).trans dc
  have HMg : Hid (∀ nd os, Calls Tryz.prog 136 #[.agg #[.int .i64 (k : Int), .int .i64 ia, .int .i64 ib, .string im, .string iname], .agg #[.string wd, .int .i64 tl, .int .i64 ll, .func (.func f1) #[] #[], .func (.func f2) #[] #[]]] (Sort.grow (W.drewN nd) os) fun e w2 => e = .returned (.tuple #[.int .i64 tk, .int .i64 lv]) ∧ ∃ p : GrownBy, w2 = Sort.grow (W.drewN p.n) p.os) := hide fun nd os =>
    Calls.grown_of ((HM.out _).mono fun _ _ ⟨a, n, os, hq⟩ => ⟨a, n, os, hq⟩)
  have hgW : g < W.heap.size := by omega
  have r0 := fun n os => cell_grown (w := W) (a := ⟨g, 1 + k * 5, none⟩) hgW R0 n os
  have r1 := fun n os => cell_grown (w := W) (a := ⟨g, 1 + k * 5 + 1, none⟩) hgW R1 n os
  have r2 := fun n os => cell_grown (w := W) (a := ⟨g, 1 + k * 5 + 2, none⟩) hgW R2 n os
  have r3 := fun n os => cell_grown (w := W) (a := ⟨g, 1 + k * 5 + 3, none⟩) hgW R3 n os
  have r4 := fun n os => cell_grown (w := W) (a := ⟨g, 1 + k * 5 + 4, none⟩) hgW R4 n os
  have e0 := fun n os => cell_grown (w := W) (a := ⟨w.heap.size, 0, none⟩) zW C0 n os
  have e1 := fun n os => cell_grown (w := W) (a := ⟨w.heap.size, 1, none⟩) zW C1 n os
  have e2 := fun n os => cell_grown (w := W) (a := ⟨w.heap.size, 2, none⟩) zW C2 n os
  have e3 := fun n os => cell_grown (w := W) (a := ⟨w.heap.size, 3, none⟩) zW C3 n os
  have e4 := fun n os => cell_grown (w := W) (a := ⟨w.heap.size, 4, none⟩) zW C4 n os
  have dd := fun n os => cell_grown (w := W) (a := ⟨g, 91 + i, none⟩) hgW D0 n os
  have HWd : Hid (WkAt W g (.slice (some ⟨b, o, none⟩) n c) n d wt ∧ Below g w W) := hide ⟨HWk.out.below bW hgz, bW.mono (by omega)⟩
  have HFl := hide hfl
  have HI := hide hI
  rw [hx] at HI
  have HJ : Hid (k = 11 ∨ k = 12 → 0 ≤ ia ∧ ia < n) := hide fun q => ins_jump HI.out (by rcases q with q | q <;> simp [q])
  clear hC hC' h1 h2 h3 h4 h5 h7 x0 R0 R1 R2 R3 R4 C0 C1 C2 C3 C4 D0 o0 o1 o2 o3 o4 hop htk hlv' hdi hI hr hx hfl hb1 hm hi H bW HM HWk dc
  go_enter Tryz.func133, Tryz.ntmps133
  go_upto_region 2 with fail
  rw [← hW]
  clear hW
  go_cut [6, 7, 17] from 10 to 85 (fun s6 s7 s17 wc => s6 = .int .i64 tk ∧ s7 = .int .i64 lv ∧ Hid (Gw W wc))
  case first =>
    as_aux_lemma =>
    refine wp_region_quiet_grown (by assumption) (by kernel_rfl) ?_
    repeat (first | go_big_quiet_skip | quiet_step (first | (go_at_call 136; exact HMg.out _ _)))
    refine wpQuiet_nil ?_
    intro _ hw'
    obtain ⟨⟨nq, osq⟩, hw''⟩ := hw'
    subst hw''
    go_wp2_with fail
    go_meet
    case rel => exact ⟨rfl, rfl, hide ⟨nq, osq, rfl⟩⟩
  case rest =>
    obtain ⟨rfl, rfl, HG⟩ := hcut
    have hgw := HG.out.below
    have m0 := (hgw.cell (p := ⟨w.heap.size, 0, none⟩) zW).trans (by simpa using e0 0 #[])
    have m1 := (hgw.cell (p := ⟨w.heap.size, 1, none⟩) zW).trans (by simpa using e1 0 #[])
    have md := (hgw.cell (p := ⟨g, 91 + i, none⟩) hgW).trans (by simpa using dd 0 #[])
    have HWc : Hid (WkAt wc g (.slice (some ⟨b, o, none⟩) n c) n d wt ∧ Below g w wc) := hide ⟨HWd.out.1.below hgw hgW, HWd.out.2.trans (hgw.mono (by omega))⟩
    clear r0 r1 r2 r3 r4 e0 e1 e2 e3 e4 dd hgw HG HWd HMg c0 c1 c2 c3 c4 k0 hmix
    by_cases q1 : di < tk
    · have HS := hide (step_range (n := n) (i := i) (x := ⟨k, ia, ib, im, iname⟩) (wt := wt) HDi.out (by rw [HTL.out.1]; exact q1))
      have q1' : di - tk < 0 := by omega
      go_wp2_with fail
      go_ret
      exact StepR.bad HS.out HWc.out.2
    · have q1' : ¬ di - tk < 0 := by omega
      by_cases q2 : 60 < di - tk + lv
      · have HS := hide (step_deep (n := n) (i := i) (x := ⟨k, ia, ib, im, iname⟩) (wt := wt) HDi.out (by rw [HTL.out.1]; exact q1) (by rw [HTL.out.1, HTL.out.2]; exact q2))
        go_wp2_with fail
        go_ret
        exact StepR.bad HS.out HWc.out.2
      · have HGo : Hid (¬(k = 14 ∧ di - tk + lv ≠ 0) → stepW n i ⟨k, ia, ib, im, iname⟩ d wt = goW n i (di - tk + lv) (follows ⟨k, ia, ib, im, iname⟩ i) d wt) := hide fun q => by
          have := step_goes (n := n) (i := i) (x := ⟨k, ia, ib, im, iname⟩) (wt := wt) HDi.out (by rw [HTL.out.1]; exact q1) (by rw [HTL.out.1, HTL.out.2]; exact q2) (by rw [HTL.out.1, HTL.out.2]; exact fun e => q ⟨by have := e.1; simp only [] at this; omega, e.2⟩)
          rwa [HTL.out.1, HTL.out.2] at this
        have q3 : 0 ≤ di - tk + lv := by omega
        by_cases o14 : k = 14
        · subst o14
          by_cases q4 : 0 < di - tk + lv
          · have HS := hide (step_full (n := n) (i := i) (x := ⟨(14 : Nat), ia, ib, im, iname⟩) (wt := wt) HDi.out (by rw [HTL.out.1]; exact q1) (by rw [HTL.out.1, HTL.out.2]; exact q2) ⟨rfl, by rw [HTL.out.1, HTL.out.2]; omega⟩)
            go_wp2_with fail
            go_ret
            exact StepR.bad HS.out HWc.out.2
          · have HS := hide (HGo.out (by omega))
            go_wp2_with fail
            go_ret
            exact StepR.go (HS.out.trans (by rw [show follows ⟨((14 : Nat) : Int), ia, ib, im, iname⟩ i = [] from follows_14 i]; rfl)) HWc.out.2 HWc.out.1
        · have HS := hide (HGo.out (fun e => o14 e.1))
          have p14 : ((k : Int) == 14) = false := by simp; omega
          by_cases o17 : k = 17
          · subst o17
            go_wp2_with fail
            go_ret
            exact StepR.go (HS.out.trans (by rw [show follows ⟨((17 : Nat) : Int), ia, ib, im, iname⟩ i = [] from follows_17 i]; rfl)) HWc.out.2 HWc.out.1
          · have p17 : ((k : Int) == 17) = false := by simp; omega
            by_cases o11 : k = 11
            · obtain ⟨j1, j2⟩ := HJ.out (.inl o11)
              subst o11
              obtain ⟨q, rfl⟩ : ∃ q : Nat, ia = q := ⟨ia.toNat, by omega⟩
              have HR : Hid (stepW n i ⟨((11 : Nat) : Int), q, ib, im, iname⟩ d wt = goW n i (di - tk + lv) [(q : Int)] d wt) := hide (HS.out.trans (by rw [show follows ⟨((11 : Nat) : Int), q, ib, im, iname⟩ i = [(q : Int)] from follows_11 i]))
              have HLq := hide (HL.out q q d wt wc rfl (Nat.le_of_lt (Int.ofNat_lt.1 j2)) q3 HWc.out.1)
              cases hr1 : goW n i (di - tk + lv) [(q : Int)] d wt with
              | bad c9 p9 =>
                rw [hr1] at HLq
                have HRR := hide (HR.out.trans hr1)
                clear hr1
                go_wp2_with (go_at_call 137; refine HLq.out.mono ?_; rintro e w9 ⟨b9, rfl⟩; unfold fvI)
                go_ret
                exact StepR.bad HRR.out (HWc.out.2.trans b9)
              | go d9 wt9 =>
                rw [hr1] at HLq
                have HRR := hide (HR.out.trans hr1)
                clear hr1
                go_wp2_with (go_at_call 137; refine HLq.out.mono ?_; rintro e w9 ⟨b9, rfl, hk9⟩)
                go_ret
                exact StepR.go HRR.out (HWc.out.2.trans b9) hk9
            · have p11 : ((k : Int) == 11) = false := by simp; omega
              have hic : ((i + 1 : Nat) : Int) = (i : Int) + 1 := by omega
              have HIC := hide hic
              clear hic
              by_cases o12 : k = 12
              · obtain ⟨j1, j2⟩ := HJ.out (.inr o12)
                subst o12
                obtain ⟨q, rfl⟩ : ∃ q : Nat, ia = q := ⟨ia.toNat, by omega⟩
                have HR : Hid (stepW n i ⟨((12 : Nat) : Int), q, ib, im, iname⟩ d wt = goW n i (di - tk + lv) [(q : Int), (i : Int) + 1] d wt) := hide (HS.out.trans (by rw [show follows ⟨((12 : Nat) : Int), q, ib, im, iname⟩ i = [(q : Int), (i : Int) + 1] from follows_12 i]))
                have HLq := hide (HL.out q q d wt wc rfl (Nat.le_of_lt (Int.ofNat_lt.1 j2)) q3 HWc.out.1)
                cases hr1 : goW n i (di - tk + lv) [(q : Int)] d wt with
                | bad c9 p9 =>
                  have HRR := hide (HR.out.trans (goW_two_bad hr1))
                  rw [hr1] at HLq
                  clear hr1
                  go_wp2_with (go_at_call 137; refine HLq.out.mono ?_; rintro e w9 ⟨b9, rfl⟩; unfold fvI)
                  go_ret
                  exact StepR.bad HRR.out (HWc.out.2.trans b9)
                | go d9 wt9 =>
                  have HR2 := hide (HR.out.trans (goW_two_go hr1))
                  rw [hr1] at HLq
                  clear hr1
                  have HL2 : Hid (∀ w', WkAt w' g (.slice (some ⟨b, o, none⟩) n c) n d9 wt9 → Calls Tryz.prog 137 #[.pointer (some ⟨g, 0, none⟩), .int .i64 i, .int .i64 ((i : Int) + 1), .int .i64 (di - tk + lv)] w' (StepR (goW n i (di - tk + lv) [(i : Int) + 1] d9 wt9) g (.slice (some ⟨b, o, none⟩) n c) n w')) := hide fun w' hw => HL.out (i + 1) ((i : Int) + 1) d9 wt9 w' HIC.out.symm i5 q3 hw
                  cases hr2 : goW n i (di - tk + lv) [(i : Int) + 1] d9 wt9 with
                  | bad c8 p8 =>
                    rw [hr2] at HL2
                    have HRR := hide (HR2.out.trans hr2)
                    clear hr2
                    go_wp2_with (first
                      | (have hh := b9; clear hh; go_at_call 137; refine (HL2.out _ HK9.out).mono ?_; rintro e w8 ⟨b8, rfl⟩; unfold fvI)
                      | (go_at_call 137; refine HLq.out.mono ?_; rintro e w9 ⟨b9, rfl, hk9⟩; have HK9 := hide hk9; clear hk9))
                    go_ret
                    exact StepR.bad HRR.out ((HWc.out.2.trans b9).trans b8)
                  | go d8 wt8 =>
                    rw [hr2] at HL2
                    have HRR := hide (HR2.out.trans hr2)
                    clear hr2
                    go_wp2_with (first
                      | (have hh := b9; clear hh; go_at_call 137; refine (HL2.out _ HK9.out).mono ?_; rintro e w8 ⟨b8, rfl, hk8⟩)
                      | (go_at_call 137; refine HLq.out.mono ?_; rintro e w9 ⟨b9, rfl, hk9⟩; have HK9 := hide hk9; clear hk9))
                    go_ret
                    exact StepR.go HRR.out ((HWc.out.2.trans b9).trans b8) hk8
              · have p12 : ((k : Int) == 12) = false := by simp; omega
                have HR : Hid (stepW n i ⟨k, ia, ib, im, iname⟩ d wt = goW n i (di - tk + lv) [(i : Int) + 1] d wt) := hide (HS.out.trans (by rw [show follows ⟨(k : Int), ia, ib, im, iname⟩ i = [(i : Int) + 1] from follows_on (op := (k : Int)) i ⟨by omega, by omega, by omega, by omega⟩]))
                have HLq := hide (HL.out (i + 1) ((i : Int) + 1) d wt wc HIC.out.symm i5 q3 HWc.out.1)
                clear o11 o12 o14 o17
                cases hr1 : goW n i (di - tk + lv) [(i : Int) + 1] d wt with
                | bad c9 p9 =>
                  rw [hr1] at HLq
                  have HRR := hide (HR.out.trans hr1)
                  clear hr1
                  go_wp2_with (go_at_call 137; refine HLq.out.mono ?_; rintro e w9 ⟨b9, rfl⟩; unfold fvI)
                  go_ret
                  exact StepR.bad HRR.out (HWc.out.2.trans b9)
                | go d9 wt9 =>
                  rw [hr1] at HLq
                  have HRR := hide (HR.out.trans hr1)
                  clear hr1
                  go_wp2_with (go_at_call 137; refine HLq.out.mono ?_; rintro e w9 ⟨b9, rfl, hk9⟩)
                  go_ret
                  exact StepR.go HRR.out (HWc.out.2.trans b9) hk9
end Go.Proofs.YtfbglokjehmgeaaGreatDoor
