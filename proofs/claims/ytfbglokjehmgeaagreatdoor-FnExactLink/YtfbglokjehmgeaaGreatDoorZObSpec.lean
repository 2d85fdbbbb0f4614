/- The model's ObjectOK answers 'objB'. No condition. -/
import Derived.Test.YtfbglokjehmgeaaGreatDoorZVerZ
import Derived.Deep.LoopGhost
namespace Go.Proofs.YtfbglokjehmgeaaGreatDoor
open Go.ChangeShapes Go.WideShapes Go.ChangeAt Go.RowKit Go.PlainAid Go.Deep

theorem SRow.lit0 (w : World) (B : Nat) (hb : B ≤ w.heap.size) : SRow (w.alloc (.cells #[] 9)) B (.slice (some ⟨w.heap.size, 0, none⟩) 0 0) [] := World.ownsRow_lit w #[] 0 hb (by decide) rfl
theorem SRow.lt {w : World} {B : Nat} {v : Value} {l : List ByteArray} (h : SRow w B v l) (k : Nat) (hk : v.ownBlock = some k) : B ≤ k ∧ k < w.heap.size := World.ownsRow.lt h k hk
theorem names_snoc {α : Type} (f : α → ByteArray) {l : List α} {k : Nat} (h : k < l.length) (pre : List ByteArray) : pre ++ (l.take (k + 1)).map f = (pre ++ (l.take k).map f) ++ [f l[k]] := by
  rw [List.take_succ_eq_append_getElem h, List.map_append, List.append_assoc]
  rfl
/-- What stands of the object's own block, and of all that was there. -/
structure ObW (w : World) (cs : Array Value) (w' : World) : Prop where
  bel : Below w.heap.size w w'
  blk : w'.heap[w.heap.size]? = some (.cells cs 48 (0, 0))
theorem ObW.on {w : World} {cs : Array Value} {w1 w2 : World} (h : ObW w cs w1) {B : Nat} (hB : w.heap.size < B) (hb : Below B w1 w2) : ObW w cs w2 :=
  ⟨h.bel.trans (hb.mono (Nat.le_of_lt hB)), (hb.block w.heap.size hB).trans h.blk⟩
theorem ObW.lt {w : World} {cs : Array Value} {w1 : World} (h : ObW w cs w1) : w.heap.size < w1.heap.size := (Array.getElem?_eq_some_iff.1 h.blk).1
set_option maxRecDepth 100000 in
set_option maxHeartbeats 16000000 in
theorem specObjectOK_any (v : Value) (m : Md) (x : ObjectD) (w : World) (hv : ObjectVal w m v x) (hm : m.hi ≤ w.heap.size) :
    Calls Tryz.prog 14 #[v] w fun e w' => e = .returned (.bool (objB x)) ∧ Below w.heap.size w w' := by
  obtain ⟨s, p, ns, gs, ps⟩ := x
  obtain ⟨u2, u3, u4, rfl, ⟨hs, -, hn2, hn3, hn4⟩, ⟨a2, d2, rfl, H2⟩, ⟨a3, d3, rfl, H3⟩, ⟨a4, d4, rfl, H4⟩⟩ := hv
  simp only [] at hs hn2 hn3 hn4 H2 H3 H4
  obtain ⟨F2, hF2⟩ : ∃ F2, ns.all needB = F2 := ⟨_, rfl⟩
  obtain ⟨F3, hF3⟩ : ∃ F3, globsB [] gs = F3 := ⟨_, rfl⟩
  obtain ⟨F4, hF4⟩ : ∃ F4, procsB (gs.map fun x => x.name) ps = F4 := ⟨_, rfl⟩
  obtain ⟨n2, e2⟩ : ∃ n2, ns.length = n2 := ⟨_, rfl⟩
  obtain ⟨n3, e3⟩ : ∃ n3, gs.length = n3 := ⟨_, rfl⟩
  obtain ⟨n4, e4⟩ : ∃ n4, ps.length = n4 := ⟨_, rfl⟩
  have HX : Hid (objB ⟨s, p, ns, gs, ps⟩ = (ownB s && inB p 0 4294967295 && (decide (n2 ≤ 20) && F2) && (decide (n3 ≤ 100) && F3) && (decide (1 ≤ n4) && decide (n4 ≤ 60) && F4))) := hide (by rw [← hF2, ← hF3, ← hF4, ← e2, ← e3, ← e4]; rfl)
  have HR2 := hide H2
  have HR3 := hide H3
  have HR4 := hide H4
  have HF2 := hide hF2
  have HF3 := hide hF3
  have HF4 := hide hF4
  have HN2 := hide e2
  have HN3 := hide e3
  have HN4 := hide e4
  have HM := hide hm
  have Hs := hide hs
  rw [e2, e3, e4]
  rw [HX.out]
  have one : Below w.heap.size w (w.alloc (.cells #[.string s, .int .i64 p, .slice a2 n2 d2, .slice a3 n3 d3, .slice a4 n4 d4] 48)) := (Below.refl _ _).alloc (Nat.le_refl _) _
  have B1 := hide one
  have j4 : ((n4 : Int) == 0) = decide (n4 = 0) := by
    rw [Bool.eq_iff_iff]
    simp
  clear hs hn2 hn3 hn4 H2 H3 H4 hF2 hF3 hF4 e2 e3 e4 one hm HX
  cases ho : ownB s with
  | false =>
    as_aux_lemma =>
    clear j4
    go_enter Tryz.func14, Tryz.ntmps14
    go_wp2_with (go_at_call 42; refine (l02Name_gw s _ Hs.out).mono ?_; rintro e w1 ⟨rfl, gr⟩; have bel := gr.below; rw [ho])
    go_ret
    exact ⟨ret_bool (by simp), B1.out.trans (bel.mono B1.out.size)⟩
  | true =>
    cases hp : inB p 0 4294967295 with
    | false =>
      as_aux_lemma =>
      clear j4
      go_enter Tryz.func14, Tryz.ntmps14
      go_wp2_with (first
        | (go_at_call 42; refine (l02Name_gw s _ Hs.out).mono ?_; rintro e w1 ⟨rfl, gr⟩; have bel := gr.below; rw [ho]; obtain ⟨hcc, hff⟩ := bcell bel)
        | (go_at_call 43; refine (l01In_any _ _ _ _).mono ?_; rintro e w3 ⟨rfl, rfl⟩; rw [hp]))
      go_ret
      exact ⟨ret_bool (by simp), B1.out.trans (bel.mono B1.out.size)⟩
    | true =>
      by_cases l2 : 20 < n2
      · as_aux_lemma =>
        have i2 : (20 : Int) < n2 := by omega
        rw [decide_eq_false (show ¬ n2 ≤ 20 by omega)]
        clear j4
        go_enter Tryz.func14, Tryz.ntmps14
        go_wp2_with (first
          | (go_at_call 42; refine (l02Name_gw s _ Hs.out).mono ?_; rintro e w1 ⟨rfl, gr⟩; have bel := gr.below; rw [ho]; obtain ⟨hcc, hff⟩ := bcell bel)
          | (go_at_call 43; refine (l01In_any _ _ _ _).mono ?_; rintro e w3 ⟨rfl, rfl⟩; rw [hp]))
        go_ret
        exact ⟨ret_bool (by simp), B1.out.trans (bel.mono B1.out.size)⟩
      · have i2 : ¬ (20 : Int) < n2 := by omega
        rw [decide_eq_true (show n2 ≤ 20 by omega)]
        by_cases l3 : 100 < n3
        · as_aux_lemma =>
          have i3 : (100 : Int) < n3 := by omega
          rw [decide_eq_false (show ¬ n3 ≤ 100 by omega)]
          clear j4
          go_enter Tryz.func14, Tryz.ntmps14
          go_wp2_with (first
            | (go_at_call 42; refine (l02Name_gw s _ Hs.out).mono ?_; rintro e w1 ⟨rfl, gr⟩; have bel := gr.below; rw [ho]; obtain ⟨hcc, hff⟩ := bcell bel)
            | (go_at_call 43; refine (l01In_any _ _ _ _).mono ?_; rintro e w3 ⟨rfl, rfl⟩; rw [hp]))
          go_ret
          exact ⟨ret_bool (by simp), B1.out.trans (bel.mono B1.out.size)⟩
        · have i3 : ¬ (100 : Int) < n3 := by omega
          rw [decide_eq_true (show n3 ≤ 100 by omega)]
          by_cases l4 : n4 = 0
          · as_aux_lemma =>
            subst l4
            go_enter Tryz.func14, Tryz.ntmps14
            go_wp2_with (first
              | (go_at_call 42; refine (l02Name_gw s _ Hs.out).mono ?_; rintro e w1 ⟨rfl, gr⟩; have bel := gr.below; rw [ho]; obtain ⟨hcc, hff⟩ := bcell bel)
              | (go_at_call 43; refine (l01In_any _ _ _ _).mono ?_; rintro e w3 ⟨rfl, rfl⟩; rw [hp]))
            go_ret
            exact ⟨ret_bool (by simp), B1.out.trans (bel.mono B1.out.size)⟩
          · rw [decide_eq_false l4] at j4
            by_cases l5 : 60 < n4
            · as_aux_lemma =>
              have i5 : (60 : Int) < n4 := by omega
              rw [decide_eq_false (show ¬ n4 ≤ 60 by omega)]
              go_enter Tryz.func14, Tryz.ntmps14
              go_wp2_with (first
                | (go_at_call 42; refine (l02Name_gw s _ Hs.out).mono ?_; rintro e w1 ⟨rfl, gr⟩; have bel := gr.below; rw [ho]; obtain ⟨hcc, hff⟩ := bcell bel)
                | (go_at_call 43; refine (l01In_any _ _ _ _).mono ?_; rintro e w3 ⟨rfl, rfl⟩; rw [hp]))
              go_ret
              exact ⟨ret_bool (by simp), B1.out.trans (bel.mono B1.out.size)⟩
            · have i5 : ¬ (60 : Int) < n4 := by omega
              rw [decide_eq_true (show n4 ≤ 60 by omega), decide_eq_true (show 1 ≤ n4 by omega)]
              simp only [Bool.true_and]
              obtain ⟨cs, hcs⟩ : ∃ cs : Array Value, cs = #[.string s, .int .i64 p, .slice a2 n2 d2, .slice a3 n3 d3, .slice a4 n4 d4] := ⟨_, rfl⟩
              have HCs := hide hcs
              go_enter Tryz.func14, Tryz.ntmps14
              go_wp2_with (first
                | (go_at_call 42; refine (l02Name_gw s _ Hs.out).mono ?_; rintro e w1 ⟨rfl, gr⟩; have bel := gr.below; rw [ho]; obtain ⟨hcc, hff⟩ := bcell bel)
                | (go_at_call 43; refine (l01In_any _ _ _ _).mono ?_; rintro e w3 ⟨rfl, rfl⟩; rw [hp]))
              have HO : Hid (ObW w cs w1) := hide ⟨B1.out.trans (bel.mono B1.out.size), by rw [hcs]; exact (bel.block w.heap.size (by simp)).trans (Deep.blk_alloc_new w _)⟩
              have HC2 : Hid (∀ w', ObW w cs w' → w'.cell? ⟨w.heap.size, 2, none⟩ = some (.slice a2 n2 d2)) := hide fun w' h => by
                have := (heapCells h.blk).1 2
                rw [hcs] at this
                simpa using this
              have HC3 : Hid (∀ w', ObW w cs w' → w'.cell? ⟨w.heap.size, 3, none⟩ = some (.slice a3 n3 d3)) := hide fun w' h => by
                have := (heapCells h.blk).1 3
                rw [hcs] at this
                simpa using this
              have HC4 : Hid (∀ w', ObW w cs w' → w'.cell? ⟨w.heap.size, 4, none⟩ = some (.slice a4 n4 d4)) := hide fun w' h => by
                have := (heapCells h.blk).1 4
                rw [hcs] at this
                simpa using this
              clear hcs hcc hff bel gr i2 i3 i5 j4 ho hp
              go_loopg [3] n2 (fun q iv wr => ∃ k : Nat, iv = .int .i64 k ∧ k ≤ n2 ∧ q = n2 - k ∧ Hid ((ns.drop k).all needB = F2) ∧ Hid (ObW w cs wr))
              case atStart => exact ⟨0, rfl, by omega, rfl, hide (by rw [List.drop_zero]; exact HF2.out), HO⟩
              case round =>
                obtain ⟨k, rfl, hk, hq, HK, HB⟩ := hrel
                have HQ := hide hq
                have hzr := HB.out.lt
                have q2 := HC2.out _ HB.out
                clear hq
                by_cases hp : k < n2
                · as_aux_lemma =>
                  have i1 : (k : Int) < n2 := by omega
                  have hkl : k < ns.length := by rw [HN2.out]; exact hp
                  have hk1 := HK.out
                  rw [needs_at hkl] at hk1
                  obtain ⟨b, o, rfl, hb1, hb2, -, he⟩ := rows_on NeedAt.stays HR2.out (HB.out.bel.mono HM.out) k hkl
                  have hcap : k ≤ d2 := by have := hb1.2; omega
                  obtain ⟨x, hx⟩ : ∃ x, ns[k] = x := ⟨_, rfl⟩
                  rw [hx] at he hk1
                  clear hx hb1
                  obtain ⟨t, pp⟩ := x
                  obtain ⟨⟨c0, c1⟩, ⟨r0, -⟩⟩ := he
                  simp only [Nat.add_zero] at c0 c1 r0
                  have hbz : b < wr.heap.size := by have := HM.out; omega
                  have HS := hide r0
                  have HE : Hid (needB ⟨t, pp⟩ = (ownB t && inB pp 0 4294967295)) := hide rfl
                  have HK1 := hide hk1
                  clear hk1 r0
                  cases ho : ownB t with
                  | false =>
                    go_wp2_with (go_at_call 42; refine (l02Name_gw t _ HS.out).mono ?_; rintro e w5 ⟨rfl, gr⟩; have b5 := gr.below; rw [ho])
                    go_ret
                    exact ⟨ret_bool (by rw [← HK1.out, HE.out, ho]; simp), (HB.out.on hzr b5).bel⟩
                  | true =>
                    cases hp2 : inB pp 0 4294967295 with
                    | false =>
                      go_wp2_with (first
                        | (go_at_call 42; refine (l02Name_gw t _ HS.out).mono ?_; rintro e w5 ⟨rfl, gr⟩; have b5 := gr.below; rw [ho]; have q5 := (b5.cell (p := ⟨w.heap.size, 2, none⟩) hzr).trans q2; have q6 := (b5.cell (p := ⟨b, o + k * 2 + 1, none⟩) hbz).trans c1)
                        | (go_at_call 43; refine (l01In_any _ _ _ _).mono ?_; rintro e w3 ⟨rfl, rfl⟩; rw [hp2]))
                      go_ret
                      exact ⟨ret_bool (by rw [← HK1.out, HE.out, ho, hp2]; simp), (HB.out.on hzr b5).bel⟩
                    | true =>
                      go_wp2_with (first
                        | (go_at_call 42; refine (l02Name_gw t _ HS.out).mono ?_; rintro e w5 ⟨rfl, gr⟩; have b5 := gr.below; rw [ho]; have q5 := (b5.cell (p := ⟨w.heap.size, 2, none⟩) hzr).trans q2; have q6 := (b5.cell (p := ⟨b, o + k * 2 + 1, none⟩) hbz).trans c1)
                        | (go_at_call 43; refine (l01In_any _ _ _ _).mono ?_; rintro e w3 ⟨rfl, rfl⟩; rw [hp2]))
                      go_roundg (n2 - (k + 1))
                      case measure => rw [HQ.out]; omega
                      case rel => exact ⟨k + 1, by go_num, by omega, rfl, hide (by rw [← HK1.out, HE.out, ho, hp2]; simp), hide (HB.out.on hzr b5)⟩
                · as_aux_lemma =>
                  have i1 : ¬ (k : Int) < n2 := by omega
                  have HT : Hid (F2 = true) := hide (by
                    rw [← HK.out, List.drop_of_length_le (by rw [HN2.out]; omega)]
                    simp)
                  clear HK HQ hk hp
                  obtain ⟨wf, rfl⟩ : ∃ wf, wf = wr := ⟨_, rfl⟩
                  go_wp2_with fail
                  clear i1 q2
                  go_loopg [4, 5] n3 (fun q dv iv wr => ∃ k : Nat, iv = .int .i64 k ∧ k ≤ n3 ∧ q = n3 - k ∧ Hid (SRow wr wf.heap.size dv ([] ++ (gs.take k).map fun x => x.name)) ∧ Hid (globsB ([] ++ (gs.take k).map fun x => x.name) (gs.drop k) = F3) ∧ Hid (Below wf.heap.size wf wr))
                  case atStart => exact ⟨0, rfl, by omega, rfl, hide (SRow.lit0 _ _ (Nat.le_refl _)), hide (by simpa using HF3.out), hide ((Below.refl _ _).alloc (Nat.le_refl _) _)⟩
                  case round =>
                    obtain ⟨k, rfl, hk, hq, HR, HK, HG⟩ := hrel
                    have HQ := hide hq
                    have HB2 := hide (HB.out.on hzr HG.out)
                    have hzr2 := HB2.out.lt
                    have q3 := HC3.out _ HB2.out
                    clear hq
                    have hRR := HR.out
                    obtain ⟨va, vc, rfl⟩ := srow_form hRR
                    by_cases hp : k < n3
                    · as_aux_lemma =>
                      have i1 : (k : Int) < n3 := by omega
                      have hkl : k < gs.length := by rw [HN3.out]; exact hp
                      have hk1 := HK.out
                      rw [globs_at hkl] at hk1
                      have HSn := hide (names_snoc (fun x : GlobalD => x.name) hkl [])
                      obtain ⟨b, o, rfl, hb1, hb2, -, he⟩ := rows_on GlobalAt.stays HR3.out (HB2.out.bel.mono HM.out) k hkl
                      have hcap : k ≤ d3 := by have := hb1.2; omega
                      obtain ⟨x, hx⟩ : ∃ x, gs[k] = x := ⟨_, rfl⟩
                      rw [hx] at he hk1 HSn
                      clear hx hb1
                      obtain ⟨t, pp⟩ := x
                      obtain ⟨⟨c0, c1⟩, ⟨r0, -⟩⟩ := he
                      simp only [Nat.add_zero] at c0 c1 r0 hk1 HSn
                      have hbz : b < wr.heap.size := by have := HM.out; omega
                      have HS := hide r0
                      have HE : Hid (globB ⟨t, pp⟩ = (ownB t && inB pp 0 100)) := hide rfl
                      obtain ⟨sk, hsk⟩ : ∃ sk, [] ++ (gs.take k).map (fun x => x.name) = sk := ⟨_, rfl⟩
                      have hlen : sk.length = k := by rw [← hsk]; simp; omega
                      rw [hsk] at hk1 HR HK HSn hRR
                      rw [hsk, hlen]
                      rw [hlen] at hRR HR
                      have HK1 := hide hk1
                      have hsz := HG.out.size
                      obtain ⟨wa, hwa⟩ : ∃ wa, wa = wr.alloc (.cells #[.string t, .int .i64 pp] 82) := ⟨_, rfl⟩
                      have hxa : wa.heap[wr.heap.size]? = some (.cells #[.string t, .int .i64 pp] 82 (0, 0)) := by rw [hwa]; exact Deep.blk_alloc_new wr _
                      have hba : Below wr.heap.size wr wa := by rw [hwa]; exact (Below.refl _ _).alloc (Nat.le_refl _) _
                      have HA : Hid (∀ w5, Below wa.heap.size wa w5 → w5.cell? ⟨wr.heap.size, 0, none⟩ = some (.string t) ∧ w5.cell? ⟨wr.heap.size, 1, none⟩ = some (.int .i64 pp) ∧ Below wr.heap.size wr w5 ∧ wr.heap.size < w5.heap.size) := hide fun w5 b5 => by
                        have hlt : wr.heap.size < wa.heap.size := (Array.getElem?_eq_some_iff.1 hxa).1
                        have h5 := (b5.block wr.heap.size hlt).trans hxa
                        have y0 := (heapCells h5).1 0
                        have y1 := (heapCells h5).1 1
                        simp only [List.getElem?_toArray, List.getElem?_cons_zero, List.getElem?_cons_succ] at y0 y1
                        exact ⟨y0, y1, hba.trans (b5.mono hba.size), Nat.lt_of_lt_of_le hlt b5.size⟩
                      have HPl : Hid (∀ w5, Below wr.heap.size wr w5 → Calls Tryz.prog 44 #[.slice va k vc, .string t] w5 fun e w' => (∃ i : Int, e = .returned (.int .i64 i) ∧ decide (0 ≤ i) = seenB sk t) ∧ w' = w5) := hide fun w5 b5 => l01Place_any _ sk t wf.heap.size w5 (HR.out.on b5) (by rw [hlen]; omega)
                      clear hk1 r0 hsk HK hxa hba hRR
                      cases ho : ownB t with
                      | false =>
                        go_wp2_with (go_at_call 42; rw [← hwa]; refine (l02Name_gw t _ HS.out).mono ?_; rintro e w5 ⟨rfl, gr⟩; rw [ho]; obtain ⟨y0, y1, b6, hz5⟩ := HA.out _ gr.below)
                        go_ret
                        exact ⟨ret_bool (by rw [← HK1.out, HE.out, ho]; simp), (HB2.out.on hzr2 b6).bel⟩
                      | true =>
                        cases hp2 : inB pp 0 100 with
                        | false =>
                          go_wp2_with (first
                            | (go_at_call 42; rw [← hwa]; refine (l02Name_gw t _ HS.out).mono ?_; rintro e w5 ⟨rfl, gr⟩; rw [ho]; obtain ⟨y0, y1, b6, hz5⟩ := HA.out _ gr.below)
                            | (go_at_call 43; refine (l01In_any _ _ _ _).mono ?_; rintro e w3 ⟨rfl, rfl⟩; rw [hp2]))
                          go_ret
                          exact ⟨ret_bool (by rw [← HK1.out, HE.out, ho, hp2]; simp), (HB2.out.on hzr2 b6).bel⟩
                        | true =>
                          cases hmet : seenB sk t with
                          | true =>
                            go_wp2_with (first
                              | (go_at_call 42; rw [← hwa]; refine (l02Name_gw t _ HS.out).mono ?_; rintro e w5 ⟨rfl, gr⟩; rw [ho]; obtain ⟨y0, y1, b6, hz5⟩ := HA.out _ gr.below)
                              | (go_at_call 43; refine (l01In_any _ _ _ _).mono ?_; rintro e w3 ⟨rfl, rfl⟩; rw [hp2])
                              | (go_at_call 44; refine (HPl.out _ b6).mono ?_; rintro e w7 ⟨⟨i, rfl, hi⟩, rfl⟩; rw [hmet] at hi; have hi2 := of_decide_eq_true hi; clear hi))
                            go_ret
                            exact ⟨ret_bool (by rw [← HK1.out, HE.out, ho, hp2, hmet]; simp), (HB2.out.on hzr2 b6).bel⟩
                          | false =>
                            go_wp2_with (first
                              | (go_at_call 42; rw [← hwa]; refine (l02Name_gw t _ HS.out).mono ?_; rintro e w5 ⟨rfl, gr⟩; rw [ho]; obtain ⟨y0, y1, b6, hz5⟩ := HA.out _ gr.below)
                              | (go_at_call 43; refine (l01In_any _ _ _ _).mono ?_; rintro e w3 ⟨rfl, rfl⟩; rw [hp2])
                              | (go_at_call 44; refine (HPl.out _ b6).mono ?_; rintro e w7 ⟨⟨i, rfl, hi⟩, rfl⟩; rw [hmet] at hi; have hi2 : ¬ (0 : Int) ≤ i := of_decide_eq_false hi; clear hi)
                              | (at_builtin; have HR1 := hide ((HR.out.on b6).on ((Below.refl _ _).alloc (Nat.le_refl _) (.cells #[.string t] 9))); have hb6 := (HG.out.trans (b6.mono hsz)); refine wp_append_str rfl _ _ rfl wf.heap.size (.slice va k vc) sk rfl HR1.out w7.heap.size t rfl (str_new w7 t rfl) (by omega) (by have := hb6.size; simp; omega) ?_; intro v' w' h2 h3))
                            have hb7 : Below wf.heap.size wf w' := Below.grown (hb6.alloc hb6.size _) h3 (by have := hb6.size; simp; omega) (fun x hx => (HR1.out.lt x hx).1)
                            go_roundg (n3 - (k + 1))
                            case measure => rw [HQ.out]; omega
                            case rel => exact ⟨k + 1, by go_num, by omega, rfl, hide (by rw [HSn.out]; exact h2), hide (by rw [HSn.out, ← HK1.out, HE.out, ho, hp2, hmet]; simp), hide hb7⟩
                    · as_aux_lemma =>
                      have i1 : ¬ (k : Int) < n3 := by omega
                      have HT3 : Hid (F3 = true) := hide (by
                        rw [← HK.out, List.drop_of_length_le (by rw [HN3.out]; omega)]
                        rfl)
                      have HR0 : Hid (SRow wr wf.heap.size (.slice va n3 vc) (gs.map fun x => x.name)) := hide (by
                        have e : [] ++ (gs.take k).map (fun x : GlobalD => x.name) = gs.map fun x : GlobalD => x.name := by
                          rw [List.nil_append, List.take_of_length_le (by rw [HN3.out]; omega)]
                        rw [e] at hRR
                        rw [List.length_map, HN3.out] at hRR
                        exact hRR)
                      have hl3 : ([] ++ (gs.take k).map (fun x : GlobalD => x.name)).length = n3 := by
                        simp only [List.nil_append, List.length_map, List.length_take]
                        have := HN3.out
                        omega
                      rw [hl3]
                      have HG0 := hide HG.out
                      clear HK HQ hk hp hRR HR HG hl3
                      obtain ⟨wg, rfl⟩ : ∃ wg, wg = wr := ⟨_, rfl⟩
                      have hgn : (gs.map fun x => x.name).length = n3 := by rw [List.length_map]; exact HN3.out
                      obtain ⟨gn, hgs⟩ : ∃ gn, (gs.map fun x : GlobalD => x.name) = gn := ⟨_, rfl⟩
                      have HF4' : Hid (procsB gn ps = F4) := hide (by rw [← hgs]; exact HF4.out)
                      rw [hgs] at HR0 hgn
                      clear hgs HF4 HF3 HR3 HN3
                      go_wp2_with fail
                      clear i1 q3 hzr2 HB2
                      go_loopg [4, 7] n4 (fun q dv iv wr => ∃ k : Nat, iv = .int .i64 k ∧ k ≤ n4 ∧ q = n4 - k ∧ Hid (SRow wr wf.heap.size dv (gn ++ (ps.take k).map fun x => x.name)) ∧ Hid (procsB (gn ++ (ps.take k).map fun x => x.name) (ps.drop k) = F4) ∧ Hid (Below wf.heap.size wf wr))
                      case atStart => exact ⟨0, rfl, by omega, rfl, hide (by simpa using HR0.out), hide (by simpa using HF4'.out), HG0⟩
                      case round =>
                        obtain ⟨k, rfl, hk, hq, HR, HK, HG⟩ := hrel
                        have HQ := hide hq
                        have HB2 := hide (HB.out.on hzr HG.out)
                        have hzr2 := HB2.out.lt
                        have q3 := HC4.out _ HB2.out
                        clear hq
                        have hRR := HR.out
                        obtain ⟨va, vc, rfl⟩ := srow_form hRR
                        by_cases hp : k < n4
                        · as_aux_lemma =>
                          have i1 : (k : Int) < n4 := by omega
                          have hkl : k < ps.length := by rw [HN4.out]; exact hp
                          have hk1 := HK.out
                          rw [procs_at hkl, HN4.out] at hk1
                          have HSn := hide (names_snoc (fun x : CodeD => x.name) hkl gn)
                          obtain ⟨b, o, rfl, hb1, hb2, -, he⟩ := rows_on CodeAt.stays HR4.out (HB2.out.bel.mono HM.out) k hkl
                          have hcap : k ≤ d4 := by have := hb1.2; omega
                          obtain ⟨x, hx⟩ : ∃ x, ps[k] = x := ⟨_, rfl⟩
                          rw [hx] at he hk1 HSn
                          clear hx hb1
                          obtain ⟨t, pp, ce, rr, li⟩ := x
                          obtain ⟨⟨c0, c1, c2, c3⟩, ⟨r0, r1, r2, r3, r4⟩, u4, c4, hs4⟩ := he
                          obtain ⟨a5, d5, rfl, hrow4⟩ := hs4
                          simp only [Nat.add_zero] at c0 c1 c2 c3 c4 r0 hk1 HSn
                          have hbz : b < wr.heap.size := by have := HM.out; omega
                          obtain ⟨sk, hsk⟩ : ∃ sk, gn ++ (ps.take k).map (fun x => x.name) = sk := ⟨_, rfl⟩
                          have hlen : sk.length = n3 + k := by
                            have := HN4.out
                            rw [← hsk, List.length_append, hgn]
                            simp
                            omega
                          rw [hsk] at hk1 HR HK HSn hRR
                          rw [hsk, hlen]
                          rw [hlen] at hRR HR
                          have HK1 := hide hk1
                          have hsz := HG.out.size
                          obtain ⟨n5, hn5⟩ : ∃ n5, li.length = n5 := ⟨_, rfl⟩
                          obtain ⟨T, hT⟩ : ∃ T, verC ⟨t, pp, ce, rr, li⟩ = T := ⟨_, rfl⟩
                          obtain ⟨lb, hlb⟩ : ∃ lb, decide (k + 1 = n4) = lb := ⟨_, rfl⟩
                          have hlast : ((k : Int) == (n4 : Int) - 1) = lb := by
                            rw [← hlb, Bool.eq_iff_iff]
                            simp
                            omega
                          have hw1 : wrap64 ((n4 : Int) - 1) = (n4 : Int) - 1 := by unfold wrap64; omega
                          have HE : Hid (procB ⟨t, pp, ce, rr, li⟩ lb = (decide (T.1 = 0) && (emB t == lb))) := hide (by rw [← hT]; rfl)
                          rw [hlb] at HK1
                          obtain ⟨wa, hwa⟩ : ∃ wa, wa = wr.alloc (.cells #[.string t, .int .i64 pp, .int .i64 ce, .int .i64 rr, .slice a5 n5 d5] 86) := ⟨_, rfl⟩
                          have hxa : wa.heap[wr.heap.size]? = some (.cells #[.string t, .int .i64 pp, .int .i64 ce, .int .i64 rr, .slice a5 n5 d5] 86 (0, 0)) := by rw [hwa]; exact Deep.blk_alloc_new wr _
                          have hba : Below wr.heap.size wr wa := by rw [hwa]; exact (Below.refl _ _).alloc (Nat.le_refl _) _
                          have HA : Hid (∀ w5, Below wa.heap.size wa w5 → w5.cell? ⟨wr.heap.size, 0, none⟩ = some (.string t) ∧ w5.cell? ⟨w.heap.size, 4, none⟩ = some (.slice (some ⟨b, o, none⟩) n4 d4) ∧ Below wr.heap.size wr w5 ∧ wr.heap.size < w5.heap.size) := hide fun w5 b5 => by
                            have hlt : wr.heap.size < wa.heap.size := (Array.getElem?_eq_some_iff.1 hxa).1
                            have h5 := (b5.block wr.heap.size hlt).trans hxa
                            have y0 := (heapCells h5).1 0
                            simp only [List.getElem?_toArray, List.getElem?_cons_zero] at y0
                            have b6 := hba.trans (b5.mono hba.size)
                            exact ⟨y0, HC4.out _ (HB2.out.on hzr2 b6), b6, Nat.lt_of_lt_of_le hlt b5.size⟩
                          have HCV0 : CodeVal wr (m.inner b) (.agg #[.string t, .int .i64 pp, .int .i64 ce, .int .i64 rr, .slice a5 li.length d5]) ⟨t, pp, ce, rr, li⟩ := ⟨_, rfl, ⟨r0, r1, r2, r3, r4⟩, a5, d5, rfl, hrow4⟩
                          rw [hn5] at HCV0
                          have HCV := hide HCV0
                          have HVf : Hid (Calls Tryz.prog 45 #[.agg #[.string t, .int .i64 pp, .int .i64 ce, .int .i64 rr, .slice a5 n5 d5]] wa fun e w5 => e = .returned (.tuple #[.int .i64 T.1, .int .i64 T.2]) ∧ Below wa.heap.size wa w5) := hide (by
                            have := l04Verify_any _ (m.inner b) _ wa (HCV.out.on (hba.mono (by rw [Md.inner_hi]; have := HM.out; omega))) (by rw [Md.inner_hi]; have := HM.out; have := hba.size; omega)
                            unfold VPost at this
                            rwa [hT] at this)
                          have HPl : Hid (∀ w5, Below wr.heap.size wr w5 → Calls Tryz.prog 44 #[.slice va (n3 + k) vc, .string t] w5 fun e w' => (∃ i : Int, e = .returned (.int .i64 i) ∧ decide (0 ≤ i) = seenB sk t) ∧ w' = w5) := hide fun w5 b5 => by
                            have := l01Place_any _ sk t wf.heap.size w5 (HR.out.on b5) (by rw [hlen]; omega)
                            exact this
                          rw [hn5] at c4
                          obtain ⟨T1, T2⟩ := T
                          simp only [] at HVf HE
                          clear hk1 r0 r1 r2 r3 r4 hsk HK hxa hba hRR hT hlb hrow4 hn5 HCV HCV0
                          by_cases hz : T1 = 0
                          · have hz1 : (T1 != 0) = false := by simpa using hz
                            have HZ := hide hz
                            clear hz
                            cases eb : emB t <;> cases lb
                            all_goals
                              have HEb := hide eb
                              unfold emB at eb
                            case false.true =>
                              as_aux_lemma =>
                              go_wp2_with (go_at_call 45; rw [← hwa]; refine HVf.out.mono ?_; rintro e w5 ⟨rfl, b5⟩; obtain ⟨y0, y1, b6, hz5⟩ := HA.out _ b5)
                              go_ret
                              exact ⟨ret_bool (by rw [← HK1.out, HE.out, HEb.out]; simp), (HB2.out.on hzr2 b6).bel⟩
                            case true.false =>
                              as_aux_lemma =>
                              go_wp2_with (go_at_call 45; rw [← hwa]; refine HVf.out.mono ?_; rintro e w5 ⟨rfl, b5⟩; obtain ⟨y0, y1, b6, hz5⟩ := HA.out _ b5)
                              go_ret
                              exact ⟨ret_bool (by rw [← HK1.out, HE.out, HEb.out]; simp), (HB2.out.on hzr2 b6).bel⟩
                            all_goals
                              as_aux_lemma =>
                              cases hmet : seenB sk t with
                              | true =>
                                go_wp2_with (first
                                  | (go_at_call 45; rw [← hwa]; refine HVf.out.mono ?_; rintro e w5 ⟨rfl, b5⟩; obtain ⟨y0, y1, b6, hz5⟩ := HA.out _ b5)
                                  | (go_at_call 44; refine (HPl.out _ b6).mono ?_; rintro e w7 ⟨⟨i, rfl, hi⟩, rfl⟩; rw [hmet] at hi; have hi2 := of_decide_eq_true hi; clear hi))
                                go_ret
                                exact ⟨ret_bool (by rw [← HK1.out, hmet]; simp), (HB2.out.on hzr2 b6).bel⟩
                              | false =>
                                go_wp2_with (first
                                  | (go_at_call 45; rw [← hwa]; refine HVf.out.mono ?_; rintro e w5 ⟨rfl, b5⟩; obtain ⟨y0, y1, b6, hz5⟩ := HA.out _ b5)
                                  | (go_at_call 44; refine (HPl.out _ b6).mono ?_; rintro e w7 ⟨⟨i, rfl, hi⟩, rfl⟩; rw [hmet] at hi; have hi2 : ¬ (0 : Int) ≤ i := of_decide_eq_false hi; clear hi)
                                  | (at_builtin; have HR1 := hide ((HR.out.on b6).on ((Below.refl _ _).alloc (Nat.le_refl _) (.cells #[.string t] 9))); have hb6 := (HG.out.trans (b6.mono hsz)); refine wp_append_str rfl _ _ rfl wf.heap.size (.slice va (n3 + k) vc) sk rfl HR1.out w7.heap.size t rfl (str_new w7 t rfl) (by omega) (by have := hb6.size; simp; omega) ?_; intro v' w' h2 h3))
                                have hb7 : Below wf.heap.size wf w' := Below.grown (hb6.alloc hb6.size _) h3 (by have := hb6.size; simp; omega) (fun x hx => (HR1.out.lt x hx).1)
                                go_roundg (n4 - (k + 1))
                                case measure => rw [HQ.out]; omega
                                case rel => exact ⟨k + 1, by go_num, by omega, rfl, hide (by rw [HSn.out]; exact h2), hide (by rw [HSn.out, ← HK1.out, HE.out, hmet, HEb.out, HZ.out]; simp), hide hb7⟩
                          · as_aux_lemma =>
                            have hz1 : (T1 != 0) = true := by simpa using hz
                            have HZ := hide hz
                            clear hz
                            go_wp2_with (go_at_call 45; rw [← hwa]; refine HVf.out.mono ?_; rintro e w5 ⟨rfl, b5⟩; obtain ⟨y0, y1, b6, hz5⟩ := HA.out _ b5)
                            go_ret
                            exact ⟨ret_bool (by rw [← HK1.out, HE.out, decide_eq_false HZ.out]; simp), (HB2.out.on hzr2 b6).bel⟩
                        · as_aux_lemma =>
                          have i1 : ¬ (k : Int) < n4 := by omega
                          have HT2 : Hid (F4 = true) := hide (by
                            rw [← HK.out, List.drop_of_length_le (by rw [HN4.out]; omega)]
                            rfl)
                          go_wp2
                          go_ret
                          exact ⟨ret_bool (by rw [HT.out, HT3.out, HT2.out]; rfl), HB2.out.bel⟩
end Go.Proofs.YtfbglokjehmgeaaGreatDoor
