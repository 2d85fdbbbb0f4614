/- The program's FilesOK answers 'filesB'. Its table of words is a premise. -/
import Derived.Test.YtolchbfbbnkcdaaDoorFilB
import Derived.WalkLawsBesides
import Derived.Deep.Cut
namespace Go.Proofs.YtolchbfbbnkcdaaDoor
open Go.RowKit Go.PlainAid

theorem fileFits_gw (s t : ByteArray) (w : World) (ht : t.size ≤ maxLen) (HO' : ∀ w1, Below w.heap.size w w1 → Calls Tryd.prog 16 #[.string s] w1 fun e w' => e = .returned (.bool (ownB s)) ∧ Gw w1 w') :
    Calls Tryd.prog 12 #[.agg #[.string s, .string t]] w fun e w' => e = .returned (.bool (fileB ⟨s, t⟩)) ∧ Gw w w' := by
  have HO := hide HO'
  clear HO'
  unfold maxLen at ht
  show Calls Tryd.prog 12 #[.agg #[.string s, .string t]] w fun e w' => e = .returned (.bool (ownB s && decide (t.size ≤ 4000))) ∧ Gw w w'
  cases ho : ownB s with
  | false =>
    rw [Bool.false_and]
    go_enter Tryd.func12, Tryd.ntmps12
    go_wp2_with (go_at_call 16; refine (HO.out _ ((Below.refl _ _).alloc (Nat.le_refl _) _)).mono ?_; rintro e w1 ⟨rfl, gw0⟩; have bel0 := gw0.below; rw [ho]; obtain ⟨hc, hf⟩ := bcell bel0; have hz : w.heap.size < w1.heap.size := (by have := bel0.size; simp at this; omega))
    go_ret
    exact ⟨rfl, (Gw.one _ _).trans gw0⟩
  | true =>
    rw [Bool.true_and]
    by_cases hq : t.size ≤ 4000
    · rw [decide_eq_true hq]
      have hq' : (t.size : Int) ≤ 4000 := by omega
      go_enter Tryd.func12, Tryd.ntmps12
      go_wp2_with (go_at_call 16; refine (HO.out _ ((Below.refl _ _).alloc (Nat.le_refl _) _)).mono ?_; rintro e w1 ⟨rfl, gw0⟩; have bel0 := gw0.below; rw [ho]; obtain ⟨hc, hf⟩ := bcell bel0; have hz : w.heap.size < w1.heap.size := (by have := bel0.size; simp at this; omega))
      go_ret
      exact ⟨rfl, (Gw.one _ _).trans gw0⟩
    · rw [decide_eq_false hq]
      have hq' : ¬ (t.size : Int) ≤ 4000 := by omega
      go_enter Tryd.func12, Tryd.ntmps12
      go_wp2_with (go_at_call 16; refine (HO.out _ ((Below.refl _ _).alloc (Nat.le_refl _) _)).mono ?_; rintro e w1 ⟨rfl, gw0⟩; have bel0 := gw0.below; rw [ho]; obtain ⟨hc, hf⟩ := bcell bel0; have hz : w.heap.size < w1.heap.size := (by have := bel0.size; simp at this; omega))
      go_ret
      exact ⟨ret_bool (decide_eq_false (by omega)), (Gw.one _ _).trans gw0⟩
set_option maxHeartbeats 4000000 in
theorem implFilesOK_any (v : Value) (m : Md) (l : List FileD) (w : World) (hn : l.length ≤ maxLen) (h : SlAt FileAt 2 w m v l) (hm : m.hi ≤ w.heap.size) (t : TypeId) (fr : Nat × Nat) (hg : w.heap[0]? = some (.cells keyRow t fr)) :
    Calls Tryd.prog 7 #[v] w fun e w' => e = .returned (.bool (filesB l)) ∧ Below w.heap.size w w' := by
  have HF : Hid (∀ s u : ByteArray, s.size ≤ maxLen → u.size ≤ maxLen → ∀ w1, Below w.heap.size w w1 → ∀ nd os, Calls Tryd.prog 12 #[.agg #[.string s, .string u]] (Sort.grow (w1.drewN nd) os) fun e w' => e = .returned (.bool (fileB ⟨s, u⟩)) ∧ ∃ p : GrownBy, w' = Sort.grow (w1.drewN p.n) p.os) := hide fun s u hs hu w1 bel nd os =>
    Calls.grown_of ((fileFits_gw s u _ hu fun w2 bel2 => ownName_gw s w2 hs t fr (((bel.trans (((Gw.refl w1).grown nd os).below.trans (bel2.mono ((Gw.refl w1).grown nd os).below.size) |>.mono bel.size)).block 0 (Array.getElem?_eq_some_iff.1 hg).1).trans hg)).mono fun _ _ ⟨a, n, os, hq⟩ => ⟨a, n, os, hq⟩)
  clear hg
  have hmix : Tryd.prog.follows .mixedOrders = true := by kernel_rfl
  unfold maxLen at hn
  have HS := hide h
  obtain ⟨a, c, rfl, -⟩ := h
  obtain ⟨n, hl⟩ : ∃ n, l.length = n := ⟨_, rfl⟩
  obtain ⟨fb, hfb⟩ : ∃ fb, filesB l = fb := ⟨_, rfl⟩
  have HN := hide hl
  have HB := hide hfb
  rw [hl] at hn ⊢
  rw [hfb]
  clear hl hfb
  by_cases h10 : 10 < n
  · obtain rfl : fb = false := by rw [← HB.out]; exact files_many (by rw [HN.out]; exact h10)
    have i10 : (10 : Int) < n := by omega
    go_enter Tryd.func7, Tryd.ntmps7
    go_wp2
    go_ret
    exact ⟨rfl, Below.refl _ _⟩
  have i10 : ¬ (10 : Int) < n := by omega
  go_enter Tryd.func7, Tryd.ntmps7
  go_wp2
  go_loopw [10] (fun i wr => ∃ k : Nat, i = .int .i64 k ∧ k ≤ n ∧ Hid (∀ i, i < k → atB l i = true) ∧ Below w.heap.size w wr) (fun i _ => n - (intOf i).toNat)
  case atStart => exact ⟨0, rfl, by omega, hide (fun i hi => absurd hi (by omega)), Below.refl _ _⟩
  case round =>
    obtain ⟨k, rfl, hk, Hk, hbw⟩ := hrel
    by_cases hp : k < n
    · have i1 : (k : Int) < n := by omega
      have hkl : k < l.length := by rw [HN.out]; exact hp
      obtain ⟨a', c', e', hrows⟩ := HS.out.on FileAt.stays (hbw.mono hm)
      cases e'
      obtain ⟨b, o, rfl, hb1, hb2, -, he⟩ := hrows k hkl
      obtain ⟨x, hx⟩ : ∃ x, l[k] = x := ⟨_, rfl⟩
      have HX := hide hx
      rw [hx] at he
      obtain ⟨⟨c0, c1⟩, hs0, hs1⟩ := he
      obtain ⟨s, u⟩ := x
      simp only [Nat.add_zero] at c0 c1 hs0 hs1
      have Hs := hide hs0
      have Hu := hide hs1
      obtain ⟨W, hW⟩ : ∃ W, W = wr.alloc (.cells #[.string s, .string u] 33) := ⟨_, rfl⟩
      have x0 : W.heap[wr.heap.size]? = some (.cells #[.string s, .string u] 33 (0, 0)) := by rw [hW]; exact Deep.blk_alloc_new wr _
      have hbW := hide (show Below w.heap.size w W by rw [hW]; exact hbw.alloc hbw.size _)
      have hzW : w.heap.size ≤ W.heap.size := hbW.out.size
      have hz : wr.heap.size < W.heap.size := (Array.getElem?_eq_some_iff.1 x0).1
      have C0 := (heapCells x0).1 0
      have C1 := (heapCells x0).1 1
      simp only [List.getElem?_toArray, List.getElem?_cons_zero, List.getElem?_cons_succ] at C0 C1
      have d0 := fun n os => cell_grown (w := W) (a := ⟨wr.heap.size, 0, none⟩) hz C0 n os
      have d1 := fun n os => cell_grown (w := W) (a := ⟨wr.heap.size, 1, none⟩) hz C1 n os
      have HG : Hid (∀ nd os, Calls Tryd.prog 12 #[.agg #[.string s, .string u]] (Sort.grow (W.drewN nd) os) fun e w' => e = .returned (.bool (fileB ⟨s, u⟩)) ∧ ∃ p : GrownBy, w' = Sort.grow (W.drewN p.n) p.os) := hide (HF.out s u hs0 hs1 W hbW.out)
      clear HF C0 C1
      cases hf : fileB ⟨s, u⟩ with
      | false =>
        rw [hf] at HG
        obtain rfl : fb = false := by rw [← HB.out]; exact files_no hkl (at_no_file hkl HX.out hf)
        clear HS HN HB HX hrows hx x0 hs0 hs1
        by_cases k0 : k = 0
        · have K0 := hide k0
          have j0 : decide (0 < k) = false := decide_eq_false (by omega)
          clear k0
          go_upto_region 6 with fail
          rw [← hW]
          clear hW c0 c1
          refine wp_region_quiet_grown (by assumption) (by kernel_rfl) ?_
          repeat (first | go_big_quiet_skip | quiet_step (first | (go_at_call 12; exact HG.out _ _)))
          refine wpQuiet_nil ?_
          intro _ hw'
          obtain ⟨⟨nq, osq⟩, hw''⟩ := hw'
          subst hw''
          go_wp2
          go_ret
          exact ⟨rfl, hbW.out.trans (((Gw.refl _).grown nq osq).below.mono hzW)⟩
        · have j0 : (0 : Int) < (k : Int) := by omega
          clear k0
          go_upto_region 6 with fail
          rw [← hW]
          clear hW c0 c1
          refine wp_region_quiet_grown (by assumption) (by kernel_rfl) ?_
          repeat (first | go_big_quiet_skip | quiet_step (first | (go_at_call 12; exact HG.out _ _)))
          refine wpQuiet_nil ?_
          intro _ hw'
          obtain ⟨⟨nq, osq⟩, hw''⟩ := hw'
          subst hw''
          go_wp2
          go_ret
          exact ⟨rfl, hbW.out.trans (((Gw.refl _).grown nq osq).below.mono hzW)⟩
      | true =>
        rw [hf] at HG
        by_cases k0 : k = 0
        · have K0 := hide k0
          have HA := hide (show atB l k = true by
            obtain rfl := K0.out
            exact at_first hkl HX.out hf)
          have j0 : decide (0 < k) = false := decide_eq_false (by omega)
          clear k0 hrows hx x0 hs0 hs1
          go_upto_region 6 with fail
          rw [← hW]
          clear hW c0 c1
          refine wp_region_quiet_grown (by assumption) (by kernel_rfl) ?_
          repeat (first | go_big_quiet_skip | quiet_step (first | (go_at_call 12; exact HG.out _ _)))
          refine wpQuiet_nil ?_
          intro _ hw'
          obtain ⟨⟨nq, osq⟩, hw''⟩ := hw'
          subst hw''
          go_wp2
          go_roundw
          case rel => exact ⟨k + 1, by go_num, by omega, hide (fun i hi => by
            by_cases e : i < k
            · exact Hk.out i e
            · obtain rfl : i = k := by omega
              exact HA.out), hbW.out.trans (((Gw.refl _).grown nq osq).below.mono hzW)⟩
          case measure => simp [intOf]; omega
        · obtain ⟨q, rfl⟩ : ∃ q, k = q + 1 := ⟨k - 1, by omega⟩
          obtain ⟨b', o', e', hb1', hb2', -, he'⟩ := hrows q (by omega)
          cases e'
          obtain ⟨y, hy⟩ : ∃ y, l[q] = y := ⟨_, rfl⟩
          have HY := hide hy
          rw [hy] at he'
          obtain ⟨⟨p0, -⟩, -⟩ := he'
          obtain ⟨s', u'⟩ := y
          simp only [Nat.add_zero] at p0
          have hbz : b < wr.heap.size := by have := hbw.size; omega
          have e0 := fun n os => cell_grown (w := W) (a := ⟨b, o + q * 2, none⟩) (by show b < W.heap.size; omega) (by rw [hW]; exact (((Below.refl wr.heap.size wr).alloc (Nat.le_refl _) _).cell (p := ⟨b, o + q * 2, none⟩) hbz).trans p0) n os
          have j0 : decide ((0 : Int) < ((q + 1 : Nat) : Int)) = true := decide_eq_true (by omega)
          have j1 : IntKind.i64.wrap (q : Int) = (q : Int) := by rw [IntKind.wrap_i64]; omega
          have j2 : (q : Int) < n := by omega
          cases hr : lessB s' s with
          | false =>
            have hr' : Op.bytesLess s'.toList s.toList = false := hr
            obtain rfl : fb = false := by rw [← HB.out]; exact files_no hkl (at_no_rise hkl HX.out HY.out hr)
            clear HS HN HB HX hrows hx x0 hs0 hs1 k0 hy
            go_upto_region 6 with fail
            rw [← hW]
            clear hW c0 c1
            refine wp_region_quiet_grown (by assumption) (by kernel_rfl) ?_
            repeat (first | go_big_quiet_skip | quiet_step (first | (go_at_call 12; exact HG.out _ _)))
            refine wpQuiet_nil ?_
            intro _ hw'
            obtain ⟨⟨nq, osq⟩, hw''⟩ := hw'
            subst hw''
            go_wp2
            go_ret
            exact ⟨rfl, hbW.out.trans (((Gw.refl _).grown nq osq).below.mono hzW)⟩
          | true =>
            have hr' : Op.bytesLess s'.toList s.toList = true := hr
            have HA := hide (show atB l (q + 1) = true from at_yes hkl HX.out HY.out hf hr)
            clear hrows hx x0 hs0 hs1 k0 hy
            go_upto_region 6 with fail
            rw [← hW]
            clear hW c0 c1
            refine wp_region_quiet_grown (by assumption) (by kernel_rfl) ?_
            repeat (first | go_big_quiet_skip | quiet_step (first | (go_at_call 12; exact HG.out _ _)))
            refine wpQuiet_nil ?_
            intro _ hw'
            obtain ⟨⟨nq, osq⟩, hw''⟩ := hw'
            subst hw''
            go_wp2
            go_roundw
            case rel => exact ⟨q + 2, by go_num, by omega, hide (fun i hi => by
              by_cases e : i < q + 1
              · exact Hk.out i e
              · obtain rfl : i = q + 1 := by omega
                exact HA.out), hbW.out.trans (((Gw.refl _).grown nq osq).below.mono hzW)⟩
            case measure => simp [intOf]; omega
    · have i1 : ¬ (k : Int) < n := by omega
      go_wp2
      go_ret
      refine ⟨ret_bool ?_, hbw⟩
      have := files_yes (l := l) (by rw [HN.out]; omega) (fun i h => Hk.out i (by have := HN.out; omega))
      rw [← this]
      exact HB.out
end Go.Proofs.YtolchbfbbnkcdaaDoor
