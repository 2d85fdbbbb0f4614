/- The model's FilesOK answers 'filesB'. No condition. -/
import Derived.Test.YtolchbfbbnkcdaaDoorFilB
import Derived.WalkLawsBesides
import Derived.Deep.Cut
namespace Go.Proofs.YtolchbfbbnkcdaaDoor
open Go.RowKit Go.PlainAid

set_option maxHeartbeats 4000000 in
theorem specFilesOK_any (v : Value) (m : Md) (l : List FileD) (w : World) (hn : l.length ≤ maxLen) (h : SlAt FileAt 2 w m v l) (hm : m.hi ≤ w.heap.size) :
    Calls Tryd.prog 5 #[v] w fun e w' => e = .returned (.bool (filesB l)) ∧ Below w.heap.size w w' := by
  have HF : Hid (∀ s : ByteArray, s.size ≤ maxLen → ∀ w1, ∀ nd os, Calls Tryd.prog 10 #[.string s] (Sort.grow (World.drewN w1 nd) os) fun e w' => e = .returned (.bool (ownB s)) ∧ ∃ p : GrownBy, w' = Sort.grow (w1.drewN p.n) p.os) := hide fun s hs w1 nd os =>
    Calls.grown_of ((l02Name_gw s _ hs).mono fun _ _ ⟨a, n, os, hq⟩ => ⟨a, n, os, hq⟩)
  have hmix : Tryd.prog.follows .mixedOrders = true := by kernel_rfl
  unfold maxLen at hn
  have HS := hide h
  obtain ⟨a, c, rfl, -⟩ := h
  obtain ⟨n, hl⟩ : ∃ n, l.length = n := ⟨_, rfl⟩
  obtain ⟨fb, hfb⟩ : ∃ fb, filesB l = fb := ⟨_, rfl⟩
  have HN := hide hl
  have HB := hide hfb
  rw [hl] at hn ⊢
  rw [hfb]
  clear hl hfb
  by_cases h10 : 10 < n
  · obtain rfl : fb = false := by rw [← HB.out]; exact files_many (by rw [HN.out]; exact h10)
    have i10 : (10 : Int) < n := by omega
    go_enter Tryd.func5, Tryd.ntmps5
    go_wp2
    go_ret
    exact ⟨rfl, Below.refl _ _⟩
  have i10 : ¬ (10 : Int) < n := by omega
  go_enter Tryd.func5, Tryd.ntmps5
  go_wp2
  go_loopw [3] (fun i wr => ∃ k : Nat, i = .int .i64 k ∧ k ≤ n ∧ Hid (∀ i, i < k → atB l i = true) ∧ Below w.heap.size w wr) (fun i _ => n - (intOf i).toNat)
  case atStart => exact ⟨0, rfl, by omega, hide (fun i hi => absurd hi (by omega)), Below.refl _ _⟩
  case round =>
    obtain ⟨k, rfl, hk, Hk, hbw⟩ := hrel
    by_cases hp : k < n
    · have i1 : (k : Int) < n := by omega
      have hkl : k < l.length := by rw [HN.out]; exact hp
      obtain ⟨a', c', e', hrows⟩ := HS.out.on FileAt.stays (hbw.mono hm)
      cases e'
      obtain ⟨b, o, rfl, hb1, hb2, -, he⟩ := hrows k hkl
      obtain ⟨x, hx⟩ : ∃ x, l[k] = x := ⟨_, rfl⟩
      have HX := hide hx
      rw [hx] at he
      obtain ⟨⟨c0, c1⟩, hs0, hs1⟩ := he
      obtain ⟨s, u⟩ := x
      simp only [Nat.add_zero] at c0 c1 hs0 hs1
      unfold maxLen at hs1
      have hbz : b < wr.heap.size := by have := hbw.size; omega
      have d0 := fun n os => cell_grown (w := wr) (a := ⟨b, o + k * 2, none⟩) hbz c0 n os
      have d1 := fun n os => cell_grown (w := wr) (a := ⟨b, o + k * 2 + 1, none⟩) hbz c1 n os
      have HG : Hid (∀ nd os, Calls Tryd.prog 10 #[.string s] (Sort.grow (wr.drewN nd) os) fun e w' => e = .returned (.bool (ownB s)) ∧ ∃ p : GrownBy, w' = Sort.grow (wr.drewN p.n) p.os) := hide (HF.out s hs0 wr)
      clear HF
      cases ho : ownB s with
      | false =>
        rw [ho] at HG
        have hf : fileB ⟨s, u⟩ = false := by unfold fileB; rw [ho]; rfl
        obtain rfl : fb = false := by rw [← HB.out]; exact files_no hkl (at_no_file hkl HX.out hf)
        clear HS HN HB HX hrows hx hs0 hs1
        go_upto_region 6 with fail
        clear c0 c1
        refine wp_region_quiet_grown (by assumption) (by kernel_rfl) ?_
        repeat (first | go_big_quiet_skip | quiet_step (first | (go_at_call 10; exact HG.out _ _)))
        refine wpQuiet_nil ?_
        intro _ hw'
        obtain ⟨⟨nq, osq⟩, hw''⟩ := hw'
        subst hw''
        go_wp2
        go_ret
        exact ⟨rfl, hbw.trans (((Gw.refl _).grown nq osq).below.mono hbw.size)⟩
      | true =>
        rw [ho] at HG
        by_cases hu : u.size ≤ 4000
        · have hu' : decide ((4000 : Int) < (u.size : Int)) = false := decide_eq_false (by omega)
          have hf : fileB ⟨s, u⟩ = true := by unfold fileB; rw [ho, decide_eq_true hu]; rfl
          by_cases k0 : k = 0
          · have K0 := hide k0
            have HA := hide (show atB l k = true by
              obtain rfl := K0.out
              exact at_first hkl HX.out hf)
            have j0 : decide (0 < k) = false := decide_eq_false (by omega)
            clear k0 hrows hx hs0 hu
            go_upto_region 6 with fail
            clear c0 c1
            refine wp_region_quiet_grown (by assumption) (by kernel_rfl) ?_
            repeat (first | go_big_quiet_skip | quiet_step (first | (go_at_call 10; exact HG.out _ _)))
            refine wpQuiet_nil ?_
            intro _ hw'
            obtain ⟨⟨nq, osq⟩, hw''⟩ := hw'
            subst hw''
            go_wp2
            go_roundw
            case rel => exact ⟨k + 1, by go_num, by omega, hide (fun i hi => by
              by_cases e : i < k
              · exact Hk.out i e
              · obtain rfl : i = k := by omega
                exact HA.out), hbw.trans (((Gw.refl _).grown nq osq).below.mono hbw.size)⟩
            case measure => simp [intOf]; omega
          · obtain ⟨q, rfl⟩ : ∃ q, k = q + 1 := ⟨k - 1, by omega⟩
            obtain ⟨b', o', e', hb1', hb2', -, he'⟩ := hrows q (by omega)
            cases e'
            obtain ⟨y, hy⟩ : ∃ y, l[q] = y := ⟨_, rfl⟩
            have HY := hide hy
            rw [hy] at he'
            obtain ⟨⟨p0, -⟩, -⟩ := he'
            obtain ⟨s', u'⟩ := y
            simp only [Nat.add_zero] at p0
            have e0 := fun n os => cell_grown (w := wr) (a := ⟨b, o + q * 2, none⟩) hbz p0 n os
            have j0 : decide ((0 : Int) < ((q + 1 : Nat) : Int)) = true := decide_eq_true (by omega)
            have j1 : IntKind.i64.wrap (q : Int) = (q : Int) := by rw [IntKind.wrap_i64]; omega
            have j2 : (q : Int) < n := by omega
            have j3 : (q : Int) + 1 < n := by omega
            have j4 : (0 : Int) ≤ (q : Int) + 1 := by omega
            have j5 : ((q : Int) + 1).toNat = q + 1 := by omega
            cases hr : lessB s' s with
            | false =>
              have hr' : Op.bytesLess s'.toList s.toList = false := hr
              obtain rfl : fb = false := by rw [← HB.out]; exact files_no hkl (at_no_rise hkl HX.out HY.out hr)
              clear HS HN HB HX hrows hx hs0 k0 hy hu
              go_upto_region 6 with fail
              clear c0 c1
              refine wp_region_quiet_grown (by assumption) (by kernel_rfl) ?_
              repeat (first | go_big_quiet_skip | quiet_step (first | (go_at_call 10; exact HG.out _ _)))
              refine wpQuiet_nil ?_
              intro _ hw'
              obtain ⟨⟨nq, osq⟩, hw''⟩ := hw'
              subst hw''
              go_wp2
              go_ret
              exact ⟨rfl, hbw.trans (((Gw.refl _).grown nq osq).below.mono hbw.size)⟩
            | true =>
              have hr' : Op.bytesLess s'.toList s.toList = true := hr
              have HA := hide (show atB l (q + 1) = true from at_yes hkl HX.out HY.out hf hr)
              clear hrows hx hs0 k0 hy hu
              go_upto_region 6 with fail
              clear c0 c1
              refine wp_region_quiet_grown (by assumption) (by kernel_rfl) ?_
              repeat (first | go_big_quiet_skip | quiet_step (first | (go_at_call 10; exact HG.out _ _)))
              refine wpQuiet_nil ?_
              intro _ hw'
              obtain ⟨⟨nq, osq⟩, hw''⟩ := hw'
              subst hw''
              go_wp2
              go_roundw
              case rel => exact ⟨q + 2, by go_num, by omega, hide (fun i hi => by
                by_cases e : i < q + 1
                · exact Hk.out i e
                · obtain rfl : i = q + 1 := by omega
                  exact HA.out), hbw.trans (((Gw.refl _).grown nq osq).below.mono hbw.size)⟩
              case measure => simp [intOf]; omega
        · have hu' : decide ((4000 : Int) < (u.size : Int)) = true := decide_eq_true (by omega)
          have hf : fileB ⟨s, u⟩ = false := by unfold fileB; rw [ho, decide_eq_false hu]; rfl
          obtain rfl : fb = false := by rw [← HB.out]; exact files_no hkl (at_no_file hkl HX.out hf)
          clear HS HN HB HX hrows hx hs0 hu
          go_upto_region 6 with fail
          clear c0 c1
          refine wp_region_quiet_grown (by assumption) (by kernel_rfl) ?_
          repeat (first | go_big_quiet_skip | quiet_step (first | (go_at_call 10; exact HG.out _ _)))
          refine wpQuiet_nil ?_
          intro _ hw'
          obtain ⟨⟨nq, osq⟩, hw''⟩ := hw'
          subst hw''
          go_wp2
          go_ret
          exact ⟨rfl, hbw.trans (((Gw.refl _).grown nq osq).below.mono hbw.size)⟩
    · have i1 : ¬ (k : Int) < n := by omega
      go_wp2
      go_ret
      refine ⟨ret_bool ?_, hbw⟩
      have := files_yes (l := l) (by rw [HN.out]; omega) (fun i h => Hk.out i (by have := HN.out; omega))
      rw [← this]
      exact HB.out
end Go.Proofs.YtolchbfbbnkcdaaDoor
