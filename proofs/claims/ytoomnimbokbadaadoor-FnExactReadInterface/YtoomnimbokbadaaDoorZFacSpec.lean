/- The model's InterfaceOK answers 'facB'. No condition. -/
import Derived.Test.YtoomnimbokbadaaDoorZFacItem
namespace Go.Proofs.YtoomnimbokbadaaDoor
open Go.RowKit Go.PlainAid

theorem ret_i64 {a b : Int} (h : a = b) : Ending.returned (.int .i64 a) = .returned (.int .i64 b) := by rw [h]
/-- Where a name stands among the first q, -1 if nowhere. -/
def findI (l : List Itm) (q : Nat) (s : ByteArray) : Int := if (l.take q).findIdx (fun x => x.name.toList == s.toList) < q then ((l.take q).findIdx (fun x => x.name.toList == s.toList) : Nat) else -1
theorem find_at {l : List Itm} {q : Nat} {s : ByteArray} (k : Nat) (hk : k < l.length) (hq : k < q) (h : (l[k].name.toList == s.toList) = true) (no : ∀ j (h : j < l.length), j < k → (l[j].name.toList == s.toList) = false) : findI l q s = k := by
  have e : (l.take q).findIdx (fun x => x.name.toList == s.toList) = k := by
    rw [List.findIdx_eq (by simp; omega)]
    exact ⟨by simpa using h, fun j hj => by simpa using no j (by omega) hj⟩
  unfold findI
  rw [e, if_pos hq]
theorem find_none {l : List Itm} {q : Nat} {s : ByteArray} (no : ∀ j (h : j < l.length), j < q → (l[j].name.toList == s.toList) = false) (hq : q ≤ l.length) : findI l q s = -1 := by
  have e : (l.take q).findIdx (fun x => x.name.toList == s.toList) = (l.take q).length := by
    rw [List.findIdx_eq_length]
    intro x hx
    obtain ⟨j, hj, rfl⟩ := List.getElem_of_mem hx
    simp at hj
    simpa using no j (by omega) (by omega)
  unfold findI
  rw [e, if_neg (by simp; omega)]
theorem find_met {l : List Itm} {q : Nat} {s : ByteArray} (hq : q ≤ l.length) : decide (0 ≤ findI l q s) = metB (seenOf l q) s := by
  have hl : (l.take q).length = q := by simp; omega
  have e := List.findIdx_lt_length (p := fun x : Itm => x.name.toList == s.toList) (xs := l.take q)
  rw [hl] at e
  unfold findI metB seenOf
  by_cases h : (l.take q).findIdx (fun x => x.name.toList == s.toList) < q
  · rw [if_pos h]
    obtain ⟨x, hx, hp⟩ := e.1 h
    rw [decide_eq_true (by omega)]
    exact (List.any_eq_true.2 ⟨x.name, List.mem_map.2 ⟨x, hx, rfl⟩, hp⟩).symm
  · rw [if_neg h]
    refine Eq.symm ?_
    rw [decide_eq_false (by omega), List.any_eq_false]
    intro z hz hp
    obtain ⟨x, hx, rfl⟩ := List.mem_map.1 hz
    exact h (e.2 ⟨x, hx, hp⟩)
theorem met_snoc {seen : List ByteArray} {t s : ByteArray} (h : (t.toList == s.toList) = true) : metB (seen ++ [t]) s = true := by unfold metB; rw [List.any_append]; simp only [List.any_cons, h, Bool.true_or, Bool.or_true]
theorem met_no {seen : List ByteArray} {t s : ByteArray} (hm : metB seen s = false) (h : (t.toList == s.toList) = false) : metB (seen ++ [t]) s = false := by
  unfold metB at hm ⊢
  rw [List.any_append, hm]
  simp only [List.any_cons, h, List.any_nil, Bool.or_false]
theorem take_names {l : List Itm} {k : Nat} (h : k < l.length) : seenOf l (k + 1) = seenOf l k ++ [l[k].name] := by
  unfold seenOf
  rw [List.take_succ_eq_append_getElem h, List.map_append]
  rfl
set_option maxHeartbeats 2000000 in
theorem l03Find_any (s : ByteArray) (a : Option Addr) (c q : Nat) (m : Md) (l : List Itm) (w : World) (hq : q ≤ l.length) (hn : l.length ≤ maxLen)
    (h : ∀ i (h : i < l.length), ∃ b o, a = some ⟨b, o, none⟩ ∧ (m.lo ≤ b ∧ l.length ≤ c) ∧ b < m.hi ∧ (m.made = true → ∀ j, w.frozen? ⟨b, j, none⟩ = false) ∧ ItmAt (fun j => w.cell? ⟨b, o + i * 6 + j, none⟩) w (m.inner b) l[i]) :
    Calls Tryd.prog 37 #[.slice a q c, .string s] w fun e w' => e = .returned (.int .i64 (findI l q s)) ∧ w = w' := by
  unfold maxLen at hn
  have H := hide h
  have HQ := hide hq
  have q1 : q ≤ 9223372036854775807 := by omega
  have HA := hide (find_at (l := l) (q := q) (s := s))
  have HZ := hide (find_none (l := l) (q := q) (s := s))
  generalize findI l q s = r at *
  clear h hq hn
  go_enter Tryd.func37, Tryd.ntmps37
  go_wp2
  go_loop [5] (fun i => ∃ k : Nat, i = .int .i64 k ∧ k ≤ q ∧ Hid (∀ j (h : j < l.length), j < k → (l[j].name.toList == s.toList) = false)) (fun i => q - (intOf i).toNat)
  case atStart => exact ⟨0, rfl, by omega, fun j _ h => absurd h (by omega)⟩
  case round =>
    obtain ⟨k, rfl, hk, Hk⟩ := hrel
    by_cases hp : k < q
    · have i1 : (k : Int) < q := by omega
      have hkl : k < l.length := Nat.lt_of_lt_of_le hp HQ.out
      obtain ⟨b, o, rfl, -, hb2, -, he⟩ := H.out k hkl
      obtain ⟨⟨-, -, -, -, c4⟩, -, -⟩ := he
      simp only [] at c4
      have HA' := hide (fun e => HA.out k hkl hp e Hk.out)
      obtain ⟨t, ht⟩ : ∃ t, l[k].name = t := ⟨_, rfl⟩
      have HT := hide ht
      rw [ht] at c4 HA'
      clear ht
      cases hs : (t.toList == s.toList) with
      | true =>
        go_wp2
        go_ret
        exact ⟨ret_i64 (HA'.out hs).symm, rfl⟩
      | false =>
        go_wp2
        go_round
        case rel =>
          refine ⟨k + 1, by go_num, by omega, fun j h hj => ?_⟩
          by_cases e : j < k
          · exact Hk.out j h e
          · obtain rfl : j = k := by omega
            rw [HT.out]
            exact hs
        case measure => simp [intOf]; omega
    · have i1 : ¬ (k : Int) < q := by omega
      obtain rfl : k = q := by omega
      go_wp2
      go_ret
      exact ⟨ret_i64 (HZ.out Hk.out HQ.out).symm, rfl⟩
set_option maxRecDepth 100000 in
set_option maxHeartbeats 8000000 in
theorem specInterfaceOK_any (v : Value) (m : Md) (x : Fac) (w : World) (h : FacAt w m v x) (hm : m.hi ≤ w.heap.size) :
    Calls Tryd.prog 15 #[v] w fun e w' => e = .returned (.bool (facB x)) ∧ Gw w w' := by
  have hmix : Tryd.prog.follows .mixedOrders = true := by kernel_rfl
  obtain ⟨u, rfl, hs, hn, a, c, rfl, h⟩ := h
  have H := hide h
  have HY := hide (fac_yes (x := x))
  have HX := hide (fac_no (x := x))
  have HF := hide (show ownB x.module = false → facB x = false from fun e => by unfold facB; rw [e]; rfl)
  have HG := hide (show 60 < x.items.length → facB x = false from fun e => by unfold facB; rw [decide_eq_false (by omega)]; simp)
  obtain ⟨fb, hfb⟩ : ∃ fb, facB x = fb := ⟨_, rfl⟩
  rw [hfb] at HY HX HF HG ⊢
  clear hfb h
  obtain ⟨s, l⟩ := x
  simp only [] at hs hn H HY HX HF HG
  have hn' := hn
  unfold maxLen at hn'
  have Hs := hide hs
  have Hn := hide hn
  obtain ⟨n, hl⟩ : ∃ n, l.length = n := ⟨_, rfl⟩
  have HN := hide hl
  rw [hl] at hn'
  show Calls _ _ #[.agg #[.string s, .slice a l.length c]] _ _
  rw [hl]
  clear hl hs hn
  cases ho : ownB s with
  | false =>
    rw [HF.out ho]
    go_enter Tryd.func15, Tryd.ntmps15
    go_wp2_with (go_at_call 35; refine (l02Name_gw s _ Hs.out).mono ?_; rintro e w1 ⟨rfl, gr⟩; have bel := gr.below; rw [ho])
    go_ret
    exact ⟨rfl, (Gw.one _ _).trans gr⟩
  | true =>
    by_cases h60 : 60 < n
    · rw [HG.out (by rw [HN.out]; exact h60)]
      have i60 : (60 : Int) < n := by omega
      go_enter Tryd.func15, Tryd.ntmps15
      go_wp2_with (go_at_call 35; refine (l02Name_gw s _ Hs.out).mono ?_; rintro e w1 ⟨rfl, gr⟩; have bel := gr.below; rw [ho]; obtain ⟨hc, hf⟩ := bcell bel)
      go_ret
      exact ⟨rfl, (Gw.one _ _).trans gr⟩
    · have i60 : ¬ (60 : Int) < n := by omega
      go_enter Tryd.func15, Tryd.ntmps15
      go_wp2_with (go_at_call 35; refine (l02Name_gw s _ Hs.out).mono ?_; rintro e w1 ⟨rfl, gr⟩; have bel := gr.below; rw [ho]; obtain ⟨hc, hf⟩ := bcell bel)
      have g0 : Gw w w1 := (Gw.one _ _).trans gr
      have k0 := (bel.cell (p := ⟨w.heap.size, 0, none⟩) (by simp)).trans (show _ = some (Value.string s) by simp [go_sem])
      have k1 := (bel.cell (p := ⟨w.heap.size, 1, none⟩) (by simp)).trans (show _ = some (Value.slice a n c) by simp [go_sem])
      have hlt : w.heap.size < w1.heap.size := by have := bel.size; simp at this; omega
      clear hc hf bel gr
      go_loopw [3] (fun i wr => ∃ k : Nat, i = .int .i64 k ∧ k ≤ n ∧ Hid (upto l k) ∧ Gw w1 wr) (fun i _ => n - (intOf i).toNat)
      case atStart => exact ⟨0, rfl, by omega, (fun i _ hi => absurd hi (by omega)), Gw.refl _⟩
      case round =>
        obtain ⟨k, rfl, hk, Hk, hgw⟩ := hrel
        have j0 := (hgw.below.cell (p := ⟨w.heap.size, 0, none⟩) hlt).trans k0
        have j1 := (hgw.below.cell (p := ⟨w.heap.size, 1, none⟩) hlt).trans k1
        have hltr : w.heap.size < wr.heap.size := Nat.lt_of_lt_of_le hlt hgw.below.size
        clear k0 k1
        by_cases hp : k < n
        · have i1 : (k : Int) < n := by omega
          have hkl : k < l.length := by rw [HN.out]; exact hp
          obtain ⟨x, hx⟩ : ∃ x, l[k] = x := ⟨_, rfl⟩
          have hall := rows_on ItmAt.stays H.out ((g0.trans hgw).below.mono hm)
          have HA := hide hall
          obtain ⟨b, o, rfl, hb1, hb2, -, he⟩ := hall k hkl
          have HT := hide (HX.out k hkl)
          have HS := hide (fun a b => upto_step Hk.out hkl a b)
          rw [hx] at he HT HS
          have hcap : k ≤ c := by have := hb1.2; omega
          have hbw : b < wr.heap.size := Nat.lt_of_lt_of_le hb2 (Nat.le_trans hm (g0.trans hgw).below.size)
          clear hall hb1 hx HX
          obtain ⟨y0, y1, y2, y3, t, ps⟩ := x
          simp only [] at he HT HS
          obtain ⟨⟨c0, c1, c2, c3, c4⟩, ⟨-, -, -, -, r4, r5⟩, u, c5, hu⟩ := he
          have HI : Hid (∀ n os, Calls Tryd.prog 36 #[.agg #[.int .i64 y0, .int .i64 y1, .int .i64 y2, .int .i64 y3, .string t, u]] (Sort.grow (wr.drewN n) os) fun e w' => e = .returned (.bool (itmB ⟨y0, y1, y2, y3, t, ps⟩)) ∧ ∃ p : GrownBy, w' = Sort.grow (wr.drewN p.n) p.os) := by
            intro n os
            have hg : Gw wr (Sort.grow (wr.drewN n) os) := ⟨n, os, rfl⟩
            exact Calls.grown_of ((l03Item_any y0 y1 y2 y3 t u (m.inner b) ps _ r4 r5 (hu.on PrmAt.stays (hg.below.mono (by rw [Md.inner_hi]; exact Nat.le_trans hm (g0.trans hgw).below.size))) (by rw [Md.inner_hi]; exact Nat.le_trans hm (Nat.le_trans (g0.trans hgw).below.size hg.below.size))).mono fun _ _ ⟨a, n, os, hq⟩ => ⟨a, n, os, hq⟩)
          have HFd : Hid (∀ n os, Calls Tryd.prog 37 #[.slice (some ⟨b, o, none⟩) k c, .string t] (Sort.grow (wr.drewN n) os) fun e w' => e = .returned (.int .i64 (findI l k t)) ∧ ∃ p : GrownBy, w' = Sort.grow (wr.drewN p.n) p.os) := by
            intro n os
            have hg : Gw wr (Sort.grow (wr.drewN n) os) := ⟨n, os, rfl⟩
            exact Calls.grown_of ((l03Find_any t _ c k m l _ (by rw [HN.out]; omega) Hn.out (rows_on ItmAt.stays H.out ((g0.trans (hgw.trans hg)).below.mono hm))).mono fun _ _ ⟨a, hq⟩ => ⟨a, 0, #[], by rw [← hq, Sort.grow_empty]; rfl⟩)
          have HM := hide (find_met (s := t) (Nat.le_of_lt hkl))
          generalize findI l k t = fi at *
          obtain ⟨a', c', rfl, -⟩ := id hu
          have q0 := fun n os => cell_grown (w := wr) (a := ⟨w.heap.size, 0, none⟩) hltr j0 n os
          have q1 := fun n os => cell_grown (w := wr) (a := ⟨w.heap.size, 1, none⟩) hltr j1 n os
          simp only [Nat.add_zero] at c0 c1 c2 c3 c4 c5
          have e0 := fun n os => cell_grown (w := wr) (a := ⟨b, o + k * 6, none⟩) hbw c0 n os
          have e1 := fun n os => cell_grown (w := wr) (a := ⟨b, o + k * 6 + 1, none⟩) hbw c1 n os
          have e2 := fun n os => cell_grown (w := wr) (a := ⟨b, o + k * 6 + 2, none⟩) hbw c2 n os
          have e3 := fun n os => cell_grown (w := wr) (a := ⟨b, o + k * 6 + 3, none⟩) hbw c3 n os
          have e4 := fun n os => cell_grown (w := wr) (a := ⟨b, o + k * 6 + 4, none⟩) hbw c4 n os
          have e5 := fun n os => cell_grown (w := wr) (a := ⟨b, o + k * 6 + 5, none⟩) hbw c5 n os
          clear c0 c1 c2 c3 c4 c5 hu r4 r5
          cases hit : itmB ⟨y0, y1, y2, y3, t, ps⟩ with
          | false =>
            go_wp2
            refine wp_region_quiet_grown (by assumption) (by kernel_rfl) ?_
            repeat (first | go_big_quiet_skip | quiet_step (first | (go_at_call 36; exact hit ▸ HI.out _ _)))
            refine wpQuiet_nil ?_
            intro _ hw'
            obtain ⟨⟨nq, osq⟩, hw''⟩ := hw'
            subst hw''
            go_wp2
            go_ret
            exact ⟨ret_bool (HT.out (.inl hit)).symm, (g0.trans hgw).grown _ _⟩
          | true =>
            by_cases hfi : 0 ≤ fi
            · have hmt : metB (seenOf l k) t = true := by rw [← HM.out]; simpa using hfi
              have hd : decide (0 ≤ fi) = true := by simpa using hfi
              have HMt := hide hmt
              clear hmt
              go_wp2
              refine wp_region_quiet_grown (by assumption) (by kernel_rfl) ?_
              repeat (first | go_big_quiet_skip | quiet_step (first | (go_at_call 36; exact hit ▸ HI.out _ _) | (go_at_call 37; exact HFd.out _ _)))
              refine wpQuiet_nil ?_
              intro _ hw'
              obtain ⟨⟨nq, osq⟩, hw''⟩ := hw'
              subst hw''
              go_wp2
              go_ret
              exact ⟨ret_bool (HT.out (.inr HMt.out)).symm, (g0.trans hgw).grown _ _⟩
            · have hmt : metB (seenOf l k) t = false := by rw [← HM.out]; simpa using hfi
              have hd : decide (0 ≤ fi) = false := by simpa using hfi
              have HMt := hide hmt
              clear hmt
              go_wp2
              refine wp_region_quiet_grown (by assumption) (by kernel_rfl) ?_
              repeat (first | go_big_quiet_skip | quiet_step (first | (go_at_call 36; exact hit ▸ HI.out _ _) | (go_at_call 37; exact HFd.out _ _)))
              refine wpQuiet_nil ?_
              intro _ hw'
              obtain ⟨⟨nq, osq⟩, hw''⟩ := hw'
              subst hw''
              go_wp2
              go_roundw
              case rel => exact ⟨k + 1, by go_num, by omega, HS.out hit HMt.out, hgw.grown _ _⟩
              case measure => simp [intOf]; omega
        · have i1 : ¬ (k : Int) < n := by omega
          obtain rfl : k = n := by omega
          go_wp2
          go_ret
          exact ⟨ret_bool (HY.out ho (by rw [HN.out]; omega) (by rw [HN.out]; exact Hk.out)).symm, g0.trans hgw⟩
end Go.Proofs.YtoomnimbokbadaaDoor
