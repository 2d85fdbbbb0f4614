/- The model's InterfaceOK of an item. No condition. -/
import Derived.Test.YtoomnimbokbadaaDoorZFacB
import Derived.BigQuiet
import Derived.Shelf.SlSortCmp.QuietGrown
namespace Go.Proofs.YtoomnimbokbadaaDoor
open Go.RowKit Go.PlainAid

/-- A world behind draws and new blocks alone. -/
def Gw (w w' : World) : Prop := ∃ n os, w' = Sort.grow (w.drewN n) os
theorem Gw.refl (w : World) : Gw w w := ⟨0, #[], by rw [Sort.grow_empty]; rfl⟩
theorem Gw.grown {w w1 : World} (h : Gw w w1) (n : Nat) (os : Array Obj) : Gw w (Sort.grow (w1.drewN n) os) := by
  obtain ⟨m, os', rfl⟩ := h
  exact ⟨m + n, os' ++ os, by show Sort.grow (Sort.grow ((w.drewN m).drewN n) os') os = _; rw [Sort.grow_grow, World.drewN_drewN]⟩
theorem Gw.trans {w w1 w2 : World} (h : Gw w w1) (k : Gw w1 w2) : Gw w w2 := by
  obtain ⟨n, os, rfl⟩ := k
  exact h.grown n os
theorem Gw.one (w : World) (o : Obj) : Gw w (w.alloc o) := ⟨0, #[o], by rw [Sort.alloc_eq_grow]; rfl⟩
theorem Gw.below {w w' : World} (h : Gw w w') : Below w.heap.size w w' := by
  obtain ⟨n, os, rfl⟩ := h
  exact ⟨rfl, rfl, rfl, by simp, fun k hk => Sort.heap_grow_old (w.drewN n) os hk⟩
theorem l02Name_gw (s : ByteArray) (w : World) (hs : s.size ≤ maxLen) : Calls Tryd.prog 35 #[.string s] w fun e w' => e = .returned (.bool (ownB s)) ∧ Gw w w' := by
  cases hn : nameB s with
  | false =>
    rw [own_no1 hn]
    go_enter Tryd.func35, Tryd.ntmps35
    go_wp2_with (go_at_call 59; refine (specNameOK_any s _ hs).mono ?_; rintro e w' ⟨rfl, rfl⟩; rw [hn])
    go_ret
    exact ⟨rfl, Gw.refl _⟩
  | true =>
    cases hk : keyB s with
    | true =>
      rw [own_no2 hn hk]
      go_enter Tryd.func35, Tryd.ntmps35
      go_wp2_with (first | (go_at_call 59; refine (specNameOK_any s _ hs).mono ?_; rintro e w' ⟨rfl, rfl⟩; rw [hn]) | (go_at_call 60; refine (specIsKey_any s _).mono ?_; rintro e w' ⟨rfl, rfl⟩; rw [hk]))
      go_ret
      exact ⟨rfl, Gw.one _ _⟩
    | false =>
      rw [own_yes hn hk]
      go_enter Tryd.func35, Tryd.ntmps35
      go_wp2_with (first | (go_at_call 59; refine (specNameOK_any s _ hs).mono ?_; rintro e w' ⟨rfl, rfl⟩; rw [hn]) | (go_at_call 60; refine (specIsKey_any s _).mono ?_; rintro e w' ⟨rfl, rfl⟩; rw [hk]))
      go_ret
      exact ⟨rfl, Gw.one _ _⟩
theorem rest_len {k t len v : Int} {n : Nat} {pb : Bool} (h2 : k ≠ 2) (h : len ≠ 0) : restN k t len v n pb = false := by
  unfold restN
  rw [if_neg h2, decide_eq_false h]
  split
  · simp
  · split <;> simp
theorem rest_val {k t len v : Int} {n : Nat} {pb : Bool} (h1 : k ≠ 1) (h : v ≠ 0) : restN k t len v n pb = false := by
  unfold restN
  rw [if_neg h1, decide_eq_false h]
  split
  · simp
  · split <;> simp
theorem rest_par {k t len v : Int} {n : Nat} {pb : Bool} (h3 : k ≠ 3) (h : 0 < n) : restN k t len v n pb = false := by
  unfold restN
  rw [if_neg h3, decide_eq_false (show ¬ n = 0 by omega)]
  split
  · simp
  · split <;> simp
theorem rest_many {t len v : Int} {n : Nat} {pb : Bool} (h : 20 < n) : restN 3 t len v n pb = false := by
  unfold restN
  rw [decide_eq_false (show ¬ n ≤ 20 by omega)]
  simp
theorem rest_kind {k t len v : Int} {n : Nat} {pb : Bool} (h1 : k ≠ 1) (h2 : k ≠ 2) (h3 : k ≠ 3) : restN k t len v n pb = false := by
  unfold restN
  rw [if_neg h1, if_neg h2, if_neg h3]
set_option maxHeartbeats 4000000 in
theorem l03Item_any (x0 x1 x2 x3 : Int) (s : ByteArray) (v : Value) (m : Md) (l : List Prm) (w : World) (hs : s.size ≤ maxLen) (hn : l.length ≤ maxLen) (h : SlAt PrmAt 2 w m v l) (hm : m.hi ≤ w.heap.size) :
    Calls Tryd.prog 36 #[.agg #[.int .i64 x0, .int .i64 x1, .int .i64 x2, .int .i64 x3, .string s, v]] w fun e w' => e = .returned (.bool (ownB s && restN x0 x1 x2 x3 l.length (prmsB l))) ∧ Gw w w' := by
  unfold maxLen at hn
  have Hs : Hid (s.size ≤ maxLen) := hs
  obtain ⟨a, c, rfl, h⟩ := h
  have H : Hid (∀ i (h : i < l.length), ∃ b o, a = some ⟨b, o, none⟩ ∧ (m.lo ≤ b ∧ l.length ≤ c) ∧ b < m.hi ∧ (m.made = true → ∀ j, w.frozen? ⟨b, j, none⟩ = false) ∧ PrmAt (fun j => w.cell? ⟨b, o + i * 2 + j, none⟩) w (m.inner b) l[i]) := h
  obtain ⟨n, hl⟩ : ∃ n, l.length = n := ⟨_, rfl⟩
  obtain ⟨pb, hpb⟩ : ∃ pb, prmsB l = pb := ⟨_, rfl⟩
  have HN : Hid (l.length = n) := hl
  have HB : Hid (prmsB l = pb) := hpb
  rw [hl] at hn ⊢
  rw [hpb]
  clear h hl hs hpb
  cases ho : ownB s with
  | false =>
    rw [Bool.false_and]
    go_enter Tryd.func36, Tryd.ntmps36
    go_wp2_with (go_at_call 35; refine (l02Name_gw s _ Hs.out).mono ?_; rintro e w1 ⟨rfl, gr⟩; have bel := gr.below; rw [ho])
    go_ret
    exact ⟨rfl, (Gw.one _ _).trans gr⟩
  | true =>
    rw [Bool.true_and]
    by_cases k3 : x0 = 3
    · subst k3
      by_cases z2 : x2 = 0
      · subst z2
        by_cases z3 : x3 = 0
        · subst z3
          by_cases hm20 : 20 < n
          · rw [rest_many hm20]
            have i20 : (20 : Int) < n := by omega
            go_enter Tryd.func36, Tryd.ntmps36
            go_wp2_with (go_at_call 35; refine (l02Name_gw s _ Hs.out).mono ?_; rintro e w1 ⟨rfl, gr⟩; have bel := gr.below; rw [ho]; obtain ⟨hc, hf⟩ := bcell bel)
            go_ret
            exact ⟨rfl, (Gw.one _ _).trans gr⟩
          · have i20 : ¬ (20 : Int) < n := by omega
            go_enter Tryd.func36, Tryd.ntmps36
            go_wp2_with (go_at_call 35; refine (l02Name_gw s _ Hs.out).mono ?_; rintro e w1 ⟨rfl, gr⟩; have bel := gr.below; rw [ho]; obtain ⟨hc, hf⟩ := bcell bel)
            go_loop [3] (fun i => ∃ k : Nat, i = .int .i64 k ∧ k ≤ n ∧ Hid (∀ i (h : i < l.length), i < k → inB l[i].1 1 3 = true)) (fun i => n - (intOf i).toNat)
            case atStart => exact ⟨0, rfl, by omega, fun i _ hi => absurd hi (by omega)⟩
            case round =>
              obtain ⟨k, rfl, hk, Hk⟩ := hrel
              by_cases hp : k < n
              · have i1 : (k : Int) < n := by omega
                obtain ⟨x, hx⟩ : ∃ x, l[k]'(by rw [HN.out]; exact hp) = x := ⟨_, rfl⟩
                have hbw : Below w.heap.size w w1 := Below.trans ((Below.refl _ _).alloc (Nat.le_refl _) _) (bel.mono (by simp))
                obtain ⟨b, o, rfl, -, hb2, -, he⟩ := rows_on PrmAt.stays H.out (hbw.mono hm) k (by rw [HN.out]; exact hp)
                have HX := hide hx
                rw [hx] at he
                clear hx hbw
                obtain ⟨y0, y1⟩ := x
                obtain ⟨c0, c1, -⟩ := he
                simp only [Nat.add_zero] at c0 c1
                cases hin : inB y0 1 3 with
                | false =>
                  go_wp2_with (go_at_call 61; refine (l01In_any _ _ _ _).mono ?_; rintro e w2 ⟨rfl, rfl⟩; first | rw [hin] | skip)
                  go_ret
                  refine ⟨ret_bool ?_, (Gw.one _ _).trans gr⟩
                  have := prms_no (k := k) (by rw [HN.out]; exact hp) (by rw [HX.out]; exact hin)
                  rw [HB.out] at this
                  simp [restN, this]
                | true =>
                  go_wp2_with (go_at_call 61; refine (l01In_any _ _ _ _).mono ?_; rintro e w2 ⟨rfl, rfl⟩; first | rw [hin] | skip)
                  go_round
                  case rel =>
                    refine ⟨k + 1, by go_num, by omega, fun i h hi => ?_⟩
                    by_cases e : i < k
                    · exact Hk.out i h e
                    · obtain rfl : i = k := by omega
                      rw [HX.out]
                      exact hin
                  case measure => simp [intOf]; omega
              · have i1 : ¬ (k : Int) < n := by omega
                go_wp2_with (go_at_call 61; refine (l01In_any _ _ _ _).mono ?_; rintro e w2 ⟨rfl, rfl⟩; first | skip)
                go_ret
                refine ⟨ret_bool ?_, (Gw.one _ _).trans gr⟩
                have := prms_yes (l := l) fun i h => Hk.out i h (by have := HN.out; omega)
                rw [HB.out] at this
                simp [restN, this]
                omega
        · rw [rest_val (by decide) z3]
          go_enter Tryd.func36, Tryd.ntmps36
          go_wp2_with (go_at_call 35; refine (l02Name_gw s _ Hs.out).mono ?_; rintro e w1 ⟨rfl, gr⟩; have bel := gr.below; rw [ho]; obtain ⟨hc, hf⟩ := bcell bel)
          go_ret
          exact ⟨rfl, (Gw.one _ _).trans gr⟩
      · rw [rest_len (by decide) z2]
        go_enter Tryd.func36, Tryd.ntmps36
        go_wp2_with (go_at_call 35; refine (l02Name_gw s _ Hs.out).mono ?_; rintro e w1 ⟨rfl, gr⟩; have bel := gr.below; rw [ho]; obtain ⟨hc, hf⟩ := bcell bel)
        go_ret
        exact ⟨rfl, (Gw.one _ _).trans gr⟩
    · by_cases hz : 0 < n
      · rw [rest_par k3 hz]
        have i0 : (0 : Int) < n := by omega
        go_enter Tryd.func36, Tryd.ntmps36
        go_wp2_with (go_at_call 35; refine (l02Name_gw s _ Hs.out).mono ?_; rintro e w1 ⟨rfl, gr⟩; have bel := gr.below; rw [ho]; obtain ⟨hc, hf⟩ := bcell bel)
        go_ret
        exact ⟨rfl, (Gw.one _ _).trans gr⟩
      · obtain rfl : n = 0 := by omega
        by_cases k2 : x0 = 2
        · subst k2
          by_cases z3 : x3 = 0
          · subst z3
            have e : restN 2 x1 x2 0 0 pb = (inB x1 1 3 && inB x2 0 100) := by simp [restN]
            rw [e]
            clear e
            cases hin : inB x1 1 3 with
            | false =>
              go_enter Tryd.func36, Tryd.ntmps36
              go_wp2_with (first | (go_at_call 35; refine (l02Name_gw s _ Hs.out).mono ?_; rintro e w1 ⟨rfl, gr⟩; have bel := gr.below; rw [ho]; obtain ⟨hc, hf⟩ := bcell bel) | (go_at_call 61; refine (l01In_any _ _ _ _).mono ?_; rintro e w2 ⟨rfl, rfl⟩; first | rw [hin] | skip))
              go_ret
              exact ⟨rfl, (Gw.one _ _).trans gr⟩
            | true =>
              go_enter Tryd.func36, Tryd.ntmps36
              go_wp2_with (first | (go_at_call 35; refine (l02Name_gw s _ Hs.out).mono ?_; rintro e w1 ⟨rfl, gr⟩; have bel := gr.below; rw [ho]; obtain ⟨hc, hf⟩ := bcell bel) | (go_at_call 61; refine (l01In_any _ _ _ _).mono ?_; rintro e w2 ⟨rfl, rfl⟩; first | rw [hin] | skip))
              go_ret
              exact ⟨rfl, (Gw.one _ _).trans gr⟩
          · rw [rest_val (by decide) z3]
            go_enter Tryd.func36, Tryd.ntmps36
            go_wp2_with (go_at_call 35; refine (l02Name_gw s _ Hs.out).mono ?_; rintro e w1 ⟨rfl, gr⟩; have bel := gr.below; rw [ho]; obtain ⟨hc, hf⟩ := bcell bel)
            go_ret
            exact ⟨rfl, (Gw.one _ _).trans gr⟩
        · by_cases z2 : x2 = 0
          · subst z2
            by_cases k1 : x0 = 1
            · subst k1
              have e : restN 1 x1 0 x3 0 pb = constB x1 x3 := by simp [restN]
              rw [e]
              clear e k3 k2 hz
              unfold constB
              by_cases t2 : x1 = 2
              · subst t2
                cases hin : inB x3 0 1 with
                | false =>
                  have q : inB 2 1 3 = true := by decide
                  go_enter Tryd.func36, Tryd.ntmps36
                  go_wp2_with (first | (go_at_call 35; refine (l02Name_gw s _ Hs.out).mono ?_; rintro e w1 ⟨rfl, gr⟩; have bel := gr.below; rw [ho]; obtain ⟨hc, hf⟩ := bcell bel) | (go_at_call 61; refine (l01In_any _ _ _ _).mono ?_; rintro e w2 ⟨rfl, rfl⟩; first | rw [hin] | rw [q] | skip))
                  go_ret
                  exact ⟨rfl, (Gw.one _ _).trans gr⟩
                | true =>
                  have q : inB 2 1 3 = true := by decide
                  go_enter Tryd.func36, Tryd.ntmps36
                  go_wp2_with (first | (go_at_call 35; refine (l02Name_gw s _ Hs.out).mono ?_; rintro e w1 ⟨rfl, gr⟩; have bel := gr.below; rw [ho]; obtain ⟨hc, hf⟩ := bcell bel) | (go_at_call 61; refine (l01In_any _ _ _ _).mono ?_; rintro e w2 ⟨rfl, rfl⟩; first | rw [hin] | rw [q] | skip))
                  go_ret
                  exact ⟨rfl, (Gw.one _ _).trans gr⟩
              · by_cases t3 : x1 = 3
                · subst t3
                  have q : inB 3 1 3 = true := by decide
                  go_enter Tryd.func36, Tryd.ntmps36
                  go_wp2_with (first | (go_at_call 35; refine (l02Name_gw s _ Hs.out).mono ?_; rintro e w1 ⟨rfl, gr⟩; have bel := gr.below; rw [ho]; obtain ⟨hc, hf⟩ := bcell bel) | (go_at_call 62; refine (specCharOK_any _ _).mono ?_; rintro e w2 ⟨rfl, rfl⟩) | (go_at_call 61; refine (l01In_any _ _ _ _).mono ?_; rintro e w2 ⟨rfl, rfl⟩; first | rw [q] | skip))
                  go_ret
                  exact ⟨rfl, (Gw.one _ _).trans gr⟩
                · cases hin : inB x1 1 3 with
                  | false =>
                    go_enter Tryd.func36, Tryd.ntmps36
                    go_wp2_with (first | (go_at_call 35; refine (l02Name_gw s _ Hs.out).mono ?_; rintro e w1 ⟨rfl, gr⟩; have bel := gr.below; rw [ho]; obtain ⟨hc, hf⟩ := bcell bel) | (go_at_call 61; refine (l01In_any _ _ _ _).mono ?_; rintro e w2 ⟨rfl, rfl⟩; first | rw [hin] | skip))
                    go_ret
                    exact ⟨ret_bool (by simp), (Gw.one _ _).trans gr⟩
                  | true =>
                    go_enter Tryd.func36, Tryd.ntmps36
                    go_wp2_with (first | (go_at_call 35; refine (l02Name_gw s _ Hs.out).mono ?_; rintro e w1 ⟨rfl, gr⟩; have bel := gr.below; rw [ho]; obtain ⟨hc, hf⟩ := bcell bel) | (go_at_call 61; refine (l01In_any _ _ _ _).mono ?_; rintro e w2 ⟨rfl, rfl⟩; first | rw [hin] | skip))
                    go_ret
                    exact ⟨ret_bool (by simp [t2, t3]), (Gw.one _ _).trans gr⟩
            · by_cases z3 : x3 = 0
              · subst z3
                rw [rest_kind k1 k2 k3]
                go_enter Tryd.func36, Tryd.ntmps36
                go_wp2_with (go_at_call 35; refine (l02Name_gw s _ Hs.out).mono ?_; rintro e w1 ⟨rfl, gr⟩; have bel := gr.below; rw [ho]; obtain ⟨hc, hf⟩ := bcell bel)
                go_ret
                exact ⟨rfl, (Gw.one _ _).trans gr⟩
              · rw [rest_val k1 z3]
                go_enter Tryd.func36, Tryd.ntmps36
                go_wp2_with (go_at_call 35; refine (l02Name_gw s _ Hs.out).mono ?_; rintro e w1 ⟨rfl, gr⟩; have bel := gr.below; rw [ho]; obtain ⟨hc, hf⟩ := bcell bel)
                go_ret
                exact ⟨rfl, (Gw.one _ _).trans gr⟩
          · rw [rest_len k2 z2]
            go_enter Tryd.func36, Tryd.ntmps36
            go_wp2_with (go_at_call 35; refine (l02Name_gw s _ Hs.out).mono ?_; rintro e w1 ⟨rfl, gr⟩; have bel := gr.below; rw [ho]; obtain ⟨hc, hf⟩ := bcell bel)
            go_ret
            exact ⟨rfl, (Gw.one _ _).trans gr⟩
end Go.Proofs.YtoomnimbokbadaaDoor
