/- The model's OutText answers 'outA'. No condition. -/
import Derived.Test.YtlmkpngaiilldaaDoorSpecM
import Derived.Deep.LoopGhost
namespace Go.Proofs.YtlmkpngaiilldaaDoor
open Go.ChangeShapes Go.WideShapes Go.ChangeAt Go.RowKit Go.Deep

theorem lineU_text {x : OutD} {t : ByteArray} (h : outT x = t) : nb (lineU x) = sb t ++ [10] := by
  unfold lineU
  rw [h, nb_app, ← nb_sb]
  rfl
set_option maxRecDepth 100000 in
set_option maxHeartbeats 4000000 in
theorem specOutText_any (v : Value) (m : Md) (l : List OutD) (w : World) (H : SlAt OutAt 2 w m v l) (hm : m.hi ≤ w.heap.size) :
    Calls Tryd.prog 11 #[v] w fun e w' => e = .returned (.tuple #[.string (outA l).1, .int .i64 (outA l).2]) ∧ Below w.heap.size w w' := by
  obtain ⟨a, c, rfl, hr⟩ := H
  have HR := hide hr
  have HM := hide hm
  obtain ⟨n, hn⟩ : ∃ n, l.length = n := ⟨_, rfl⟩
  have HN := hide hn
  obtain ⟨T, hA⟩ : ∃ T, outA l = T := ⟨_, rfl⟩
  have HA := hide hA
  rw [hn, hA]
  clear hr hm hn hA
  by_cases h0 : 4096 < n
  · have i0 : (4096 : Int) < n := by omega
    obtain rfl : T = (⟨#[]⟩, 2) := by rw [← HA.out]; exact outA_long (by rw [HN.out]; exact h0)
    go_enter Tryd.func11, Tryd.ntmps11
    go_wp2
    go_ret2
    exact ⟨rfl, Below.refl _ _⟩
  · have i0 : ¬ (4096 : Int) < n := by omega
    have HBad : Hid (∀ k (hk : k < l.length), outB l[k] = false → T = (⟨#[]⟩, 1)) := hide fun k hk hb => by rw [← HA.out]; exact outA_bad (by rw [HN.out]; exact h0) hk hb
    have HAll : Hid (OutUp l n → T = (⟨(linesU l).toArray⟩, 0)) := hide fun h => by rw [← HA.out]; exact outA_all (by rw [HN.out]; exact h0) (by rw [HN.out]; exact h)
    go_enter Tryd.func11, Tryd.ntmps11
    go_wp2_with fail
    go_loopg [4, 5] n (fun q dv iv wr => ∃ k : Nat, iv = .int .i64 k ∧ k ≤ n ∧ q = n - k ∧ Hid (OutUp l k) ∧ Hid (Own wr w.heap.size dv (nb (linesU (l.take k)))) ∧ Hid (Below w.heap.size w wr))
    case atStart => exact ⟨0, rfl, by omega, rfl, hide (fun j _ h => absurd h (by omega)), hide (Own.made w w.heap.size [] (Nat.le_refl _) (by decide)), hide ((Below.refl _ _).alloc (Nat.le_refl _) _)⟩
    case round =>
      obtain ⟨k, rfl, hk, hq, HU, HBl, HB⟩ := hrel
      have HQ := hide hq
      clear hq
      by_cases hp : k < n
      · have i1 : (k : Int) < n := by omega
        have hkl : k < l.length := by rw [HN.out]; exact hp
        have hbad := HBad.out k hkl
        have hstep := HU.out.step hkl
        have htake := linesU_take hkl
        obtain ⟨b, o, rfl, hb1, hb2, -, he⟩ := rows_on OutAt.stays HR.out (HB.out.mono HM.out) k hkl
        have hcap : k ≤ c := by have := hb1.2; omega
        obtain ⟨x, hx⟩ : ∃ x, l[k] = x := ⟨_, rfl⟩
        rw [hx] at he hbad hstep htake
        have HBd := hide hbad
        have HSt := hide hstep
        have HTk := hide htake
        clear hx hb1 hbad hstep htake
        obtain ⟨t, vv⟩ := x
        obtain ⟨⟨c0, c1⟩, ⟨r0, r1⟩⟩ := he
        simp only [Nat.add_zero] at c0 c1 r1
        have HV := hide r1
        have hsz := HB.out.size
        have hlen : (linesU (l.take k)).length ≤ 21 * k := HU.out.len (by rw [HN.out]; omega)
        have HLn : Hid ((nb (linesU (l.take k))).length ≤ 100000) := hide (by rw [nb_len]; omega)
        obtain ⟨u, hu⟩ : ∃ u, nb (linesU (l.take k)) = u := ⟨_, rfl⟩
        have hOw := HBl.out
        obtain ⟨va, vc, rfl⟩ := own_form hOw
        rw [hu] at HLn HBl
        rw [hu]
        have HNext : Hid (∀ tx w', outT ⟨t, vv⟩ = tx → outB ⟨t, vv⟩ = true → ∀ dv, Own w' w.heap.size dv (u ++ sb tx ++ [10]) → OutUp l (k + 1) ∧ Own w' w.heap.size dv (nb (linesU (l.take (k + 1))))) := hide fun tx w' e hb dv ho => ⟨HSt.out HV.out hb, by rw [HTk.out, nb_app, lineU_text e, hu, ← List.append_assoc]; exact ho⟩
        have HSize : Hid (outB ⟨t, vv⟩ = true → (outT ⟨t, vv⟩).size ≤ 20) := hide fun hb => outT_size _ HV.out hb
        obtain ⟨wa, hwa⟩ : ∃ wa, wa = wr.alloc (.cells #[.int .i64 t, .int .i64 vv] 61) := ⟨_, rfl⟩
        have bA : Below wr.heap.size wr wa := by rw [hwa]; exact (Below.refl _ _).alloc (Nat.le_refl _) _
        have hxa : wa.heap[wr.heap.size]? = some (.cells #[.int .i64 t, .int .i64 vv] 61 (0, 0)) := by rw [hwa]; exact Deep.blk_alloc_new wr _
        clear r0 r1 hu HSt HTk hlen hOw
        by_cases h1 : t = 1
        · as_aux_lemma =>
          subst h1
          have hb : outB ⟨1, vv⟩ = true := by simp [outB]
          have e : outT ⟨1, vv⟩ = ⟨(Lib.itoa vv).toArray⟩ := by simp [outT]
          have hs := HSize.out hb
          rw [e] at hs
          have HNx := hide (HNext.out _ · e hb)
          have HD : Hid (∀ w1, Calls Tryd.prog 28 #[.int .i64 vv] w1 fun e w' => e = .returned (.string ⟨(Lib.itoa vv).toArray⟩) ∧ Below w1.heap.size w1 w') := hide (l00Digits_any vv HV.out.1 HV.out.2)
          generalize (⟨(Lib.itoa vv).toArray⟩ : ByteArray) = tx at *
          clear e hb
          go_wp2_with (first
            | (go_at_call 28; rw [← hwa]; refine (HD.out _).mono ?_; rintro e w5 ⟨rfl, b5⟩; have b6 := bA.trans (b5.mono bA.size))
            | (at_builtin; refine wp_append_text rfl _ _ rfl w.heap.size (.slice va u.length vc) u rfl (HBl.out.on b6) tx rfl (by have := HLn.out; omega) (Nat.le_trans hsz b6.size) ?_; intro v7 w7 o7 k7)
            | (at_builtin; refine wp_append_bytes rfl _ _ rfl w.heap.size v7 (u ++ sb tx) rfl (o7.alloc _) ⟨w7.heap.size, 0, none⟩ 1 1 [10] rfl rfl (one_new w7 10 _) (by rw [List.length_append, sb_len]; have := HLn.out; omega) (Nat.le_trans hsz (Nat.le_trans b6.size (Nat.le_trans k7.size (by simp)))) ?_; intro v8 w8 o8 k8))
          have hn8 := HNx.out _ _ o8
          go_roundg (n - (k + 1))
          case measure => rw [HQ.out]; omega
          case rel => exact ⟨k + 1, by go_num, by omega, rfl, hide hn8.1, hide hn8.2, hide (HB.out.trans ((b6.mono hsz).trans (k7.bel.trans (Kp.trans (Kp.of_below ((Below.refl _ _).alloc (Nat.le_refl _) _) (Nat.le_trans hsz (Nat.le_trans b6.size k7.size))) k8).bel)))⟩
        · by_cases h2 : t = 2
          · subst h2
            by_cases hv : vv = 0
            · as_aux_lemma =>
              subst hv
              have hb : outB ⟨2, 0⟩ = true := by simp [outB]
              have e : outT ⟨2, 0⟩ = ⟨#[70, 65, 76, 83, 69]⟩ := by simp [outT]
              have hs := HSize.out hb
              rw [e] at hs
              have HNx := hide (HNext.out _ · e hb)
              clear e hb bA hxa hwa
              have b6 : Below wr.heap.size wr ((wr.alloc (.cells #[.int .i64 2, .int .i64 0] 61)).alloc (.cells #[.string ⟨#[70, 65, 76, 83, 69]⟩, .string ⟨#[84, 82, 85, 69]⟩] 9)) := ((Below.refl _ _).alloc (Nat.le_refl _) _).alloc (by simp) _
              obtain ⟨tx, htx⟩ : ∃ tx : ByteArray, ⟨#[70, 65, 76, 83, 69]⟩ = tx := ⟨_, rfl⟩
              rw [htx] at hs HNx
              have HTx := hide htx
              clear htx
              go_wp2_with (first
                | (go_at_call 18; refine (in01_any _ _).mono ?_; rintro e w3 ⟨rfl, rfl⟩)
                | (at_builtin; refine wp_append_text rfl _ _ rfl w.heap.size (.slice va u.length vc) u rfl (HBl.out.on b6) tx (by rw [← HTx.out]; rfl) (by have := HLn.out; omega) (Nat.le_trans hsz b6.size) ?_; intro v7 w7 o7 k7)
                | (at_builtin; refine wp_append_bytes rfl _ _ rfl w.heap.size v7 (u ++ sb tx) rfl (o7.alloc _) ⟨w7.heap.size, 0, none⟩ 1 1 [10] rfl rfl (one_new w7 10 _) (by rw [List.length_append, sb_len]; have := HLn.out; omega) (Nat.le_trans hsz (Nat.le_trans b6.size (Nat.le_trans k7.size (by simp)))) ?_; intro v8 w8 o8 k8))
              have hn8 := HNx.out _ _ o8
              go_roundg (n - (k + 1))
              case measure => rw [HQ.out]; omega
              case rel => exact ⟨k + 1, by go_num, by omega, rfl, hide hn8.1, hide hn8.2, hide (HB.out.trans ((b6.mono hsz).trans (k7.bel.trans (Kp.trans (Kp.of_below ((Below.refl _ _).alloc (Nat.le_refl _) _) (Nat.le_trans hsz (Nat.le_trans b6.size k7.size))) k8).bel)))⟩
            · by_cases hv1 : vv = 1
              · have hv := hv1
                as_aux_lemma =>
                subst hv
                have hb : outB ⟨2, 1⟩ = true := by simp [outB]
                have e : outT ⟨2, 1⟩ = ⟨#[84, 82, 85, 69]⟩ := by simp [outT]
                have hs := HSize.out hb
                rw [e] at hs
                have HNx := hide (HNext.out _ · e hb)
                clear e hb bA hxa hwa
                have b6 : Below wr.heap.size wr ((wr.alloc (.cells #[.int .i64 2, .int .i64 1] 61)).alloc (.cells #[.string ⟨#[70, 65, 76, 83, 69]⟩, .string ⟨#[84, 82, 85, 69]⟩] 9)) := ((Below.refl _ _).alloc (Nat.le_refl _) _).alloc (by simp) _
                obtain ⟨tx, htx⟩ : ∃ tx : ByteArray, ⟨#[84, 82, 85, 69]⟩ = tx := ⟨_, rfl⟩
                rw [htx] at hs HNx
                have HTx := hide htx
                clear htx
                go_wp2_with (first
                  | (go_at_call 18; refine (in01_any _ _).mono ?_; rintro e w3 ⟨rfl, rfl⟩)
                  | (at_builtin; refine wp_append_text rfl _ _ rfl w.heap.size (.slice va u.length vc) u rfl (HBl.out.on b6) tx (by rw [← HTx.out]; rfl) (by have := HLn.out; omega) (Nat.le_trans hsz b6.size) ?_; intro v7 w7 o7 k7)
                  | (at_builtin; refine wp_append_bytes rfl _ _ rfl w.heap.size v7 (u ++ sb tx) rfl (o7.alloc _) ⟨w7.heap.size, 0, none⟩ 1 1 [10] rfl rfl (one_new w7 10 _) (by rw [List.length_append, sb_len]; have := HLn.out; omega) (Nat.le_trans hsz (Nat.le_trans b6.size (Nat.le_trans k7.size (by simp)))) ?_; intro v8 w8 o8 k8))
                have hn8 := HNx.out _ _ o8
                go_roundg (n - (k + 1))
                case measure => rw [HQ.out]; omega
                case rel => exact ⟨k + 1, by go_num, by omega, rfl, hide hn8.1, hide hn8.2, hide (HB.out.trans ((b6.mono hsz).trans (k7.bel.trans (Kp.trans (Kp.of_below ((Below.refl _ _).alloc (Nat.le_refl _) _) (Nat.le_trans hsz (Nat.le_trans b6.size k7.size))) k8).bel)))⟩
              · as_aux_lemma =>
                have hb : outB ⟨2, vv⟩ = false := by simp [outB, hv, hv1]
                have HF := hide (HBd.out hb)
                have e0 : (vv == 0) = false := by simpa using hv
                have e1 : (vv == 1) = false := by simpa using hv1
                clear hb
                go_wp2_with (go_at_call 18; refine (in01_any _ _).mono ?_; rintro e w3 ⟨rfl, rfl⟩; rw [e0, e1])
                go_ret2
                exact ⟨by rw [HF.out]; rfl, HB.out.alloc hsz _⟩
          · by_cases h3 : t = 3
            · subst h3
              cases hc : charB vv with
              | false =>
                as_aux_lemma =>
                have hb : outB ⟨3, vv⟩ = false := by simp [outB, hc]
                have HF := hide (HBd.out hb)
                clear hb
                go_wp2_with (go_at_call 29; refine (charOK_spec _ _).mono ?_; rintro e w3 ⟨rfl, rfl⟩; rw [hc])
                go_ret2
                exact ⟨by rw [HF.out]; rfl, HB.out.alloc hsz _⟩
              | true =>
                as_aux_lemma =>
                have hb : outB ⟨3, vv⟩ = true := by simp [outB, hc]
                have e : outT ⟨3, vv⟩ = charText vv := by simp [outT]
                have hs := HSize.out hb
                rw [e] at hs
                have HNx := hide (HNext.out _ · e hb)
                have HD : Hid (∀ w1, Calls Tryd.prog 30 #[.int .i64 vv] w1 fun e w' => e = .returned (.string (charText vv)) ∧ Below w1.heap.size w1 w') := hide fun w1 => l01Char_any vv w1 hc
                generalize charText vv = tx at *
                clear e hb
                go_wp2_with (first
                  | (go_at_call 29; refine (charOK_spec _ _).mono ?_; rintro e w3 ⟨rfl, rfl⟩; rw [hc])
                  | (go_at_call 30; rw [← hwa]; refine (HD.out _).mono ?_; rintro e w5 ⟨rfl, b5⟩; have b6 := bA.trans (b5.mono bA.size))
                  | (at_builtin; refine wp_append_text rfl _ _ rfl w.heap.size (.slice va u.length vc) u rfl (HBl.out.on b6) tx rfl (by have := HLn.out; omega) (Nat.le_trans hsz b6.size) ?_; intro v7 w7 o7 k7)
                  | (at_builtin; refine wp_append_bytes rfl _ _ rfl w.heap.size v7 (u ++ sb tx) rfl (o7.alloc _) ⟨w7.heap.size, 0, none⟩ 1 1 [10] rfl rfl (one_new w7 10 _) (by rw [List.length_append, sb_len]; have := HLn.out; omega) (Nat.le_trans hsz (Nat.le_trans b6.size (Nat.le_trans k7.size (by simp)))) ?_; intro v8 w8 o8 k8))
                have hn8 := HNx.out _ _ o8
                go_roundg (n - (k + 1))
                case measure => rw [HQ.out]; omega
                case rel => exact ⟨k + 1, by go_num, by omega, rfl, hide hn8.1, hide hn8.2, hide (HB.out.trans ((b6.mono hsz).trans (k7.bel.trans (Kp.trans (Kp.of_below ((Below.refl _ _).alloc (Nat.le_refl _) _) (Nat.le_trans hsz (Nat.le_trans b6.size k7.size))) k8).bel)))⟩
            · as_aux_lemma =>
              have hb : outB ⟨t, vv⟩ = false := by simp [outB, h1, h2, h3]
              have HF := hide (HBd.out hb)
              have j1 : (t == 1) = false := by simpa using h1
              have j2 : (t == 2) = false := by simpa using h2
              have j3 : (t == 3) = false := by simpa using h3
              clear hb h1 h2 h3 hwa hxa
              go_wp2
              go_ret2
              exact ⟨by rw [HF.out]; rfl, HB.out.alloc hsz _⟩
      · as_aux_lemma =>
        have i1 : ¬ (k : Int) < n := by omega
        obtain rfl : k = n := by omega
        have HF := hide (HAll.out HU.out)
        have hOw := HBl.out
        have hcv := conv_own hOw
        rw [nb_back, show linesU (l.take k) = linesU l from by rw [List.take_of_length_le (by rw [HN.out]; omega)]] at hcv
        generalize (⟨(linesU l).toArray⟩ : ByteArray) = tx at *
        obtain ⟨va, vc, rfl⟩ := own_form hOw
        clear hOw
        go_wp2
        go_ret2
        exact ⟨by rw [HF.out]; rfl, HB.out⟩
end Go.Proofs.YtlmkpngaiilldaaDoor
