/- The program's look at an object's codes, by the map of the names that it has met. Its table of words is a premise. -/
import Derived.Test.YtfbglokjehmgeaaGreatDoorZObM
namespace Go.Proofs.YtfbglokjehmgeaaGreatDoor
open Go.ChangeShapes Go.WideShapes Go.ChangeAt Go.RowKit Go.PlainAid Go.Deep Go.Maps Go.WideMaps

set_option maxRecDepth 100000 in
set_option maxHeartbeats 8000000 in
theorem procsOK_any (v : Value) (m : Md) (l : List CodeD) (b n0 : Nat) (D0 : DataW Unit) (seen : List ByteArray) (w : World) (H : SlAt CodeAt 5 w m v l) (hm : m.hi ≤ b) (hown : MapAt w b n0 D0) (hkeys : KeysB D0 seen) (hn0 : n0 ≤ 100000) (hgb : 1 < b) (t : TypeId) (fr : Nat × Nat) (hg : w.heap[1]? = some (.cells keyRow t fr)) :
    Calls Tryz.prog 57 #[v, .map (some b)] w (MetPost (decide (1 ≤ l.length) && decide (l.length ≤ 60) && procsB seen l) b (n0 + l.length) (seen ++ l.map fun x => x.name) w) := by
  have hbz : b < w.heap.size := hown.lt
  have HCF : Hid (∀ (x : CodeD) (v' : Value) (m' : Md) (w1 : World), Below b w w1 → CodeVal w1 m' v' x → m'.hi ≤ w1.heap.size → Calls Tryz.prog 88 #[v'] w1 (ErrR (verC x) w1.heap.size w1)) := hide fun x v' m' w1 bel hv hm' => by
    obtain ⟨cn, params, cells, result, l⟩ := x
    exact codeFault_any cn params cells result l v' m' w1 hv hm' t fr ((bel.block 1 hgb).trans hg)
  obtain ⟨a, c, rfl, hr⟩ := H
  have HR := hide hr
  have HM := hide hm
  obtain ⟨F, hF⟩ : ∃ F, procsB seen l = F := ⟨_, rfl⟩
  have HF := hide hF
  obtain ⟨n, hn⟩ : ∃ n, l.length = n := ⟨_, rfl⟩
  have HN := hide hn
  have HW := hide hown
  have HKs := hide hkeys
  rw [hF, hn]
  clear hr hm hF hn hg hown hkeys
  by_cases h0 : n < 1
  · have i0 : (n : Int) < 1 := by omega
    rw [decide_eq_false (show ¬ 1 ≤ n by omega)]
    go_enter Tryz.func57, Tryz.ntmps57
    go_wp2
    go_ret
    exact MetPost.no rfl (Below.refl _ _)
  · have i0 : ¬ (n : Int) < 1 := by omega
    by_cases h60 : 60 < n
    · have i60 : (60 : Int) < n := by omega
      rw [decide_eq_false (show ¬ n ≤ 60 by omega)]
      go_enter Tryz.func57, Tryz.ntmps57
      go_wp2
      go_ret
      exact MetPost.no (by simp) (Below.refl _ _)
    · have i60 : ¬ (60 : Int) < n := by omega
      have hw1 : wrap64 ((n : Int) - 1) = (n : Int) - 1 := by unfold wrap64; omega
      rw [decide_eq_true (show 1 ≤ n by omega), decide_eq_true (show n ≤ 60 by omega), Bool.true_and, Bool.true_and]
      go_enter Tryz.func57, Tryz.ntmps57
      go_wp2_with fail
      go_loopg [20] n (fun q iv wr => ∃ (k cnt : Nat) (D : DataW Unit), iv = .int .i64 k ∧ k ≤ n ∧ q = n - k ∧ cnt ≤ n0 + k ∧ Hid (MapAt wr b cnt D) ∧ Hid (KeysB D (seen ++ (l.take k).map fun x => x.name)) ∧ Hid (Below b w wr) ∧ Hid (procsB (seen ++ (l.take k).map fun x => x.name) (l.drop k) = F))
      case atStart => exact ⟨0, n0, D0, rfl, by omega, rfl, by omega, HW, hide (by simpa using HKs.out), hide (Below.refl _ _), hide (by simpa using HF.out)⟩
      case round =>
        obtain ⟨k, cnt, D, rfl, hk, hq, hcnt, Hown, HK, HB, HG⟩ := hrel
        have HQ := hide hq
        clear hq
        by_cases hp : k < n
        · have i1 : (k : Int) < n := by omega
          have hkl : k < l.length := by rw [HN.out]; exact hp
          have hg1 := HG.out
          rw [procs_at hkl, HN.out] at hg1
          have hsn : seen ++ ((l.take (k + 1)).map fun x => x.name) = (seen ++ (l.take k).map fun x => x.name) ++ [l[k].name] := by
            rw [List.take_succ_eq_append_getElem hkl, List.map_append, List.append_assoc]
            rfl
          have HKS := hide (fun d hs => keysB_step (d := d) (t := l[k].name) HK.out Hown.out.isMap hs)
          have HSn := hide hsn
          obtain ⟨g, o, rfl, hb1, hb2, -, he⟩ := rows_on CodeAt.stays HR.out (HB.out.mono HM.out) k hkl
          have hcap : k ≤ c := by have := hb1.2; omega
          obtain ⟨x, hx⟩ : ∃ x, l[k] = x := ⟨_, rfl⟩
          rw [hx] at he hg1 HKS HSn
          clear hx hb1 hsn
          obtain ⟨s, pp, ce, rr, li⟩ := x
          obtain ⟨⟨c0, c1, c2, c3⟩, ⟨r0, r1, r2, r3, r4⟩, u4, c4, hs4⟩ := he
          obtain ⟨a4, d4, rfl, hrow4⟩ := hs4
          simp only [Nat.add_zero] at c0 c1 c2 c3 c4 r0 r1 r2 r3 r4 hg1 HKS HSn
          obtain ⟨n4, hn4⟩ : ∃ n4, li.length = n4 := ⟨_, rfl⟩
          have hkey : keyOf Tryz.prog 9 (.string s) = some (.string s.data.toList) := keyOf_string_mk Tryz.underlying9 r0
          have hsz := HB.out.size
          have hbw : Below b w (wr.alloc (.cells #[.string s, .int .i64 pp, .int .i64 ce, .int .i64 rr, .slice a4 li.length d4] 86)) := HB.out.alloc (by omega) _
          have HBW := hide hbw
          have HCV : Hid (CodeVal wr (m.inner g) (.agg #[.string s, .int .i64 pp, .int .i64 ce, .int .i64 rr, .slice a4 li.length d4]) ⟨s, pp, ce, rr, li⟩) := hide ⟨_, rfl, ⟨r0, r1, r2, r3, r4⟩, a4, d4, rfl, hrow4⟩
          have HCc := hide (HCF.out ⟨s, pp, ce, rr, li⟩ _ (m.inner g) _ hbw (HCV.out.on ((Below.refl _ _).alloc (by rw [Md.inner_hi]; have := HM.out; omega) _)) (by rw [Md.inner_hi]; have := HM.out; simp; omega))
          rw [hn4] at c4 HBW HCc
          obtain ⟨sk, hsk⟩ : ∃ sk, seen ++ (l.take k).map (fun x => x.name) = sk := ⟨_, rfl⟩
          rw [hsk] at hg1 HK HKS HSn
          have hhas := HK.out s
          have Hhas := hide hhas
          obtain ⟨lb, hlb⟩ : ∃ lb, decide (k + 1 = n) = lb := ⟨_, rfl⟩
          have hlast : ((k : Int) == (n : Int) - 1) = lb := by
            rw [← hlb, Bool.eq_iff_iff]
            simp
            omega
          rw [hlb] at hg1
          have HE : Hid (procB ⟨s, pp, ce, rr, li⟩ lb = (decide ((verC ⟨s, pp, ce, rr, li⟩).1 = 0) && (emB s == lb))) := hide rfl
          have HG1 := hide hg1
          obtain ⟨T, hT⟩ : ∃ T, verC ⟨s, pp, ce, rr, li⟩ = T := ⟨_, rfl⟩
          rw [hT] at HCc HE
          clear hg1 r0 r1 r2 r3 r4 hbw hhas hsk hrow4 hlb hT hn4 HCV
          cases hmet : seenB sk s with
          | true =>
            go_wp2_with (at_lookup; refine wpList_lookup_own_ok_int _ rfl _ _ 98 rfl 9 3 .i64 lawString Tryz.underlying98 Tryz.underlying3 (zeroInt _) b cnt _ rfl (Hown.out.alloc _) _ _ rfl hkey ?_; intro cc hat hwc; rw [Hhas.out, hmet])
            go_ret
            exact MetPost.no (by rw [← HG1.out, hmet]; rfl) HBW.out
          | false =>
            cases eb : emB s <;> cases lb
            all_goals
              have HEb := hide eb
              unfold emB at eb
            case false.true =>
              go_wp2_with (at_lookup; refine wpList_lookup_own_ok_int _ rfl _ _ 98 rfl 9 3 .i64 lawString Tryz.underlying98 Tryz.underlying3 (zeroInt _) b cnt _ rfl (Hown.out.alloc _) _ _ rfl hkey ?_; intro cc hat hwc; rw [Hhas.out, hmet])
              go_ret
              exact MetPost.no (by rw [← HG1.out, HE.out, HEb.out]; simp) HBW.out
            case true.false =>
              go_wp2_with (at_lookup; refine wpList_lookup_own_ok_int _ rfl _ _ 98 rfl 9 3 .i64 lawString Tryz.underlying98 Tryz.underlying3 (zeroInt _) b cnt _ rfl (Hown.out.alloc _) _ _ rfl hkey ?_; intro cc hat hwc; rw [Hhas.out, hmet])
              go_ret
              exact MetPost.no (by rw [← HG1.out, HE.out, HEb.out]; simp) HBW.out
            all_goals
              by_cases hz : T.1 = 0
              · have HCz : Hid (Calls Tryz.prog 88 #[.agg #[.string s, .int .i64 pp, .int .i64 ce, .int .i64 rr, .slice a4 n4 d4]] (wr.alloc (.cells #[.string s, .int .i64 pp, .int .i64 ce, .int .i64 rr, .slice a4 n4 d4] 86)) fun e w2 => e = .returned .nilIface ∧ Below (wr.heap.size + 1) (wr.alloc (.cells #[.string s, .int .i64 pp, .int .i64 ce, .int .i64 rr, .slice a4 n4 d4] 86)) w2) := hide (HCc.out.mono fun _ _ ⟨a, b⟩ => ⟨by rw [b, if_pos hz], by simpa using a⟩)
                have HZ := hide hz
                clear hz
                go_wp2_with (first
                  | (at_lookup; refine wpList_lookup_own_ok_int _ rfl _ _ 98 rfl 9 3 .i64 lawString Tryz.underlying98 Tryz.underlying3 (zeroInt _) b cnt _ rfl (Hown.out.alloc _) _ _ rfl hkey ?_; intro cc hat hwc; rw [Hhas.out, hmet])
                  | (go_at_call 88; refine HCz.out.mono ?_; rintro e w5 ⟨rfl, b5⟩; have x5 := (b5.block wr.heap.size (by omega)).trans (Deep.blk_alloc_new wr (.cells #[.string s, .int .i64 pp, .int .i64 ce, .int .i64 rr, .slice a4 n4 d4] 86)); have y0 := (heapCells x5).1 0; simp only [List.getElem?_toArray, List.getElem?_cons_zero] at y0; have h4 : Below wr.heap.size wr w5 := ((Below.refl _ _).alloc (Nat.le_refl _) _).trans (b5.mono (by omega)))
                  | (at_mapUpdate; refine wpList_mapUpdate_own _ rfl _ _ _ 98 rfl 9 3 lawString Tryz.underlying98 _ b cnt _ rfl (owns_on Hown.out Hown.out.lt h4) (by unfold maxLen; omega) _ _ _ rfl rfl hkey _ [] (plainElem_int Tryz.underlying3 (WalkArith.wf_i64 (by omega))) ?_; intro w6 hown6 hgrow6))
                have hb5 := HB.out.trans (h4.mono HB.out.size |>.mono (by omega))
                go_roundg (n - (k + 1))
                case measure => rw [HQ.out]; omega
                case rel => exact ⟨k + 1, cnt + 1, _, by go_num, by omega, rfl, by omega, hide hown6, hide (by rw [HSn.out]; exact HKS.out _ trivial), hide (hb5.grown hgrow6 (by have := hb5.size; omega) (fun j hj => by cases hj; exact Nat.le_refl _)), hide (by rw [HSn.out, ← HG1.out, hmet, HE.out, HEb.out, decide_eq_true HZ.out]; simp)⟩
              · obtain ⟨T1, T2⟩ := T
                have HCz : Hid (Calls Tryz.prog 88 #[.agg #[.string s, .int .i64 pp, .int .i64 ce, .int .i64 rr, .slice a4 n4 d4]] (wr.alloc (.cells #[.string s, .int .i64 pp, .int .i64 ce, .int .i64 rr, .slice a4 n4 d4] 86)) fun e w2 => e = .returned (.iface 178 (.agg #[.int .i64 T1, .int .i64 T2])) ∧ Below (wr.heap.size + 1) (wr.alloc (.cells #[.string s, .int .i64 pp, .int .i64 ce, .int .i64 rr, .slice a4 n4 d4] 86)) w2) := hide (HCc.out.mono fun _ _ ⟨a, b⟩ => ⟨by rw [b, if_neg hz]; rfl, by simpa using a⟩)
                have HZ := hide hz
                clear hz
                go_wp2_with (first
                  | (at_lookup; refine wpList_lookup_own_ok_int _ rfl _ _ 98 rfl 9 3 .i64 lawString Tryz.underlying98 Tryz.underlying3 (zeroInt _) b cnt _ rfl (Hown.out.alloc _) _ _ rfl hkey ?_; intro cc hat hwc; rw [Hhas.out, hmet])
                  | (go_at_call 88; refine HCz.out.mono ?_; rintro e w5 ⟨rfl, b5⟩))
                go_ret
                exact MetPost.no (by rw [← HG1.out, HE.out, decide_eq_false HZ.out]; simp) (HBW.out.trans (b5.mono (by omega)))
        · have i1 : ¬ (k : Int) < n := by omega
          obtain rfl : k = n := by omega
          have HT : Hid (F = true) := hide (by
            rw [← HG.out, List.drop_of_length_le (by rw [HN.out]; omega)]
            rfl)
          have HK2 : Hid (KeysB D (seen ++ l.map fun x => x.name)) := hide (by
            have := HK.out
            rwa [List.take_of_length_le (by rw [HN.out]; omega)] at this)
          go_wp2
          go_ret
          exact MetPost.yes HT.out HB.out Hown.out hcnt HK2.out
end Go.Proofs.YtfbglokjehmgeaaGreatDoor
