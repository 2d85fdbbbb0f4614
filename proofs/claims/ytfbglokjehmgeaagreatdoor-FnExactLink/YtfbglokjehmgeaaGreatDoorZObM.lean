/- The program's look at an object's variables, by a map of the names that it has met. Its table of words is a premise. -/
import Derived.Test.YtfbglokjehmgeaaGreatDoorZVerZ
import Derived.Maps.OwnSet
namespace Go.Proofs.YtfbglokjehmgeaaGreatDoor
open Go.ChangeShapes Go.WideShapes Go.ChangeAt Go.RowKit Go.PlainAid Go.Deep Go.Maps Go.WideMaps

theorem lawString : Keyed Tryz.prog 9 := string_keyed Tryz.underlying9
theorem zeroInt (w : World) : (zeroValue 3).run Tryz.prog w = .ok (.int .i64 0) w := by kernel_rfl
theorem owns_on {w w' : World} {P : Program} {k : TypeId} {R : Value → Option (DataW Unit × List MemPlace)} {b n : Nat} {D : DataW Unit} (h : w.ownsMap P k R b n D) {B : Nat} (hb : b < B) (bel : Below B w w') : w'.ownsMap P k R b n D := by
  obtain ⟨es, clock, h1, r⟩ := h
  exact ⟨es, clock, (bel.block b hb).trans h1, r⟩
/-- The map's keys are the names met. -/
def KeysB (D : DataW Unit) (seen : List ByteArray) : Prop := ∀ s : ByteArray, Maps.has D (.string s.data.toList) = seenB seen s
theorem keysB_start : KeysB (.map []) [] := fun _ => rfl
theorem toList_data (s : ByteArray) : s.toList = s.data.toList := ByteArray.toList_eq ..
theorem keysB_step {D d : DataW Unit} {seen : List ByteArray} {t : ByteArray} (h : KeysB D seen) (hD : IsMap D) (hs : WideAt.IsKeyLit (.string t.data.toList)) : KeysB (D.put (.string t.data.toList) d) (seen ++ [t]) := by
  intro s
  rw [seen_snoc]
  by_cases e : s.data.toList = t.data.toList
  · rw [e, has_put_same hD hs, toList_data, toList_data, e]
    simp
  · rw [has_put_other (by simpa using e), h s, toList_data, toList_data]
    have : (t.data.toList == s.data.toList) = false := by simpa using Ne.symm e
    rw [this, Bool.or_false]
abbrev MapAt (w : World) (b n : Nat) (D : DataW Unit) : Prop := w.ownsMap Tryz.prog 9 (plainElem Tryz.prog 3) b n D
/-- What a look at a list of names leaves. -/
def MetPost (F : Bool) (b N : Nat) (seen : List ByteArray) (w : World) (e : Ending) (w' : World) : Prop := e = .returned (.bool F) ∧ Below b w w' ∧ (F = true → ∃ n D, MapAt w' b n D ∧ n ≤ N ∧ KeysB D seen)
theorem MetPost.no {F : Bool} {b N : Nat} {seen : List ByteArray} {w w' : World} (h : F = false) (hb : Below b w w') : MetPost F b N seen w (.returned (.bool false)) w' := by
  subst h
  exact ⟨rfl, hb, fun h => by cases h⟩
theorem MetPost.yes {F : Bool} {b N n : Nat} {D : DataW Unit} {seen : List ByteArray} {w w' : World} (h : F = true) (hb : Below b w w') (hm : MapAt w' b n D) (hn : n ≤ N) (hk : KeysB D seen) : MetPost F b N seen w (.returned (.bool true)) w' := by
  subst h
  exact ⟨rfl, hb, fun _ => ⟨n, D, hm, hn, hk⟩⟩
set_option maxRecDepth 100000 in
set_option maxHeartbeats 8000000 in
theorem globalsOK_any (v : Value) (m : Md) (l : List GlobalD) (b n0 : Nat) (D0 : DataW Unit) (seen : List ByteArray) (w : World) (H : SlAt GlobalAt 2 w m v l) (hm : m.hi ≤ b) (hown : MapAt w b n0 D0) (hkeys : KeysB D0 seen) (hn0 : n0 ≤ 100000) (hgb : 1 < b) (t : TypeId) (fr : Nat × Nat) (hg : w.heap[1]? = some (.cells keyRow t fr)) :
    Calls Tryz.prog 56 #[v, .map (some b)] w (MetPost (decide (l.length ≤ 100) && globsB seen l) b (n0 + l.length) (seen ++ l.map fun x => x.name) w) := by
  have hbz : b < w.heap.size := hown.lt
  have HO : Hid (∀ s : ByteArray, s.size ≤ maxLen → ∀ w1, Below b w w1 → Calls Tryz.prog 53 #[.string s] w1 fun e w' => e = .returned (.bool (ownB s)) ∧ Below w1.heap.size w1 w') := hide fun s hs w1 bel =>
    ownName_any s w1 hs t fr ((bel.block 1 hgb).trans hg)
  obtain ⟨a, c, rfl, hr⟩ := H
  have HR := hide hr
  have HM := hide hm
  obtain ⟨F, hF⟩ : ∃ F, globsB seen l = F := ⟨_, rfl⟩
  have HF := hide hF
  obtain ⟨n, hn⟩ : ∃ n, l.length = n := ⟨_, rfl⟩
  have HN := hide hn
  have HW := hide hown
  have HKs := hide hkeys
  rw [hF, hn]
  clear hr hm hF hn hg hown hkeys
  by_cases h100 : 100 < n
  · have i100 : (100 : Int) < n := by omega
    rw [decide_eq_false (show ¬ n ≤ 100 by omega)]
    go_enter Tryz.func56, Tryz.ntmps56
    go_wp2
    go_ret
    exact MetPost.no rfl (Below.refl _ _)
  · have i100 : ¬ (100 : Int) < n := by omega
    rw [decide_eq_true (show n ≤ 100 by omega), Bool.true_and]
    go_enter Tryz.func56, Tryz.ntmps56
    go_wp2_with fail
    go_loopg [14] n (fun q iv wr => ∃ (k cnt : Nat) (D : DataW Unit), iv = .int .i64 k ∧ k ≤ n ∧ q = n - k ∧ cnt ≤ n0 + k ∧ Hid (MapAt wr b cnt D) ∧ Hid (KeysB D (seen ++ (l.take k).map fun x => x.name)) ∧ Hid (Below b w wr) ∧ Hid (globsB (seen ++ (l.take k).map fun x => x.name) (l.drop k) = F))
    case atStart => exact ⟨0, n0, D0, rfl, by omega, rfl, by omega, HW, hide (by simpa using HKs.out), hide (Below.refl _ _), hide (by simpa using HF.out)⟩
    case round =>
      obtain ⟨k, cnt, D, rfl, hk, hq, hcnt, Hown, HK, HB, HG⟩ := hrel
      have HQ := hide hq
      clear hq
      by_cases hp : k < n
      · have i1 : (k : Int) < n := by omega
        have hkl : k < l.length := by rw [HN.out]; exact hp
        have hg1 := HG.out
        rw [globs_at hkl] at hg1
        have hsn : seen ++ ((l.take (k + 1)).map fun x => x.name) = (seen ++ (l.take k).map fun x => x.name) ++ [l[k].name] := by
          rw [List.take_succ_eq_append_getElem hkl, List.map_append, List.append_assoc]
          rfl
        have HKS := hide (fun d hs => keysB_step (d := d) (t := l[k].name) HK.out Hown.out.isMap hs)
        have HSn := hide hsn
        obtain ⟨g, o, rfl, hb1, hb2, -, he⟩ := rows_on GlobalAt.stays HR.out (HB.out.mono HM.out) k hkl
        have hcap : k ≤ c := by have := hb1.2; omega
        obtain ⟨x, hx⟩ : ∃ x, l[k] = x := ⟨_, rfl⟩
        rw [hx] at he hg1 HKS HSn
        clear hx hb1 hsn
        obtain ⟨s, p⟩ := x
        obtain ⟨⟨c0, c1⟩, ⟨r0, r1⟩⟩ := he
        simp only [Nat.add_zero] at c0 c1 r0 r1 hg1 HKS HSn
        have hkey : keyOf Tryz.prog 9 (.string s) = some (.string s.data.toList) := keyOf_string_mk Tryz.underlying9 r0
        have HS := hide r0
        have HE : Hid (globB ⟨s, p⟩ = (ownB s && inB p 0 100)) := hide rfl
        obtain ⟨sk, hsk⟩ : ∃ sk, seen ++ (l.take k).map (fun x => x.name) = sk := ⟨_, rfl⟩
        rw [hsk] at hg1 HK HKS HSn
        have hhas := HK.out s
        have Hhas := hide hhas
        have HG1 := hide hg1
        have hsz := HB.out.size
        have hbw : Below b w (wr.alloc (.cells #[.string s, .int .i64 p] 82)) := HB.out.alloc (by omega) _
        have HBW := hide hbw
        clear hg1 r0 hbw hhas hsk
        cases hmet : seenB sk s with
        | true =>
          go_wp2_with (at_lookup; refine wpList_lookup_own_ok_int _ rfl _ _ 98 rfl 9 3 .i64 lawString Tryz.underlying98 Tryz.underlying3 (zeroInt _) b cnt _ rfl (Hown.out.alloc _) _ _ rfl hkey ?_; intro cc hat hwc; rw [Hhas.out, hmet])
          go_ret
          exact MetPost.no (by rw [← HG1.out, hmet]; rfl) HBW.out
        | false =>
          cases ho : ownB s with
          | false =>
            go_wp2_with (first
              | (at_lookup; refine wpList_lookup_own_ok_int _ rfl _ _ 98 rfl 9 3 .i64 lawString Tryz.underlying98 Tryz.underlying3 (zeroInt _) b cnt _ rfl (Hown.out.alloc _) _ _ rfl hkey ?_; intro cc hat hwc; rw [Hhas.out, hmet])
              | (go_at_call 53; refine (HO.out s HS.out _ HBW.out).mono ?_; rintro e w5 ⟨rfl, b5⟩; rw [ho]; obtain ⟨hcc, hff⟩ := bcell b5))
            go_ret
            exact MetPost.no (by rw [← HG1.out, HE.out, ho]; simp) (HBW.out.trans (b5.mono (by simp; omega)))
          | true =>
            by_cases q1 : p < 0
            · go_wp2_with (first
                | (at_lookup; refine wpList_lookup_own_ok_int _ rfl _ _ 98 rfl 9 3 .i64 lawString Tryz.underlying98 Tryz.underlying3 (zeroInt _) b cnt _ rfl (Hown.out.alloc _) _ _ rfl hkey ?_; intro cc hat hwc; rw [Hhas.out, hmet])
                | (go_at_call 53; refine (HO.out s HS.out _ HBW.out).mono ?_; rintro e w5 ⟨rfl, b5⟩; rw [ho]; obtain ⟨hcc, hff⟩ := bcell b5))
              go_ret
              exact MetPost.no (by rw [← HG1.out, HE.out, show inB p 0 100 = false from in_no (by omega)]; simp) (HBW.out.trans (b5.mono (by simp; omega)))
            · by_cases q2 : 100 < p
              · go_wp2_with (first
                  | (at_lookup; refine wpList_lookup_own_ok_int _ rfl _ _ 98 rfl 9 3 .i64 lawString Tryz.underlying98 Tryz.underlying3 (zeroInt _) b cnt _ rfl (Hown.out.alloc _) _ _ rfl hkey ?_; intro cc hat hwc; rw [Hhas.out, hmet])
                  | (go_at_call 53; refine (HO.out s HS.out _ HBW.out).mono ?_; rintro e w5 ⟨rfl, b5⟩; rw [ho]; obtain ⟨hcc, hff⟩ := bcell b5))
                go_ret
                exact MetPost.no (by rw [← HG1.out, HE.out, show inB p 0 100 = false from in_no (by omega)]; simp) (HBW.out.trans (b5.mono (by simp; omega)))
              · have HP : Hid (inB p 0 100 = true) := hide (in_yes (by omega) (by omega))
                go_wp2_with (first
                  | (at_lookup; refine wpList_lookup_own_ok_int _ rfl _ _ 98 rfl 9 3 .i64 lawString Tryz.underlying98 Tryz.underlying3 (zeroInt _) b cnt _ rfl (Hown.out.alloc _) _ _ rfl hkey ?_; intro cc hat hwc; rw [Hhas.out, hmet])
                  | (go_at_call 53; refine (HO.out s HS.out _ HBW.out).mono ?_; rintro e w5 ⟨rfl, b5⟩; rw [ho]; obtain ⟨hcc, hff⟩ := bcell b5; have h4 : Below wr.heap.size wr w5 := ((Below.refl _ _).alloc (Nat.le_refl _) _).trans (b5.mono (by simp)))
                  | (at_mapUpdate; refine wpList_mapUpdate_own _ rfl _ _ _ 98 rfl 9 3 lawString Tryz.underlying98 _ b cnt _ rfl (owns_on Hown.out Hown.out.lt h4) (by unfold maxLen; omega) _ _ _ rfl rfl hkey _ [] (plainElem_int Tryz.underlying3 (WalkArith.wf_i64 (by omega))) ?_; intro w6 hown6 hgrow6))
                have hb5 := HBW.out.trans (b5.mono (show b ≤ _ by simp; omega))
                go_roundg (n - (k + 1))
                case measure => rw [HQ.out]; omega
                case rel => exact ⟨k + 1, cnt + 1, _, by go_num, by omega, rfl, by omega, hide hown6, hide (by rw [HSn.out]; exact HKS.out _ trivial), hide (hb5.grown hgrow6 (by have := hb5.size; omega) (fun j hj => by cases hj; exact Nat.le_refl _)), hide (by rw [HSn.out, ← HG1.out, hmet, HE.out, ho, HP.out]; simp)⟩
      · have i1 : ¬ (k : Int) < n := by omega
        obtain rfl : k = n := by omega
        have HT : Hid (F = true) := hide (by
          rw [← HG.out, List.drop_of_length_le (by rw [HN.out]; omega)]
          rfl)
        have HK2 : Hid (KeysB D (seen ++ l.map fun x => x.name)) := hide (by
          have := HK.out
          rwa [List.take_of_length_le (by rw [HN.out]; omega)] at this)
        go_wp2
        go_ret
        exact MetPost.yes HT.out HB.out Hown.out hcnt HK2.out
end Go.Proofs.YtfbglokjehmgeaaGreatDoor
