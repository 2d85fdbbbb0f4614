/- The program's look at an object's variables, by a map of the names that it has met. Its table of words is a premise. -/
import Derived.Test.YtpaljmhoojpbdaaDoorZWkI5
import Derived.Maps.OwnSet
/- When an object is right, told once over plain data; the program's look at its needs. Its table of words is a premise. -/
namespace Go.Proofs.YtpaljmhoojpbdaaDoor
open Go.ChangeShapes Go.WideShapes Go.ChangeAt Go.RowKit Go.PlainAid Go.Deep

def seenB (seen : List ByteArray) (s : ByteArray) : Bool := seen.any fun z => z.toList == s.toList
def needB (x : NeedD) : Bool := ownB x.module && inB x.print 0 4294967295
def globB (x : GlobalD) : Bool := ownB x.name && inB x.length 0 100
def globsB : List ByteArray → List GlobalD → Bool
  | _, [] => true
  | seen, x :: r => !(seenB seen x.name) && globB x && globsB (seen ++ [x.name]) r
def procB (x : CodeD) (last : Bool) : Bool := decide ((verC x).1 = 0) && (emB x.name == last)
def procsB : List ByteArray → List CodeD → Bool
  | _, [] => true
  | seen, x :: r => !(seenB seen x.name) && procB x r.isEmpty && procsB (seen ++ [x.name]) r
def objB (o : ObjectD) : Bool :=
  ownB o.module && inB o.print 0 4294967295 && (decide (o.needs.length ≤ 20) && o.needs.all needB) && (decide (o.globals.length ≤ 100) && globsB [] o.globals) && (decide (1 ≤ o.procs.length) && decide (o.procs.length ≤ 60) && procsB (o.globals.map fun x => x.name) o.procs)
theorem seen_snoc (seen : List ByteArray) (t s : ByteArray) : seenB (seen ++ [t]) s = (seenB seen s || (t.toList == s.toList)) := by unfold seenB; rw [List.any_append]; simp
theorem globs_at {l : List GlobalD} {k : Nat} (h : k < l.length) (seen : List ByteArray) : globsB seen (l.drop k) = (!(seenB seen l[k].name) && globB l[k] && globsB (seen ++ [l[k].name]) (l.drop (k + 1))) := by
  rw [List.drop_eq_getElem_cons h, globsB]
theorem procs_at {l : List CodeD} {k : Nat} (h : k < l.length) (seen : List ByteArray) : procsB seen (l.drop k) = (!(seenB seen l[k].name) && procB l[k] (decide (k + 1 = l.length)) && procsB (seen ++ [l[k].name]) (l.drop (k + 1))) := by
  rw [List.drop_eq_getElem_cons h, procsB]
  have : (l.drop (k + 1)).isEmpty = decide (k + 1 = l.length) := by
    rw [Bool.eq_iff_iff]
    simp
    omega
  rw [this]
theorem needs_at {l : List NeedD} {k : Nat} (h : k < l.length) : (l.drop k).all needB = (needB l[k] && (l.drop (k + 1)).all needB) := by
  rw [List.drop_eq_getElem_cons h, List.all_cons]
theorem printFits_any (p : Int) (w : World) : Calls Tryd.prog 36 #[.int .i64 p] w fun e w' => e = .returned (.bool (inB p 0 4294967295)) ∧ w' = w := by
  by_cases h : 0 ≤ p
  · by_cases k : p ≤ 4294967295
    · rw [in_yes h k]
      go_enter Tryd.func36, Tryd.ntmps36
      go_wp2
      go_ret
      exact ⟨rfl, rfl⟩
    · rw [in_no (fun q => k q.2)]
      go_enter Tryd.func36, Tryd.ntmps36
      go_wp2
      go_ret
      exact ⟨rfl, rfl⟩
  · rw [in_no (fun q => h q.1)]
    go_enter Tryd.func36, Tryd.ntmps36
    go_wp2
    go_ret
    exact ⟨rfl, rfl⟩
set_option maxRecDepth 100000 in
set_option maxHeartbeats 4000000 in
theorem needsOK_any (v : Value) (m : Md) (l : List NeedD) (w : World) (H : SlAt NeedAt 2 w m v l) (hm : m.hi ≤ w.heap.size) (t : TypeId) (fr : Nat × Nat) (hg : w.heap[1]? = some (.cells keyRow t fr)) :
    Calls Tryd.prog 37 #[v] w fun e w' => e = .returned (.bool (decide (l.length ≤ 20) && l.all needB)) ∧ Below w.heap.size w w' := by
  have HO : Hid (∀ s : ByteArray, s.size ≤ maxLen → ∀ w1, Below w.heap.size w w1 → Calls Tryd.prog 35 #[.string s] w1 fun e w' => e = .returned (.bool (ownB s)) ∧ Below w1.heap.size w1 w') := hide fun s hs w1 bel =>
    ownName_any s w1 hs t fr ((bel.block 1 (Array.getElem?_eq_some_iff.1 hg).1).trans hg)
  obtain ⟨a, c, rfl, hr⟩ := H
  have HR := hide hr
  have HM := hide hm
  obtain ⟨F, hF⟩ : ∃ F, l.all needB = F := ⟨_, rfl⟩
  have HF := hide hF
  obtain ⟨n, hn⟩ : ∃ n, l.length = n := ⟨_, rfl⟩
  have HN := hide hn
  rw [hF, hn]
  clear hr hm hF hn hg
  by_cases h20 : 20 < n
  · have i20 : (20 : Int) < n := by omega
    rw [decide_eq_false (show ¬ n ≤ 20 by omega)]
    go_enter Tryd.func37, Tryd.ntmps37
    go_wp2
    go_ret
    exact ⟨rfl, Below.refl _ _⟩
  · have i20 : ¬ (20 : Int) < n := by omega
    rw [decide_eq_true (show n ≤ 20 by omega)]
    go_enter Tryd.func37, Tryd.ntmps37
    go_wp2_with fail
    go_loopg [10] n (fun q iv wr => ∃ k : Nat, iv = .int .i64 k ∧ k ≤ n ∧ q = n - k ∧ Hid ((l.drop k).all needB = F) ∧ Hid (Below w.heap.size w wr))
    case atStart => exact ⟨0, rfl, by omega, rfl, hide (by rw [List.drop_zero]; exact HF.out), hide (Below.refl _ _)⟩
    case round =>
      obtain ⟨k, rfl, hk, hq, HK, HB⟩ := hrel
      have HQ := hide hq
      clear hq
      by_cases hp : k < n
      · have i1 : (k : Int) < n := by omega
        have hkl : k < l.length := by rw [HN.out]; exact hp
        have hk1 := HK.out
        rw [needs_at hkl] at hk1
        obtain ⟨b, o, rfl, hb1, hb2, -, he⟩ := rows_on NeedAt.stays HR.out (HB.out.mono HM.out) k hkl
        have hcap : k ≤ c := by have := hb1.2; omega
        obtain ⟨x, hx⟩ : ∃ x, l[k] = x := ⟨_, rfl⟩
        rw [hx] at he hk1
        clear hx hb1
        obtain ⟨s, p⟩ := x
        obtain ⟨⟨c0, c1⟩, ⟨r0, -⟩⟩ := he
        simp only [Nat.add_zero] at c0 c1 r0
        have HS := hide r0
        have HE : Hid (needB ⟨s, p⟩ = (ownB s && inB p 0 4294967295)) := hide rfl
        have HK1 := hide hk1
        have hbw : Below w.heap.size w (wr.alloc (.cells #[.string s, .int .i64 p] 69)) := HB.out.alloc HB.out.size _
        have HBW := hide hbw
        have hsz := HB.out.size
        clear hk1 r0 hbw
        cases ho : ownB s with
        | false =>
          go_wp2_with (go_at_call 35; refine (HO.out s HS.out _ HBW.out).mono ?_; rintro e w5 ⟨rfl, b5⟩; rw [ho]; obtain ⟨hcc, hff⟩ := bcell b5)
          go_ret
          exact ⟨ret_bool (by rw [← HK1.out, HE.out, ho]; rfl), HBW.out.trans (b5.mono HBW.out.size)⟩
        | true =>
          cases hp2 : inB p 0 4294967295 with
          | false =>
            go_wp2_with (first
              | (go_at_call 35; refine (HO.out s HS.out _ HBW.out).mono ?_; rintro e w5 ⟨rfl, b5⟩; rw [ho]; obtain ⟨hcc, hff⟩ := bcell b5)
              | (go_at_call 36; refine (printFits_any p _).mono ?_; rintro e w6 ⟨rfl, rfl⟩; rw [hp2]))
            go_ret
            exact ⟨ret_bool (by rw [← HK1.out, HE.out, ho, hp2]; rfl), HBW.out.trans (b5.mono HBW.out.size)⟩
          | true =>
            go_wp2_with (first
              | (go_at_call 35; refine (HO.out s HS.out _ HBW.out).mono ?_; rintro e w5 ⟨rfl, b5⟩; rw [ho]; obtain ⟨hcc, hff⟩ := bcell b5)
              | (go_at_call 36; refine (printFits_any p _).mono ?_; rintro e w6 ⟨rfl, rfl⟩; rw [hp2]))
            go_roundg (n - (k + 1))
            case measure => rw [HQ.out]; omega
            case rel => exact ⟨k + 1, by go_num, by omega, rfl, hide (by rw [← HK1.out, HE.out, ho, hp2]; simp), hide (HBW.out.trans (b5.mono HBW.out.size))⟩
      · have i1 : ¬ (k : Int) < n := by omega
        have HT : Hid (F = true) := hide (by
          rw [← HK.out, List.drop_of_length_le (by rw [HN.out]; omega)]
          simp)
        go_wp2
        go_ret
        exact ⟨ret_bool (by rw [HT.out]), HB.out⟩
end Go.Proofs.YtpaljmhoojpbdaaDoor

namespace Go.Proofs.YtpaljmhoojpbdaaDoor
open Go.ChangeShapes Go.WideShapes Go.ChangeAt Go.RowKit Go.PlainAid Go.Deep Go.Maps Go.WideMaps

theorem lawString : Keyed Tryd.prog 9 := string_keyed Tryd.underlying9
theorem zeroInt (w : World) : (zeroValue 3).run Tryd.prog w = .ok (.int .i64 0) w := by kernel_rfl
theorem owns_on {w w' : World} {P : Program} {k : TypeId} {R : Value → Option (DataW Unit × List MemPlace)} {b n : Nat} {D : DataW Unit} (h : w.ownsMap P k R b n D) {B : Nat} (hb : b < B) (bel : Below B w w') : w'.ownsMap P k R b n D := by
  obtain ⟨es, clock, h1, r⟩ := h
  exact ⟨es, clock, (bel.block b hb).trans h1, r⟩
/-- The map's keys are the names met. -/
def KeysB (D : DataW Unit) (seen : List ByteArray) : Prop := ∀ s : ByteArray, Maps.has D (.string s.data.toList) = seenB seen s
theorem keysB_start : KeysB (.map []) [] := fun _ => rfl
theorem toList_data (s : ByteArray) : s.toList = s.data.toList := ByteArray.toList_eq ..
theorem keysB_step {D d : DataW Unit} {seen : List ByteArray} {t : ByteArray} (h : KeysB D seen) (hD : IsMap D) (hs : WideAt.IsKeyLit (.string t.data.toList)) : KeysB (D.put (.string t.data.toList) d) (seen ++ [t]) := by
  intro s
  rw [seen_snoc]
  by_cases e : s.data.toList = t.data.toList
  · rw [e, has_put_same hD hs, toList_data, toList_data, e]
    simp
  · rw [has_put_other (by simpa using e), h s, toList_data, toList_data]
    have : (t.data.toList == s.data.toList) = false := by simpa using Ne.symm e
    rw [this, Bool.or_false]
abbrev MapAt (w : World) (b n : Nat) (D : DataW Unit) : Prop := w.ownsMap Tryd.prog 9 (plainElem Tryd.prog 3) b n D
/-- What a look at a list of names leaves. -/
def MetPost (F : Bool) (b N : Nat) (seen : List ByteArray) (w : World) (e : Ending) (w' : World) : Prop := e = .returned (.bool F) ∧ Below b w w' ∧ (F = true → ∃ n D, MapAt w' b n D ∧ n ≤ N ∧ KeysB D seen)
theorem MetPost.no {F : Bool} {b N : Nat} {seen : List ByteArray} {w w' : World} (h : F = false) (hb : Below b w w') : MetPost F b N seen w (.returned (.bool false)) w' := by
  subst h
  exact ⟨rfl, hb, fun h => by cases h⟩
theorem MetPost.yes {F : Bool} {b N n : Nat} {D : DataW Unit} {seen : List ByteArray} {w w' : World} (h : F = true) (hb : Below b w w') (hm : MapAt w' b n D) (hn : n ≤ N) (hk : KeysB D seen) : MetPost F b N seen w (.returned (.bool true)) w' := by
  subst h
  exact ⟨rfl, hb, fun _ => ⟨n, D, hm, hn, hk⟩⟩
set_option maxRecDepth 100000 in
set_option maxHeartbeats 8000000 in
theorem globalsOK_any (v : Value) (m : Md) (l : List GlobalD) (b n0 : Nat) (D0 : DataW Unit) (seen : List ByteArray) (w : World) (H : SlAt GlobalAt 2 w m v l) (hm : m.hi ≤ b) (hown : MapAt w b n0 D0) (hkeys : KeysB D0 seen) (hn0 : n0 ≤ 100000) (hgb : 1 < b) (t : TypeId) (fr : Nat × Nat) (hg : w.heap[1]? = some (.cells keyRow t fr)) :
    Calls Tryd.prog 38 #[v, .map (some b)] w (MetPost (decide (l.length ≤ 100) && globsB seen l) b (n0 + l.length) (seen ++ l.map fun x => x.name) w) := by
  have hbz : b < w.heap.size := hown.lt
  have HO : Hid (∀ s : ByteArray, s.size ≤ maxLen → ∀ w1, Below b w w1 → Calls Tryd.prog 35 #[.string s] w1 fun e w' => e = .returned (.bool (ownB s)) ∧ Below w1.heap.size w1 w') := hide fun s hs w1 bel =>
    ownName_any s w1 hs t fr ((bel.block 1 hgb).trans hg)
  obtain ⟨a, c, rfl, hr⟩ := H
  have HR := hide hr
  have HM := hide hm
  obtain ⟨F, hF⟩ : ∃ F, globsB seen l = F := ⟨_, rfl⟩
  have HF := hide hF
  obtain ⟨n, hn⟩ : ∃ n, l.length = n := ⟨_, rfl⟩
  have HN := hide hn
  have HW := hide hown
  have HKs := hide hkeys
  rw [hF, hn]
  clear hr hm hF hn hg hown hkeys
  by_cases h100 : 100 < n
  · have i100 : (100 : Int) < n := by omega
    rw [decide_eq_false (show ¬ n ≤ 100 by omega)]
    go_enter Tryd.func38, Tryd.ntmps38
    go_wp2
    go_ret
    exact MetPost.no rfl (Below.refl _ _)
  · have i100 : ¬ (100 : Int) < n := by omega
    rw [decide_eq_true (show n ≤ 100 by omega), Bool.true_and]
    go_enter Tryd.func38, Tryd.ntmps38
    go_wp2_with fail
    go_loopg [14] n (fun q iv wr => ∃ (k cnt : Nat) (D : DataW Unit), iv = .int .i64 k ∧ k ≤ n ∧ q = n - k ∧ cnt ≤ n0 + k ∧ Hid (MapAt wr b cnt D) ∧ Hid (KeysB D (seen ++ (l.take k).map fun x => x.name)) ∧ Hid (Below b w wr) ∧ Hid (globsB (seen ++ (l.take k).map fun x => x.name) (l.drop k) = F))
    case atStart => exact ⟨0, n0, D0, rfl, by omega, rfl, by omega, HW, hide (by simpa using HKs.out), hide (Below.refl _ _), hide (by simpa using HF.out)⟩
    case round =>
      obtain ⟨k, cnt, D, rfl, hk, hq, hcnt, Hown, HK, HB, HG⟩ := hrel
      have HQ := hide hq
      clear hq
      by_cases hp : k < n
      · have i1 : (k : Int) < n := by omega
        have hkl : k < l.length := by rw [HN.out]; exact hp
        have hg1 := HG.out
        rw [globs_at hkl] at hg1
        have hsn : seen ++ ((l.take (k + 1)).map fun x => x.name) = (seen ++ (l.take k).map fun x => x.name) ++ [l[k].name] := by
          rw [List.take_succ_eq_append_getElem hkl, List.map_append, List.append_assoc]
          rfl
        have HKS := hide (fun d hs => keysB_step (d := d) (t := l[k].name) HK.out Hown.out.isMap hs)
        have HSn := hide hsn
        obtain ⟨g, o, rfl, hb1, hb2, -, he⟩ := rows_on GlobalAt.stays HR.out (HB.out.mono HM.out) k hkl
        have hcap : k ≤ c := by have := hb1.2; omega
        obtain ⟨x, hx⟩ : ∃ x, l[k] = x := ⟨_, rfl⟩
        rw [hx] at he hg1 HKS HSn
        clear hx hb1 hsn
        obtain ⟨s, p⟩ := x
        obtain ⟨⟨c0, c1⟩, ⟨r0, r1⟩⟩ := he
        simp only [Nat.add_zero] at c0 c1 r0 r1 hg1 HKS HSn
        have hkey : keyOf Tryd.prog 9 (.string s) = some (.string s.data.toList) := keyOf_string_mk Tryd.underlying9 r0
        have HS := hide r0
        have HE : Hid (globB ⟨s, p⟩ = (ownB s && inB p 0 100)) := hide rfl
        obtain ⟨sk, hsk⟩ : ∃ sk, seen ++ (l.take k).map (fun x => x.name) = sk := ⟨_, rfl⟩
        rw [hsk] at hg1 HK HKS HSn
        have hhas := HK.out s
        have Hhas := hide hhas
        have HG1 := hide hg1
        have hsz := HB.out.size
        have hbw : Below b w (wr.alloc (.cells #[.string s, .int .i64 p] 72)) := HB.out.alloc (by omega) _
        have HBW := hide hbw
        clear hg1 r0 hbw hhas hsk
        cases hmet : seenB sk s with
        | true =>
          go_wp2_with (at_lookup; refine wpList_lookup_own_ok_int _ rfl _ _ 79 rfl 9 3 .i64 lawString Tryd.underlying79 Tryd.underlying3 (zeroInt _) b cnt _ rfl (Hown.out.alloc _) _ _ rfl hkey ?_; intro cc hat hwc; rw [Hhas.out, hmet])
          go_ret
          exact MetPost.no (by rw [← HG1.out, hmet]; rfl) HBW.out
        | false =>
          cases ho : ownB s with
          | false =>
            go_wp2_with (first
              | (at_lookup; refine wpList_lookup_own_ok_int _ rfl _ _ 79 rfl 9 3 .i64 lawString Tryd.underlying79 Tryd.underlying3 (zeroInt _) b cnt _ rfl (Hown.out.alloc _) _ _ rfl hkey ?_; intro cc hat hwc; rw [Hhas.out, hmet])
              | (go_at_call 35; refine (HO.out s HS.out _ HBW.out).mono ?_; rintro e w5 ⟨rfl, b5⟩; rw [ho]; obtain ⟨hcc, hff⟩ := bcell b5))
            go_ret
            exact MetPost.no (by rw [← HG1.out, HE.out, ho]; simp) (HBW.out.trans (b5.mono (by simp; omega)))
          | true =>
            by_cases q1 : p < 0
            · go_wp2_with (first
                | (at_lookup; refine wpList_lookup_own_ok_int _ rfl _ _ 79 rfl 9 3 .i64 lawString Tryd.underlying79 Tryd.underlying3 (zeroInt _) b cnt _ rfl (Hown.out.alloc _) _ _ rfl hkey ?_; intro cc hat hwc; rw [Hhas.out, hmet])
                | (go_at_call 35; refine (HO.out s HS.out _ HBW.out).mono ?_; rintro e w5 ⟨rfl, b5⟩; rw [ho]; obtain ⟨hcc, hff⟩ := bcell b5))
              go_ret
              exact MetPost.no (by rw [← HG1.out, HE.out, show inB p 0 100 = false from in_no (by omega)]; simp) (HBW.out.trans (b5.mono (by simp; omega)))
            · by_cases q2 : 100 < p
              · go_wp2_with (first
                  | (at_lookup; refine wpList_lookup_own_ok_int _ rfl _ _ 79 rfl 9 3 .i64 lawString Tryd.underlying79 Tryd.underlying3 (zeroInt _) b cnt _ rfl (Hown.out.alloc _) _ _ rfl hkey ?_; intro cc hat hwc; rw [Hhas.out, hmet])
                  | (go_at_call 35; refine (HO.out s HS.out _ HBW.out).mono ?_; rintro e w5 ⟨rfl, b5⟩; rw [ho]; obtain ⟨hcc, hff⟩ := bcell b5))
                go_ret
                exact MetPost.no (by rw [← HG1.out, HE.out, show inB p 0 100 = false from in_no (by omega)]; simp) (HBW.out.trans (b5.mono (by simp; omega)))
              · have HP : Hid (inB p 0 100 = true) := hide (in_yes (by omega) (by omega))
                go_wp2_with (first
                  | (at_lookup; refine wpList_lookup_own_ok_int _ rfl _ _ 79 rfl 9 3 .i64 lawString Tryd.underlying79 Tryd.underlying3 (zeroInt _) b cnt _ rfl (Hown.out.alloc _) _ _ rfl hkey ?_; intro cc hat hwc; rw [Hhas.out, hmet])
                  | (go_at_call 35; refine (HO.out s HS.out _ HBW.out).mono ?_; rintro e w5 ⟨rfl, b5⟩; rw [ho]; obtain ⟨hcc, hff⟩ := bcell b5; have h4 : Below wr.heap.size wr w5 := ((Below.refl _ _).alloc (Nat.le_refl _) _).trans (b5.mono (by simp)))
                  | (at_mapUpdate; refine wpList_mapUpdate_own _ rfl _ _ _ 79 rfl 9 3 lawString Tryd.underlying79 _ b cnt _ rfl (owns_on Hown.out Hown.out.lt h4) (by unfold maxLen; omega) _ _ _ rfl rfl hkey _ [] (plainElem_int Tryd.underlying3 (WalkArith.wf_i64 (by omega))) ?_; intro w6 hown6 hgrow6))
                have hb5 := HBW.out.trans (b5.mono (show b ≤ _ by simp; omega))
                go_roundg (n - (k + 1))
                case measure => rw [HQ.out]; omega
                case rel => exact ⟨k + 1, cnt + 1, _, by go_num, by omega, rfl, by omega, hide hown6, hide (by rw [HSn.out]; exact HKS.out _ trivial), hide (hb5.grown hgrow6 (by have := hb5.size; omega) (fun j hj => by cases hj; exact Nat.le_refl _)), hide (by rw [HSn.out, ← HG1.out, hmet, HE.out, ho, HP.out]; simp)⟩
      · have i1 : ¬ (k : Int) < n := by omega
        obtain rfl : k = n := by omega
        have HT : Hid (F = true) := hide (by
          rw [← HG.out, List.drop_of_length_le (by rw [HN.out]; omega)]
          rfl)
        have HK2 : Hid (KeysB D (seen ++ l.map fun x => x.name)) := hide (by
          have := HK.out
          rwa [List.take_of_length_le (by rw [HN.out]; omega)] at this)
        go_wp2
        go_ret
        exact MetPost.yes HT.out HB.out Hown.out hcnt HK2.out
end Go.Proofs.YtpaljmhoojpbdaaDoor
