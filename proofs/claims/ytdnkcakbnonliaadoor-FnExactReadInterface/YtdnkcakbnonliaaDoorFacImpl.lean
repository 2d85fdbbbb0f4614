/- The program's InterfaceOK answers 'facB', by a map of the names that it has met. Its table of words is a premise. -/
import Derived.Test.YtdnkcakbnonliaaDoorFacItemI
namespace Go.Proofs.YtdnkcakbnonliaaDoor
open Go.RowKit Go.PlainAid Go.Maps Go.WideMaps

theorem lawString : Keyed Tryd.prog 9 := string_keyed Tryd.underlying9
theorem zeroInt (w : World) : (zeroValue 3).run Tryd.prog w = .ok (.int .i64 0) w := by kernel_rfl
theorem owns_on {w w' : World} {P : Program} {k : TypeId} {R : Value → Option (DataW Unit × List MemPlace)} {b n : Nat} {D : DataW Unit} (h : w.ownsMap P k R b n D) {B : Nat} (hb : b < B) (bel : Below B w w') : w'.ownsMap P k R b n D := by
  obtain ⟨es, clock, h1, r⟩ := h
  exact ⟨es, clock, (bel.block b hb).trans h1, r⟩
theorem take_namesI {l : List Itm} {k : Nat} (h : k < l.length) : seenOf l (k + 1) = seenOf l k ++ [l[k].name] := by
  unfold seenOf
  rw [List.take_succ_eq_append_getElem h, List.map_append]
  rfl
theorem met_snocI (seen : List ByteArray) (t s : ByteArray) : metB (seen ++ [t]) s = (metB seen s || (t.toList == s.toList)) := by unfold metB; rw [List.any_append]; simp
/-- The map's keys are the names met. -/
def Keys (D : DataW Unit) (l : List Itm) (k : Nat) : Prop := ∀ s : ByteArray, Maps.has D (.string s.data.toList) = metB (seenOf l k) s
theorem keys_start (l : List Itm) : Keys (.map []) l 0 := fun _ => rfl
theorem toList_data (s : ByteArray) : s.toList = s.data.toList := ByteArray.toList_eq ..
theorem keys_step {D d : DataW Unit} {l : List Itm} {k : Nat} (h : Keys D l k) (hD : IsMap D) (hk : k < l.length) (hs : WideAt.IsKeyLit (.string l[k].name.data.toList)) : Keys (D.put (.string l[k].name.data.toList) d) l (k + 1) := by
  intro s
  rw [take_namesI hk, met_snocI]
  by_cases e : s.data.toList = l[k].name.data.toList
  · rw [e, has_put_same hD hs, toList_data, toList_data, e]
    simp
  · rw [has_put_other (by simpa using e), h s, toList_data, toList_data]
    have : (l[k].name.data.toList == s.data.toList) = false := by simpa using Ne.symm e
    rw [this, Bool.or_false]
set_option maxRecDepth 100000 in
set_option maxHeartbeats 8000000 in
theorem implInterfaceOK_any (v : Value) (m : Md) (x : Fac) (w : World) (h : FacAt w m v x) (hm : m.hi ≤ w.heap.size) (t : TypeId) (fr : Nat × Nat) (hg : w.heap[0]? = some (.cells keyRow t fr)) :
    Calls Tryd.prog 17 #[v] w fun e w' => e = .returned (.bool (facB x)) ∧ Below w.heap.size w w' := by
  have HO : Hid (∀ s : ByteArray, s.size ≤ maxLen → ∀ w1, Below w.heap.size w w1 → Calls Tryd.prog 41 #[.string s] w1 fun e w' => e = .returned (.bool (ownB s)) ∧ Below w1.heap.size w1 w') := fun s hs w1 bel =>
    ownName_any s w1 hs t fr ((bel.block 0 (Array.getElem?_eq_some_iff.1 hg).1).trans hg)
  obtain ⟨u, rfl, hs, hn, a, c, rfl, h⟩ := h
  have H := hide h
  have HY := hide (fac_yes (x := x))
  have HX := hide (fac_no (x := x))
  have HF := hide (show ownB x.module = false → facB x = false from fun e => by unfold facB; rw [e]; rfl)
  have HG := hide (show 60 < x.items.length → facB x = false from fun e => by unfold facB; rw [decide_eq_false (by omega)]; simp)
  obtain ⟨fb, hfb⟩ : ∃ fb, facB x = fb := ⟨_, rfl⟩
  rw [hfb] at HY HX HF HG ⊢
  clear hfb h hg
  obtain ⟨s, l⟩ := x
  simp only [] at hs hn H HY HX HF HG
  have hn' := hn
  unfold maxLen at hn'
  have Hs := hide hs
  obtain ⟨n, hl⟩ : ∃ n, l.length = n := ⟨_, rfl⟩
  have HN := hide hl
  rw [hl] at hn'
  show Calls _ _ #[.agg #[.string s, .slice a l.length c]] _ _
  rw [hl]
  clear hl hs hn
  have hmm := @run_makeMap Tryd.prog
  cases ho : ownB s with
  | false =>
    rw [HF.out ho]
    go_enter Tryd.func17, Tryd.ntmps17
    go_wp2_with (go_at_call 41; refine (HO.out s Hs.out _ ((Below.refl _ _).alloc (Nat.le_refl _) _)).mono ?_; rintro e w1 ⟨rfl, bel⟩; rw [ho])
    go_ret
    exact ⟨rfl, Below.trans ((Below.refl _ _).alloc (Nat.le_refl _) _) (bel.mono (by simp))⟩
  | true =>
    by_cases h60 : 60 < n
    · rw [HG.out (by rw [HN.out]; exact h60)]
      have i60 : (60 : Int) < n := by omega
      go_enter Tryd.func17, Tryd.ntmps17
      go_wp2_with (go_at_call 41; refine (HO.out s Hs.out _ ((Below.refl _ _).alloc (Nat.le_refl _) _)).mono ?_; rintro e w1 ⟨rfl, bel⟩; rw [ho]; obtain ⟨hc, hf⟩ := bcell bel)
      go_ret
      exact ⟨rfl, Below.trans ((Below.refl _ _).alloc (Nat.le_refl _) _) (bel.mono (by simp))⟩
    · have i60 : ¬ (60 : Int) < n := by omega
      go_enter Tryd.func17, Tryd.ntmps17
      go_wp2_with (go_at_call 41; refine (HO.out s Hs.out _ ((Below.refl _ _).alloc (Nat.le_refl _) _)).mono ?_; rintro e w1 ⟨rfl, bel⟩; rw [ho]; obtain ⟨hc, hf⟩ := bcell bel; have hz : w.heap.size < w1.heap.size := (by have := bel.size; simp at this; omega))
      have b0 : Below w.heap.size w w1 := Below.trans ((Below.refl _ _).alloc (Nat.le_refl _) _) (bel.mono (by simp))
      clear hc hf bel
      go_loopw [22] (fun i wr => ∃ (k : Nat) (D : DataW Unit), i = .int .i64 k ∧ k ≤ n ∧ Hid (upto l k) ∧ Hid (wr.ownsMap Tryd.prog 9 (plainElem Tryd.prog 3) w1.heap.size k D) ∧ Hid (Keys D l k) ∧ Below w1.heap.size w1 wr) (fun i _ => n - (intOf i).toNat)
      case atStart => exact ⟨0, _, rfl, by omega, (fun i _ hi => absurd hi (by omega)), World.ownsMap_made _ _ _ _, keys_start l, (Below.refl _ _).alloc (Nat.le_refl _) _⟩
      case round =>
        obtain ⟨k, D, rfl, hk, Hk, Hown, HK, hbw⟩ := hrel
        by_cases hp : k < n
        · have i1 : (k : Int) < n := by omega
          have hkl : k < l.length := by rw [HN.out]; exact hp
          have hball : Below w.heap.size w wr := b0.trans (hbw.mono b0.size)
          obtain ⟨b, o, rfl, -, hb2, -, he⟩ := rows_on ItmAt.stays H.out (hball.mono hm) k hkl
          have HT := hide (HX.out k hkl)
          have HS := hide (fun a b => upto_step Hk.out hkl a b)
          have HKS := hide (fun d hs => keys_step (d := d) HK.out Hown.out.isMap hkl hs)
          obtain ⟨x, hx⟩ : ∃ x, l[k] = x := ⟨_, rfl⟩
          rw [hx] at he HT HS HKS
          clear hx HX
          obtain ⟨y0, y1, y2, y3, t, ps⟩ := x
          simp only [] at he HT HS HKS
          obtain ⟨⟨c0, c1, c2, c3, c4⟩, ⟨-, -, -, -, r4, r5⟩, u, c5, hu⟩ := he
          have HI : Hid (∀ w', Below wr.heap.size wr w' → Calls Tryd.prog 42 #[.agg #[.int .i64 y0, .int .i64 y1, .int .i64 y2, .int .i64 y3, .string t, u]] w' fun e w2 => e = .returned (.bool (restN y0 y1 y2 y3 ps.length (prmsB ps))) ∧ Below w'.heap.size w' w2) := fun w' bel =>
            itemOK_any y0 y1 y2 y3 t u (m.inner b) ps w' r5 (hu.on PrmAt.stays (bel.mono (by rw [Md.inner_hi]; exact Nat.le_trans hm hball.size))) (by rw [Md.inner_hi]; exact Nat.le_trans hm (Nat.le_trans hball.size bel.size))
          have HIT := hide (show itmB ⟨y0, y1, y2, y3, t, ps⟩ = (ownB t && restN y0 y1 y2 y3 ps.length (prmsB ps)) from rfl)
          obtain ⟨a', c', rfl, -⟩ := id hu
          simp only [Nat.add_zero] at c0 c1 c2 c3 c4 c5
          have hkey : keyOf Tryd.prog 9 (.string t) = some (.string t.data.toList) := keyOf_string_mk Tryd.underlying9 r4
          have Hr4 := hide r4
          have hhas := HK.out t
          have Hhas := hide hhas
          clear hu r4 r5 hhas
          generalize restN y0 y1 y2 y3 ps.length (prmsB ps) = rn at *
          cases hmet : metB (seenOf l k) t with
          | true =>
            go_wp2_with (at_lookup; refine wpList_lookup_own_ok_int _ rfl _ _ 65 rfl 9 3 .i64 lawString Tryd.underlying65 Tryd.underlying3 (zeroInt _) w1.heap.size k _ rfl (Hown.out.alloc _) _ _ rfl hkey ?_; intro cc hat hwc; rw [Hhas.out, hmet])
            go_ret
            exact ⟨ret_bool (HT.out (.inr hmet)).symm, b0.trans ((hbw.alloc hbw.size _).mono b0.size)⟩
          | false =>
            cases hot : ownB t with
            | false =>
              go_wp2_with (first
                | (at_lookup; refine wpList_lookup_own_ok_int _ rfl _ _ 65 rfl 9 3 .i64 lawString Tryd.underlying65 Tryd.underlying3 (zeroInt _) w1.heap.size k _ rfl (Hown.out.alloc _) _ _ rfl hkey ?_; intro cc hat hwc; rw [Hhas.out, hmet])
                | (go_at_call 41; refine (HO.out t Hr4.out _ (hball.alloc hball.size _)).mono ?_; rintro e w3 ⟨rfl, bel⟩; rw [hot]))
              go_ret
              exact ⟨ret_bool (HT.out (.inl (by rw [HIT.out, hot]; rfl))).symm, b0.trans ((hbw.alloc hbw.size _).trans (bel.mono (by have := hbw.size; simp; omega)) |>.mono b0.size)⟩
            | true =>
              cases hrn : rn with
              | false =>
                go_wp2_with (first
                  | (at_lookup; refine wpList_lookup_own_ok_int _ rfl _ _ 65 rfl 9 3 .i64 lawString Tryd.underlying65 Tryd.underlying3 (zeroInt _) w1.heap.size k _ rfl (Hown.out.alloc _) _ _ rfl hkey ?_; intro cc hat hwc; rw [Hhas.out, hmet])
                  | (go_at_call 41; refine (HO.out t Hr4.out _ (hball.alloc hball.size _)).mono ?_; rintro e w3 ⟨rfl, bel⟩; rw [hot]; obtain ⟨hc, hf⟩ := bcell bel)
                  | (go_at_call 42; refine (HI.out _ (((Below.refl _ _).alloc (Nat.le_refl _) _).trans (bel.mono (by simp)))).mono ?_; rintro e w4 ⟨rfl, bel4⟩; rw [hrn]))
                go_ret
                have h4 : Below wr.heap.size wr w4 := (((Below.refl _ _).alloc (Nat.le_refl _) _).trans (bel.mono (by simp))).trans (bel4.mono (by have := bel.size; simp at this; omega))
                exact ⟨ret_bool (HT.out (.inl (by rw [HIT.out, hrn, hot]; rfl))).symm, hball.trans (h4.mono hball.size)⟩
              | true =>
                go_wp2_with (first
                  | (at_lookup; refine wpList_lookup_own_ok_int _ rfl _ _ 65 rfl 9 3 .i64 lawString Tryd.underlying65 Tryd.underlying3 (zeroInt _) w1.heap.size k _ rfl (Hown.out.alloc _) _ _ rfl hkey ?_; intro cc hat hwc; rw [Hhas.out, hmet])
                  | (go_at_call 41; refine (HO.out t Hr4.out _ (hball.alloc hball.size _)).mono ?_; rintro e w3 ⟨rfl, bel⟩; rw [hot]; obtain ⟨hc, hf⟩ := bcell bel)
                  | (go_at_call 42; refine (HI.out _ (((Below.refl _ _).alloc (Nat.le_refl _) _).trans (bel.mono (by simp)))).mono ?_; rintro e w4 ⟨rfl, bel4⟩; rw [hrn]; obtain ⟨hc4, hf4⟩ := bcell bel4; have hz4 : wr.heap.size < w3.heap.size := (by have := bel.size; simp at this; omega); have h4 : Below wr.heap.size wr w4 := (((Below.refl _ _).alloc (Nat.le_refl _) _).trans (bel.mono (by simp))).trans (bel4.mono (by have := bel.size; simp at this; omega)))
                  | (at_mapUpdate; refine wpList_mapUpdate_own _ rfl _ _ _ 65 rfl 9 3 lawString Tryd.underlying65 _ w1.heap.size k _ rfl (owns_on Hown.out Hown.out.lt h4) (by unfold maxLen; omega) _ _ _ rfl rfl hkey _ [] (plainElem_int Tryd.underlying3 (WalkArith.wf_i64 (by omega))) ?_; intro w5 hown5 hgrow5))
                have hbw4 := hbw.trans (h4.mono hbw.size)
                go_roundw
                case rel => exact ⟨k + 1, _, by go_num, by omega, HS.out (by rw [HIT.out, hot, hrn]; rfl) hmet, hown5, HKS.out _ trivial, hbw4.grown hgrow5 hbw4.size (fun j hj => by cases hj; exact Nat.le_refl _)⟩
                case measure => simp [intOf]; omega
        · have i1 : ¬ (k : Int) < n := by omega
          obtain rfl : k = n := by omega
          go_wp2
          go_ret
          exact ⟨ret_bool (HY.out ho (by rw [HN.out]; omega) (by rw [HN.out]; exact Hk.out)).symm, b0.trans (hbw.mono b0.size)⟩
end Go.Proofs.YtdnkcakbnonliaaDoor
