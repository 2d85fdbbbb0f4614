/- The program's InterfaceOK answers 'facB', by a map of the names that it has met. Its table of words is a premise. -/
import Derived.Test.YtoomnimbokbadaaDoorZFacItemI
namespace Go.Proofs.YtoomnimbokbadaaDoor
open Go.RowKit Go.PlainAid Go.Maps Go.WideMaps

theorem lawString : Keyed Tryd.prog 9 := string_keyed Tryd.underlying9
theorem zeroInt (w : World) : (zeroValue 3).run Tryd.prog w = .ok (.int .i64 0) w := by kernel_rfl
theorem owns_on {w w' : World} {P : Program} {k : TypeId} {R : Value → Option (DataW Unit × List MemPlace)} {b n : Nat} {D : DataW Unit} (h : w.ownsMap P k R b n D) {B : Nat} (hb : b < B) (bel : Below B w w') : w'.ownsMap P k R b n D := by
  obtain ⟨es, clock, h1, r⟩ := h
  exact ⟨es, clock, (bel.block b hb).trans h1, r⟩
theorem take_namesI {l : List Itm} {k : Nat} (h : k < l.length) : seenOf l (k + 1) = seenOf l k ++ [l[k].name] := by
  unfold seenOf
  rw [List.take_succ_eq_append_getElem h, List.map_append]
  rfl
theorem met_snocI (seen : List ByteArray) (t s : ByteArray) : metB (seen ++ [t]) s = (metB seen s || (t.toList == s.toList)) := by unfold metB; rw [List.any_append]; simp
/-- The map's keys are the names met. -/
def Keys (D : DataW Unit) (l : List Itm) (k : Nat) : Prop := ∀ s : ByteArray, Maps.has D (.string s.data.toList) = metB (seenOf l k) s
theorem keys_start (l : List Itm) : Keys (.map []) l 0 := fun _ => rfl
theorem toList_data (s : ByteArray) : s.toList = s.data.toList := ByteArray.toList_eq ..
theorem keys_step {D d : DataW Unit} {l : List Itm} {k : Nat} (h : Keys D l k) (hD : IsMap D) (hk : k < l.length) (hs : WideAt.IsKeyLit (.string l[k].name.data.toList)) : Keys (D.put (.string l[k].name.data.toList) d) l (k + 1) := by
  intro s
  rw [take_namesI hk, met_snocI]
  by_cases e : s.data.toList = l[k].name.data.toList
  · rw [e, has_put_same hD hs, toList_data, toList_data, e]
    simp
  · rw [has_put_other (by simpa using e), h s, toList_data, toList_data]
    have : (l[k].name.data.toList == s.data.toList) = false := by simpa using Ne.symm e
    rw [this, Bool.or_false]
theorem item_cells {w : World} {b : Nat} {x0 x1 x2 x3 x4 x5 : Value} {T : TypeId} (h : w.heap[b]? = some (.cells #[x0, x1, x2, x3, x4, x5] T (0, 0))) :
    w.cell? ⟨b, 0, none⟩ = some x0 ∧ w.cell? ⟨b, 1, none⟩ = some x1 ∧ w.cell? ⟨b, 2, none⟩ = some x2 ∧ w.cell? ⟨b, 3, none⟩ = some x3 ∧ w.cell? ⟨b, 4, none⟩ = some x4 ∧ w.cell? ⟨b, 5, none⟩ = some x5 :=
  ⟨(heapCells h).1 0, (heapCells h).1 1, (heapCells h).1 2, (heapCells h).1 3, (heapCells h).1 4, (heapCells h).1 5⟩
theorem items_of {l : List Itm} (h : upto l l.length) : itemsB [] l = true := items_split _ _ fun i hi => by
  have := h i hi hi
  simpa [seenOf] using this
theorem items_bad {l : List Itm} (i : Nat) (h : i < l.length) (e : itmB l[i] = false ∨ metB (seenOf l i) l[i].name = true) : itemsB [] l = false := items_no l [] i h (by simpa [seenOf] using e)
theorem itemName_any (y0 y1 y2 y3 : Int) (t : ByteArray) (a : Option Addr) (n c : Nat) (w : World) :
    Calls Tryd.prog 42 #[.agg #[.int .i64 y0, .int .i64 y1, .int .i64 y2, .int .i64 y3, .string t, .slice a n c]] w fun e w' => e = .returned (.string t) ∧ Below w.heap.size w w' := by
  go_enter Tryd.func42, Tryd.ntmps42
  go_wp2
  go_ret
  exact ⟨rfl, (Below.refl _ _).alloc (Nat.le_refl _) _⟩
set_option maxRecDepth 100000 in
set_option maxHeartbeats 8000000 in
theorem allOnce_any (a : Option Addr) (c : Nat) (m : Md) (l : List Itm) (w : World) (hn : l.length ≤ maxLen) (h : SlAt ItmAt 6 w m (.slice a l.length c) l) (hm : m.hi ≤ w.heap.size) (HO' : ∀ s : ByteArray, s.size ≤ maxLen → ∀ w1, Below w.heap.size w w1 → Calls Tryd.prog 39 #[.string s] w1 fun e w' => e = .returned (.bool (ownB s)) ∧ Below w1.heap.size w1 w') :
    Calls Tryd.prog 40 #[.slice a l.length c, .func (.func 41) #[] #[], .func (.func 42) #[] #[]] w fun e w' => e = .returned (.bool (itemsB [] l)) ∧ Below w.heap.size w w' := by
  have HO := hide HO'
  have HY := hide (items_of (l := l))
  have HX := hide (items_bad (l := l))
  have H : Hid (SlAt ItmAt 6 w m (.slice a l.length c) l) := hide h
  obtain ⟨R, hR⟩ : ∃ R, itemsB [] l = R := ⟨_, rfl⟩
  rw [hR] at HY HX ⊢
  unfold maxLen at hn
  obtain ⟨n, hl⟩ : ∃ n, l.length = n := ⟨_, rfl⟩
  have HN := hide hl
  rw [hl] at hn H ⊢
  clear hl h hR HO'
  have hmm := @run_makeMap Tryd.prog
  go_enter Tryd.func40, Tryd.ntmps40
  go_wp2
  go_loopw [15] (fun i wr => ∃ (k : Nat) (D : DataW Unit), i = .int .i64 k ∧ k ≤ n ∧ Hid (upto l k) ∧ Hid (wr.ownsMap Tryd.prog 9 (plainElem Tryd.prog 3) w.heap.size k D) ∧ Hid (Keys D l k) ∧ Below w.heap.size w wr) (fun i _ => n - (intOf i).toNat)
  case atStart => exact ⟨0, _, rfl, by omega, (fun i _ hi => absurd hi (by omega)), World.ownsMap_made _ _ _ _, keys_start l, (Below.refl _ _).alloc (Nat.le_refl _) _⟩
  case round =>
    obtain ⟨k, D, rfl, hk, Hk, Hown, HK, hbw⟩ := hrel
    by_cases hp : k < n
    · have i1 : (k : Int) < n := by omega
      have hkl : k < l.length := by rw [HN.out]; exact hp
      obtain ⟨b, o, rfl, -, hb2, -, he⟩ : ∃ b o, a = some ⟨b, o, none⟩ ∧ (m.lo ≤ b ∧ n ≤ c) ∧ b < m.hi ∧ (m.made = true → ∀ j, wr.frozen? ⟨b, j, none⟩ = false) ∧ ItmAt (fun j => wr.cell? ⟨b, o + k * 6 + j, none⟩) wr (m.inner b) l[k] := by
        obtain ⟨a', c', e, hr⟩ := H.out.on ItmAt.stays (hbw.mono hm)
        cases e
        obtain ⟨b, o, e, g1, g2, g3, g4⟩ := hr k hkl
        exact ⟨b, o, e, ⟨g1.1, by rw [← HN.out]; exact g1.2⟩, g2, g3, g4⟩
      have HT := hide (HX.out k hkl)
      have HS := hide (fun a b => upto_step Hk.out hkl a b)
      have HKS := hide (fun d hs => keys_step (d := d) HK.out Hown.out.isMap hkl hs)
      obtain ⟨x, hx⟩ : ∃ x, l[k] = x := ⟨_, rfl⟩
      rw [hx] at he HT HS HKS
      clear hx HX
      obtain ⟨y0, y1, y2, y3, t, ps⟩ := x
      simp only [] at he HT HS HKS
      obtain ⟨⟨c0, c1, c2, c3, c4⟩, ⟨-, -, -, -, r4, r5⟩, u, c5, hu⟩ := he
      have HI : Hid (∀ w', Below wr.heap.size wr w' → Calls Tryd.prog 41 #[.agg #[.int .i64 y0, .int .i64 y1, .int .i64 y2, .int .i64 y3, .string t, u]] w' fun e w2 => e = .returned (.bool (itmB ⟨y0, y1, y2, y3, t, ps⟩)) ∧ Below w'.heap.size w' w2) := fun w' bel =>
        itemOK_any y0 y1 y2 y3 t u (m.inner b) ps w' r5 (hu.on PrmAt.stays (bel.mono (by rw [Md.inner_hi]; exact Nat.le_trans hm hbw.size))) (by rw [Md.inner_hi]; exact Nat.le_trans hm (Nat.le_trans hbw.size bel.size)) fun w1 b1 => HO.out t r4 w1 ((hbw.trans (bel.mono hbw.size)).trans (b1.mono (Nat.le_trans hbw.size bel.size)))
      obtain ⟨a', c', rfl, -⟩ := id hu
      simp only [Nat.add_zero] at c0 c1 c2 c3 c4 c5
      have hkey : keyOf Tryd.prog 9 (.string t) = some (.string t.data.toList) := keyOf_string_mk Tryd.underlying9 r4
      have hhas := HK.out t
      have Hhas := hide hhas
      clear hu r4 r5 hhas
      generalize itmB ⟨y0, y1, y2, y3, t, ps⟩ = rn at *
      generalize ps.length = q at *
      obtain ⟨w2, hw2⟩ : ∃ w2, w2 = wr.alloc (.cells #[.int .i64 y0, .int .i64 y1, .int .i64 y2, .int .i64 y3, .string t, .slice a' q c'] 57) := ⟨_, rfl⟩
      have b12 : Below wr.heap.size wr w2 := by rw [hw2]; exact (Below.refl _ _).alloc (Nat.le_refl _) _
      have HBox : Hid (w2.heap[wr.heap.size]? = some (.cells #[.int .i64 y0, .int .i64 y1, .int .i64 y2, .int .i64 y3, .string t, .slice a' q c'] 57 (0, 0))) := hide (by rw [hw2]; exact Deep.blk_alloc_new wr _)
      have hz2 : wr.heap.size < w2.heap.size := (Array.getElem?_eq_some_iff.1 HBox.out).1
      go_wp2_with fail
      rw [← hw2]
      clear hw2
      refine (itemName_any y0 y1 y2 y3 t a' q c' w2).mono ?_
      rintro e w3 ⟨rfl, b3⟩
      have b13 : Below wr.heap.size wr w3 := b12.trans (b3.mono b12.size)
      have HBox3 := hide ((b3.block _ hz2).trans HBox.out)
      have hz3 : wr.heap.size < w3.heap.size := Nat.lt_of_lt_of_le hz2 b3.size
      obtain ⟨e0, e1, e2, e3, e4, e5⟩ := item_cells HBox3.out
      clear b3 b12
      cases hmet : metB (seenOf l k) t with
      | true =>
        go_wp2_with (at_lookup; refine wpList_lookup_own_ok_int _ rfl _ _ 87 rfl 9 3 .i64 lawString Tryd.underlying87 Tryd.underlying3 (zeroInt _) w.heap.size k _ rfl (owns_on Hown.out Hown.out.lt b13) _ _ rfl hkey ?_; intro cc hat hwc; rw [Hhas.out, hmet])
        go_ret
        exact ⟨ret_bool (HT.out (.inr hmet)).symm, hbw.trans (b13.mono hbw.size)⟩
      | false =>
        cases hrn : rn with
        | false =>
          go_wp2_with (first
            | (at_lookup; refine wpList_lookup_own_ok_int _ rfl _ _ 87 rfl 9 3 .i64 lawString Tryd.underlying87 Tryd.underlying3 (zeroInt _) w.heap.size k _ rfl (owns_on Hown.out Hown.out.lt b13) _ _ rfl hkey ?_; intro cc hat hwc; rw [Hhas.out, hmet])
            | (go_at_call 41; refine (HI.out _ b13).mono ?_; rintro e w4 ⟨rfl, b4⟩; rw [hrn]))
          go_ret
          exact ⟨ret_bool (HT.out (.inl hrn)).symm, hbw.trans ((b13.trans (b4.mono b13.size)).mono hbw.size)⟩
        | true =>
          go_wp2_with (first
            | (at_lookup; refine wpList_lookup_own_ok_int _ rfl _ _ 87 rfl 9 3 .i64 lawString Tryd.underlying87 Tryd.underlying3 (zeroInt _) w.heap.size k _ rfl (owns_on Hown.out Hown.out.lt b13) _ _ rfl hkey ?_; intro cc hat hwc; rw [Hhas.out, hmet])
            | (go_at_call 41; refine (HI.out _ b13).mono ?_; rintro e w4 ⟨rfl, b4⟩; rw [hrn]; have b14 : Below wr.heap.size wr w4 := b13.trans (b4.mono b13.size); obtain ⟨q0, q1, q2, q3, q4, q5⟩ := item_cells ((b4.block _ hz3).trans HBox3.out))
            | (go_at_call 42; refine (itemName_any y0 y1 y2 y3 t a' q c' _).mono ?_; rintro e w5 ⟨rfl, b5⟩; have b15 : Below wr.heap.size wr w5 := b14.trans (b5.mono b14.size))
            | (at_mapUpdate; refine wpList_mapUpdate_own _ rfl _ _ _ 87 rfl 9 3 lawString Tryd.underlying87 _ w.heap.size k _ rfl (owns_on Hown.out Hown.out.lt b15) (by unfold maxLen; omega) _ _ _ rfl rfl hkey _ [] (plainElem_int Tryd.underlying3 (WalkArith.wf_i64 (by omega))) ?_; intro w6 hown6 hgrow6))
          have hbw5 := hbw.trans (b15.mono hbw.size)
          go_roundw
          case rel => exact ⟨k + 1, _, by go_num, by omega, HS.out hrn hmet, hown6, HKS.out _ trivial, hbw5.grown hgrow6 hbw5.size (fun j hj => by cases hj; exact Nat.le_refl _)⟩
          case measure => simp [intOf]; omega
    · have i1 : ¬ (k : Int) < n := by omega
      obtain rfl : k = n := by omega
      go_wp2
      go_ret
      exact ⟨ret_bool (HY.out (by rw [HN.out]; exact Hk.out)).symm, hbw⟩
set_option maxRecDepth 100000 in
set_option maxHeartbeats 8000000 in
theorem implInterfaceOK_any (v : Value) (m : Md) (x : Fac) (w : World) (h : FacAt w m v x) (hm : m.hi ≤ w.heap.size) (t : TypeId) (fr : Nat × Nat) (hg : w.heap[0]? = some (.cells keyRow t fr)) :
    Calls Tryd.prog 17 #[v] w fun e w' => e = .returned (.bool (facB x)) ∧ Below w.heap.size w w' := by
  have HO : Hid (∀ s : ByteArray, s.size ≤ maxLen → ∀ w1, Below w.heap.size w w1 → Calls Tryd.prog 39 #[.string s] w1 fun e w' => e = .returned (.bool (ownB s)) ∧ Below w1.heap.size w1 w') := fun s hs w1 bel =>
    ownName_any s w1 hs t fr ((bel.block 0 (Array.getElem?_eq_some_iff.1 hg).1).trans hg)
  obtain ⟨u, rfl, hs, hn, a, c, rfl, h⟩ := h
  have HF := hide (show facB x = (ownB x.module && decide (x.items.length ≤ 60) && itemsB [] x.items) from rfl)
  obtain ⟨fb, hfb⟩ : ∃ fb, facB x = fb := ⟨_, rfl⟩
  rw [hfb] at HF ⊢
  clear hfb hg
  obtain ⟨s, l⟩ := x
  simp only [] at hs hn h HF
  have HA : Hid (∀ w', Below w.heap.size w w' → Calls Tryd.prog 40 #[.slice a l.length c, .func (.func 41) #[] #[], .func (.func 42) #[] #[]] w' fun e w2 => e = .returned (.bool (itemsB [] l)) ∧ Below w'.heap.size w' w2) := hide fun w' bel =>
    allOnce_any a c m l w' hn (SlAt.on ItmAt.stays ⟨a, c, rfl, h⟩ (bel.mono hm)) (Nat.le_trans hm bel.size) fun s hs w1 b1 => HO.out s hs w1 (bel.trans (b1.mono bel.size))
  have Hs := hide hs
  obtain ⟨I, hI⟩ : ∃ I, itemsB [] l = I := ⟨_, rfl⟩
  rw [hI] at HA HF
  have hn' := hn
  unfold maxLen at hn'
  show Calls _ _ #[.agg #[.string s, .slice a l.length c]] _ _
  obtain ⟨n, hl⟩ : ∃ n, l.length = n := ⟨_, rfl⟩
  rw [hl] at hn' HA HF ⊢
  clear hl hs hn h hI
  cases ho : ownB s with
  | false =>
    have hfb : fb = false := by have := HF.out; rw [ho] at this; simpa using this
    subst hfb
    go_enter Tryd.func17, Tryd.ntmps17
    go_wp2_with (go_at_call 39; refine (HO.out s Hs.out _ ((Below.refl _ _).alloc (Nat.le_refl _) _)).mono ?_; rintro e w1 ⟨rfl, bel⟩; rw [ho])
    go_ret
    exact ⟨rfl, Below.trans ((Below.refl _ _).alloc (Nat.le_refl _) _) (bel.mono (by simp))⟩
  | true =>
    by_cases h60 : 60 < n
    · have hfb : fb = false := by have := HF.out; rw [ho, decide_eq_false (by omega)] at this; simpa using this
      subst hfb
      have i60 : ¬ (n : Int) ≤ 60 := by omega
      go_enter Tryd.func17, Tryd.ntmps17
      go_wp2_with (go_at_call 39; refine (HO.out s Hs.out _ ((Below.refl _ _).alloc (Nat.le_refl _) _)).mono ?_; rintro e w1 ⟨rfl, bel⟩; rw [ho]; obtain ⟨hc, hf⟩ := bcell bel)
      go_ret
      exact ⟨rfl, Below.trans ((Below.refl _ _).alloc (Nat.le_refl _) _) (bel.mono (by simp))⟩
    · have hfb : fb = I := by have := HF.out; rw [ho, decide_eq_true (by omega)] at this; simpa using this
      subst hfb
      have i60 : (n : Int) ≤ 60 := by omega
      go_enter Tryd.func17, Tryd.ntmps17
      go_wp2_with (first
        | (go_at_call 39; refine (HO.out s Hs.out _ ((Below.refl _ _).alloc (Nat.le_refl _) _)).mono ?_; rintro e w1 ⟨rfl, bel⟩; rw [ho]; obtain ⟨hc, hf⟩ := bcell bel; have b1 : Below w.heap.size w w1 := Below.trans ((Below.refl _ _).alloc (Nat.le_refl _) _) (bel.mono (by simp)))
        | (go_at_call 40; refine (HA.out _ b1).mono ?_; rintro e w2 ⟨rfl, b2⟩))
      go_ret
      exact ⟨rfl, b1.trans (b2.mono b1.size)⟩
end Go.Proofs.YtoomnimbokbadaaDoor
