/- FnExactFilesOK: at every list of files the program's FilesOK answers as the model's, and the files read as they did. Listed: the program's table of words, tied. No other condition. -/
import Derived.Test.YtolchbfbbnkcdaaDoorFilI
import Derived.Test.YtolchbfbbnkcdaaDoorFilM
import Derived.Test.YtolchbfbbnkcdaaDoorFilEq
import Derived.Test.YtolchbfbbnkcdaaDoorCards
import Derived.Test.YtolchbfbbnkcdaaDoorTie
import Derived.LaidMore
import Derived.Lay
import Derived.Stop.Joined
import Derived.SevenTiedAt
namespace Go.Proofs.YtolchbfbbnkcdaaDoor
open Go.ChangeShapes Go.WideShapes Go.ChangeAt Go.RowKit Go.PlainAid Go.Deep

section
variable {H : Type} {enc : TypeId × Value → H} {w : World}
set_option maxRecDepth 100000 in
theorem open_files {r : Reach} {b0 : Nat} {v : Value} {d : DataW H} {ps : List MemPlace} (hval : Value.okWide Tryd.prog w r b0 22 v) (h : DataW.Trod enc Tryd.prog w 0 (fun _ => true) true 22 v d ps) : ∃ l, SlAt FileAt 2 w ⟨0, w.heap.size, false⟩ v l ∧ l.length ≤ maxLen := by
  obtain ⟨a, len, cap, rfl⟩ := okWide_slice Tryd.underlying22 hval
  obtain ⟨fuel, h⟩ := h
  obtain ⟨u, l, e, hs, hl⟩ := opens_slice Tryd.underlying22 (of_decide_eq_true (by kernel_rfl)) opens_File h
  have hp : Tryd.prog.cellsOf 31 = 2 := by kernel_rfl
  rw [hp] at hs
  have e2 : [Value.slice a len cap] = [u] := by simpa [Value.cells] using e
  cases e2
  exact ⟨l, hs, hl⟩
end
set_option maxRecDepth 100000 in
set_option maxHeartbeats 4000000 in
theorem filesLaw_any (l : List FileD) (v : Value) (w : World) (h : SlAt FileAt 2 w ⟨0, w.heap.size, false⟩ v l) (hl : l.length ≤ maxLen) (t : TypeId) (fr : Nat × Nat) (hg : w.heap[0]? = some (.cells keyRow t fr)) :
    Calls Tryd.prog 3 #[v] w fun e w' => e = .returned (.bool true) ∧ Below w.heap.size w w' := by
  obtain ⟨fb, hfb⟩ : ∃ fb, filesB l = fb := ⟨_, rfl⟩
  have HSz : Hid (Calls Tryd.prog 4 #[v, .int .i64 1048576] w fun e w2 => (∃ k : Int, e = .returned (.int .i64 k) ∧ (0 ≤ k → l.length ≤ 1048576)) ∧ Below w.heap.size w w2) := hide ((szFileS_any v _ l 1048576 w (by decide) (by decide) hl h (Nat.le_refl _)).mono fun _ _ ⟨⟨k, a, _, _, b⟩, c⟩ => ⟨⟨k, a, fun hk => by have := (b hk).1; omega⟩, c⟩)
  have HSp : Hid (∀ w' m u, SlAt FileAt 2 w' m u l → m.hi ≤ w'.heap.size → Calls Tryd.prog 5 #[u] w' fun e w2 => e = .returned (.bool fb) ∧ Below w'.heap.size w' w2) := hide fun w' m u hu hm => by
    have := specFilesOK_any u m l w' hl hu hm
    rwa [hfb] at this
  have HIm : Hid (∀ w' m u, Below w.heap.size w w' → SlAt FileAt 2 w' m u l → m.hi ≤ w'.heap.size → Calls Tryd.prog 7 #[u] w' fun e w2 => e = .returned (.bool fb) ∧ Below w'.heap.size w' w2) := hide fun w' m u bel hu hm => by
    have := implFilesOK_any u m l w' hl hu hm t fr ((bel.block 0 (Array.getElem?_eq_some_iff.1 hg).1).trans hg)
    rwa [hfb] at this
  have HTo : Hid (l.length ≤ 1048576 → ∀ w', Below w.heap.size w w' → Calls Tryd.prog 6 #[v] w' fun e w2 => (∃ u, e = .returned u ∧ Hid (SlAt FileAt 2 w2 ⟨w'.heap.size, w2.heap.size, true⟩ u l)) ∧ Below w'.heap.size w' w2) := hide fun hx w' bel => toFileS_any v _ l w' hx (h.on FileAt.stays bel) bel.size
  have HEq : Hid (∀ w' v v' m m', SlAt FileAt 2 w' m v l → SlAt FileAt 2 w' m' v' l → m.hi ≤ w'.heap.size → m'.hi ≤ w'.heap.size → Calls Tryd.prog 8 #[v, v'] w' fun e w2 => e = .returned (.bool true) ∧ Below w'.heap.size w' w2) := hide fun w' v v' m m' a b c d => eqFileS_same v v' m m' l w' hl a b c d
  clear h hl hg hfb
  go_enter Tryd.func3, Tryd.ntmps3
  go_wp2_with fail
  refine HSz.out.mono ?_
  rintro e w1 ⟨⟨k, rfl, hk⟩, b1⟩
  have HK := hide hk
  clear hk
  by_cases hk0 : k < 0
  · go_wp2
    go_ret
    exact ⟨rfl, b1⟩
  · have HL := hide (HK.out (by omega))
    go_wp2_with fail
    refine (HTo.out HL.out _ b1).mono ?_
    rintro e w2 ⟨⟨u2, rfl, h2⟩, b2⟩
    go_wp2_with fail
    refine (HSp.out _ _ _ h2.out (Nat.le_refl _)).mono ?_
    rintro e w3 ⟨rfl, b3⟩
    have hb3 := b1.trans ((b2.trans (b3.mono b2.size)).mono b1.size)
    go_wp2_with fail
    refine (HTo.out HL.out _ hb3).mono ?_
    rintro e w4 ⟨⟨u4, rfl, h4⟩, b4⟩
    have hb4 := hb3.trans (b4.mono hb3.size)
    go_wp2_with fail
    refine (HIm.out _ _ _ hb4 h4.out (Nat.le_refl _)).mono ?_
    rintro e w5 ⟨rfl, b5⟩
    have hb5 := hb4.trans (b5.mono hb4.size)
    have H5 := hide (h4.out.on FileAt.stays b5)
    go_wp2_with fail
    refine (HTo.out HL.out _ hb5).mono ?_
    rintro e w6 ⟨⟨u6, rfl, h6⟩, b6⟩
    have hb6 := hb5.trans (b6.mono hb5.size)
    have H6 := hide (H5.out.on FileAt.stays (b6.mono b5.size))
    go_wp2_with fail
    refine (HEq.out _ _ _ _ _ H6.out h6.out (Nat.le_trans b5.size b6.size) (Nat.le_refl _)).mono ?_
    rintro e w7 ⟨rfl, b7⟩
    go_wp2
    go_ret
    exact ⟨rfl, hb6.trans (b7.mono hb6.size)⟩
theorem filKeys : Tryd.prog.globalNamed "loop.example/g00168/impl.keyWords" = some 0 := by kernel_rfl
theorem filKeysType : (Tryd.prog.globals[0]?).map (·.type) = some 42 := by kernel_rfl
theorem fnExactFilesOK_plainList : (Rows.fnExactFilesOKRow.laid.filter fun x => x.2.handleName?.isNone) = Rows.fnExactFilesOKRow.laid := by kernel_rfl
theorem fnExactFilesOK_core (l : List FileD) (v : Value) (w : World) (h : SlAt FileAt 2 w ⟨0, w.heap.size, false⟩ v l ∧ l.length ≤ maxLen) (hL : laidMetH Tryd.prog Rows.fnExactFilesOKRow.laid w) : Calls Tryd.prog 3 #[v] w fun e w' => e = .returned (.bool true) ∧ Below w.heap.size w w' := by
  obtain ⟨t, fr, hg⟩ := row_of_laid (zs := keys) (name := "loop.example/g00168/impl.keyWords") hL fnExactFilesOK_plainList (by rw [← keys_laid]; simp [Rows.fnExactFilesOKRow]) filKeys filKeysType Tryd.underlying42 Tryd.underlying9 (by kernel_rfl) (by kernel_rfl)
  exact filesLaw_any l v w h.1 h.2 t fr hg

theorem fnExactFilesOK_door (os : Os) (args : Array Value) : laidMetH Tryd.prog Rows.fnExactFilesOKRow.laid ((World.doorLaid Tryd.prog 400 os).forCall (fun _ _ => 0) ⟨#[], args, []⟩).memory :=
  laidMetH_of_parts3 (fuel := 8) (laidMet_of_run' 8 (by kernel_rfl) (by kernel_rfl)) (by kernel_rfl) (by kernel_rfl)

set_option maxRecDepth 100000 in
theorem fnExactFilesOK_lifted (os : Os) (started : os.Started) (H : Type) (enc : TypeId × Value → H) :
    ReturnsInHanded {} Tryd.checked os 3 .any (fun w args => (Rows.fnExactFilesOKSpec.pre enc Tryd.prog Tryd.f3 [] false w args ∧ laidMetH Tryd.prog Rows.fnExactFilesOKRow.laid w) ∧ sizedMet enc Tryd.prog Tryd.f3 (OpenSpec.ofChange Rows.fnExactFilesOKSpec) false w args)
      (Rows.fnExactFilesOKSpec.post enc Tryd.prog Tryd.f3 false true false false) := by
  refine returnsInHanded_of_change_and (C := Tryd.checked) (X := fun w _ => laidMetH Tryd.prog Rows.fnExactFilesOKRow.laid w) (fun _ _ _ hh h => h.of_heap hh) (show ownKnob Tryd.prog.godebug = none by kernel_rfl) started (by kernel_rfl) Tryd.func3
    (ChangeSpec.witness_shaped (enc := enc) (C := Tryd.checked) (os := os) (X := fun w _ => laidMetH Tryd.prog Rows.fnExactFilesOKRow.laid w) false (World.doorLaid Tryd.prog 400 os) #[.slice none 0 0] 8 rfl (World.shaped_of_RefB (by kernel_rfl) (by kernel_rfl)) (by kernel_rfl) (by kernel_rfl) (by kernel_rfl) (fnExactFilesOK_door os _)) ?_
  intro W base args ds gs before hval0 hW _ _ hL _
  have hval : ∀ (j : Nat) t v, Tryd.f3.params[j]? = some t → args[j]? = some v → Value.okWide Tryd.prog W .any base t v := hval0
  have hW' := hW
  obtain ⟨p, q, hA0, hV, rfl, hfz, hnd⟩ := hW
  have hA : DataW.TrodAll enc Tryd.prog W 0 (fun _ => true) true Tryd.f3.params.toList args.toList ds p := hA0
  rw [Tryd.params3] at hA hval
  obtain ⟨v0, d0, rfl, rfl, h0⟩ := trodAll_one hA
  have hgl := vars_len hV
  obtain ⟨g0, rfl⟩ : ∃ g0, gs = [g0] := by
    match gs, hgl with
    | [g0], _ => exact ⟨_, rfl⟩
  obtain ⟨a0, b0⟩ := open_files (hval 0 22 v0 rfl rfl) h0
  clear hA0 hval0
  refine (fnExactFilesOK_core a0 v0 W b0 hL).mono fun e W' ⟨he, bel⟩ => ?_
  subst he
  exact ⟨_, rfl, law_post (show laidOutB Tryd.prog = true by kernel_rfl) (by kernel_rfl) (by kernel_rfl) rfl Tryd.underlying4 hW' rfl bel⟩

theorem fnExactFilesOK_holds : Rows.FnExactFilesOKSaid :=
  OpenClaim.holds_of_wide 3 Tryd.f3 rfl rfl rfl rfl rfl rfl rfl ⟨rfl, rfl, rfl, rfl, rfl⟩ rfl rfl rfl rfl rfl (by kernel_rfl) Tryd.func3 (by kernel_rfl)
    (of_decide_eq_true (by kernel_rfl)) (by unfold Func.isWrapper; first | (rw [if_pos (by decide +kernel)]; kernel_rfl) | (rw [if_neg (by decide +kernel)]; exact ⟨rfl, rfl⟩))
    (fun os started H enc _ => fnExactFilesOK_lifted os started H enc)
#print axioms fnExactFilesOK_holds

theorem fnExactFilesOK_plain (f : FuncId) (fn : Func) (hf : Tryd.pinned.checked.prog.funcNamed "loop.example/g00168/laws.FnExactFilesOK" = some f) (hfn : Tryd.pinned.checked.prog.funcs[f]? = some fn) :
    false = Tryd.pinned.checked.prog.looks [] ∧ ∀ (j : Nat) t, fn.params[j]? = some t → Tryd.pinned.checked.prog.wantsStandIn t = false := by
  obtain rfl : f = 3 := Option.some.inj ((show Tryd.prog.funcNamed "loop.example/g00168/laws.FnExactFilesOK" = some 3 by kernel_rfl).symm.trans hf) |>.symm
  obtain rfl : fn = Tryd.f3 := (Option.some.inj (Tryd.func3.symm.trans hfn)).symm
  refine ⟨by kernel_rfl, fun j t ht => ?_⟩
  rw [Tryd.params3] at ht
  have hm : t ∈ [22] := by
    have hm0 := Array.mem_of_getElem? ht
    simpa using hm0
  have hall : ([22].all fun u => !Tryd.prog.wantsStandIn u) = true := by kernel_rfl
  exact (show Tryd.prog.wantsStandIn t = false by simpa using List.all_eq_true.1 hall t hm)

theorem fnExactFilesOK_card : Rows.FnExactFilesOKCardSaid :=
  Claim7.holds_tied_plain_at .later [] _ _ _ _ fnExactFilesOK_holds (fun _ h => by cases h) (by kernel_rfl) (fun _ h => by cases h) fnExactFilesOK_row_tie rfl ⟨rfl, rfl⟩ (by kernel_rfl) rfl fnExactFilesOK_plain (by kernel_rfl)
#print axioms fnExactFilesOK_card

end Go.Proofs.YtolchbfbbnkcdaaDoor
