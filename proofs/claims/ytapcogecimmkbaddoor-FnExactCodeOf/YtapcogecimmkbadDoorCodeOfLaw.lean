/- FnExactCodeOf: the law's own walk, its row and its card. No condition but the listed table, tied. -/
import Derived.Test.YtapcogecimmkbadDoorCodeOf
namespace Go.Proofs.YtapcogecimmkbadDoor
open Go.ChangeShapes Go.WideShapes Go.ChangeAt Go.RowKit

set_option maxHeartbeats 400000 in
theorem codeOfLaw_any (s : ByteArray) (w : World) (hs : s.size ≤ maxLen) (t : TypeId) (fr : Nat × Nat) (hg : w.heap[0]? = some (.cells wordRow t fr)) :
    Calls Tryd.prog 3 #[.string s] w fun e w' => e = .returned (.bool true) ∧ Below w.heap.size w w' := by
  have hs' := hs
  unfold maxLen at hs'
  have hlt : 0 < w.heap.size := (Array.getElem?_eq_some_iff.1 hg).1
  have Hg : Hid (w.heap[0]? = some (.cells wordRow t fr)) := hg
  clear hg
  by_cases big : 1048576 < s.size
  · go_enter Tryd.func3, Tryd.ntmps3
    go_wp2
    go_ret
    exact ⟨rfl, Below.refl _ _⟩
  · generalize hc : codeFrom s 19 0 = c
    have Hc : Hid (codeFrom s 19 0 = c) := hc
    clear hc
    go_enter Tryd.func3, Tryd.ntmps3
    go_wp2_with fail
    refine (specCodeOf_any s _).mono ?_
    rintro e w1 ⟨he, bel⟩
    rw [Hc.out] at he
    subst he
    go_wp2_with fail
    refine (implCodeOf_any s _ t fr ((bel.block _ hlt).trans Hg.out)).mono ?_
    rintro e w' ⟨he, rfl⟩
    rw [Hc.out] at he
    subst he
    go_wp2
    go_ret
    exact ⟨rfl, bel⟩

theorem gWords : Tryd.prog.globalNamed "loop.example/g00168/impl.codeWords" = some 0 := by kernel_rfl
theorem gWordsType : (Tryd.prog.globals[0]?).map (·.type) = some 33 := by kernel_rfl
theorem fnExactCodeOf_core (s : ByteArray) (hs : s.size ≤ maxLen) (w : World) (hL : laidMetH Tryd.prog Rows.fnExactCodeOfRow.laid w) : Calls Tryd.prog 3 #[.string s] w fun e w' => e = .returned (.bool true) ∧ Below w.heap.size w w' := by
  obtain ⟨t, fr, hg⟩ := row_of_laid (zs := words) (name := "loop.example/g00168/impl.codeWords") hL (by rfl) (by rw [← words_laid]; exact List.mem_cons_self ..) gWords gWordsType Tryd.underlying33 Tryd.underlying9 (by kernel_rfl) (by kernel_rfl)
  exact codeOfLaw_any s w hs t fr hg

theorem fnExactCodeOf_door (os : Os) (args : Array Value) : laidMetH Tryd.prog Rows.fnExactCodeOfRow.laid ((World.doorLaid Tryd.prog 400 os).forCall (fun _ _ => 0) ⟨#[], args, []⟩).memory :=
  laidMetH_of_parts3 (fuel := 8) (laidMet_of_run' 8 (by kernel_rfl) (by kernel_rfl)) (by kernel_rfl) (by kernel_rfl)

set_option maxRecDepth 100000 in
theorem fnExactCodeOf_lifted (os : Os) (started : os.Started) (H : Type) (enc : TypeId × Value → H) :
    ReturnsInHanded {} Tryd.checked os 3 .any (fun w args => (Rows.fnExactCodeOfSpec.pre enc Tryd.prog Tryd.f3 [] false w args ∧ laidMetH Tryd.prog Rows.fnExactCodeOfRow.laid w) ∧ sizedMet enc Tryd.prog Tryd.f3 (OpenSpec.ofChange Rows.fnExactCodeOfSpec) false w args)
      (Rows.fnExactCodeOfSpec.post enc Tryd.prog Tryd.f3 false true false false) := by
  refine returnsInHanded_of_change_and (C := Tryd.checked) (X := fun w _ => laidMetH Tryd.prog Rows.fnExactCodeOfRow.laid w) (fun _ _ _ hh h => h.of_heap hh) (show ownKnob Tryd.prog.godebug = none by kernel_rfl) started (by kernel_rfl) Tryd.func3
    (ChangeSpec.witness_shaped (enc := enc) (C := Tryd.checked) (os := os) (X := fun w _ => laidMetH Tryd.prog Rows.fnExactCodeOfRow.laid w) false (World.doorLaid Tryd.prog 400 os) #[.string ByteArray.empty] 8 rfl (World.shaped_of_RefB (by kernel_rfl) (by kernel_rfl)) (by kernel_rfl) (by kernel_rfl) (by kernel_rfl) (fnExactCodeOf_door os _)) ?_
  intro W base args ds gs before hval0 hW _ _ hL _
  have hval : ∀ (j : Nat) t v, Tryd.f3.params[j]? = some t → args[j]? = some v → Value.okWide Tryd.prog W .any base t v := hval0
  have hW' := hW
  obtain ⟨p, q, hA0, hV, rfl, hfz, hnd⟩ := hW
  have hA : DataW.TrodAll enc Tryd.prog W 0 (fun _ => true) true Tryd.f3.params.toList args.toList ds p := hA0
  rw [Tryd.params3] at hA hval
  obtain ⟨v0, d0, rfl, rfl, h0⟩ := trodAll_one hA
  have hgl := vars_len hV
  obtain ⟨g0, rfl⟩ : ∃ g0, gs = [g0] := by
    match gs, hgl with
    | [g0], _ => exact ⟨_, rfl⟩
  obtain ⟨a0, rfl, rfl, rfl, b0⟩ := Go.ChangeMaps.open_string Tryd.underlying9 (hval 0 9 v0 rfl rfl) h0
  clear hA0 hval0
  refine (fnExactCodeOf_core a0 b0 W hL).mono fun e W' ⟨he, bel⟩ => ?_
  subst he
  exact ⟨_, rfl, law_post (show laidOutB Tryd.prog = true by kernel_rfl) (by kernel_rfl) (by kernel_rfl) rfl Tryd.underlying4 hW' rfl bel⟩

theorem fnExactCodeOf_holds : Rows.FnExactCodeOfSaid :=
  OpenClaim.holds_of_wide 3 Tryd.f3 rfl rfl rfl rfl rfl rfl rfl ⟨rfl, rfl, rfl, rfl, rfl⟩ rfl rfl rfl rfl rfl (by kernel_rfl) Tryd.func3 (by kernel_rfl)
    (of_decide_eq_true (by kernel_rfl)) (by unfold Func.isWrapper; first | (rw [if_pos (by decide +kernel)]; kernel_rfl) | (rw [if_neg (by decide +kernel)]; exact ⟨rfl, rfl⟩))
    (fun os started H enc _ => fnExactCodeOf_lifted os started H enc)
#print axioms fnExactCodeOf_holds

theorem fnExactCodeOf_plain (f : FuncId) (fn : Func) (hf : Tryd.pinned.checked.prog.funcNamed "loop.example/g00168/laws.FnExactCodeOf" = some f) (hfn : Tryd.pinned.checked.prog.funcs[f]? = some fn) :
    false = Tryd.pinned.checked.prog.looks [] ∧ ∀ (j : Nat) t, fn.params[j]? = some t → Tryd.pinned.checked.prog.wantsStandIn t = false := by
  obtain rfl : f = 3 := Option.some.inj ((show Tryd.prog.funcNamed "loop.example/g00168/laws.FnExactCodeOf" = some 3 by kernel_rfl).symm.trans hf) |>.symm
  obtain rfl : fn = Tryd.f3 := (Option.some.inj (Tryd.func3.symm.trans hfn)).symm
  refine ⟨by kernel_rfl, fun j t ht => ?_⟩
  rw [Tryd.params3] at ht
  have hm : t ∈ [9] := by
    have hm0 := Array.mem_of_getElem? ht
    simpa using hm0
  have hall : ([9].all fun u => !Tryd.prog.wantsStandIn u) = true := by kernel_rfl
  exact (show Tryd.prog.wantsStandIn t = false by simpa using List.all_eq_true.1 hall t hm)

theorem fnExactCodeOf_card : Rows.FnExactCodeOfCardSaid :=
  Claim7.holds_tied_plain_at .later [] _ _ _ _ fnExactCodeOf_holds (fun _ h => by cases h) (by kernel_rfl) (fun _ h => by cases h) fnExactCodeOf_row_tie rfl ⟨rfl, rfl⟩ (by kernel_rfl) rfl fnExactCodeOf_plain (by kernel_rfl)
#print axioms fnExactCodeOf_card

end Go.Proofs.YtapcogecimmkbadDoor
