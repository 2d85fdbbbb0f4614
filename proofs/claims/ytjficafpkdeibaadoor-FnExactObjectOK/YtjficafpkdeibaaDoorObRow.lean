/- FnExactObjectOK: at every object the program's ObjectOK answers as the model's, and the object reads as it did. Listed: the program's tables of words and signs and the library's tables, tied. No other condition. -/
import Derived.Test.YtjficafpkdeibaaDoorObLaw
namespace Go.Proofs.YtjficafpkdeibaaDoor
open Go.ChangeShapes Go.WideShapes Go.ChangeAt Go.RowKit Go.PlainAid Go.Deep

theorem objPlain : (Rows.fnExactObjectOKRow.laid.filter fun x => x.2.handleName?.isNone) = Rows.fnExactObjectOKRow.laid := by kernel_rfl
theorem fnExactObjectOK_core (x : ObjectD) (v : Value) (w : World) (h : ObjectVal w ⟨0, w.heap.size, false⟩ v x) (hL : laidMetH Tryd.prog Rows.fnExactObjectOKRow.laid w) : Calls Tryd.prog 4 #[v] w fun e w' => e = .returned (.bool true) ∧ Below w.heap.size w w' := by
  obtain ⟨t, fr, hg⟩ := row_of_laid (zs := keys) (name := "loop.example/g00168/impl.keyWords") hL objPlain (by rw [← keys_laid]; simp [Rows.fnExactObjectOKRow]) erKeys erKeysType Tryd.underlying130 Tryd.underlying9 (by kernel_rfl) (by kernel_rfl)
  exact objectLaw_any x v w h t fr hg

theorem fnExactObjectOK_door (os : Os) (args : Array Value) : laidMetH Tryd.prog Rows.fnExactObjectOKRow.laid ((World.doorLaid Tryd.prog 400 os).forCall (fun _ _ => 0) ⟨#[], args, []⟩).memory :=
  laidMetH_of_parts3 (fuel := 8) (laidMet_of_run' 8 (by kernel_rfl) (by kernel_rfl)) (by kernel_rfl) (by kernel_rfl)

set_option maxRecDepth 100000 in
theorem fnExactObjectOK_lifted (os : Os) (started : os.Started) (H : Type) (enc : TypeId × Value → H) :
    ReturnsInHanded {} Tryd.checked os 4 .any (fun w args => (Rows.fnExactObjectOKSpec.pre enc Tryd.prog Tryd.f4 [] false w args ∧ laidMetH Tryd.prog Rows.fnExactObjectOKRow.laid w) ∧ sizedMet enc Tryd.prog Tryd.f4 (OpenSpec.ofChange Rows.fnExactObjectOKSpec) false w args)
      (Rows.fnExactObjectOKSpec.post enc Tryd.prog Tryd.f4 false true false false) := by
  refine returnsInHanded_of_change_and (C := Tryd.checked) (X := fun w _ => laidMetH Tryd.prog Rows.fnExactObjectOKRow.laid w) (fun _ _ _ hh h => h.of_heap hh) (show ownKnob Tryd.prog.godebug = none by kernel_rfl) started (by kernel_rfl) Tryd.func4
    (ChangeSpec.witness_shaped (enc := enc) (C := Tryd.checked) (os := os) (X := fun w _ => laidMetH Tryd.prog Rows.fnExactObjectOKRow.laid w) false (World.doorLaid Tryd.prog 400 os) #[.agg #[.string ByteArray.empty, .int .i64 0, .slice none 0 0, .slice none 0 0, .slice none 0 0]] 8 rfl (World.shaped_of_RefB (by kernel_rfl) (by kernel_rfl)) (by kernel_rfl) (by kernel_rfl) (by kernel_rfl) (fnExactObjectOK_door os _)) ?_
  intro W base args ds gs before hval0 hW _ _ hL _
  have hval : ∀ (j : Nat) t v, Tryd.f4.params[j]? = some t → args[j]? = some v → Value.okWide Tryd.prog W .any base t v := hval0
  have hW' := hW
  obtain ⟨p, q, hA0, hV, rfl, hfz, hnd⟩ := hW
  have hA : DataW.TrodAll enc Tryd.prog W 0 (fun _ => true) true Tryd.f4.params.toList args.toList ds p := hA0
  rw [Tryd.params4] at hA hval
  obtain ⟨v0, d0, rfl, rfl, h0⟩ := trodAll_one hA
  have hgl := vars_len hV
  obtain ⟨g0, g1, rfl⟩ : ∃ g0 g1, gs = [g0, g1] := by
    match gs, hgl with
    | [g0, g1], _ => exact ⟨_, _, rfl⟩
  obtain ⟨a0, b0⟩ := open_object (hval 0 38 v0 rfl rfl) h0
  clear hA0 hval0
  refine (fnExactObjectOK_core a0 v0 W b0 hL).mono fun e W' ⟨he, bel⟩ => ?_
  subst he
  exact ⟨_, rfl, law_post (show laidOutB Tryd.prog = true by kernel_rfl) (by kernel_rfl) (by kernel_rfl) rfl Tryd.underlying4 hW' rfl bel⟩

theorem fnExactObjectOK_holds : Rows.FnExactObjectOKSaid :=
  OpenClaim.holds_of_wide 4 Tryd.f4 rfl rfl rfl rfl rfl rfl rfl ⟨rfl, rfl, rfl, rfl, rfl⟩ rfl rfl rfl rfl rfl (by kernel_rfl) Tryd.func4 (by kernel_rfl)
    (of_decide_eq_true (by kernel_rfl)) (by unfold Func.isWrapper; first | (rw [if_pos (by decide +kernel)]; kernel_rfl) | (rw [if_neg (by decide +kernel)]; exact ⟨rfl, rfl⟩))
    (fun os started H enc _ => fnExactObjectOK_lifted os started H enc)
#print axioms fnExactObjectOK_holds

theorem fnExactObjectOK_plain (f : FuncId) (fn : Func) (hf : Tryd.pinned.checked.prog.funcNamed "loop.example/g00168/laws.FnExactObjectOK" = some f) (hfn : Tryd.pinned.checked.prog.funcs[f]? = some fn) :
    true = Tryd.pinned.checked.prog.looks [] ∧ ∀ (j : Nat) t, fn.params[j]? = some t → Tryd.pinned.checked.prog.wantsStandIn t = false := by
  obtain rfl : f = 4 := Option.some.inj ((show Tryd.prog.funcNamed "loop.example/g00168/laws.FnExactObjectOK" = some 4 by kernel_rfl).symm.trans hf) |>.symm
  obtain rfl : fn = Tryd.f4 := (Option.some.inj (Tryd.func4.symm.trans hfn)).symm
  refine ⟨by kernel_rfl, fun j t ht => ?_⟩
  rw [Tryd.params4] at ht
  have hm : t ∈ [38] := by
    have hm0 := Array.mem_of_getElem? ht
    simpa using hm0
  have hall : ([38].all fun u => !Tryd.prog.wantsStandIn u) = true := by kernel_rfl
  exact (show Tryd.prog.wantsStandIn t = false by simpa using List.all_eq_true.1 hall t hm)

theorem fnExactObjectOK_card : Rows.FnExactObjectOKCardSaid :=
  Claim7.holds_tied_plain_at .later [] _ _ _ _ fnExactObjectOK_holds (fun _ h => by cases h) (by kernel_rfl) (fun _ h => by cases h) fnExactObjectOK_row_tie rfl ⟨rfl, rfl⟩ (by kernel_rfl) rfl fnExactObjectOK_plain (by kernel_rfl)
#print axioms fnExactObjectOK_card

end Go.Proofs.YtjficafpkdeibaaDoor
