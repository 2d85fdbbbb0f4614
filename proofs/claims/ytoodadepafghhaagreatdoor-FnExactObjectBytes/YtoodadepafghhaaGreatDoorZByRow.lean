/- FnExactObjectBytes: at every object the program's ObjectBytes answers as the model's, bytes and code; the answer is memory of its own; the object reads as it did. Listed: the program's tables of words and signs and the library's tables, tied. No other condition. -/
import Derived.Test.YtoodadepafghhaaGreatDoorZByLaw
import Derived.Test.YtoodadepafghhaaGreatDoorZObO
import Derived.Test.YtoodadepafghhaaGreatDoorCards
import Derived.Test.YtoodadepafghhaaGreatDoorTie
import Derived.LaidMore
import Derived.Lay
import Derived.Stop.Joined
import Derived.SevenTiedAt
namespace Go.Proofs.YtoodadepafghhaaGreatDoor
open Go.ChangeShapes Go.WideShapes Go.ChangeAt Go.RowKit Go.PlainAid Go.Deep

theorem obKeys : Tryz.prog.globalNamed "loop.example/g00168/impl.keyWords" = some 2 := by kernel_rfl
theorem obKeysType : (Tryz.prog.globals[2]?).map (·.type) = some 235 := by kernel_rfl
theorem obPlain : (Rows.fnExactObjectBytesRow.laid.filter fun x => x.2.handleName?.isNone) = Rows.fnExactObjectBytesRow.laid := by kernel_rfl
theorem fnExactObjectBytes_core (x : ObjectD) (v : Value) (w : World) (h : ObjectVal w ⟨0, w.heap.size, false⟩ v x) (hL : laidMetH Tryz.prog Rows.fnExactObjectBytesRow.laid w) : Calls Tryz.prog 4 #[v] w fun e w' => e = .returned (.bool true) ∧ Below w.heap.size w w' := by
  obtain ⟨t, fr, hg⟩ := row_of_laid (zs := keys) (name := "loop.example/g00168/impl.keyWords") hL obPlain (by rw [← keys_laid]; simp [Rows.fnExactObjectBytesRow]) obKeys obKeysType Tryz.underlying235 Tryz.underlying9 (by kernel_rfl) (by kernel_rfl)
  exact objBytesLaw_any x v w h t fr hg

theorem fnExactObjectBytes_door (os : Os) (args : Array Value) : laidMetH Tryz.prog Rows.fnExactObjectBytesRow.laid ((World.doorLaid Tryz.prog 400 os).forCall (fun _ _ => 0) ⟨#[], args, []⟩).memory :=
  laidMetH_of_parts3 (fuel := 8) (laidMet_of_run' 8 (by kernel_rfl) (by kernel_rfl)) (by kernel_rfl) (by kernel_rfl)

set_option maxRecDepth 100000 in
theorem fnExactObjectBytes_lifted (os : Os) (started : os.Started) (H : Type) (enc : TypeId × Value → H) :
    ReturnsInHanded {} Tryz.checked os 4 .any (fun w args => (Rows.fnExactObjectBytesSpec.pre enc Tryz.prog Tryz.f4 [] false w args ∧ laidMetH Tryz.prog Rows.fnExactObjectBytesRow.laid w) ∧ sizedMet enc Tryz.prog Tryz.f4 (OpenSpec.ofChange Rows.fnExactObjectBytesSpec) false w args)
      (Rows.fnExactObjectBytesSpec.post enc Tryz.prog Tryz.f4 false true false false) := by
  refine returnsInHanded_of_change_and (C := Tryz.checked) (X := fun w _ => laidMetH Tryz.prog Rows.fnExactObjectBytesRow.laid w) (fun _ _ _ hh h => h.of_heap hh) (show ownKnob Tryz.prog.godebug = none by kernel_rfl) started (by kernel_rfl) Tryz.func4
    (ChangeSpec.witness_shaped (enc := enc) (C := Tryz.checked) (os := os) (X := fun w _ => laidMetH Tryz.prog Rows.fnExactObjectBytesRow.laid w) false (World.doorLaid Tryz.prog 400 os) #[.agg #[.string ByteArray.empty, .int .i64 0, .slice none 0 0, .slice none 0 0, .slice none 0 0]] 8 rfl (World.shaped_of_RefB (by kernel_rfl) (by kernel_rfl)) (by kernel_rfl) (by kernel_rfl) (by kernel_rfl) (fnExactObjectBytes_door os _)) ?_
  intro W base args ds gs before hval0 hW _ _ hL _
  have hval : ∀ (j : Nat) t v, Tryz.f4.params[j]? = some t → args[j]? = some v → Value.okWide Tryz.prog W .any base t v := hval0
  have hW' := hW
  obtain ⟨p, q, hA0, hV, rfl, hfz, hnd⟩ := hW
  have hA : DataW.TrodAll enc Tryz.prog W 0 (fun _ => true) true Tryz.f4.params.toList args.toList ds p := hA0
  rw [Tryz.params4] at hA hval
  obtain ⟨v0, d0, rfl, rfl, h0⟩ := trodAll_one hA
  have hgl := vars_len hV
  obtain ⟨g0, g1, rfl⟩ : ∃ g0 g1, gs = [g0, g1] := by
    match gs, hgl with
    | [g0, g1], _ => exact ⟨_, _, rfl⟩
  obtain ⟨a0, b0⟩ := open_object (hval 0 36 v0 rfl rfl) h0
  clear hA0 hval0
  refine (fnExactObjectBytes_core a0 v0 W b0 hL).mono fun e W' ⟨he, bel⟩ => ?_
  subst he
  exact ⟨_, rfl, law_post (show laidOutB Tryz.prog = true by kernel_rfl) (by kernel_rfl) (by kernel_rfl) rfl Tryz.underlying4 hW' rfl bel⟩

theorem fnExactObjectBytes_holds : Rows.FnExactObjectBytesSaid :=
  OpenClaim.holds_of_wide 4 Tryz.f4 rfl rfl rfl rfl rfl rfl rfl ⟨rfl, rfl, rfl, rfl, rfl⟩ rfl rfl rfl rfl rfl (by kernel_rfl) Tryz.func4 (by kernel_rfl)
    (of_decide_eq_true (by kernel_rfl)) (by unfold Func.isWrapper; first | (rw [if_pos (by decide +kernel)]; kernel_rfl) | (rw [if_neg (by decide +kernel)]; exact ⟨rfl, rfl⟩))
    (fun os started H enc _ => fnExactObjectBytes_lifted os started H enc)
#print axioms fnExactObjectBytes_holds

theorem fnExactObjectBytes_plain (f : FuncId) (fn : Func) (hf : Tryz.pinned.checked.prog.funcNamed "loop.example/g00168/laws.FnExactObjectBytes" = some f) (hfn : Tryz.pinned.checked.prog.funcs[f]? = some fn) :
    true = Tryz.pinned.checked.prog.looks [] ∧ ∀ (j : Nat) t, fn.params[j]? = some t → Tryz.pinned.checked.prog.wantsStandIn t = false := by
  obtain rfl : f = 4 := Option.some.inj ((show Tryz.prog.funcNamed "loop.example/g00168/laws.FnExactObjectBytes" = some 4 by kernel_rfl).symm.trans hf) |>.symm
  obtain rfl : fn = Tryz.f4 := (Option.some.inj (Tryz.func4.symm.trans hfn)).symm
  refine ⟨by kernel_rfl, fun j t ht => ?_⟩
  rw [Tryz.params4] at ht
  have hm : t ∈ [36] := by
    have hm0 := Array.mem_of_getElem? ht
    simpa using hm0
  have hall : ([36].all fun u => !Tryz.prog.wantsStandIn u) = true := by kernel_rfl
  exact (show Tryz.prog.wantsStandIn t = false by simpa using List.all_eq_true.1 hall t hm)

theorem fnExactObjectBytes_card : Rows.FnExactObjectBytesCardSaid :=
  Claim7.holds_tied_plain_at .later [] _ _ _ _ fnExactObjectBytes_holds (fun _ h => by cases h) (by kernel_rfl) (fun _ h => by cases h) fnExactObjectBytes_row_tie rfl ⟨rfl, rfl⟩ (by kernel_rfl) rfl fnExactObjectBytes_plain (by kernel_rfl)
#print axioms fnExactObjectBytes_card

end Go.Proofs.YtoodadepafghhaaGreatDoor
