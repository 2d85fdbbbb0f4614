/- FnExactVerifyCode: at every code the program's VerifyCode answers as the model's, and the code reads as it did. Listed: the program's table of words and the library's errors.errorType, tied. No other condition. -/
import Derived.Test.YtjficafpkdeibaaDoorVerLaw
namespace Go.Proofs.YtjficafpkdeibaaDoor
open Go.ChangeShapes Go.WideShapes Go.ChangeAt Go.RowKit Go.PlainAid Go.Deep

/-- A listed table of texts, where a handle stands among the list. -/
theorem row_of_laidF {P : Program} {W : World} {name : String} {zs : List (List UInt8)} {l : List (String × DataW Unit)} {g : Nat} {t e : TypeId} {n : Nat}
    (h : laidMetH P l W) (hm : (name, .agg (zs.map fun z => .lit (.string z))) ∈ (l.filter fun x => x.2.handleName?.isNone))
    (hg : P.globalNamed name = some g) (hty : (P.globals[g]?).map (·.type) = some t) (ht : P.underlying t = some (.array n e)) (he : P.underlying e = some .string) (hce : P.cellsOf e = 1) (hct : P.cellsOf t = n) :
    ∃ t' fr, W.heap[g]? = some (.cells (zs.map txt).toArray t' fr) := by
  have h' := (laidMetH_iff.1 h).1
  obtain ⟨ps, hl, _, _⟩ := h'
  obtain ⟨g', t', cs, fuel, p, h1, h2, h3, h4⟩ := laid_var hl hm
  obtain rfl := Option.some.inj (hg.symm.trans h1)
  obtain rfl := Option.some.inj (hty.symm.trans h2)
  have hc := cells_of_texts ht he hce hct h4
  simp only [World.var?, hg, Option.bind_some] at h3
  split at h3
  · rename_i cs' t' fr hh
    obtain rfl := Option.some.inj h3
    refine ⟨t', fr, ?_⟩
    rw [hh, ← hc]
  · cases h3
theorem erKeys : Tryd.prog.globalNamed "loop.example/g00168/impl.keyWords" = some 1 := by kernel_rfl
theorem erKeysType : (Tryd.prog.globals[1]?).map (·.type) = some 130 := by kernel_rfl
theorem erNamed : Tryd.prog.globalNamed "errors.errorType" = some 0 := by kernel_rfl
theorem erType : (Tryd.prog.cutTypes.find? (·.1 == "internal/reflectlite.rtype")).map (·.2) = some 132 := by kernel_rfl
theorem erOne : ((List.range Tryd.prog.types.size).filter fun t => Tryd.prog.rowNamed t [101, 114, 114, 111, 114]) = [53] := by kernel_rfl
theorem erHandle : typeHandle Tryd.prog 53 = .pointer (some ⟨6, 53, none⟩) := by kernel_rfl
theorem verHandles : (Rows.fnExactVerifyCodeRow.laid.filter fun x => x.2.handleName?.isSome) = [("errors.errorType", Rows.laid_errors_errorType)] := by kernel_rfl
theorem verTables : ("loop.example/g00168/impl.keyWords", Rows.laid_loop_example_g00168_impl_keyWords) ∈ (Rows.fnExactVerifyCodeRow.laid.filter fun x => x.2.handleName?.isNone) := by
  have e : (Rows.fnExactVerifyCodeRow.laid.filter fun x => x.2.handleName?.isNone) = [("math/bits.deBruijn32tab", Rows.laid_math_bits_deBruijn32tab), ("math/bits.deBruijn64tab", Rows.laid_math_bits_deBruijn64tab), ("internal/strconv.uint64pow10", Rows.laid_internal_strconv_uint64pow10), ("loop.example/g00168/impl.keyWords", Rows.laid_loop_example_g00168_impl_keyWords), ("loop.example/g00168/impl.workSigns", Rows.laid_loop_example_g00168_impl_workSigns)] := by kernel_rfl
  rw [e]
  simp
theorem err_of_laid {W : World} (hL : laidMetH Tryd.prog Rows.fnExactVerifyCodeRow.laid W) : W.cell? ⟨0, 0, none⟩ = some errCell := by
  have h := (laidMetH_iff.1 hL).2
  rw [verHandles] at h
  obtain ⟨name, u, ty, e1, e2, e3, e4, e5⟩ := h _ (List.mem_singleton.2 rfl)
  have en : name = [101, 114, 114, 111, 114] := (Option.some.inj e1).symm
  subst en
  obtain rfl := Option.some.inj (erType.symm.trans e2)
  have hm : ty ∈ (List.range Tryd.prog.types.size).filter fun t => Tryd.prog.rowNamed t [101, 114, 114, 111, 114] := List.mem_filter.2 ⟨List.mem_range.2 e3, e4⟩
  rw [erOne] at hm
  obtain rfl := List.mem_singleton.1 hm
  rw [erHandle] at e5
  simpa [errCell] using World.var?_cell erNamed e5 0
theorem fnExactVerifyCode_core (x : CodeD) (v : Value) (w : World) (h : CodeVal w ⟨0, w.heap.size, false⟩ v x) (hL : laidMetH Tryd.prog Rows.fnExactVerifyCodeRow.laid w) : Calls Tryd.prog 3 #[v] w fun e w' => e = .returned (.bool true) ∧ Below w.heap.size w w' := by
  obtain ⟨t, fr, hg⟩ := row_of_laidF (zs := keys) (name := "loop.example/g00168/impl.keyWords") hL (by rw [← keys_laid]; exact verTables) erKeys erKeysType Tryd.underlying130 Tryd.underlying9 (by kernel_rfl) (by kernel_rfl)
  have he := err_of_laid hL
  have hlt : 0 < w.heap.size := by
    rcases Nat.lt_or_ge 0 w.heap.size with h0 | h0
    · exact h0
    · simp [World.cell?, Array.getElem?_eq_none h0] at he
  exact codeLaw_any x v w h t fr hg he hlt

theorem fnExactVerifyCode_door (os : Os) (args : Array Value) : laidMetH Tryd.prog Rows.fnExactVerifyCodeRow.laid ((World.doorLaid Tryd.prog 400 os).forCall (fun _ _ => 0) ⟨#[], args, []⟩).memory :=
  laidMetH_of_parts3 (fuel := 8) (laidMet_of_run' 8 (by kernel_rfl) (by kernel_rfl)) (by kernel_rfl) (by kernel_rfl)

set_option maxRecDepth 100000 in
theorem fnExactVerifyCode_lifted (os : Os) (started : os.Started) (H : Type) (enc : TypeId × Value → H) :
    ReturnsInHanded {} Tryd.checked os 3 .any (fun w args => (Rows.fnExactVerifyCodeSpec.pre enc Tryd.prog Tryd.f3 [] false w args ∧ laidMetH Tryd.prog Rows.fnExactVerifyCodeRow.laid w) ∧ sizedMet enc Tryd.prog Tryd.f3 (OpenSpec.ofChange Rows.fnExactVerifyCodeSpec) false w args)
      (Rows.fnExactVerifyCodeSpec.post enc Tryd.prog Tryd.f3 false true false false) := by
  refine returnsInHanded_of_change_and (C := Tryd.checked) (X := fun w _ => laidMetH Tryd.prog Rows.fnExactVerifyCodeRow.laid w) (fun _ _ _ hh h => h.of_heap hh) (show ownKnob Tryd.prog.godebug = none by kernel_rfl) started (by kernel_rfl) Tryd.func3
    (ChangeSpec.witness_shaped (enc := enc) (C := Tryd.checked) (os := os) (X := fun w _ => laidMetH Tryd.prog Rows.fnExactVerifyCodeRow.laid w) false (World.doorLaid Tryd.prog 400 os) #[.agg #[.string ByteArray.empty, .int .i64 0, .int .i64 0, .int .i64 0, .slice none 0 0]] 8 rfl (World.shaped_of_RefB (by kernel_rfl) (by kernel_rfl)) (by kernel_rfl) (by kernel_rfl) (by kernel_rfl) (fnExactVerifyCode_door os _)) ?_
  intro W base args ds gs before hval0 hW _ _ hL _
  have hval : ∀ (j : Nat) t v, Tryd.f3.params[j]? = some t → args[j]? = some v → Value.okWide Tryd.prog W .any base t v := hval0
  have hW' := hW
  obtain ⟨p, q, hA0, hV, rfl, hfz, hnd⟩ := hW
  have hA : DataW.TrodAll enc Tryd.prog W 0 (fun _ => true) true Tryd.f3.params.toList args.toList ds p := hA0
  rw [Tryd.params3] at hA hval
  obtain ⟨v0, d0, rfl, rfl, h0⟩ := trodAll_one hA
  have hgl := vars_len hV
  obtain ⟨g0, g1, rfl⟩ : ∃ g0 g1, gs = [g0, g1] := by
    match gs, hgl with
    | [g0, g1], _ => exact ⟨_, _, rfl⟩
  obtain ⟨a0, b0⟩ := open_code (hval 0 24 v0 rfl rfl) h0
  clear hA0 hval0
  refine (fnExactVerifyCode_core a0 v0 W b0 hL).mono fun e W' ⟨he, bel⟩ => ?_
  subst he
  exact ⟨_, rfl, law_post (show laidOutB Tryd.prog = true by kernel_rfl) (by kernel_rfl) (by kernel_rfl) rfl Tryd.underlying4 hW' rfl bel⟩

theorem fnExactVerifyCode_holds : Rows.FnExactVerifyCodeSaid :=
  OpenClaim.holds_of_wide 3 Tryd.f3 rfl rfl rfl rfl rfl rfl rfl ⟨rfl, rfl, rfl, rfl, rfl⟩ rfl rfl rfl rfl rfl (by kernel_rfl) Tryd.func3 (by kernel_rfl)
    (of_decide_eq_true (by kernel_rfl)) (by unfold Func.isWrapper; first | (rw [if_pos (by decide +kernel)]; kernel_rfl) | (rw [if_neg (by decide +kernel)]; exact ⟨rfl, rfl⟩))
    (fun os started H enc _ => fnExactVerifyCode_lifted os started H enc)
#print axioms fnExactVerifyCode_holds

theorem fnExactVerifyCode_plain (f : FuncId) (fn : Func) (hf : Tryd.pinned.checked.prog.funcNamed "loop.example/g00168/laws.FnExactVerifyCode" = some f) (hfn : Tryd.pinned.checked.prog.funcs[f]? = some fn) :
    true = Tryd.pinned.checked.prog.looks [] ∧ ∀ (j : Nat) t, fn.params[j]? = some t → Tryd.pinned.checked.prog.wantsStandIn t = false := by
  obtain rfl : f = 3 := Option.some.inj ((show Tryd.prog.funcNamed "loop.example/g00168/laws.FnExactVerifyCode" = some 3 by kernel_rfl).symm.trans hf) |>.symm
  obtain rfl : fn = Tryd.f3 := (Option.some.inj (Tryd.func3.symm.trans hfn)).symm
  refine ⟨by kernel_rfl, fun j t ht => ?_⟩
  rw [Tryd.params3] at ht
  have hm : t ∈ [24] := by
    have hm0 := Array.mem_of_getElem? ht
    simpa using hm0
  have hall : ([24].all fun u => !Tryd.prog.wantsStandIn u) = true := by kernel_rfl
  exact (show Tryd.prog.wantsStandIn t = false by simpa using List.all_eq_true.1 hall t hm)

theorem fnExactVerifyCode_card : Rows.FnExactVerifyCodeCardSaid :=
  Claim7.holds_tied_plain_at .later [] _ _ _ _ fnExactVerifyCode_holds (fun _ h => by cases h) (by kernel_rfl) (fun _ h => by cases h) fnExactVerifyCode_row_tie rfl ⟨rfl, rfl⟩ (by kernel_rfl) rfl fnExactVerifyCode_plain (by kernel_rfl)
#print axioms fnExactVerifyCode_card

end Go.Proofs.YtjficafpkdeibaaDoor
