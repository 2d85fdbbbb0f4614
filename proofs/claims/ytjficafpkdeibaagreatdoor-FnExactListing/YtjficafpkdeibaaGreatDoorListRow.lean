/- FnExactListing: at every code the program's Listing answers as the model's, text and code, and the code reads as it did. Listed: the program's tables of words and signs, the library's errors.errorType and powers of ten, tied. No other condition. -/
import Derived.Test.YtjficafpkdeibaaGreatDoorListLaw
namespace Go.Proofs.YtjficafpkdeibaaGreatDoor
open Go.ChangeShapes Go.WideShapes Go.ChangeAt Go.RowKit Go.PlainAid Go.Deep

/-- A listed table of texts, where a handle stands among the list. -/
theorem row_of_laidF {P : Program} {W : World} {name : String} {zs : List (List UInt8)} {l : List (String × DataW Unit)} {g : Nat} {t e : TypeId} {n : Nat}
    (h : laidMetH P l W) (hm : (name, .agg (zs.map fun z => .lit (.string z))) ∈ (l.filter fun x => x.2.handleName?.isNone))
    (hg : P.globalNamed name = some g) (hty : (P.globals[g]?).map (·.type) = some t) (ht : P.underlying t = some (.array n e)) (he : P.underlying e = some .string) (hce : P.cellsOf e = 1) (hct : P.cellsOf t = n) :
    ∃ t' fr, W.heap[g]? = some (.cells (zs.map txt).toArray t' fr) := by
  have h' := (laidMetH_iff.1 h).1
  obtain ⟨ps, hl, _, _⟩ := h'
  obtain ⟨g', t', cs, fuel, p, h1, h2, h3, h4⟩ := laid_var hl hm
  obtain rfl := Option.some.inj (hg.symm.trans h1)
  obtain rfl := Option.some.inj (hty.symm.trans h2)
  have hc := cells_of_texts ht he hce hct h4
  simp only [World.var?, hg, Option.bind_some] at h3
  split at h3
  · rename_i cs' t' fr hh
    obtain rfl := Option.some.inj h3
    refine ⟨t', fr, ?_⟩
    rw [hh, ← hc]
  · cases h3
theorem erKeys : Tryz.prog.globalNamed "loop.example/g00168/impl.keyWords" = some 2 := by kernel_rfl
theorem erKeysType : (Tryz.prog.globals[2]?).map (·.type) = some 235 := by kernel_rfl
theorem erNamed : Tryz.prog.globalNamed "errors.errorType" = some 0 := by kernel_rfl
theorem erType : (Tryz.prog.cutTypes.find? (·.1 == "internal/reflectlite.rtype")).map (·.2) = some 214 := by kernel_rfl
theorem erOne : ((List.range Tryz.prog.types.size).filter fun t => Tryz.prog.rowNamed t [101, 114, 114, 111, 114]) = [63] := by kernel_rfl
theorem erHandle : typeHandle Tryz.prog 63 = .pointer (some ⟨6, 63, none⟩) := by kernel_rfl
theorem verHandles : (Rows.fnExactListingRow.laid.filter fun x => x.2.handleName?.isSome) = [("errors.errorType", Rows.laid_errors_errorType)] := by kernel_rfl
theorem verTables : ("loop.example/g00168/impl.keyWords", Rows.laid_loop_example_g00168_impl_keyWords) ∈ (Rows.fnExactListingRow.laid.filter fun x => x.2.handleName?.isNone) := by
  have e : (Rows.fnExactListingRow.laid.filter fun x => x.2.handleName?.isNone) = [("math/bits.deBruijn32tab", Rows.laid_math_bits_deBruijn32tab), ("math/bits.deBruijn64tab", Rows.laid_math_bits_deBruijn64tab), ("internal/strconv.uint64pow10", Rows.laid_internal_strconv_uint64pow10), ("loop.example/g00168/impl.keyWords", Rows.laid_loop_example_g00168_impl_keyWords), ("loop.example/g00168/impl.workSigns", Rows.laid_loop_example_g00168_impl_workSigns)] := by kernel_rfl
  rw [e]
  simp
theorem err_of_laid {W : World} (hL : laidMetH Tryz.prog Rows.fnExactListingRow.laid W) : W.cell? ⟨0, 0, none⟩ = some errCell := by
  have h := (laidMetH_iff.1 hL).2
  rw [verHandles] at h
  obtain ⟨name, u, ty, e1, e2, e3, e4, e5⟩ := h _ (List.mem_singleton.2 rfl)
  have en : name = [101, 114, 114, 111, 114] := (Option.some.inj e1).symm
  subst en
  obtain rfl := Option.some.inj (erType.symm.trans e2)
  have hm : ty ∈ (List.range Tryz.prog.types.size).filter fun t => Tryz.prog.rowNamed t [101, 114, 114, 111, 114] := List.mem_filter.2 ⟨List.mem_range.2 e3, e4⟩
  rw [erOne] at hm
  obtain rfl := List.mem_singleton.1 hm
  rw [erHandle] at e5
  simpa [errCell] using World.var?_cell erNamed e5 0
theorem tab_of_laidF {P : Program} {W : World} {name : String} {k : IntKind} {zs : List Int} {l : List (String × DataW Unit)} {g : Nat} {t e : TypeId} {n : Nat}
    (h : laidMetH P l W) (hm : (name, Lib.tabData k zs) ∈ (l.filter fun x => x.2.handleName?.isNone))
    (hg : P.globalNamed name = some g) (hty : (P.globals[g]?).map (·.type) = some t) (ht : P.underlying t = some (.array n e)) (he : P.underlying e = some (.int k)) (hce : P.cellsOf e = 1) (hct : P.cellsOf t = n) :
    Lib.TabIs P W name k zs := by
  have h' := (laidMetH_iff.1 h).1
  obtain ⟨ps, hl, _, _⟩ := h'
  obtain ⟨g', t', cs, fuel, p, h1, h2, h3, h4⟩ := laid_var hl hm
  obtain rfl := Option.some.inj (hg.symm.trans h1)
  obtain rfl := Option.some.inj (hty.symm.trans h2)
  have hc := Lib.cells_of_tab ht he hce hct h4
  unfold Lib.TabIs
  rw [h3, ← hc, Array.toArray_toList]
theorem listTables : (Rows.fnExactListingRow.laid.filter fun x => x.2.handleName?.isNone) = [("math/bits.deBruijn32tab", Rows.laid_math_bits_deBruijn32tab), ("math/bits.deBruijn64tab", Rows.laid_math_bits_deBruijn64tab), ("internal/strconv.uint64pow10", Rows.laid_internal_strconv_uint64pow10), ("loop.example/g00168/impl.keyWords", Rows.laid_loop_example_g00168_impl_keyWords), ("loop.example/g00168/impl.workSigns", Rows.laid_loop_example_g00168_impl_workSigns)] := by kernel_rfl
theorem signTables : ("loop.example/g00168/impl.workSigns", Rows.laid_loop_example_g00168_impl_workSigns) ∈ (Rows.fnExactListingRow.laid.filter fun x => x.2.handleName?.isNone) := by
  rw [listTables]
  simp
theorem powTables : ("internal/strconv.uint64pow10", Rows.laid_internal_strconv_uint64pow10) ∈ (Rows.fnExactListingRow.laid.filter fun x => x.2.handleName?.isNone) := by
  rw [listTables]
  simp
theorem signs_laid : (Rows.laid_loop_example_g00168_impl_workSigns (H := Unit)) = .agg (opSigns.map fun z => .lit (.string z)) := rfl
theorem pow_laid : (Rows.laid_internal_strconv_uint64pow10 (H := Unit)) = Lib.tabData .u64 Lib.pow10Tab := rfl
theorem erSigns : Tryz.prog.globalNamed "loop.example/g00168/impl.workSigns" = some 1 := by kernel_rfl
theorem erSignsType : (Tryz.prog.globals[1]?).map (·.type) = some 183 := by kernel_rfl
theorem gPowType : (Tryz.prog.globals[3]?).map (·.type) = some 251 := by kernel_rfl
theorem fnExactListing_core (x : CodeD) (v : Value) (w : World) (h : CodeVal w ⟨0, w.heap.size, false⟩ v x) (hL : laidMetH Tryz.prog Rows.fnExactListingRow.laid w) : Calls Tryz.prog 6 #[v] w fun e w' => e = .returned (.bool true) ∧ Below w.heap.size w w' := by
  obtain ⟨t, fr, hg⟩ := row_of_laidF (zs := keys) (name := "loop.example/g00168/impl.keyWords") hL (by rw [← keys_laid]; exact verTables) erKeys erKeysType Tryz.underlying235 Tryz.underlying9 (by kernel_rfl) (by kernel_rfl)
  have he := err_of_laid hL
  have hlt : 0 < w.heap.size := by
    rcases Nat.lt_or_ge 0 w.heap.size with h0 | h0
    · exact h0
    · simp [World.cell?, Array.getElem?_eq_none h0] at he
  obtain ⟨t2, fr2, hs⟩ := row_of_laidF (zs := opSigns) (name := "loop.example/g00168/impl.workSigns") hL (by rw [← signs_laid]; exact signTables) erSigns erSignsType Tryz.underlying183 Tryz.underlying9 (by kernel_rfl) (by kernel_rfl)
  exact listLaw_any x v w h t fr hg he hlt (tab_of_laidF (zs := Lib.pow10Tab) (name := "internal/strconv.uint64pow10") (k := .u64) hL (by rw [← pow_laid]; exact powTables) gPow gPowType Tryz.underlying251 Tryz.underlying229 (by kernel_rfl) (by kernel_rfl)) ⟨t2, fr2, hs⟩

theorem fnExactListing_door (os : Os) (args : Array Value) : laidMetH Tryz.prog Rows.fnExactListingRow.laid ((World.doorLaid Tryz.prog 400 os).forCall (fun _ _ => 0) ⟨#[], args, []⟩).memory :=
  laidMetH_of_parts3 (fuel := 8) (laidMet_of_run' 8 (by kernel_rfl) (by kernel_rfl)) (by kernel_rfl) (by kernel_rfl)

set_option maxRecDepth 100000 in
theorem fnExactListing_lifted (os : Os) (started : os.Started) (H : Type) (enc : TypeId × Value → H) :
    ReturnsInHanded {} Tryz.checked os 6 .any (fun w args => (Rows.fnExactListingSpec.pre enc Tryz.prog Tryz.f6 [] false w args ∧ laidMetH Tryz.prog Rows.fnExactListingRow.laid w) ∧ sizedMet enc Tryz.prog Tryz.f6 (OpenSpec.ofChange Rows.fnExactListingSpec) false w args)
      (Rows.fnExactListingSpec.post enc Tryz.prog Tryz.f6 false true false false) := by
  refine returnsInHanded_of_change_and (C := Tryz.checked) (X := fun w _ => laidMetH Tryz.prog Rows.fnExactListingRow.laid w) (fun _ _ _ hh h => h.of_heap hh) (show ownKnob Tryz.prog.godebug = none by kernel_rfl) started (by kernel_rfl) Tryz.func6
    (ChangeSpec.witness_shaped (enc := enc) (C := Tryz.checked) (os := os) (X := fun w _ => laidMetH Tryz.prog Rows.fnExactListingRow.laid w) false (World.doorLaid Tryz.prog 400 os) #[.agg #[.string ByteArray.empty, .int .i64 0, .int .i64 0, .int .i64 0, .slice none 0 0]] 8 rfl (World.shaped_of_RefB (by kernel_rfl) (by kernel_rfl)) (by kernel_rfl) (by kernel_rfl) (by kernel_rfl) (fnExactListing_door os _)) ?_
  intro W base args ds gs before hval0 hW _ _ hL _
  have hval : ∀ (j : Nat) t v, Tryz.f6.params[j]? = some t → args[j]? = some v → Value.okWide Tryz.prog W .any base t v := hval0
  have hW' := hW
  obtain ⟨p, q, hA0, hV, rfl, hfz, hnd⟩ := hW
  have hA : DataW.TrodAll enc Tryz.prog W 0 (fun _ => true) true Tryz.f6.params.toList args.toList ds p := hA0
  rw [Tryz.params6] at hA hval
  obtain ⟨v0, d0, rfl, rfl, h0⟩ := trodAll_one hA
  have hgl := vars_len hV
  obtain ⟨g0, g1, rfl⟩ : ∃ g0 g1, gs = [g0, g1] := by
    match gs, hgl with
    | [g0, g1], _ => exact ⟨_, _, rfl⟩
  obtain ⟨a0, b0⟩ := open_code (hval 0 56 v0 rfl rfl) h0
  clear hA0 hval0
  refine (fnExactListing_core a0 v0 W b0 hL).mono fun e W' ⟨he, bel⟩ => ?_
  subst he
  exact ⟨_, rfl, law_post (show laidOutB Tryz.prog = true by kernel_rfl) (by kernel_rfl) (by kernel_rfl) rfl Tryz.underlying4 hW' rfl bel⟩

theorem fnExactListing_holds : Rows.FnExactListingSaid :=
  OpenClaim.holds_of_wide 6 Tryz.f6 rfl rfl rfl rfl rfl rfl rfl ⟨rfl, rfl, rfl, rfl, rfl⟩ rfl rfl rfl rfl rfl (by kernel_rfl) Tryz.func6 (by kernel_rfl)
    (of_decide_eq_true (by kernel_rfl)) (by unfold Func.isWrapper; first | (rw [if_pos (by decide +kernel)]; kernel_rfl) | (rw [if_neg (by decide +kernel)]; exact ⟨rfl, rfl⟩))
    (fun os started H enc _ => fnExactListing_lifted os started H enc)
#print axioms fnExactListing_holds

theorem fnExactListing_plain (f : FuncId) (fn : Func) (hf : Tryz.pinned.checked.prog.funcNamed "loop.example/g00168/laws.FnExactListing" = some f) (hfn : Tryz.pinned.checked.prog.funcs[f]? = some fn) :
    true = Tryz.pinned.checked.prog.looks [] ∧ ∀ (j : Nat) t, fn.params[j]? = some t → Tryz.pinned.checked.prog.wantsStandIn t = false := by
  obtain rfl : f = 6 := Option.some.inj ((show Tryz.prog.funcNamed "loop.example/g00168/laws.FnExactListing" = some 6 by kernel_rfl).symm.trans hf) |>.symm
  obtain rfl : fn = Tryz.f6 := (Option.some.inj (Tryz.func6.symm.trans hfn)).symm
  refine ⟨by kernel_rfl, fun j t ht => ?_⟩
  rw [Tryz.params6] at ht
  have hm : t ∈ [56] := by
    have hm0 := Array.mem_of_getElem? ht
    simpa using hm0
  have hall : ([56].all fun u => !Tryz.prog.wantsStandIn u) = true := by kernel_rfl
  exact (show Tryz.prog.wantsStandIn t = false by simpa using List.all_eq_true.1 hall t hm)

theorem fnExactListing_card : Rows.FnExactListingCardSaid :=
  Claim7.holds_tied_plain_at .later [] _ _ _ _ fnExactListing_holds (fun _ h => by cases h) (by kernel_rfl) (fun _ h => by cases h) fnExactListing_row_tie rfl ⟨rfl, rfl⟩ (by kernel_rfl) rfl fnExactListing_plain (by kernel_rfl)
#print axioms fnExactListing_card

end Go.Proofs.YtjficafpkdeibaaGreatDoor
