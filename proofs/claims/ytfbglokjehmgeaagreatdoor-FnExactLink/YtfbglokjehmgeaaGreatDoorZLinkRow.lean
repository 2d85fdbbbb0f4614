/- FnExactLink: at every list of objects and every text the program's Link answers as the model's, and the list reads as it did. Listed: the program's tables of words and signs, the library's tables and errors.errorType, tied. No other condition. -/
import Derived.Test.YtfbglokjehmgeaaGreatDoorZLinkLaw
import Derived.Test.YtfbglokjehmgeaaGreatDoorCards
import Derived.Test.YtfbglokjehmgeaaGreatDoorTie
import Derived.LaidMore
import Derived.Lay
import Derived.Stop.Joined
import Derived.SevenTiedAt
namespace Go.Proofs.YtfbglokjehmgeaaGreatDoor
open Go.ChangeShapes Go.WideShapes Go.ChangeAt Go.RowKit Go.PlainAid Go.Deep

section
variable {H : Type} {enc : TypeId × Value → H} {w : World}
set_option maxRecDepth 100000 in
theorem open_objects {r : Reach} {b0 : Nat} {v : Value} {d : DataW H} {ps : List MemPlace} (hval : Value.okWide Tryz.prog w r b0 22 v) (h : DataW.Trod enc Tryz.prog w 0 (fun _ => true) true 22 v d ps) : ∃ l, SlAt ObjectAt 5 w ⟨0, w.heap.size, false⟩ v l ∧ l.length ≤ maxLen := by
  obtain ⟨a, len, cap, rfl⟩ := okWide_slice Tryz.underlying22 hval
  obtain ⟨fuel, h⟩ := h
  obtain ⟨u, l, e, hs, hl⟩ := opens_slice Tryz.underlying22 (of_decide_eq_true (by kernel_rfl)) opens_Object h
  have hp : Tryz.prog.cellsOf 43 = 5 := by kernel_rfl
  rw [hp] at hs
  have e2 : [Value.slice a len cap] = [u] := by simpa [Value.cells] using e
  cases e2
  exact ⟨l, hs, hl⟩
end
/-- A listed table of texts, where a handle stands among the list. -/
theorem row_of_laidF {P : Program} {W : World} {name : String} {zs : List (List UInt8)} {l : List (String × DataW Unit)} {g : Nat} {t e : TypeId} {n : Nat}
    (h : laidMetH P l W) (hm : (name, .agg (zs.map fun z => .lit (.string z))) ∈ (l.filter fun x => x.2.handleName?.isNone))
    (hg : P.globalNamed name = some g) (hty : (P.globals[g]?).map (·.type) = some t) (ht : P.underlying t = some (.array n e)) (he : P.underlying e = some .string) (hce : P.cellsOf e = 1) (hct : P.cellsOf t = n) :
    ∃ t' fr, W.heap[g]? = some (.cells (zs.map txt).toArray t' fr) := by
  have h' := (laidMetH_iff.1 h).1
  obtain ⟨ps, hl, _, _⟩ := h'
  obtain ⟨g', t', cs, fuel, p, h1, h2, h3, h4⟩ := laid_var hl hm
  obtain rfl := Option.some.inj (hg.symm.trans h1)
  obtain rfl := Option.some.inj (hty.symm.trans h2)
  have hc := cells_of_texts ht he hce hct h4
  simp only [World.var?, hg, Option.bind_some] at h3
  split at h3
  · rename_i cs' t' fr hh
    obtain rfl := Option.some.inj h3
    refine ⟨t', fr, ?_⟩
    rw [hh, ← hc]
  · cases h3
theorem erKeys : Tryz.prog.globalNamed "loop.example/g00168/impl.keyWords" = some 1 := by kernel_rfl
theorem erKeysType : (Tryz.prog.globals[1]?).map (·.type) = some 175 := by kernel_rfl
theorem erNamed : Tryz.prog.globalNamed "errors.errorType" = some 0 := by kernel_rfl
theorem erType : (Tryz.prog.cutTypes.find? (·.1 == "internal/reflectlite.rtype")).map (·.2) = some 152 := by kernel_rfl
theorem erOne : ((List.range Tryz.prog.types.size).filter fun t => Tryz.prog.rowNamed t [101, 114, 114, 111, 114]) = [56] := by kernel_rfl
theorem erHandle : typeHandle Tryz.prog 56 = .pointer (some ⟨6, 56, none⟩) := by kernel_rfl
theorem linkHandles : (Rows.fnExactLinkRow.laid.filter fun x => x.2.handleName?.isSome) = [("errors.errorType", Rows.laid_errors_errorType)] := by kernel_rfl
theorem linkTables : ("loop.example/g00168/impl.keyWords", Rows.laid_loop_example_g00168_impl_keyWords) ∈ (Rows.fnExactLinkRow.laid.filter fun x => x.2.handleName?.isNone) := by
  have e : (Rows.fnExactLinkRow.laid.filter fun x => x.2.handleName?.isNone) = [("math/bits.deBruijn32tab", Rows.laid_math_bits_deBruijn32tab), ("math/bits.deBruijn64tab", Rows.laid_math_bits_deBruijn64tab), ("internal/strconv.uint64pow10", Rows.laid_internal_strconv_uint64pow10), ("loop.example/g00168/impl.keyWords", Rows.laid_loop_example_g00168_impl_keyWords), ("loop.example/g00168/impl.workSigns", Rows.laid_loop_example_g00168_impl_workSigns)] := by kernel_rfl
  rw [e]
  simp
theorem err_of_laid {W : World} (hL : laidMetH Tryz.prog Rows.fnExactLinkRow.laid W) : W.cell? ⟨0, 0, none⟩ = some (.iface 152 (.agg #[.pointer (some ⟨6, 56, none⟩)])) := by
  have h := (laidMetH_iff.1 hL).2
  rw [linkHandles] at h
  obtain ⟨name, u, ty, e1, e2, e3, e4, e5⟩ := h _ (List.mem_singleton.2 rfl)
  have en : name = [101, 114, 114, 111, 114] := (Option.some.inj e1).symm
  subst en
  obtain rfl := Option.some.inj (erType.symm.trans e2)
  have hm : ty ∈ (List.range Tryz.prog.types.size).filter fun t => Tryz.prog.rowNamed t [101, 114, 114, 111, 114] := List.mem_filter.2 ⟨List.mem_range.2 e3, e4⟩
  rw [erOne] at hm
  obtain rfl := List.mem_singleton.1 hm
  rw [erHandle] at e5
  simpa using World.var?_cell erNamed e5 0
theorem fnExactLink_core (l : List ObjectD) (v : Value) (s : ByteArray) (hs : s.size ≤ maxLen) (w : World) (h : SlAt ObjectAt 5 w ⟨0, w.heap.size, false⟩ v l ∧ l.length ≤ maxLen) (hL : laidMetH Tryz.prog Rows.fnExactLinkRow.laid w) : Calls Tryz.prog 3 #[v, .string s] w fun e w' => e = .returned (.bool true) ∧ Below w.heap.size w w' := by
  obtain ⟨t, fr, hg⟩ := row_of_laidF (zs := keys) (name := "loop.example/g00168/impl.keyWords") hL (by rw [← keys_laid]; exact linkTables) erKeys erKeysType Tryz.underlying175 Tryz.underlying9 (by kernel_rfl) (by kernel_rfl)
  have he := err_of_laid hL
  obtain ⟨h1, h2⟩ := h
  obtain ⟨a, c, rfl, -⟩ := id h1
  exact linkLaw_any a c _ l s w h1 (Nat.le_refl _) h2 hs t fr hg he

theorem fnExactLink_door (os : Os) (args : Array Value) : laidMetH Tryz.prog Rows.fnExactLinkRow.laid ((World.doorLaid Tryz.prog 400 os).forCall (fun _ _ => 0) ⟨#[], args, []⟩).memory :=
  laidMetH_of_parts3 (fuel := 8) (laidMet_of_run' 8 (by kernel_rfl) (by kernel_rfl)) (by kernel_rfl) (by kernel_rfl)

set_option maxRecDepth 100000 in
theorem fnExactLink_lifted (os : Os) (started : os.Started) (H : Type) (enc : TypeId × Value → H) :
    ReturnsInHanded {} Tryz.checked os 3 .any (fun w args => (Rows.fnExactLinkSpec.pre enc Tryz.prog Tryz.f3 [] false w args ∧ laidMetH Tryz.prog Rows.fnExactLinkRow.laid w) ∧ sizedMet enc Tryz.prog Tryz.f3 (OpenSpec.ofChange Rows.fnExactLinkSpec) false w args)
      (Rows.fnExactLinkSpec.post enc Tryz.prog Tryz.f3 false true false false) := by
  refine returnsInHanded_of_change_and (C := Tryz.checked) (X := fun w _ => laidMetH Tryz.prog Rows.fnExactLinkRow.laid w) (fun _ _ _ hh h => h.of_heap hh) (show ownKnob Tryz.prog.godebug = none by kernel_rfl) started (by kernel_rfl) Tryz.func3
    (ChangeSpec.witness_shaped (enc := enc) (C := Tryz.checked) (os := os) (X := fun w _ => laidMetH Tryz.prog Rows.fnExactLinkRow.laid w) false (World.doorLaid Tryz.prog 400 os) #[.slice none 0 0, .string ByteArray.empty] 8 rfl (World.shaped_of_RefB (by kernel_rfl) (by kernel_rfl)) (by kernel_rfl) (by kernel_rfl) (by kernel_rfl) (fnExactLink_door os _)) ?_
  intro W base args ds gs before hval0 hW _ _ hL _
  have hval : ∀ (j : Nat) t v, Tryz.f3.params[j]? = some t → args[j]? = some v → Value.okWide Tryz.prog W .any base t v := hval0
  have hW' := hW
  obtain ⟨p, q, hA0, hV, rfl, hfz, hnd⟩ := hW
  have hA : DataW.TrodAll enc Tryz.prog W 0 (fun _ => true) true Tryz.f3.params.toList args.toList ds p := hA0
  rw [Tryz.params3] at hA hval
  obtain ⟨v0, v1, d0, d1, q0, q1, rfl, rfl, rfl, h0, h1⟩ := trodAll_two hA
  have hgl := vars_len hV
  obtain ⟨g0, g1, rfl⟩ : ∃ g0 g1, gs = [g0, g1] := by
    match gs, hgl with
    | [g0, g1], _ => exact ⟨_, _, rfl⟩
  obtain ⟨a0, b0⟩ := open_objects (hval 0 22 v0 rfl rfl) h0
  obtain ⟨a1, rfl, rfl, rfl, b1⟩ := Go.ChangeMaps.open_string Tryz.underlying9 (hval 1 9 v1 rfl rfl) h1
  clear hA0 hval0
  refine (fnExactLink_core a0 v0 a1 b1 W b0 hL).mono fun e W' ⟨he, bel⟩ => ?_
  subst he
  exact ⟨_, rfl, law_post (show laidOutB Tryz.prog = true by kernel_rfl) (by kernel_rfl) (by kernel_rfl) rfl Tryz.underlying4 hW' rfl bel⟩

theorem fnExactLink_holds : Rows.FnExactLinkSaid :=
  OpenClaim.holds_of_wide 3 Tryz.f3 rfl rfl rfl rfl rfl rfl rfl ⟨rfl, rfl, rfl, rfl, rfl⟩ rfl rfl rfl rfl rfl (by kernel_rfl) Tryz.func3 (by kernel_rfl)
    (of_decide_eq_true (by kernel_rfl)) (by unfold Func.isWrapper; first | (rw [if_pos (by decide +kernel)]; kernel_rfl) | (rw [if_neg (by decide +kernel)]; exact ⟨rfl, rfl⟩))
    (fun os started H enc _ => fnExactLink_lifted os started H enc)
#print axioms fnExactLink_holds

theorem fnExactLink_plain (f : FuncId) (fn : Func) (hf : Tryz.pinned.checked.prog.funcNamed "loop.example/g00168/laws.FnExactLink" = some f) (hfn : Tryz.pinned.checked.prog.funcs[f]? = some fn) :
    true = Tryz.pinned.checked.prog.looks [] ∧ ∀ (j : Nat) t, fn.params[j]? = some t → Tryz.pinned.checked.prog.wantsStandIn t = false := by
  obtain rfl : f = 3 := Option.some.inj ((show Tryz.prog.funcNamed "loop.example/g00168/laws.FnExactLink" = some 3 by kernel_rfl).symm.trans hf) |>.symm
  obtain rfl : fn = Tryz.f3 := (Option.some.inj (Tryz.func3.symm.trans hfn)).symm
  refine ⟨by kernel_rfl, fun j t ht => ?_⟩
  rw [Tryz.params3] at ht
  have hm : t ∈ [22, 9] := by
    have hm0 := Array.mem_of_getElem? ht
    simpa using hm0
  have hall : ([22, 9].all fun u => !Tryz.prog.wantsStandIn u) = true := by kernel_rfl
  exact (show Tryz.prog.wantsStandIn t = false by simpa using List.all_eq_true.1 hall t hm)

theorem fnExactLink_card : Rows.FnExactLinkCardSaid :=
  Claim7.holds_tied_plain_at .later [] _ _ _ _ fnExactLink_holds (fun _ h => by cases h) (by kernel_rfl) (fun _ h => by cases h) fnExactLink_row_tie rfl ⟨rfl, rfl⟩ (by kernel_rfl) rfl fnExactLink_plain (by kernel_rfl)
#print axioms fnExactLink_card

end Go.Proofs.YtfbglokjehmgeaaGreatDoor
