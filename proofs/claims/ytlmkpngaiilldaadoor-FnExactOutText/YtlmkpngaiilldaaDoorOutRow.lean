/- FnExactOutText: at every list of things told the program's OutText answers as the model's, text and code, and the list reads as it did. Listed: the library's tables that the road reads, tied or pinned. No other condition. -/
import Derived.Test.YtlmkpngaiilldaaDoorOutLaw
namespace Go.Proofs.YtlmkpngaiilldaaDoor
open Go.ChangeShapes Go.WideShapes Go.ChangeAt Go.RowKit Go.Deep

theorem tab_of_laid {P : Program} {W : World} {name : String} {k : IntKind} {zs : List Int} {l : List (String × DataW Unit)} {g : Nat} {t e : TypeId} {n : Nat}
    (h : laidMetH P l W) (hplain : (l.filter fun x => x.2.handleName?.isNone) = l) (hm : (name, Lib.tabData k zs) ∈ l)
    (hg : P.globalNamed name = some g) (hty : (P.globals[g]?).map (·.type) = some t) (ht : P.underlying t = some (.array n e)) (he : P.underlying e = some (.int k)) (hce : P.cellsOf e = 1) (hct : P.cellsOf t = n) :
    Lib.TabIs P W name k zs := by
  have h' := (laidMetH_iff.1 h).1
  rw [hplain] at h'
  obtain ⟨ps, hl, _, _⟩ := h'
  obtain ⟨g', t', cs, fuel, p, h1, h2, h3, h4⟩ := laid_var hl hm
  obtain rfl := Option.some.inj (hg.symm.trans h1)
  obtain rfl := Option.some.inj (hty.symm.trans h2)
  have hc := Lib.cells_of_tab ht he hce hct h4
  unfold Lib.TabIs
  rw [h3, ← hc, Array.toArray_toList]
def debr : List Int := [0, 1, 56, 2, 57, 49, 28, 3, 61, 58, 42, 50, 38, 29, 17, 4, 62, 47, 59, 36, 45, 43, 51, 22, 53, 39, 33, 30, 24, 18, 12, 5, 63, 55, 48, 27, 60, 41, 37, 16, 46, 35, 44, 21, 52, 32, 23, 11, 54, 26, 40, 15, 34, 20, 31, 10, 25, 14, 19, 9, 13, 8, 7, 6]
theorem debr_laid : (Rows.laid_math_bits_deBruijn64tab (H := Unit)) = Lib.tabData .u8 debr := rfl
theorem pow_laid : (Rows.laid_internal_strconv_uint64pow10 (H := Unit)) = Lib.tabData .u64 Lib.pow10Tab := rfl
theorem gDebr : Tryd.prog.globalNamed "math/bits.deBruijn64tab" = some 8 := by kernel_rfl
theorem gDebrType : (Tryd.prog.globals[8]?).map (·.type) = some 176 := by kernel_rfl
theorem gPowType : (Tryd.prog.globals[3]?).map (·.type) = some 158 := by kernel_rfl
theorem outPlain : (Rows.fnExactOutTextRow.laid.filter fun x => x.2.handleName?.isNone) = Rows.fnExactOutTextRow.laid := by kernel_rfl
theorem fnExactOutText_core (l : List OutD) (v : Value) (w : World) (h : SlAt OutAt 2 w ⟨0, w.heap.size, false⟩ v l ∧ l.length ≤ maxLen) (hL : laidMetH Tryd.prog Rows.fnExactOutTextRow.laid w) : Calls Tryd.prog 4 #[v] w fun e w' => e = .returned (.bool true) ∧ Below w.heap.size w w' := by
  refine outLaw_any l v w h.1 h.2 ⟨?_, ?_⟩
  · exact ints_of_laid (zs := debr) (name := "math/bits.deBruijn64tab") (k := .u8) hL outPlain (by rw [← debr_laid]; simp [Rows.fnExactOutTextRow]) gDebr gDebrType Tryd.underlying176 Tryd.underlying5 (by kernel_rfl) (by kernel_rfl) 15 (by decide)
  · exact tab_of_laid (zs := Lib.pow10Tab) (name := "internal/strconv.uint64pow10") (k := .u64) hL outPlain (by rw [← pow_laid]; simp [Rows.fnExactOutTextRow]) gPow gPowType Tryd.underlying158 Tryd.underlying146 (by kernel_rfl) (by kernel_rfl)

set_option maxRecDepth 100000 in
theorem fnExactOutText_lifted (os : Os) (started : os.Started) (H : Type) (enc : TypeId × Value → H) :
    ReturnsInHanded {} Tryd.checked os 4 .any (fun w args => (Rows.fnExactOutTextSpec.pre enc Tryd.prog Tryd.f4 [] false w args ∧ laidMetH Tryd.prog Rows.fnExactOutTextRow.laid w) ∧ sizedMet enc Tryd.prog Tryd.f4 (OpenSpec.ofChange Rows.fnExactOutTextSpec) false w args)
      (Rows.fnExactOutTextSpec.post enc Tryd.prog Tryd.f4 false true false false) := by
  refine returnsInHanded_of_change_and (C := Tryd.checked) (X := fun w _ => laidMetH Tryd.prog Rows.fnExactOutTextRow.laid w) (fun _ _ _ hh h => h.of_heap hh) (show ownKnob Tryd.prog.godebug = none by kernel_rfl) started (by kernel_rfl) Tryd.func4
    (ChangeSpec.witness_shaped (enc := enc) (C := Tryd.checked) (os := os) (X := fun w _ => laidMetH Tryd.prog Rows.fnExactOutTextRow.laid w) false (World.laidAll Tryd.prog os Rows.fnExactOutTextRow.laid) #[.slice none 0 0] 8 (World.laidAll_os _ _ _) (World.shaped_of_ZipB (by kernel_rfl) (by kernel_rfl)) (by kernel_rfl) (by kernel_rfl) (by kernel_rfl)
      (by rw [MakeChecks.laidMetH_plain _ _ _ (by kernel_rfl)]; exact laidMet_laidAll _ (by kernel_rfl) (by kernel_rfl))) ?_
  intro W base args ds gs before hval0 hW _ _ hL _
  have hval : ∀ (j : Nat) t v, Tryd.f4.params[j]? = some t → args[j]? = some v → Value.okWide Tryd.prog W .any base t v := hval0
  have hW' := hW
  obtain ⟨p, q, hA0, hV, rfl, hfz, hnd⟩ := hW
  have hA : DataW.TrodAll enc Tryd.prog W 0 (fun _ => true) true Tryd.f4.params.toList args.toList ds p := hA0
  rw [Tryd.params4] at hA hval
  obtain ⟨v0, d0, rfl, rfl, h0⟩ := trodAll_one hA
  obtain ⟨rfl, rfl⟩ := trodVars_none hV
  obtain ⟨a0, b0⟩ := open_outs (hval 0 35 v0 rfl rfl) h0
  clear hA0 hval0
  refine (fnExactOutText_core a0 v0 W b0 hL).mono fun e W' ⟨he, bel⟩ => ?_
  subst he
  exact ⟨_, rfl, law_post (show laidOutB Tryd.prog = true by kernel_rfl) (by kernel_rfl) (by kernel_rfl) rfl Tryd.underlying4 hW' rfl bel⟩

theorem fnExactOutText_holds : Rows.FnExactOutTextSaid :=
  OpenClaim.holds_of_wide 4 Tryd.f4 rfl rfl rfl rfl rfl rfl rfl ⟨rfl, rfl, rfl, rfl, rfl⟩ rfl rfl rfl rfl rfl (by kernel_rfl) Tryd.func4 (by kernel_rfl)
    (of_decide_eq_true (by kernel_rfl)) (by unfold Func.isWrapper; first | (rw [if_pos (by decide +kernel)]; kernel_rfl) | (rw [if_neg (by decide +kernel)]; exact ⟨rfl, rfl⟩))
    (fun os started H enc _ => fnExactOutText_lifted os started H enc)
#print axioms fnExactOutText_holds

theorem fnExactOutText_plain (f : FuncId) (fn : Func) (hf : Tryd.pinned.checked.prog.funcNamed "loop.example/g00168/laws.FnExactOutText" = some f) (hfn : Tryd.pinned.checked.prog.funcs[f]? = some fn) :
    false = Tryd.pinned.checked.prog.looks [] ∧ ∀ (j : Nat) t, fn.params[j]? = some t → Tryd.pinned.checked.prog.wantsStandIn t = false := by
  obtain rfl : f = 4 := Option.some.inj ((show Tryd.prog.funcNamed "loop.example/g00168/laws.FnExactOutText" = some 4 by kernel_rfl).symm.trans hf) |>.symm
  obtain rfl : fn = Tryd.f4 := (Option.some.inj (Tryd.func4.symm.trans hfn)).symm
  refine ⟨by kernel_rfl, fun j t ht => ?_⟩
  rw [Tryd.params4] at ht
  have hm : t ∈ [35] := by
    have hm0 := Array.mem_of_getElem? ht
    simpa using hm0
  have hall : ([35].all fun u => !Tryd.prog.wantsStandIn u) = true := by kernel_rfl
  exact (show Tryd.prog.wantsStandIn t = false by simpa using List.all_eq_true.1 hall t hm)

theorem fnExactOutText_card : Rows.FnExactOutTextCardSaid :=
  Claim7.holds_tied_plain_at .later [] _ _ _ _ fnExactOutText_holds (fun _ h => by cases h) (by kernel_rfl) (fun _ h => by cases h) fnExactOutText_row_tie rfl ⟨rfl, rfl⟩ (by kernel_rfl) rfl fnExactOutText_plain (by kernel_rfl)
#print axioms fnExactOutText_card

end Go.Proofs.YtlmkpngaiilldaaDoor
