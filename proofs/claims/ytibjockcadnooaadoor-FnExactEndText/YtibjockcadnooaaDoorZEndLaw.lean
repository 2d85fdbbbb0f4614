/- FnExactEndText: of every result the program's EndText answers as the model's, text and code, and the result reads as it did. Listed: the program's two tables of words, tied. No other condition. -/
import Derived.Test.YtibjockcadnooaaDoorZEndM
import Derived.Test.YtibjockcadnooaaDoorZEndI
import Derived.Test.YtibjockcadnooaaDoorCards
import Derived.Test.YtibjockcadnooaaDoorTie
import Derived.LaidMore
import Derived.Lay
import Derived.Stop.Joined
import Derived.SevenTiedAt
namespace Go.Proofs.YtibjockcadnooaaDoor
open Go.ChangeShapes Go.WideShapes Go.ChangeAt Go.RowKit Go.Deep

section
variable {H : Type} {enc : TypeId × Value → H} {w : World}
set_option maxRecDepth 100000 in
theorem open_result {r : Reach} {b0 : Nat} {v : Value} {d : DataW H} {ps : List MemPlace} (hval : Value.okWide Tryd.prog w r b0 24 v) (h : DataW.Trod enc Tryd.prog w 0 (fun _ => true) true 24 v d ps) : ∃ x, ResultVal w ⟨0, w.heap.size, false⟩ v x := by
  obtain ⟨cs, rfl, _⟩ := okWide_struct Tryd.underlying24 hval
  obtain ⟨fuel, h⟩ := h
  obtain ⟨hl, -⟩ := open_fields Tryd.underlying24 (hone_of (by kernel_rfl)) (by kernel_rfl) h
  obtain ⟨x, hx⟩ := opens_Result _ _ _ h
  obtain ⟨l, rfl⟩ : ∃ l : List Value, cs = l.toArray := ⟨cs.toList, by simp⟩
  obtain ⟨⟨c0, c1, c3⟩, hr, u2, c2, hs⟩ := hx (fun j => l[j]?) (fun j _ => by simp [Value.cells])
  refine ⟨x, u2, ?_, hr, hs⟩
  have hl' : l.length = 4 := by simpa [Value.cells] using hl
  match l, hl' with
  | [a, b, c, d], _ =>
    simp only [List.getElem?_cons_zero, List.getElem?_cons_succ, Option.some.injEq] at c0 c1 c2 c3
    subst c0 c1 c2 c3
    rfl
end
theorem row4 {w : World} {b : Nat} {x0 x1 x2 x3 : Value} {T : TypeId} (h : w.heap[b]? = some (.cells #[x0, x1, x2, x3] T (0, 0))) :
    w.cell? ⟨b, 0, none⟩ = some x0 ∧ w.cell? ⟨b, 1, none⟩ = some x1 ∧ w.cell? ⟨b, 2, none⟩ = some x2 ∧ w.cell? ⟨b, 3, none⟩ = some x3 :=
  ⟨(heapCells h).1 0, (heapCells h).1 1, (heapCells h).1 2, (heapCells h).1 3⟩
set_option maxRecDepth 100000 in
set_option maxHeartbeats 8000000 in
theorem endLaw_any (x : ResultD) (v : Value) (w : World) (hv : ResultVal w ⟨0, w.heap.size, false⟩ v x) (hT : EndTabs w) :
    Calls Tryd.prog 3 #[v] w fun e w' => e = .returned (.bool true) ∧ Below w.heap.size w w' := by
  obtain ⟨T1, hT1⟩ : ∃ T1, endT x.en x.trap = T1 := ⟨_, rfl⟩
  obtain ⟨T2, hT2⟩ : ∃ T2, endC x.en x.trap = T2 := ⟨_, rfl⟩
  have ht : I64 x.trap := by obtain ⟨_, _, h, _⟩ := hv; exact h.2.1
  have HSz : Hid (∀ w', Below w.heap.size w w' → Calls Tryd.prog 4 #[v, .int .i64 1048576] w' fun e w2 => (∃ k : Int, e = .returned (.int .i64 k) ∧ (0 ≤ k → ResultSm x)) ∧ Below w'.heap.size w' w2) := hide fun w' bel => (szResult_any v _ x 1048576 w' (by decide) (by decide) (hv.on bel) bel.size).mono fun _ _ ⟨⟨k, a, _, _, b⟩, c⟩ => ⟨⟨k, a, b⟩, c⟩
  have HSp : Hid (∀ w' u, Calls Tryd.prog 5 #[.agg #[.int .i64 x.en, .int .i64 x.trap, u, .int .i64 x.used]] w' fun e w2 => e = .returned (.tuple #[.string T1, .int .i64 T2]) ∧ Below w'.heap.size w' w2) := hide fun w' u => by
    have := specEndText_any x.en x.trap x.used u w' ht
    rwa [hT1, hT2] at this
  have HIm : Hid (∀ w' u, Below w.heap.size w w' → Calls Tryd.prog 7 #[.agg #[.int .i64 x.en, .int .i64 x.trap, u, .int .i64 x.used]] w' fun e w2 => e = .returned (.tuple #[.string T1, .int .i64 T2]) ∧ Below w'.heap.size w' w2) := hide fun w' u bel => by
    have := implEndText_any x.en x.trap x.used u w' (hT.on bel)
    rwa [hT1, hT2] at this
  have HEq : Hid (∀ w' m m' u u', ResultVal w' m u x → ResultVal w' m' u' x → m.hi ≤ w'.heap.size → m'.hi ≤ w'.heap.size → Calls Tryd.prog 8 #[u, u'] w' fun e w2 => e = .returned (.bool true) ∧ Below w'.heap.size w' w2) := hide fun w' m m' u u' hu hu' hm hm' => eqResult_same u u' m m' x w' hu hu' hm hm'
  obtain ⟨nl, hnl⟩ : ∃ k, x.out.length = k := ⟨_, rfl⟩
  obtain ⟨kd, hkd⟩ : ∃ k, x.en = k := ⟨_, rfl⟩
  obtain ⟨kn, hkn⟩ : ∃ k, x.trap = k := ⟨_, rfl⟩
  obtain ⟨ku, hku⟩ : ∃ k, x.used = k := ⟨_, rfl⟩
  have HTo : Hid (ResultSm x → ∀ w', Below w.heap.size w w' → Calls Tryd.prog 6 #[v] w' fun e w2 => (∃ a4 c4, e = .returned (.agg #[.int .i64 kd, .int .i64 kn, .slice a4 nl c4, .int .i64 ku]) ∧ Hid (ResultVal w2 ⟨w'.heap.size, w2.heap.size, true⟩ (.agg #[.int .i64 kd, .int .i64 kn, .slice a4 nl c4, .int .i64 ku]) x)) ∧ Below w'.heap.size w' w2) := hide fun hz w' bel => (toResult_any v _ x w' hz (hv.on bel) bel.size).mono fun e w2 hq => by
    obtain ⟨⟨u, hu, hc⟩, hb⟩ := hq
    have hc' := hc.out
    obtain ⟨u4, e1, -, ⟨a4, c4, f4, -⟩⟩ := hc'
    subst f4
    subst e1
    rw [hnl, hkd, hkn, hku] at hu hc
    exact ⟨⟨a4, c4, hu, hc⟩, hb⟩
  rw [hkd, hkn, hku] at HSp HIm
  obtain ⟨u4, rfl, -, ⟨a4, c4, rfl, -⟩⟩ := hv
  rw [hnl, hkd, hkn, hku] at HSz HTo ⊢
  clear hnl hkd hkn hku hT hT1 hT2 ht
  generalize ResultSm x = Sm at *
  go_enter Tryd.func3, Tryd.ntmps3
  go_wp2_with fail
  refine (HSz.out _ ((Below.refl _ _).alloc (Nat.le_refl _) _)).mono ?_
  rintro e w1 ⟨⟨k, rfl, hk⟩, b1⟩
  have hb1 : Below w.heap.size w w1 := ((Below.refl _ _).alloc (Nat.le_refl _) _).trans (b1.mono (by simp))
  have hz1 : w.heap.size < w1.heap.size := by have := b1.size; simp at this; omega
  have HK := hide hk
  have kk := (b1.block w.heap.size (by simp)).trans (Deep.blk_alloc_new w (.cells #[.int .i64 kd, .int .i64 kn, .slice a4 nl c4, .int .i64 ku] 24))
  have HK0 := hide kk
  obtain ⟨k0, k1, k2, k3⟩ := row4 kk
  clear b1 hk kk
  by_cases hk0 : k < 0
  · go_wp2
    go_ret
    exact ⟨rfl, hb1⟩
  · have HSm := hide (HK.out (by omega))
    go_wp2_with fail
    refine (HTo.out HSm.out _ hb1).mono ?_
    rintro e w2 ⟨⟨b4, d4, rfl, HF2⟩, bl2⟩
    go_wp2_with fail
    refine (HSp.out _ _).mono ?_
    rintro e w3 ⟨rfl, bl3⟩
    have hb3 : Below w1.heap.size w1 w3 := bl2.trans (bl3.mono bl2.size)
    have hbw3 := hb1.trans (hb3.mono hb1.size)
    have hz3 : w.heap.size < w3.heap.size := Nat.lt_of_lt_of_le hz1 hb3.size
    have kk := (hb3.block w.heap.size hz1).trans HK0.out
    have HK3 := hide kk
    clear k0 k1 k2 k3
    obtain ⟨l0, l1, l2, l3⟩ := row4 kk
    clear bl2 bl3 hb3 kk
    go_wp2_with fail
    refine (HTo.out HSm.out _ hbw3).mono ?_
    rintro e w4 ⟨⟨f4, g4, rfl, HF4⟩, bl4⟩
    have hbw4 := hbw3.trans (bl4.mono hbw3.size)
    have hz4 : w.heap.size < w4.heap.size := Nat.lt_of_lt_of_le hz3 bl4.size
    have HK4 := hide ((bl4.block w.heap.size hz3).trans HK3.out)
    clear l0 l1 l2 l3
    go_wp2_with fail
    refine (HIm.out _ _ (hbw4.trans (((Below.refl _ _).alloc (Nat.le_refl _) _).mono hbw4.size))).mono ?_
    rintro e w5 ⟨rfl, bl5⟩
    have h45 : Below w4.heap.size w4 w5 := ((Below.refl _ _).alloc (Nat.le_refl _) _).trans (bl5.mono (by simp))
    have kk := (h45.block w.heap.size hz4).trans HK4.out
    obtain ⟨l0, l1, l2, l3⟩ := row4 kk
    have qq := (bl5.block w4.heap.size (by simp)).trans (Deep.blk_alloc_new w4 (.cells #[.int .i64 kd, .int .i64 kn, .slice f4 nl g4, .int .i64 ku] 30))
    obtain ⟨p0, p1, p2, p3⟩ := row4 qq
    have hbw5 := hbw4.trans (h45.mono hbw4.size)
    have hz5 : w4.heap.size < w5.heap.size := (Array.getElem?_eq_some_iff.1 qq).1
    have HF5 := hide (HF4.out.on h45)
    have HQQ := hide qq
    clear bl5 bl4 h45 kk qq
    go_wp2
    go_region_with (first
      | (go_at_call 6; refine (HTo.out HSm.out _ hbw5.drew).mono ?_; rintro e w6 ⟨⟨h4, i4, rfl, HF6⟩, b6⟩; have qq := (b6.block w4.heap.size hz5).trans HQQ.out; obtain ⟨q0, q1, q2, q3⟩ := row4 qq; clear qq)
      | (go_at_call 8; refine (HEq.out _ _ _ _ _ (HF5.out.on (Below.trans ((Below.refl _ _).drew) b6 |>.mono (Nat.le_of_lt hz5))) HF6.out (Nat.le_trans (Nat.le_of_lt hz5) b6.size) (Nat.le_refl _)).mono ?_; rintro e w7 ⟨rfl, b7⟩))
    all_goals
      go_wp2
      go_ret
      exact ⟨rfl, hbw5.trans ((((Below.refl _ _).drew).trans (b6.trans (b7.mono b6.size))).mono hbw5.size)⟩
theorem endWords_laid : (Rows.laid_loop_example_g00168_impl_endWords (H := Unit)) = .agg (endWs.map fun z => .lit (.string z)) := rfl
theorem trapWords_laid : (Rows.laid_loop_example_g00168_impl_trapWords (H := Unit)) = .agg (trapWs.map fun z => .lit (.string z)) := rfl
theorem gEnd : Tryd.prog.globalNamed "loop.example/g00168/impl.endWords" = some 0 := by kernel_rfl
theorem gEndType : (Tryd.prog.globals[0]?).map (·.type) = some 39 := by kernel_rfl
theorem gTrap : Tryd.prog.globalNamed "loop.example/g00168/impl.trapWords" = some 1 := by kernel_rfl
theorem gTrapType : (Tryd.prog.globals[1]?).map (·.type) = some 40 := by kernel_rfl
theorem endPlain : (Rows.fnExactEndTextRow.laid.filter fun x => x.2.handleName?.isNone) = Rows.fnExactEndTextRow.laid := by kernel_rfl
theorem fnExactEndText_core (x : ResultD) (v : Value) (w : World) (h : ResultVal w ⟨0, w.heap.size, false⟩ v x) (hL : laidMetH Tryd.prog Rows.fnExactEndTextRow.laid w) : Calls Tryd.prog 3 #[v] w fun e w' => e = .returned (.bool true) ∧ Below w.heap.size w w' := by
  obtain ⟨t1, fr1, h1⟩ := row_of_laid (zs := endWs) (name := "loop.example/g00168/impl.endWords") hL endPlain (by rw [← endWords_laid]; simp [Rows.fnExactEndTextRow]) gEnd gEndType Tryd.underlying39 Tryd.underlying9 (by kernel_rfl) (by kernel_rfl)
  obtain ⟨t2, fr2, h2⟩ := row_of_laid (zs := trapWs) (name := "loop.example/g00168/impl.trapWords") hL endPlain (by rw [← trapWords_laid]; simp [Rows.fnExactEndTextRow]) gTrap gTrapType Tryd.underlying40 Tryd.underlying9 (by kernel_rfl) (by kernel_rfl)
  exact endLaw_any x v w h ⟨texts_of_laid (zs := endWs) (name := "loop.example/g00168/impl.endWords") hL endPlain (by rw [← endWords_laid]; simp [Rows.fnExactEndTextRow]) gEnd gEndType Tryd.underlying39 Tryd.underlying9 (by kernel_rfl) (by kernel_rfl), texts_of_laid (zs := trapWs) (name := "loop.example/g00168/impl.trapWords") hL endPlain (by rw [← trapWords_laid]; simp [Rows.fnExactEndTextRow]) gTrap gTrapType Tryd.underlying40 Tryd.underlying9 (by kernel_rfl) (by kernel_rfl), (Array.getElem?_eq_some_iff.1 h1).1, (Array.getElem?_eq_some_iff.1 h2).1⟩

theorem fnExactEndText_door (os : Os) (args : Array Value) : laidMetH Tryd.prog Rows.fnExactEndTextRow.laid ((World.doorLaid Tryd.prog 400 os).forCall (fun _ _ => 0) ⟨#[], args, []⟩).memory :=
  laidMetH_of_parts3 (fuel := 8) (laidMet_of_run' 8 (by kernel_rfl) (by kernel_rfl)) (by kernel_rfl) (by kernel_rfl)

set_option maxRecDepth 100000 in
theorem fnExactEndText_lifted (os : Os) (started : os.Started) (H : Type) (enc : TypeId × Value → H) :
    ReturnsInHanded {} Tryd.checked os 3 .any (fun w args => (Rows.fnExactEndTextSpec.pre enc Tryd.prog Tryd.f3 [] false w args ∧ laidMetH Tryd.prog Rows.fnExactEndTextRow.laid w) ∧ sizedMet enc Tryd.prog Tryd.f3 (OpenSpec.ofChange Rows.fnExactEndTextSpec) false w args)
      (Rows.fnExactEndTextSpec.post enc Tryd.prog Tryd.f3 false true false false) := by
  refine returnsInHanded_of_change_and (C := Tryd.checked) (X := fun w _ => laidMetH Tryd.prog Rows.fnExactEndTextRow.laid w) (fun _ _ _ hh h => h.of_heap hh) (show ownKnob Tryd.prog.godebug = none by kernel_rfl) started (by kernel_rfl) Tryd.func3
    (ChangeSpec.witness_shaped (enc := enc) (C := Tryd.checked) (os := os) (X := fun w _ => laidMetH Tryd.prog Rows.fnExactEndTextRow.laid w) false (World.doorLaid Tryd.prog 400 os) #[.agg #[.int .i64 0, .int .i64 0, .slice none 0 0, .int .i64 0]] 8 rfl (World.shaped_of_RefB (by kernel_rfl) (by kernel_rfl)) (by kernel_rfl) (by kernel_rfl) (by kernel_rfl) (fnExactEndText_door os _)) ?_
  intro W base args ds gs before hval0 hW _ _ hL _
  have hval : ∀ (j : Nat) t v, Tryd.f3.params[j]? = some t → args[j]? = some v → Value.okWide Tryd.prog W .any base t v := hval0
  have hW' := hW
  obtain ⟨p, q, hA0, hV, rfl, hfz, hnd⟩ := hW
  have hA : DataW.TrodAll enc Tryd.prog W 0 (fun _ => true) true Tryd.f3.params.toList args.toList ds p := hA0
  rw [Tryd.params3] at hA hval
  obtain ⟨v0, d0, rfl, rfl, h0⟩ := trodAll_one hA
  have hgl := vars_len hV
  obtain ⟨g0, g1, rfl⟩ : ∃ g0 g1, gs = [g0, g1] := by
    match gs, hgl with
    | [g0, g1], _ => exact ⟨_, _, rfl⟩
  obtain ⟨a0, b0⟩ := open_result (hval 0 24 v0 rfl rfl) h0
  clear hA0 hval0
  refine (fnExactEndText_core a0 v0 W b0 hL).mono fun e W' ⟨he, bel⟩ => ?_
  subst he
  exact ⟨_, rfl, law_post (show laidOutB Tryd.prog = true by kernel_rfl) (by kernel_rfl) (by kernel_rfl) rfl Tryd.underlying4 hW' rfl bel⟩

theorem fnExactEndText_holds : Rows.FnExactEndTextSaid :=
  OpenClaim.holds_of_wide 3 Tryd.f3 rfl rfl rfl rfl rfl rfl rfl ⟨rfl, rfl, rfl, rfl, rfl⟩ rfl rfl rfl rfl rfl (by kernel_rfl) Tryd.func3 (by kernel_rfl)
    (of_decide_eq_true (by kernel_rfl)) (by unfold Func.isWrapper; first | (rw [if_pos (by decide +kernel)]; kernel_rfl) | (rw [if_neg (by decide +kernel)]; exact ⟨rfl, rfl⟩))
    (fun os started H enc _ => fnExactEndText_lifted os started H enc)
#print axioms fnExactEndText_holds

theorem fnExactEndText_plain (f : FuncId) (fn : Func) (hf : Tryd.pinned.checked.prog.funcNamed "loop.example/g00168/laws.FnExactEndText" = some f) (hfn : Tryd.pinned.checked.prog.funcs[f]? = some fn) :
    false = Tryd.pinned.checked.prog.looks [] ∧ ∀ (j : Nat) t, fn.params[j]? = some t → Tryd.pinned.checked.prog.wantsStandIn t = false := by
  obtain rfl : f = 3 := Option.some.inj ((show Tryd.prog.funcNamed "loop.example/g00168/laws.FnExactEndText" = some 3 by kernel_rfl).symm.trans hf) |>.symm
  obtain rfl : fn = Tryd.f3 := (Option.some.inj (Tryd.func3.symm.trans hfn)).symm
  refine ⟨by kernel_rfl, fun j t ht => ?_⟩
  rw [Tryd.params3] at ht
  have hm : t ∈ [24] := by
    have hm0 := Array.mem_of_getElem? ht
    simpa using hm0
  have hall : ([24].all fun u => !Tryd.prog.wantsStandIn u) = true := by kernel_rfl
  exact (show Tryd.prog.wantsStandIn t = false by simpa using List.all_eq_true.1 hall t hm)

theorem fnExactEndText_card : Rows.FnExactEndTextCardSaid :=
  Claim7.holds_tied_plain_at .later [] _ _ _ _ fnExactEndText_holds (fun _ h => by cases h) (by kernel_rfl) (fun _ h => by cases h) fnExactEndText_row_tie rfl ⟨rfl, rfl⟩ (by kernel_rfl) rfl fnExactEndText_plain (by kernel_rfl)
#print axioms fnExactEndText_card

end Go.Proofs.YtibjockcadnooaaDoor
