/- FnExactCharText: at every number the program's CharText answers as the model's, text and code; nothing that was there turns. Listed: the library's tables that the road reads, tied or pinned. No other condition. -/
import Derived.Test.YtapcogecimmkbadDoorCharText
import Derived.Test.YtapcogecimmkbadDoorCards
import Derived.Test.YtapcogecimmkbadDoorTie
import Derived.LaidMore
import Derived.Lay
import Derived.Stop.Joined
import Derived.SevenTiedAt
namespace Go.Proofs.YtapcogecimmkbadDoor
open Go.ChangeShapes Go.WideShapes Go.ChangeAt Go.RowKit

theorem specCharText_any (c : Int) (w : World) : Calls Tryd.prog 16 #[.int .i64 c] w fun e w' => e = .returned (.tuple #[.string (if charB c = true then charText c else ⟨#[]⟩), .int .i64 (if charB c = true then 0 else 11)]) ∧ Below w.heap.size w w' := by
  cases h : charB c
  · go_enter Tryd.func16, Tryd.ntmps16
    go_wp2_with (go_at_call 29; refine (charOK_spec _ _).mono ?_; rintro e w' ⟨rfl, rfl⟩)
    go_ret2
    exact ⟨rfl, Below.refl _ _⟩
  · have H : Hid (charB c = true) := h
    go_enter Tryd.func16, Tryd.ntmps16
    go_wp2_with (first | (go_at_call 29; refine (charOK_spec _ _).mono ?_; rintro e w' ⟨rfl, rfl⟩) | (go_at_call 30; refine (l01Char_any c _ H.out).mono ?_; rintro e w' ⟨rfl, bel⟩))
    go_ret2
    exact ⟨rfl, bel⟩

theorem implCharText_any (c : Int) (w : World) (hd : w.cell? ⟨8, 15, none⟩ = some (.int .u8 4)) :
    Calls Tryd.prog 17 #[.int .i64 c] w fun e w' => e = .returned (.tuple #[.string (if charB c = true then charText c else ⟨#[]⟩), .int .i64 (if charB c = true then 0 else 11)]) ∧ Below w.heap.size w w' := by
  cases h : charB c
  · clear hd
    go_enter Tryd.func17, Tryd.ntmps17
    go_wp2_with (go_at_call 31; refine (charOK_impl _ _).mono ?_; rintro e w' ⟨rfl, rfl⟩)
    go_ret2
    exact ⟨rfl, Below.refl _ _⟩
  · refine (implChar_any c w h hd).mono ?_
    rintro e w' ⟨rfl, bel⟩
    exact ⟨by simp, bel⟩

theorem charLaw_any (c : Int) (w : World) (hd : w.cell? ⟨8, 15, none⟩ = some (.int .u8 4)) :
    Calls Tryd.prog 6 #[.int .i64 c] w fun e w' => e = .returned (.bool true) ∧ Below w.heap.size w w' := by
  have hlt := block_lt hd
  have Hd : Hid (w.cell? ⟨8, 15, none⟩ = some (.int .u8 4)) := hd
  clear hd
  generalize ht : (if charB c = true then charText c else ⟨#[]⟩) = t
  generalize hk : (if charB c = true then (0 : Int) else 11) = k
  have Ht : Hid ((if charB c = true then charText c else ⟨#[]⟩) = t) := ht
  have Hk : Hid ((if charB c = true then (0 : Int) else 11) = k) := hk
  clear ht hk
  go_enter Tryd.func6, Tryd.ntmps6
  go_wp2_with fail
  refine (specCharText_any c _).mono ?_
  rintro e w1 ⟨he, bel⟩
  rw [Ht.out, Hk.out] at he
  subst he
  go_wp2_with fail
  refine (implCharText_any c _ (cell_later bel Hd.out)).mono ?_
  rintro e w2 ⟨he, bel2⟩
  rw [Ht.out, Hk.out] at he
  subst he
  go_wp2
  go_ret
  exact ⟨rfl, bel.trans (bel2.mono bel.size)⟩

def debr : List Int := [0, 1, 56, 2, 57, 49, 28, 3, 61, 58, 42, 50, 38, 29, 17, 4, 62, 47, 59, 36, 45, 43, 51, 22, 53, 39, 33, 30, 24, 18, 12, 5, 63, 55, 48, 27, 60, 41, 37, 16, 46, 35, 44, 21, 52, 32, 23, 11, 54, 26, 40, 15, 34, 20, 31, 10, 25, 14, 19, 9, 13, 8, 7, 6]
theorem debr_laid : (Rows.laid_math_bits_deBruijn64tab (H := Unit)) = Lib.tabData .u8 debr := rfl
theorem gDebr : Tryd.prog.globalNamed "math/bits.deBruijn64tab" = some 8 := by kernel_rfl
theorem gDebrType : (Tryd.prog.globals[8]?).map (·.type) = some 113 := by kernel_rfl
theorem fnExactCharText_core (n : Int) (_wn : (Lit.int .i64 n).wf = true) (w : World) (hL : laidMetH Tryd.prog Rows.fnExactCharTextRow.laid w) : Calls Tryd.prog 6 #[.int .i64 n] w fun e w' => e = .returned (.bool true) ∧ Below w.heap.size w w' := by
  refine charLaw_any n w ?_
  exact ints_of_laid (zs := debr) (name := "math/bits.deBruijn64tab") (k := .u8) hL (by kernel_rfl) (by rw [← debr_laid]; exact List.mem_cons_of_mem _ (List.mem_cons_self ..)) gDebr gDebrType Tryd.underlying113 Tryd.underlying5 (by kernel_rfl) (by kernel_rfl) 15 (by decide)

set_option maxRecDepth 100000 in
theorem fnExactCharText_lifted (os : Os) (started : os.Started) (H : Type) (enc : TypeId × Value → H) :
    ReturnsInHanded {} Tryd.checked os 6 .any (fun w args => (Rows.fnExactCharTextSpec.pre enc Tryd.prog Tryd.f6 [] false w args ∧ laidMetH Tryd.prog Rows.fnExactCharTextRow.laid w) ∧ sizedMet enc Tryd.prog Tryd.f6 (OpenSpec.ofChange Rows.fnExactCharTextSpec) false w args)
      (Rows.fnExactCharTextSpec.post enc Tryd.prog Tryd.f6 false true false false) := by
  refine returnsInHanded_of_change_and (C := Tryd.checked) (X := fun w _ => laidMetH Tryd.prog Rows.fnExactCharTextRow.laid w) (fun _ _ _ hh h => h.of_heap hh) (show ownKnob Tryd.prog.godebug = none by kernel_rfl) started (by kernel_rfl) Tryd.func6
    (ChangeSpec.witness_shaped (enc := enc) (C := Tryd.checked) (os := os) (X := fun w _ => laidMetH Tryd.prog Rows.fnExactCharTextRow.laid w) false (World.laidAll Tryd.prog os Rows.fnExactCharTextRow.laid) #[.int .i64 0] 8 (World.laidAll_os _ _ _) (World.shaped_of_ZipB (by kernel_rfl) (by kernel_rfl)) (by kernel_rfl) (by kernel_rfl) (by kernel_rfl)
      (by rw [MakeChecks.laidMetH_plain _ _ _ (by kernel_rfl)]; exact laidMet_laidAll _ (by kernel_rfl) (by kernel_rfl))) ?_
  intro W base args ds gs before hval0 hW _ _ hL _
  have hval : ∀ (j : Nat) t v, Tryd.f6.params[j]? = some t → args[j]? = some v → Value.okWide Tryd.prog W .any base t v := hval0
  have hW' := hW
  obtain ⟨p, q, hA0, hV, rfl, hfz, hnd⟩ := hW
  have hA : DataW.TrodAll enc Tryd.prog W 0 (fun _ => true) true Tryd.f6.params.toList args.toList ds p := hA0
  rw [Tryd.params6] at hA hval
  obtain ⟨v0, d0, rfl, rfl, h0⟩ := trodAll_one hA
  obtain ⟨rfl, rfl⟩ := trodVars_none hV
  obtain ⟨a0, rfl, rfl, rfl, b0⟩ := open_int Tryd.underlying3 (hval 0 3 v0 rfl rfl) h0
  clear hA0 hval0
  refine (fnExactCharText_core a0 b0 W hL).mono fun e W' ⟨he, bel⟩ => ?_
  subst he
  exact ⟨_, rfl, law_post (show laidOutB Tryd.prog = true by kernel_rfl) (by kernel_rfl) (by kernel_rfl) rfl Tryd.underlying4 hW' rfl bel⟩

theorem fnExactCharText_holds : Rows.FnExactCharTextSaid :=
  OpenClaim.holds_of_wide 6 Tryd.f6 rfl rfl rfl rfl rfl rfl rfl ⟨rfl, rfl, rfl, rfl, rfl⟩ rfl rfl rfl rfl rfl (by kernel_rfl) Tryd.func6 (by kernel_rfl)
    (of_decide_eq_true (by kernel_rfl)) (by unfold Func.isWrapper; first | (rw [if_pos (by decide +kernel)]; kernel_rfl) | (rw [if_neg (by decide +kernel)]; exact ⟨rfl, rfl⟩))
    (fun os started H enc _ => fnExactCharText_lifted os started H enc)
#print axioms fnExactCharText_holds

theorem fnExactCharText_plain (f : FuncId) (fn : Func) (hf : Tryd.pinned.checked.prog.funcNamed "loop.example/g00168/laws.FnExactCharText" = some f) (hfn : Tryd.pinned.checked.prog.funcs[f]? = some fn) :
    false = Tryd.pinned.checked.prog.looks [] ∧ ∀ (j : Nat) t, fn.params[j]? = some t → Tryd.pinned.checked.prog.wantsStandIn t = false := by
  obtain rfl : f = 6 := Option.some.inj ((show Tryd.prog.funcNamed "loop.example/g00168/laws.FnExactCharText" = some 6 by kernel_rfl).symm.trans hf) |>.symm
  obtain rfl : fn = Tryd.f6 := (Option.some.inj (Tryd.func6.symm.trans hfn)).symm
  refine ⟨by kernel_rfl, fun j t ht => ?_⟩
  rw [Tryd.params6] at ht
  have hm : t ∈ [3] := by
    have hm0 := Array.mem_of_getElem? ht
    simpa using hm0
  have hall : ([3].all fun u => !Tryd.prog.wantsStandIn u) = true := by kernel_rfl
  exact (show Tryd.prog.wantsStandIn t = false by simpa using List.all_eq_true.1 hall t hm)

theorem fnExactCharText_card : Rows.FnExactCharTextCardSaid :=
  Claim7.holds_tied_plain_at .later [] _ _ _ _ fnExactCharText_holds (fun _ h => by cases h) (by kernel_rfl) (fun _ h => by cases h) fnExactCharText_row_tie rfl ⟨rfl, rfl⟩ (by kernel_rfl) rfl fnExactCharText_plain (by kernel_rfl)
#print axioms fnExactCharText_card

end Go.Proofs.YtapcogecimmkbadDoor
