/- FnChars: whatever the code, the drawn character's text is one token of it. Listed: the words' table and the library's tables that the road reads, tied or pinned. No other condition. -/
import Derived.Test.YtapcogecimmkbaaDoorFacts
import Derived.Test.YtapcogecimmkbaaDoorBoth
import Derived.Test.YtapcogecimmkbaaDoorCards
import Derived.Test.YtapcogecimmkbaaDoorTie
import Derived.Deep.QuietTactic
import Derived.BigQuiet
import Derived.Lib.LaidU8
import Derived.LaidMore
import Derived.Lay
import Derived.Stop.Joined
import Derived.SevenTiedAt
namespace Go.Proofs.YtapcogecimmkbaaDoor
open Go.ChangeShapes Go.WideShapes Go.ChangeAt Go.RowKit

set_option maxRecDepth 100000 in
set_option maxHeartbeats 1600000 in
theorem fnChars_walk (a : Option Addr) (len cap : Nat) (zs : List Int) (w : World) (hr : IsRow .u8 w a len cap zs)
    (hd : w.cell? ⟨7, 15, none⟩ = some (.int .u8 4)) (hT : Lib.Utf8Tabs 4 5 w) (t : TypeId) (fr : Nat × Nat) (hg : w.heap[0]? = some (.cells keyRow t fr)) :
    Calls Tryd.prog 3 #[.slice a len cap] w fun e w' => e = .returned (.bool true) ∧ Below w.heap.size w w' := by
  have hlen : len ≤ maxLen := by
    rcases hr with ⟨_, rfl, _⟩ | ⟨_, _, h1, h2, _⟩
    · exact Nat.zero_le _
    · omega
  have hlt : 0 < w.heap.size := (Array.getElem?_eq_some_iff.1 hg).1
  have hco := charOf_any a len cap zs w hr
  have HD : Hid (w.cell? ⟨7, 15, none⟩ = some (.int .u8 4)) := hd
  have HT : Hid (Lib.Utf8Tabs 4 5 w) := hT
  have Hg : Hid (w.heap[0]? = some (.cells keyRow t fr)) := hg
  clear hd hT hg hr
  unfold maxLen at hlen
  by_cases big : 1048576 < len
  · clear hco
    go_enter Tryd.func3, Tryd.ntmps3
    go_wp2
    go_ret
    exact ⟨rfl, Below.refl _ _⟩
  have Hco : Hid (Calls Tryd.prog 5 #[.slice a len cap] w fun e w' => (∃ c, e = .returned (.int .i64 c) ∧ c ∈ drawn) ∧ Below w.heap.size w w') := hco
  clear hco
  go_enter Tryd.func3, Tryd.ntmps3
  go_wp2_with fail
  refine Hco.out.mono ?_
  rintro e w1 ⟨⟨c, rfl, hc⟩, bel1⟩
  have f1 := drawn_char c hc
  have f2 := drawn_size c hc
  have f3 := drawn_scan c hc
  have F1 : Hid (charB c = true) := f1
  have F3 : Hid (scan (charText c) 0 [] = ([(4, c, ⟨#[]⟩, 0)], 0, 0)) := f3
  clear hc f1 f3
  go_wp2_with fail
  refine (implCharText_any c _ (cell_later bel1 HD.out)).mono ?_
  rintro e w2 ⟨he, bel2⟩
  rw [if_pos F1.out, if_pos F1.out] at he
  subst he
  have b2 := bel1.trans (bel2.mono bel1.size)
  go_wp2_with fail
  refine (specCharText_any c _).mono ?_
  rintro e w3 ⟨he, bel3⟩
  rw [if_pos F1.out, if_pos F1.out] at he
  subst he
  have b3 := b2.trans (bel3.mono b2.size)
  go_wp2_with fail
  refine (tokensI_in (charText c) _ f2 (tabs_below HT.out b3) t fr ((b3.block _ hlt).trans Hg.out)).mono ?_
  rintro e w4 ⟨⟨v, he, hown⟩, bel4⟩
  rw [F3.out] at he hown
  subst he
  have b4 := b3.trans (bel4.mono b3.size)
  simp only [List.length_cons, List.length_nil, Nat.zero_add] at hown
  rcases hown.2 with ⟨_, hn⟩ | ⟨g, cp, cur, rfl, hgb, _, hncap, _, _, _⟩
  · cases hn
  have c0 : w4.cell? ⟨g, 0, none⟩ = some (.int .i64 4) := hown.cellAt 0 (by decide)
  have c1 : w4.cell? ⟨g, 1, none⟩ = some (.int .i64 c) := hown.cellAt 1 (by decide)
  have c2 : w4.cell? ⟨g, 2, none⟩ = some (.string ⟨#[]⟩) := hown.cellAt 2 (by decide)
  have c3 : w4.cell? ⟨g, 3, none⟩ = some (.int .i64 0) := hown.cellAt 3 (by decide)
  clear hown f2
  go_wp2_with (go_at_call 9; refine (charOK_impl _ _).mono ?_; rintro e w' ⟨he, rfl⟩; rw [F1.out] at he; subst he)
  go_ret
  exact ⟨rfl, b4⟩

theorem u8Extra : U8Extra Tryd.prog Tryd.lays260_ren := ⟨by kernel_rfl, by kernel_rfl, by kernel_rfl, by kernel_rfl, by kernel_rfl, by kernel_rfl, by kernel_rfl⟩
def debr : List Int := [0, 1, 56, 2, 57, 49, 28, 3, 61, 58, 42, 50, 38, 29, 17, 4, 62, 47, 59, 36, 45, 43, 51, 22, 53, 39, 33, 30, 24, 18, 12, 5, 63, 55, 48, 27, 60, 41, 37, 16, 46, 35, 44, 21, 52, 32, 23, 11, 54, 26, 40, 15, 34, 20, 31, 10, 25, 14, 19, 9, 13, 8, 7, 6]
theorem debr_laid : (Rows.laid_math_bits_deBruijn64tab (H := Unit)) = Lib.tabData .u8 debr := rfl
theorem gDebr : Tryd.prog.globalNamed "math/bits.deBruijn64tab" = some 7 := by kernel_rfl
theorem gDebrType : (Tryd.prog.globals[7]?).map (·.type) = some 154 := by kernel_rfl
theorem gKeys : Tryd.prog.globalNamed "loop.example/g00168/impl.keyWords" = some 0 := by kernel_rfl
theorem gKeysType : (Tryd.prog.globals[0]?).map (·.type) = some 56 := by kernel_rfl
theorem first_laid : Rows.laid_unicode_utf8_first = Lib.firstData := by kernel_rfl
theorem accept_laid : (Rows.laid_unicode_utf8_acceptRanges (H := Unit)) = Lib.acceptData := by kernel_rfl
theorem plain_list : (Rows.fnCharsRow.laid.filter fun x => x.2.handleName?.isNone) = Rows.fnCharsRow.laid := by kernel_rfl
theorem tabs_of {W : World} (h : laidMetH Tryd.prog Rows.fnCharsRow.laid W) : Lib.Utf8Tabs 4 5 W := by
  have h' := (laidMetH_iff.1 h).1
  rw [plain_list] at h'
  obtain ⟨ps, hl, _, _⟩ := h'
  refine utf8Tabs_of_reads (ρ := Tryd.lays260_ren) Tryd.lays260 u8Extra ?_ ?_
  · rw [← first_laid]
    exact laid_var (name := "unicode/utf8.first") hl (by simp [Rows.fnCharsRow])
  · rw [← accept_laid]
    exact laid_var (name := "unicode/utf8.acceptRanges") hl (by simp [Rows.fnCharsRow])

theorem fnChars_core (a : Option Addr) (len cap : Nat) (zs : List Int) (w : World) (hr : IsRow .u8 w a len cap zs) (hL : laidMetH Tryd.prog Rows.fnCharsRow.laid w) :
    Calls Tryd.prog 3 #[.slice a len cap] w fun e w' => e = .returned (.bool true) ∧ Below w.heap.size w w' := by
  obtain ⟨t, fr, hg⟩ := row_of_laid (zs := keys) (name := "loop.example/g00168/impl.keyWords") hL plain_list (by rw [← keys_laid]; simp [Rows.fnCharsRow]) gKeys gKeysType Tryd.underlying56 Tryd.underlying9 (by kernel_rfl) (by kernel_rfl)
  exact fnChars_walk a len cap zs w hr (ints_of_laid (zs := debr) (name := "math/bits.deBruijn64tab") (k := .u8) hL plain_list (by rw [← debr_laid]; simp [Rows.fnCharsRow]) gDebr gDebrType Tryd.underlying154 Tryd.underlying5 (by kernel_rfl) (by kernel_rfl) 15 (by decide)) (tabs_of hL) t fr hg

set_option maxRecDepth 100000 in
theorem fnChars_lifted (os : Os) (started : os.Started) (H : Type) (enc : TypeId × Value → H) :
    ReturnsInHanded {} Tryd.checked os 3 .any (fun w args => (Rows.fnCharsSpec.pre enc Tryd.prog Tryd.f3 [] false w args ∧ laidMetH Tryd.prog Rows.fnCharsRow.laid w) ∧ sizedMet enc Tryd.prog Tryd.f3 (OpenSpec.ofChange Rows.fnCharsSpec) false w args)
      (Rows.fnCharsSpec.post enc Tryd.prog Tryd.f3 false true false false) := by
  refine returnsInHanded_of_change_and (C := Tryd.checked) (X := fun w _ => laidMetH Tryd.prog Rows.fnCharsRow.laid w) (fun _ _ _ hh h => h.of_heap hh) (show ownKnob Tryd.prog.godebug = none by kernel_rfl) started (by kernel_rfl) Tryd.func3
    (ChangeSpec.witness_shaped (enc := enc) (C := Tryd.checked) (os := os) (X := fun w _ => laidMetH Tryd.prog Rows.fnCharsRow.laid w) false (World.laidAll Tryd.prog os Rows.fnCharsRow.laid) #[.slice none 0 0] 8 (World.laidAll_os _ _ _) (World.shaped_of_ZipB (by kernel_rfl) (by kernel_rfl)) (by kernel_rfl) (by kernel_rfl) (by kernel_rfl)
      (by rw [MakeChecks.laidMetH_plain _ _ _ (by kernel_rfl)]; exact laidMet_laidAll _ (by kernel_rfl) (by kernel_rfl))) ?_
  intro W base args ds gs before hval0 hW _ _ hL _
  have hval : ∀ (j : Nat) t v, Tryd.f3.params[j]? = some t → args[j]? = some v → Value.okWide Tryd.prog W .any base t v := hval0
  have hW' := hW
  obtain ⟨p, q, hA0, hV, rfl, hfz, hnd⟩ := hW
  have hA : DataW.TrodAll enc Tryd.prog W 0 (fun _ => true) true Tryd.f3.params.toList args.toList ds p := hA0
  rw [Tryd.params3] at hA hval
  obtain ⟨v0, d0, rfl, rfl, h0⟩ := trodAll_one hA
  have hgl := vars_len hV
  obtain ⟨g0, rfl⟩ : ∃ g0, gs = [g0] := by
    match gs, hgl with
    | [g0], _ => exact ⟨_, rfl⟩
  obtain ⟨a0, len0, cap0, rfl⟩ := okWide_slice Tryd.underlying22 (hval 0 22 v0 rfl rfl)
  obtain ⟨z0, b0⟩ : ∃ zs, IsRow .u8 W a0 len0 cap0 zs := by
    obtain ⟨fuel, hf⟩ := h0
    rcases open_ints Tryd.underlying22 Tryd.underlying5 (by kernel_rfl) hf with ⟨hcs, _⟩ | ⟨x, l, c, zs, hcs, _, hl, hm, hz, _, hcell, hwz⟩
    · simp [Value.cells] at hcs
      obtain ⟨rfl, rfl, rfl⟩ := hcs
      exact ⟨[], .inl ⟨rfl, rfl, rfl, rfl⟩⟩
    · simp [Value.cells] at hcs
      obtain ⟨rfl, rfl, rfl⟩ := hcs
      exact ⟨zs, .inr ⟨_, rfl, hl, hm, by simpa using hz, hcell, hwz⟩⟩
  clear hA0 hval0
  refine (fnChars_core a0 len0 cap0 z0 W b0 hL).mono fun e W' ⟨he, bel⟩ => ?_
  subst he
  exact ⟨_, rfl, law_post (show laidOutB Tryd.prog = true by kernel_rfl) (by kernel_rfl) (by kernel_rfl) rfl Tryd.underlying4 hW' rfl bel⟩

theorem fnChars_holds : Rows.FnCharsSaid :=
  OpenClaim.holds_of_wide 3 Tryd.f3 rfl rfl rfl rfl rfl rfl rfl ⟨rfl, rfl, rfl, rfl, rfl⟩ rfl rfl rfl rfl rfl (by kernel_rfl) Tryd.func3 (by kernel_rfl)
    (of_decide_eq_true (by kernel_rfl)) (by unfold Func.isWrapper; first | (rw [if_pos (by decide +kernel)]; kernel_rfl) | (rw [if_neg (by decide +kernel)]; exact ⟨rfl, rfl⟩))
    (fun os started H enc _ => fnChars_lifted os started H enc)
#print axioms fnChars_holds

theorem fnChars_plain (f : FuncId) (fn : Func) (hf : Tryd.pinned.checked.prog.funcNamed "loop.example/g00168/laws.FnChars" = some f) (hfn : Tryd.pinned.checked.prog.funcs[f]? = some fn) :
    false = Tryd.pinned.checked.prog.looks [] ∧ ∀ (j : Nat) t, fn.params[j]? = some t → Tryd.pinned.checked.prog.wantsStandIn t = false := by
  obtain rfl : f = 3 := Option.some.inj ((show Tryd.prog.funcNamed "loop.example/g00168/laws.FnChars" = some 3 by kernel_rfl).symm.trans hf) |>.symm
  obtain rfl : fn = Tryd.f3 := (Option.some.inj (Tryd.func3.symm.trans hfn)).symm
  refine ⟨by kernel_rfl, fun j t ht => ?_⟩
  rw [Tryd.params3] at ht
  have hm : t ∈ [22] := by
    have hm0 := Array.mem_of_getElem? ht
    simpa using hm0
  have hall : ([22].all fun u => !Tryd.prog.wantsStandIn u) = true := by kernel_rfl
  exact (show Tryd.prog.wantsStandIn t = false by simpa using List.all_eq_true.1 hall t hm)

theorem fnChars_card : Rows.FnCharsCardSaid :=
  Claim7.holds_tied_plain_at .later [] _ _ _ _ fnChars_holds (fun _ h => by cases h) (by kernel_rfl) (fun _ h => by cases h) fnChars_row_tie rfl ⟨rfl, rfl⟩ (by kernel_rfl) rfl fnChars_plain (by kernel_rfl)
#print axioms fnChars_card

end Go.Proofs.YtapcogecimmkbaaDoor
