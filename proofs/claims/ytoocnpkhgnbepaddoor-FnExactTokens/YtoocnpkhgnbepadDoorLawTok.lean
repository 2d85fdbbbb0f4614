/- FnExactTokens: at every text the program's Tokens answers as the model's, every token, code and place; what one answer holds no other holds; nothing that was there turns. Listed: the program's table of words, tied, and the library's two tables of UTF-8, tied or pinned. No other condition. -/
import Derived.Test.YtoocnpkhgnbepadDoorLoopS
import Derived.Test.YtoocnpkhgnbepadDoorMarkTok
import Derived.Test.YtoocnpkhgnbepadDoorCards
import Derived.Test.YtoocnpkhgnbepadDoorTie
import Derived.Lib.LaidU8
import Derived.LaidMore
import Derived.Lay
import Derived.Stop.Joined
import Derived.SevenTiedAt
namespace Go.Proofs.YtoocnpkhgnbepadDoor
open Go.ChangeShapes Go.WideShapes Go.ChangeAt Go.RowKit Go.PlainAid
open Go.ChangeMaps (open_string shut_string)

theorem scanF_len (s : ByteArray) : ∀ (f p : Nat) (l : List Tok), l.length ≤ 1200 → (scanF s f p l).1.length ≤ 1200
  | 0, _, _, h => h
  | f + 1, p, l, h => by
    simp only [scanF]
    by_cases a : s.size ≤ p
    · rw [if_pos a]; exact h
    rw [if_neg a]
    by_cases b : blankB (bt s p) = true
    · rw [if_pos b]; exact scanF_len s f _ _ h
    rw [if_neg b]
    by_cases c : bt s p = 40 ∧ bt s (p + 1) = 42
    · rw [if_pos c]
      by_cases d : remB s p 0 0 = 0
      · rw [if_pos d]; exact Nat.zero_le _
      · rw [if_neg d]; exact scanF_len s f _ _ h
    rw [if_neg c]
    by_cases d : (firstTok (rest s p)).2.2.2 = 0
    · rw [if_pos d]; exact Nat.zero_le _
    rw [if_neg d]
    by_cases e : l.length = 1200
    · rw [if_pos e]; exact Nat.zero_le _
    rw [if_neg e]
    exact scanF_len s f _ _ (by simp; omega)
/-- What Tokens gives for a text of any length. -/
def tokens (s : ByteArray) : Scanned := if 65536 < s.size then ([], 2, 0) else if 4000 < s.size then ([], 15, 0) else scan s 0 []
theorem tokens_len (s : ByteArray) : (tokens s).1.length ≤ 1200 := by
  unfold tokens
  split
  · exact Nat.zero_le _
  · split
    · exact Nat.zero_le _
    · exact scanF_len s _ _ _ (Nat.zero_le _)
theorem owns_base {w : World} {b b' e size n : Nat} {v : Value} {xs : List Value} (h : w.ownsRow b e size v n xs) (hb : b' ≤ b) : w.ownsRow b' e size v n xs := by
  refine ⟨h.1, ?_⟩
  rcases h.2 with a | ⟨g, cap, cur, a, d, r⟩
  · exact .inl a
  · exact .inr ⟨g, cap, cur, a, Nat.le_trans hb d, r⟩
def TokAns (w : World) (s : ByteArray) (e : Ending) (w' : World) : Prop :=
  (∃ v, e = .returned (.tuple #[v, .int .i64 (tokens s).2.1, .int .i64 (tokens s).2.2]) ∧ w'.ownsRow w.heap.size 41 4 v (tokens s).1.length (toksCells (tokens s).1)) ∧ Below w.heap.size w w'

theorem specTokens_any (s : ByteArray) (w : World) (hs : s.size ≤ maxLen) : Calls Tryd.prog 11 #[.string s] w (TokAns w s) := by
  unfold maxLen at hs
  by_cases h1 : 65536 < s.size
  · have e : tokens s = ([], 2, 0) := by unfold tokens; rw [if_pos h1]
    unfold TokAns
    rw [e]
    clear e
    go_enter Tryd.func11, Tryd.ntmps11
    go_wp2
    go_ret3
    exact ⟨⟨_, rfl, ⟨rfl, .inr ⟨w.heap.size, 0, #[], rfl, Nat.le_refl _, heapNew _ _, Nat.le_refl _, by decide, rfl, rfl⟩⟩⟩, (Below.refl _ _).alloc (Nat.le_refl _) _⟩
  by_cases h2 : 4000 < s.size
  · have e : tokens s = ([], 15, 0) := by unfold tokens; rw [if_neg h1, if_pos h2]
    unfold TokAns
    rw [e]
    clear e
    go_enter Tryd.func11, Tryd.ntmps11
    go_wp2
    go_ret3
    exact ⟨⟨_, rfl, ⟨rfl, .inr ⟨w.heap.size, 0, #[], rfl, Nat.le_refl _, heapNew _ _, Nat.le_refl _, by decide, rfl, rfl⟩⟩⟩, (Below.refl _ _).alloc (Nat.le_refl _) _⟩
  · have e : tokens s = scan s 0 [] := by unfold tokens; rw [if_neg h1, if_neg h2]
    unfold TokAns
    rw [e]
    clear e
    generalize hsc : scan s 0 [] = r
    have Hsc : Hid (scan s 0 [] = r) := hsc
    clear hsc
    go_enter Tryd.func11, Tryd.ntmps11
    go_wp2_with fail
    refine (l01Tokens_any s w (by omega)).mono ?_
    rintro e w' ⟨⟨v, he, hv⟩, bel⟩
    rw [Hsc.out] at he hv
    subst he
    go_wp2
    go_ret3
    exact ⟨⟨v, rfl, hv⟩, bel⟩
theorem implTokens_any (s : ByteArray) (w : World) (hs : s.size ≤ maxLen) (hT : Lib.Utf8Tabs 4 5 w) (t : TypeId) (fr : Nat × Nat) (hg : w.heap[1]? = some (.cells keyRow t fr)) : Calls Tryd.prog 12 #[.string s] w (TokAns w s) := by
  by_cases h1 : 65536 < s.size
  · have e : tokens s = ([], 2, 0) := by unfold tokens; rw [if_pos h1]
    refine (tokensI_long s w h1 hs).mono ?_
    rintro e' w' ⟨rfl, rfl⟩
    unfold TokAns
    rw [e]
    exact ⟨⟨_, rfl, World.ownsRow_nil _ _ _ _⟩, Below.refl _ _⟩
  by_cases h2 : 4000 < s.size
  · have e : tokens s = ([], 15, 0) := by unfold tokens; rw [if_neg h1, if_pos h2]
    refine (tokensI_size s w h2 (by omega)).mono ?_
    rintro e' w' ⟨rfl, rfl⟩
    unfold TokAns
    rw [e]
    exact ⟨⟨_, rfl, World.ownsRow_nil _ _ _ _⟩, Below.refl _ _⟩
  · have e : tokens s = scan s 0 [] := by unfold tokens; rw [if_neg h1, if_neg h2]
    refine (tokensI_in s w (by omega) hT t fr hg).mono ?_
    rintro e' w' ⟨⟨v, rfl, hv⟩, bel⟩
    unfold TokAns
    rw [e]
    exact ⟨⟨v, rfl, owns_base hv (by omega)⟩, bel⟩

/-- The marks in whatever a list of tokens lies in. -/
def MarkedV (w : World) (v : Value) (n : Nat) : Prop := (v = .slice none 0 0 ∧ n = 0) ∨ ∃ g c, v = .slice (some ⟨g, 0, none⟩) n c ∧ Marked w g n
theorem MarkedV.on {w w' : World} {v : Value} {n : Nat} (h : MarkedV w v n) (bel : Below w.heap.size w w') : MarkedV w' v n := by
  rcases h with h | ⟨g, c, rfl, h⟩
  · exact .inl h
  · exact .inr ⟨g, c, rfl, h.on bel⟩
set_option maxHeartbeats 1600000 in
theorem markTokenS_none (w : World) : Calls Tryd.prog 14 #[.slice none 0 0, .int .i64 1] w fun e w' => e = .returned (.int .i64 1) ∧ w = w' := by
  go_enter Tryd.func14, Tryd.ntmps14
  go_wp2
  go_loop [1, 5] (fun m i => m = .int .i64 1 ∧ i = .int .i64 0) (fun _ _ => 0)
  case atStart => exact ⟨rfl, rfl⟩
  case round =>
    obtain ⟨rfl, rfl⟩ := hrel
    go_wp2
    go_ret
    exact ⟨rfl, rfl⟩
set_option maxHeartbeats 1600000 in
theorem heldTokenS_none (w : World) : Calls Tryd.prog 15 #[.slice none 0 0, .int .i64 1] w fun e w' => e = .returned (.int .i64 1) ∧ w = w' := by
  go_enter Tryd.func15, Tryd.ntmps15
  go_wp2
  go_loop [1, 5] (fun m i => m = .int .i64 1 ∧ i = .int .i64 0) (fun _ _ => 0)
  case atStart => exact ⟨rfl, rfl⟩
  case round =>
    obtain ⟨rfl, rfl⟩ := hrel
    go_wp2
    go_ret
    exact ⟨rfl, rfl⟩
theorem markTokenS_any (l : List Tok) (v : Value) (b : Nat) (w : World) (h : w.ownsRow b 41 4 v l.length (toksCells l)) (hl : l.length ≤ 1200) :
    Calls Tryd.prog 14 #[v, .int .i64 1] w fun e w' => e = .returned (.int .i64 (1 + 4 * (l.length : Int))) ∧ MarkedV w' v l.length ∧ Below b w w' := by
  rcases h.2 with ⟨rfl, e⟩ | ⟨g, c, cur, rfl, hb, hg, hnc, _, hsz, _⟩
  · refine (markTokenS_none w).mono ?_
    rintro e' w' ⟨rfl, rfl⟩
    rw [e]
    exact ⟨rfl, .inl ⟨rfl, rfl⟩, Below.refl _ _⟩
  · refine (markTokenS_some l.length g c b cur w hg hb (by omega) hl).mono ?_
    rintro e' w' ⟨rfl, hm, bel⟩
    exact ⟨rfl, .inr ⟨g, c, rfl, hm⟩, bel⟩
theorem heldTokenS_any (n : Nat) (v : Value) (w : World) (h : MarkedV w v n) (hn : n ≤ 1200) :
    Calls Tryd.prog 15 #[v, .int .i64 1] w fun e w' => e = .returned (.int .i64 (1 + 4 * (n : Int))) ∧ Below w.heap.size w w' := by
  rcases h with ⟨rfl, rfl⟩ | ⟨g, c, rfl, h⟩
  · refine (heldTokenS_none w).mono ?_
    rintro e' w' ⟨rfl, rfl⟩
    exact ⟨rfl, Below.refl _ _⟩
  · exact heldTokenS_some n g c w h hn

set_option maxRecDepth 100000 in
set_option maxHeartbeats 4000000 in
theorem tokensLaw_any (s : ByteArray) (w : World) (hs : s.size ≤ maxLen) (hT : Lib.Utf8Tabs 4 5 w) (t : TypeId) (fr : Nat × Nat) (hg : w.heap[1]? = some (.cells keyRow t fr)) :
    Calls Tryd.prog 5 #[.string s] w fun e w' => e = .returned (.bool true) ∧ Below w.heap.size w w' := by
  have hs' := hs
  unfold maxLen at hs'
  have Hm : Hid (s.size ≤ maxLen) := hs
  have Hlen : Hid ((tokens s).1.length ≤ 1200) := tokens_len s
  have HI : Hid (∀ w1, Below w.heap.size w w1 → Calls Tryd.prog 12 #[.string s] w1 (TokAns w1 s)) := fun w1 bel =>
    implTokens_any s w1 hs (tabs_below hT bel) t fr (heap_below hg bel)
  clear hs hT hg
  by_cases big : 1048576 < s.size
  · go_enter Tryd.func5, Tryd.ntmps5
    go_wp2
    go_ret
    exact ⟨rfl, Below.refl _ _⟩
  · obtain ⟨l, hl⟩ : ∃ l, (tokens s).1 = l := ⟨_, rfl⟩
    obtain ⟨c, hc⟩ : ∃ c, (tokens s).2.1 = c := ⟨_, rfl⟩
    obtain ⟨q, hq⟩ : ∃ q, (tokens s).2.2 = q := ⟨_, rfl⟩
    have HL : Hid ((tokens s).1 = l) := hl
    have HC : Hid ((tokens s).2.1 = c) := hc
    have HQ : Hid ((tokens s).2.2 = q) := hq
    rw [hl] at Hlen
    have z1 : ¬ 1 + 4 * (l.length : Int) < 0 := by omega
    clear hl hc hq
    go_enter Tryd.func5, Tryd.ntmps5
    go_wp2_with fail
    refine (specTokens_any s _ Hm.out).mono ?_
    rintro e w1 ⟨⟨v, he, hv⟩, b1⟩
    rw [HC.out, HQ.out] at he
    rw [HL.out] at hv
    subst he
    have HV : Hid (w1.ownsRow w.heap.size 41 4 v l.length (toksCells l)) := hv
    clear hv
    go_wp2_with fail
    refine (HI.out _ b1).mono ?_
    rintro e w2 ⟨⟨v2, he, hv2⟩, b2⟩
    rw [HC.out, HQ.out] at he
    rw [HL.out] at hv2
    subst he
    have HV2 : Hid (w2.ownsRow w1.heap.size 41 4 v2 l.length (toksCells l)) := hv2
    clear hv2
    go_wp2_with fail
    refine (eqTokenS_same l v2 v _ _ _ HV2.out (own_below HV.out b2) Hlen.out).mono ?_
    rintro e w3 ⟨rfl, b3⟩
    have b13 : Below w1.heap.size w1 w3 := b2.trans (b3.mono b2.size)
    go_wp2_with fail
    refine (markTokenS_any l v2 w1.heap.size _ (own_below HV2.out b3) Hlen.out).mono ?_
    rintro e w4 ⟨rfl, hm4, b4⟩
    have b14 : Below w1.heap.size w1 w4 := b13.trans b4
    have HM4 : Hid (MarkedV w4 v2 l.length) := hm4
    clear hm4
    go_wp2_with fail
    refine (heldTokenS_any l.length v2 _ HM4.out Hlen.out).mono ?_
    rintro e w5 ⟨rfl, b5⟩
    have b15 : Below w1.heap.size w1 w5 := b14.trans (b5.mono b14.size)
    go_wp2_with fail
    refine (HI.out _ (b1.trans (b15.mono b1.size))).mono ?_
    rintro e w6 ⟨⟨v3, he, hv3⟩, b6⟩
    rw [HC.out, HQ.out] at he
    rw [HL.out] at hv3
    subst he
    have b16 : Below w1.heap.size w1 w6 := b15.trans (b6.mono b15.size)
    have HV3 : Hid (w6.ownsRow w5.heap.size 41 4 v3 l.length (toksCells l)) := hv3
    clear hv3
    go_wp2_with fail
    refine (eqTokenS_same l v3 v _ _ _ HV3.out (own_below HV.out b16) Hlen.out).mono ?_
    rintro e w7 ⟨rfl, b7⟩
    have b17 : Below w1.heap.size w1 w7 := b16.trans (b7.mono b16.size)
    have hm7 : MarkedV w7 v2 l.length := HM4.out.on (b5.trans ((b6.trans (b7.mono b6.size)).mono b5.size))
    have HM7 : Hid (MarkedV w7 v2 l.length) := hm7
    clear hm7
    go_wp2_with fail
    refine (heldTokenS_any l.length v2 _ HM7.out Hlen.out).mono ?_
    rintro e w8 ⟨rfl, b8⟩
    go_wp2
    go_ret
    exact ⟨rfl, b1.trans ((b17.trans (b8.mono b17.size)).mono b1.size)⟩

theorem u8Extra : U8Extra Tryd.prog Tryd.lays260_ren := ⟨by kernel_rfl, by kernel_rfl, by kernel_rfl, by kernel_rfl, by kernel_rfl, by kernel_rfl, by kernel_rfl⟩
theorem gKeys : Tryd.prog.globalNamed "loop.example/g00168/impl.keyWords" = some 1 := by kernel_rfl
theorem gKeysType : (Tryd.prog.globals[1]?).map (·.type) = some 37 := by kernel_rfl
theorem first_laid : Rows.laid_unicode_utf8_first = Lib.firstData := by kernel_rfl
theorem accept_laid : (Rows.laid_unicode_utf8_acceptRanges (H := Unit)) = Lib.acceptData := by kernel_rfl
theorem plain_list : (Rows.fnExactTokensRow.laid.filter fun x => x.2.handleName?.isNone) = Rows.fnExactTokensRow.laid := by kernel_rfl
theorem tabs_of {W : World} (h : laidMetH Tryd.prog Rows.fnExactTokensRow.laid W) : Lib.Utf8Tabs 4 5 W := by
  have h' := (laidMetH_iff.1 h).1
  rw [plain_list] at h'
  obtain ⟨ps, hl, _, _⟩ := h'
  refine utf8Tabs_of_reads (ρ := Tryd.lays260_ren) Tryd.lays260 u8Extra ?_ ?_
  · rw [← first_laid]
    exact laid_var (name := "unicode/utf8.first") hl (by simp [Rows.fnExactTokensRow])
  · rw [← accept_laid]
    exact laid_var (name := "unicode/utf8.acceptRanges") hl (by simp [Rows.fnExactTokensRow])
theorem fnExactTokens_core (s : ByteArray) (hs : s.size ≤ maxLen) (w : World) (hL : laidMetH Tryd.prog Rows.fnExactTokensRow.laid w) : Calls Tryd.prog 5 #[.string s] w fun e w' => e = .returned (.bool true) ∧ Below w.heap.size w w' := by
  obtain ⟨t, fr, hg⟩ := row_of_laid (zs := keys) (name := "loop.example/g00168/impl.keyWords") hL plain_list (by rw [← keys_laid]; simp [Rows.fnExactTokensRow]) gKeys gKeysType Tryd.underlying37 Tryd.underlying9 (by kernel_rfl) (by kernel_rfl)
  exact tokensLaw_any s w hs (tabs_of hL) t fr hg

set_option maxRecDepth 100000 in
theorem fnExactTokens_lifted (os : Os) (started : os.Started) (H : Type) (enc : TypeId × Value → H) :
    ReturnsInHanded {} Tryd.checked os 5 .any (fun w args => (Rows.fnExactTokensSpec.pre enc Tryd.prog Tryd.f5 [] false w args ∧ laidMetH Tryd.prog Rows.fnExactTokensRow.laid w) ∧ sizedMet enc Tryd.prog Tryd.f5 (OpenSpec.ofChange Rows.fnExactTokensSpec) false w args)
      (Rows.fnExactTokensSpec.post enc Tryd.prog Tryd.f5 false true false false) := by
  refine returnsInHanded_of_change_and (C := Tryd.checked) (X := fun w _ => laidMetH Tryd.prog Rows.fnExactTokensRow.laid w) (fun _ _ _ hh h => h.of_heap hh) (show ownKnob Tryd.prog.godebug = none by kernel_rfl) started (by kernel_rfl) Tryd.func5
    (ChangeSpec.witness_shaped (enc := enc) (C := Tryd.checked) (os := os) (X := fun w _ => laidMetH Tryd.prog Rows.fnExactTokensRow.laid w) false (World.laidAll Tryd.prog os Rows.fnExactTokensRow.laid) #[.string ByteArray.empty] 8 (World.laidAll_os _ _ _) (World.shaped_of_ZipB (by kernel_rfl) (by kernel_rfl)) (by kernel_rfl) (by kernel_rfl) (by kernel_rfl)
      (by rw [MakeChecks.laidMetH_plain _ _ _ (by kernel_rfl)]; exact laidMet_laidAll _ (by kernel_rfl) (by kernel_rfl))) ?_
  intro W base args ds gs before hval0 hW _ _ hL _
  have hval : ∀ (j : Nat) t v, Tryd.f5.params[j]? = some t → args[j]? = some v → Value.okWide Tryd.prog W .any base t v := hval0
  have hW' := hW
  obtain ⟨p, q, hA0, hV, rfl, hfz, hnd⟩ := hW
  have hA : DataW.TrodAll enc Tryd.prog W 0 (fun _ => true) true Tryd.f5.params.toList args.toList ds p := hA0
  rw [Tryd.params5] at hA hval
  obtain ⟨v0, d0, rfl, rfl, h0⟩ := trodAll_one hA
  have hgl := vars_len hV
  obtain ⟨g0, rfl⟩ : ∃ g0, gs = [g0] := by
    match gs, hgl with
    | [g0], _ => exact ⟨_, rfl⟩
  obtain ⟨a0, rfl, rfl, rfl, b0⟩ := Go.ChangeMaps.open_string Tryd.underlying9 (hval 0 9 v0 rfl rfl) h0
  clear hA0 hval0
  refine (fnExactTokens_core a0 b0 W hL).mono fun e W' ⟨he, bel⟩ => ?_
  subst he
  exact ⟨_, rfl, law_post (show laidOutB Tryd.prog = true by kernel_rfl) (by kernel_rfl) (by kernel_rfl) rfl Tryd.underlying4 hW' rfl bel⟩

theorem fnExactTokens_holds : Rows.FnExactTokensSaid :=
  OpenClaim.holds_of_wide 5 Tryd.f5 rfl rfl rfl rfl rfl rfl rfl ⟨rfl, rfl, rfl, rfl, rfl⟩ rfl rfl rfl rfl rfl (by kernel_rfl) Tryd.func5 (by kernel_rfl)
    (of_decide_eq_true (by kernel_rfl)) (by unfold Func.isWrapper; first | (rw [if_pos (by decide +kernel)]; kernel_rfl) | (rw [if_neg (by decide +kernel)]; exact ⟨rfl, rfl⟩))
    (fun os started H enc _ => fnExactTokens_lifted os started H enc)
#print axioms fnExactTokens_holds

theorem fnExactTokens_plain (f : FuncId) (fn : Func) (hf : Tryd.pinned.checked.prog.funcNamed "loop.example/g00168/laws.FnExactTokens" = some f) (hfn : Tryd.pinned.checked.prog.funcs[f]? = some fn) :
    false = Tryd.pinned.checked.prog.looks [] ∧ ∀ (j : Nat) t, fn.params[j]? = some t → Tryd.pinned.checked.prog.wantsStandIn t = false := by
  obtain rfl : f = 5 := Option.some.inj ((show Tryd.prog.funcNamed "loop.example/g00168/laws.FnExactTokens" = some 5 by kernel_rfl).symm.trans hf) |>.symm
  obtain rfl : fn = Tryd.f5 := (Option.some.inj (Tryd.func5.symm.trans hfn)).symm
  refine ⟨by kernel_rfl, fun j t ht => ?_⟩
  rw [Tryd.params5] at ht
  have hm : t ∈ [9] := by
    have hm0 := Array.mem_of_getElem? ht
    simpa using hm0
  have hall : ([9].all fun u => !Tryd.prog.wantsStandIn u) = true := by kernel_rfl
  exact (show Tryd.prog.wantsStandIn t = false by simpa using List.all_eq_true.1 hall t hm)

theorem fnExactTokens_card : Rows.FnExactTokensCardSaid :=
  Claim7.holds_tied_plain_at .later [] _ _ _ _ fnExactTokens_holds (fun _ h => by cases h) (by kernel_rfl) (fun _ h => by cases h) fnExactTokens_row_tie rfl ⟨rfl, rfl⟩ (by kernel_rfl) rfl fnExactTokens_plain (by kernel_rfl)
#print axioms fnExactTokens_card

end Go.Proofs.YtoocnpkhgnbepadDoor
