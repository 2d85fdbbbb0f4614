/- FnExactBuiltText: of every build's answer the program's BuiltText answers as the model's, text and code, and the answer that it is given reads as it did. Listed: the program's table of words and the library's tables, tied or pinned. No other condition. -/
import Derived.Test.YtpfceikohoncgaaDoorZBuN
import Derived.Test.YtpfceikohoncgaaDoorZBuJ
import Derived.Test.YtpfceikohoncgaaDoorCards
import Derived.Test.YtpfceikohoncgaaDoorTie
import Derived.LaidMore
import Derived.Lay
import Derived.Stop.Joined
import Derived.SevenTiedAt
namespace Go.Proofs.YtpfceikohoncgaaDoor
open Go.ChangeShapes Go.WideShapes Go.ChangeAt Go.RowKit Go.PlainAid Go.Deep

theorem row8 {w : World} {b : Nat} {x0 x1 x2 x3 x4 x5 x6 x7 : Value} {T : TypeId} (h : w.heap[b]? = some (.cells #[x0, x1, x2, x3, x4, x5, x6, x7] T (0, 0))) :
    w.cell? ⟨b, 0, none⟩ = some x0 ∧ w.cell? ⟨b, 1, none⟩ = some x1 ∧ w.cell? ⟨b, 2, none⟩ = some x2 ∧ w.cell? ⟨b, 3, none⟩ = some x3 ∧ w.cell? ⟨b, 4, none⟩ = some x4 ∧ w.cell? ⟨b, 5, none⟩ = some x5 ∧ w.cell? ⟨b, 6, none⟩ = some x6 ∧ w.cell? ⟨b, 7, none⟩ = some x7 :=
  ⟨(heapCells h).1 0, (heapCells h).1 1, (heapCells h).1 2, (heapCells h).1 3, (heapCells h).1 4, (heapCells h).1 5, (heapCells h).1 6, (heapCells h).1 7⟩
/-- A build's answer, its slices open. -/
def buV (c p : Int) (mo : ByteArray) (gv : Int) (n4 n5 n6 n7 : Nat) (p4 : Option Addr) (c4 : Nat) (p5 : Option Addr) (c5 : Nat) (p6 : Option Addr) (c6 : Nat) (p7 : Option Addr) (c7 : Nat) : Value :=
  .agg #[.int .i64 c, .int .i64 p, .string mo, .int .i64 gv, .slice p4 n4 c4, .slice p5 n5 c5, .slice p6 n6 c6, .slice p7 n7 c7]
theorem bu_form {w : World} {m : Md} {v : Value} {x : BuiltD} (h : BuiltVal w m v x) : ∃ p4 c4 p5 c5 p6 c6 p7 c7, v = buV x.code x.place x.module x.image.globals x.image.procs.length x.image.names.length x.image.start.length x.made.length p4 c4 p5 c5 p6 c6 p7 c7 := by
  obtain ⟨u4, u5, u6, u7, rfl, -, hi, s7⟩ := h
  obtain ⟨-, ⟨p4, c4, rfl⟩, ⟨p5, c5, rfl⟩, ⟨p6, c6, rfl⟩⟩ := image_slices hi
  obtain ⟨p7, c7, rfl, -⟩ := s7
  exact ⟨p4, c4, p5, c5, p6, c6, p7, c7, rfl⟩
theorem bu_made {w : World} {m : Md} {x : BuiltD} {c p : Int} {mo : ByteArray} {gv : Int} {u4 u5 u6 u7 : Value} (h : BuiltVal w m (.agg #[.int .i64 c, .int .i64 p, .string mo, .int .i64 gv, u4, u5, u6, u7]) x) : SlAt StringAt 1 w m u7 x.made := by
  obtain ⟨u4, u5, u6, u7, e, -, -, s7⟩ := h
  cases e
  exact s7
set_option maxRecDepth 100000 in
set_option maxHeartbeats 8000000 in
theorem builtLaw_any (x : BuiltD) (v : Value) (w : World) (hv : BuiltVal w ⟨0, w.heap.size, false⟩ v x) (hT : BuTabs w) :
    Calls Tryd.prog 3 #[v] w fun e w' => e = .returned (.bool true) ∧ Below w.heap.size w w' := by
  obtain ⟨T1, hT1⟩ : ∃ T1, buT x.code x.place x.module x.image.procs.length x.made = T1 := ⟨_, rfl⟩
  obtain ⟨T2, hT2⟩ : ∃ T2, buC x.code x.module x.made = T2 := ⟨_, rfl⟩
  have hbd : I64 x.code ∧ I64 x.place ∧ x.module.size ≤ maxLen ∧ x.made.length ≤ maxLen := by obtain ⟨_, _, _, _, _, h, _⟩ := hv; exact h
  have HSz : Hid (∀ w', Below w.heap.size w w' → Calls Tryd.prog 4 #[v, .int .i64 1048576] w' fun e w2 => (∃ k : Int, e = .returned (.int .i64 k) ∧ (0 ≤ k → BuiltSm x)) ∧ Below w'.heap.size w' w2) := hide fun w' bel => (szBuilt_any v _ x 1048576 w' (by decide) (by decide) (hv.on bel) bel.size).mono fun _ _ ⟨⟨k, a, _, _, b⟩, c⟩ => ⟨⟨k, a, fun h => (b h).1⟩, c⟩
  have HSp : Hid (BuiltSm x → ∀ w' m p4 c4 p5 c5 p6 c6 p7 c7, BuiltVal w' m (buV x.code x.place x.module x.image.globals x.image.procs.length x.image.names.length x.image.start.length x.made.length p4 c4 p5 c5 p6 c6 p7 c7) x → m.hi ≤ w'.heap.size → Calls Tryd.prog 5 #[buV x.code x.place x.module x.image.globals x.image.procs.length x.image.names.length x.image.start.length x.made.length p4 c4 p5 c5 p6 c6 p7 c7] w' fun e w2 => e = .returned (.tuple #[.string T1, .int .i64 T2]) ∧ Below w'.heap.size w' w2) := hide fun hs w' m p4 c4 p5 c5 p6 c6 p7 c7 hu hm => by
    have := specBuiltText_any x.code x.place x.image.globals x.module p4 x.image.procs.length c4 (.slice p5 x.image.names.length c5) (.slice p6 x.image.start.length c6) (.slice p7 x.made.length c7) m x.made w' hbd.2.1 hs.1.1 hs.2 hbd.2.2.1 (bu_made hu) hm
    rwa [hT1, hT2] at this
  have HIm : Hid (BuiltSm x → ∀ w' m p4 c4 p5 c5 p6 c6 p7 c7, Below w.heap.size w w' → BuiltVal w' m (buV x.code x.place x.module x.image.globals x.image.procs.length x.image.names.length x.image.start.length x.made.length p4 c4 p5 c5 p6 c6 p7 c7) x → m.hi ≤ w'.heap.size → Calls Tryd.prog 7 #[buV x.code x.place x.module x.image.globals x.image.procs.length x.image.names.length x.image.start.length x.made.length p4 c4 p5 c5 p6 c6 p7 c7] w' fun e w2 => e = .returned (.tuple #[.string T1, .int .i64 T2]) ∧ Below w'.heap.size w' w2) := hide fun hs w' m p4 c4 p5 c5 p6 c6 p7 c7 bel hu hm => by
    have := implBuiltText_any x.code x.place x.image.globals x.module p4 x.image.procs.length c4 (.slice p5 x.image.names.length c5) (.slice p6 x.image.start.length c6) (.slice p7 x.made.length c7) m x.made w' hbd.1 hbd.2.1 hs.1.1 hs.2 hbd.2.2.1 (bu_made hu) hm (hT.on bel)
    rwa [hT1, hT2] at this
  have HEq : Hid (∀ w' m m' u u', BuiltVal w' m u x → BuiltVal w' m' u' x → m.hi ≤ w'.heap.size → m'.hi ≤ w'.heap.size → Calls Tryd.prog 8 #[u, u'] w' fun e w2 => e = .returned (.bool true) ∧ Below w'.heap.size w' w2) := hide fun w' m m' u u' hu hu' hm hm' => eqBuilt_same u u' m m' x w' hu hu' hm hm'
  have HTo : Hid (BuiltSm x → ∀ w', Below w.heap.size w w' → Calls Tryd.prog 6 #[v] w' fun e w2 => (∃ p4 c4 p5 c5 p6 c6 p7 c7, e = .returned (buV x.code x.place x.module x.image.globals x.image.procs.length x.image.names.length x.image.start.length x.made.length p4 c4 p5 c5 p6 c6 p7 c7) ∧ Hid (BuiltVal w2 ⟨w'.heap.size, w2.heap.size, true⟩ (buV x.code x.place x.module x.image.globals x.image.procs.length x.image.names.length x.image.start.length x.made.length p4 c4 p5 c5 p6 c6 p7 c7) x)) ∧ Below w'.heap.size w' w2) := hide fun hz w' bel => (toBuilt_any v _ x w' hz (hv.on bel) bel.size).mono fun e w2 hq => by
    obtain ⟨⟨u, hu, hc⟩, hb⟩ := hq
    obtain ⟨p4, c4, p5, c5, p6, c6, p7, c7, rfl⟩ := bu_form hc.out
    exact ⟨⟨p4, c4, p5, c5, p6, c6, p7, c7, hu, hc⟩, hb⟩
  obtain ⟨p4, c4, p5, c5, p6, c6, p7, c7, rfl⟩ := bu_form hv
  obtain ⟨n4, hn4⟩ : ∃ k, x.image.procs.length = k := ⟨_, rfl⟩
  obtain ⟨n5, hn5⟩ : ∃ k, x.image.names.length = k := ⟨_, rfl⟩
  obtain ⟨n6, hn6⟩ : ∃ k, x.image.start.length = k := ⟨_, rfl⟩
  obtain ⟨n7, hn7⟩ : ∃ k, x.made.length = k := ⟨_, rfl⟩
  obtain ⟨gv, hgv⟩ : ∃ k, x.image.globals = k := ⟨_, rfl⟩
  obtain ⟨kc, hkc⟩ : ∃ k, x.code = k := ⟨_, rfl⟩
  obtain ⟨kp, hkp⟩ : ∃ k, x.place = k := ⟨_, rfl⟩
  obtain ⟨km, hkm⟩ : ∃ k, x.module = k := ⟨_, rfl⟩
  rw [hn4, hn5, hn6, hn7, hgv, hkc, hkp, hkm] at HSz HSp HIm HTo
  rw [hn4, hn5, hn6, hn7, hgv, hkc, hkp, hkm]
  clear hn4 hn5 hn6 hn7 hgv hkc hkp hkm hT hT1 hT2 hbd hv
  generalize BuiltSm x = Sm at *
  unfold buV at *
  go_enter Tryd.func3, Tryd.ntmps3
  go_wp2_with fail
  refine (HSz.out _ ((Below.refl _ _).alloc (Nat.le_refl _) _)).mono ?_
  rintro e w1 ⟨⟨k, rfl, hk⟩, b1⟩
  have hb1 : Below w.heap.size w w1 := ((Below.refl _ _).alloc (Nat.le_refl _) _).trans (b1.mono (by simp))
  have hz1 : w.heap.size < w1.heap.size := by have := b1.size; simp at this; omega
  have HK := hide hk
  have kk := (b1.block w.heap.size (by simp)).trans (Deep.blk_alloc_new w (.cells #[.int .i64 kc, .int .i64 kp, .string km, .int .i64 gv, .slice p4 n4 c4, .slice p5 n5 c5, .slice p6 n6 c6, .slice p7 n7 c7] 28))
  have HK0 := hide kk
  obtain ⟨k0, k1, k2, k3, k4, k5, k6, k7⟩ := row8 kk
  clear b1 hk kk
  by_cases hk0 : k < 0
  · go_wp2
    go_ret
    exact ⟨rfl, hb1⟩
  · have HSm := hide (HK.out (by omega))
    go_wp2_with fail
    refine (HTo.out HSm.out _ hb1).mono ?_
    rintro e w2 ⟨⟨q4, d4, q5, d5, q6, d6, q7, d7, rfl, HF2⟩, bl2⟩
    go_wp2_with fail
    refine (HSp.out HSm.out _ _ _ _ _ _ _ _ _ _ HF2.out (Nat.le_refl _)).mono ?_
    rintro e w3 ⟨rfl, bl3⟩
    have hb3 : Below w1.heap.size w1 w3 := bl2.trans (bl3.mono bl2.size)
    have hbw3 := hb1.trans (hb3.mono hb1.size)
    have hz3 : w.heap.size < w3.heap.size := Nat.lt_of_lt_of_le hz1 hb3.size
    have kk := (hb3.block w.heap.size hz1).trans HK0.out
    have HK3 := hide kk
    clear k0 k1 k2 k3 k4 k5 k6 k7
    obtain ⟨l0, l1, l2, l3, l4, l5, l6, l7⟩ := row8 kk
    clear bl2 bl3 hb3 kk
    go_wp2_with fail
    refine (HTo.out HSm.out _ hbw3).mono ?_
    rintro e w4 ⟨⟨f4, g4, f5, g5, f6, g6, f7, g7, rfl, HF4⟩, bl4⟩
    have hbw4 := hbw3.trans (bl4.mono hbw3.size)
    have hz4 : w.heap.size < w4.heap.size := Nat.lt_of_lt_of_le hz3 bl4.size
    have HK4 := hide ((bl4.block w.heap.size hz3).trans HK3.out)
    clear l0 l1 l2 l3 l4 l5 l6 l7
    go_wp2_with fail
    refine (HIm.out HSm.out _ _ _ _ _ _ _ _ _ _ (hbw4.trans (((Below.refl _ _).alloc (Nat.le_refl _) _).mono hbw4.size)) (HF4.out.on ((Below.refl _ _).alloc (Nat.le_refl _) _)) (by simp)).mono ?_
    rintro e w5 ⟨rfl, bl5⟩
    have h45 : Below w4.heap.size w4 w5 := ((Below.refl _ _).alloc (Nat.le_refl _) _).trans (bl5.mono (by simp))
    have kk := (h45.block w.heap.size hz4).trans HK4.out
    obtain ⟨l0, l1, l2, l3, l4, l5, l6, l7⟩ := row8 kk
    have qq := (bl5.block w4.heap.size (by simp)).trans (Deep.blk_alloc_new w4 (.cells #[.int .i64 kc, .int .i64 kp, .string km, .int .i64 gv, .slice f4 n4 g4, .slice f5 n5 g5, .slice f6 n6 g6, .slice f7 n7 g7] 36))
    obtain ⟨p0, p1, p2, p3, p4', p5', p6', p7'⟩ := row8 qq
    have hbw5 := hbw4.trans (h45.mono hbw4.size)
    have hz5 : w4.heap.size < w5.heap.size := (Array.getElem?_eq_some_iff.1 qq).1
    have HF5 := hide (HF4.out.on h45)
    have HQQ := hide qq
    clear bl5 bl4 h45 kk qq
    go_wp2
    go_region_with (first
      | (go_at_call 6; refine (HTo.out HSm.out _ hbw5.drew).mono ?_; rintro e w6 ⟨⟨h4, i4, h5, i5, h6, i6, h7, i7, rfl, HF6⟩, b6⟩; have qq := (b6.block w4.heap.size hz5).trans HQQ.out; obtain ⟨q0, q1, q2, q3, q4, q5, q6, q7⟩ := row8 qq; clear qq)
      | (go_at_call 8; refine (HEq.out _ _ _ _ _ (HF5.out.on (Below.trans ((Below.refl _ _).drew) b6 |>.mono (Nat.le_of_lt hz5))) HF6.out (Nat.le_trans (Nat.le_of_lt hz5) b6.size) (Nat.le_refl _)).mono ?_; rintro e w7 ⟨rfl, b7⟩))
    all_goals
      go_wp2
      go_ret
      exact ⟨rfl, hbw5.trans ((((Below.refl _ _).drew).trans (b6.trans (b7.mono b6.size))).mono hbw5.size)⟩
theorem tab_of_laid {P : Program} {W : World} {name : String} {k : IntKind} {zs : List Int} {l : List (String × DataW Unit)} {g : Nat} {t e : TypeId} {n : Nat}
    (h : laidMetH P l W) (hplain : (l.filter fun x => x.2.handleName?.isNone) = l) (hm : (name, Lib.tabData k zs) ∈ l)
    (hg : P.globalNamed name = some g) (hty : (P.globals[g]?).map (·.type) = some t) (ht : P.underlying t = some (.array n e)) (he : P.underlying e = some (.int k)) (hce : P.cellsOf e = 1) (hct : P.cellsOf t = n) :
    Lib.TabIs P W name k zs := by
  have h' := (laidMetH_iff.1 h).1
  rw [hplain] at h'
  obtain ⟨ps, hl, _, _⟩ := h'
  obtain ⟨g', t', cs, fuel, p, h1, h2, h3, h4⟩ := laid_var hl hm
  obtain rfl := Option.some.inj (hg.symm.trans h1)
  obtain rfl := Option.some.inj (hty.symm.trans h2)
  have hc := Lib.cells_of_tab ht he hce hct h4
  unfold Lib.TabIs
  rw [h3, ← hc, Array.toArray_toList]
theorem codeWs_laid : (Rows.laid_loop_example_g00168_impl_codeWords (H := Unit)) = .agg (codeWs.map fun z => .lit (.string z)) := rfl
theorem pow_laid : (Rows.laid_internal_strconv_uint64pow10 (H := Unit)) = Lib.tabData .u64 Lib.pow10Tab := rfl
theorem gWords : Tryd.prog.globalNamed "loop.example/g00168/impl.codeWords" = some 0 := by kernel_rfl
theorem gWordsType : (Tryd.prog.globals[0]?).map (·.type) = some 56 := by kernel_rfl
theorem gPowType : (Tryd.prog.globals[1]?).map (·.type) = some 101 := by kernel_rfl
theorem buPlain : (Rows.fnExactBuiltTextRow.laid.filter fun x => x.2.handleName?.isNone) = Rows.fnExactBuiltTextRow.laid := by kernel_rfl
theorem fnExactBuiltText_core (x : BuiltD) (v : Value) (w : World) (h : BuiltVal w ⟨0, w.heap.size, false⟩ v x) (hL : laidMetH Tryd.prog Rows.fnExactBuiltTextRow.laid w) : Calls Tryd.prog 3 #[v] w fun e w' => e = .returned (.bool true) ∧ Below w.heap.size w w' := by
  refine builtLaw_any x v w h ⟨?_, ?_⟩
  · exact texts_of_laid (zs := codeWs) (name := "loop.example/g00168/impl.codeWords") hL buPlain (by rw [← codeWs_laid]; simp [Rows.fnExactBuiltTextRow]) gWords gWordsType Tryd.underlying56 Tryd.underlying9 (by kernel_rfl) (by kernel_rfl)
  · exact tab_of_laid (zs := Lib.pow10Tab) (name := "internal/strconv.uint64pow10") (k := .u64) hL buPlain (by rw [← pow_laid]; simp [Rows.fnExactBuiltTextRow]) gPow gPowType Tryd.underlying101 Tryd.underlying85 (by kernel_rfl) (by kernel_rfl)

set_option maxRecDepth 100000 in
theorem fnExactBuiltText_lifted (os : Os) (started : os.Started) (H : Type) (enc : TypeId × Value → H) :
    ReturnsInHanded {} Tryd.checked os 3 .any (fun w args => (Rows.fnExactBuiltTextSpec.pre enc Tryd.prog Tryd.f3 [] false w args ∧ laidMetH Tryd.prog Rows.fnExactBuiltTextRow.laid w) ∧ sizedMet enc Tryd.prog Tryd.f3 (OpenSpec.ofChange Rows.fnExactBuiltTextSpec) false w args)
      (Rows.fnExactBuiltTextSpec.post enc Tryd.prog Tryd.f3 false true false false) := by
  refine returnsInHanded_of_change_and (C := Tryd.checked) (X := fun w _ => laidMetH Tryd.prog Rows.fnExactBuiltTextRow.laid w) (fun _ _ _ hh h => h.of_heap hh) (show ownKnob Tryd.prog.godebug = none by kernel_rfl) started (by kernel_rfl) Tryd.func3
    (ChangeSpec.witness_shaped (enc := enc) (C := Tryd.checked) (os := os) (X := fun w _ => laidMetH Tryd.prog Rows.fnExactBuiltTextRow.laid w) false (World.laidAll Tryd.prog os Rows.fnExactBuiltTextRow.laid) #[.agg #[.int .i64 0, .int .i64 0, .string ByteArray.empty, .int .i64 0, .slice none 0 0, .slice none 0 0, .slice none 0 0, .slice none 0 0]] 8 (World.laidAll_os _ _ _) (World.shaped_of_ZipB (by kernel_rfl) (by kernel_rfl)) (by kernel_rfl) (by kernel_rfl) (by kernel_rfl)
      (by rw [MakeChecks.laidMetH_plain _ _ _ (by kernel_rfl)]; exact laidMet_laidAll _ (by kernel_rfl) (by kernel_rfl))) ?_
  intro W base args ds gs before hval0 hW _ _ hL _
  have hval : ∀ (j : Nat) t v, Tryd.f3.params[j]? = some t → args[j]? = some v → Value.okWide Tryd.prog W .any base t v := hval0
  have hW' := hW
  obtain ⟨p, q, hA0, hV, rfl, hfz, hnd⟩ := hW
  have hA : DataW.TrodAll enc Tryd.prog W 0 (fun _ => true) true Tryd.f3.params.toList args.toList ds p := hA0
  rw [Tryd.params3] at hA hval
  obtain ⟨v0, d0, rfl, rfl, h0⟩ := trodAll_one hA
  have hgl := vars_len hV
  obtain ⟨g0, rfl⟩ : ∃ g0, gs = [g0] := by
    match gs, hgl with
    | [g0], _ => exact ⟨_, rfl⟩
  obtain ⟨a0, b0⟩ := open_built (hval 0 28 v0 rfl rfl) h0
  clear hA0 hval0
  refine (fnExactBuiltText_core a0 v0 W b0 hL).mono fun e W' ⟨he, bel⟩ => ?_
  subst he
  exact ⟨_, rfl, law_post (show laidOutB Tryd.prog = true by kernel_rfl) (by kernel_rfl) (by kernel_rfl) rfl Tryd.underlying4 hW' rfl bel⟩

theorem fnExactBuiltText_holds : Rows.FnExactBuiltTextSaid :=
  OpenClaim.holds_of_wide 3 Tryd.f3 rfl rfl rfl rfl rfl rfl rfl ⟨rfl, rfl, rfl, rfl, rfl⟩ rfl rfl rfl rfl rfl (by kernel_rfl) Tryd.func3 (by kernel_rfl)
    (of_decide_eq_true (by kernel_rfl)) (by unfold Func.isWrapper; first | (rw [if_pos (by decide +kernel)]; kernel_rfl) | (rw [if_neg (by decide +kernel)]; exact ⟨rfl, rfl⟩))
    (fun os started H enc _ => fnExactBuiltText_lifted os started H enc)
#print axioms fnExactBuiltText_holds

theorem fnExactBuiltText_plain (f : FuncId) (fn : Func) (hf : Tryd.pinned.checked.prog.funcNamed "loop.example/g00168/laws.FnExactBuiltText" = some f) (hfn : Tryd.pinned.checked.prog.funcs[f]? = some fn) :
    false = Tryd.pinned.checked.prog.looks [] ∧ ∀ (j : Nat) t, fn.params[j]? = some t → Tryd.pinned.checked.prog.wantsStandIn t = false := by
  obtain rfl : f = 3 := Option.some.inj ((show Tryd.prog.funcNamed "loop.example/g00168/laws.FnExactBuiltText" = some 3 by kernel_rfl).symm.trans hf) |>.symm
  obtain rfl : fn = Tryd.f3 := (Option.some.inj (Tryd.func3.symm.trans hfn)).symm
  refine ⟨by kernel_rfl, fun j t ht => ?_⟩
  rw [Tryd.params3] at ht
  have hm : t ∈ [28] := by
    have hm0 := Array.mem_of_getElem? ht
    simpa using hm0
  have hall : ([28].all fun u => !Tryd.prog.wantsStandIn u) = true := by kernel_rfl
  exact (show Tryd.prog.wantsStandIn t = false by simpa using List.all_eq_true.1 hall t hm)

theorem fnExactBuiltText_card : Rows.FnExactBuiltTextCardSaid :=
  Claim7.holds_tied_plain_at .later [] _ _ _ _ fnExactBuiltText_holds (fun _ h => by cases h) (by kernel_rfl) (fun _ h => by cases h) fnExactBuiltText_row_tie rfl ⟨rfl, rfl⟩ (by kernel_rfl) rfl fnExactBuiltText_plain (by kernel_rfl)
#print axioms fnExactBuiltText_card

end Go.Proofs.YtpfceikohoncgaaDoor
