/- FnExactInterfaceOK: at every interface the program's InterfaceOK answers as the model's, and the interface reads as it did. Listed: the program's table of words, tied. No other condition. -/
import Derived.Test.YtoomnimbokbadaaDoorZFacImpl
import Derived.Test.YtoomnimbokbadaaDoorZFacSpec
import Derived.Test.YtoomnimbokbadaaDoorZToFace
import Derived.Test.YtoomnimbokbadaaDoorCards
import Derived.Test.YtoomnimbokbadaaDoorTie
import Derived.LaidMore
import Derived.Lay
import Derived.Stop.Joined
import Derived.SevenTiedAt
namespace Go.Proofs.YtoomnimbokbadaaDoor
open Go.ChangeShapes Go.WideShapes Go.ChangeAt Go.RowKit Go.PlainAid

set_option maxRecDepth 100000 in
set_option maxHeartbeats 8000000 in
theorem interfaceLaw_any (x : Fac) (v : Value) (w : World) (h : FacAt w ⟨0, w.heap.size, false⟩ v x) (t : TypeId) (fr : Nat × Nat) (hg : w.heap[0]? = some (.cells keyRow t fr)) :
    Calls Tryd.prog 4 #[v] w fun e w' => e = .returned (.bool true) ∧ Below w.heap.size w w' := by
  obtain ⟨s, hs⟩ : ∃ s, x.module = s := ⟨_, rfl⟩
  obtain ⟨n, hn⟩ : ∃ n, x.items.length = n := ⟨_, rfl⟩
  obtain ⟨fb, hfb⟩ : ∃ fb, facB x = fb := ⟨_, rfl⟩
  have HSz : Hid (∀ w', Below w.heap.size w w' → Calls Tryd.prog 14 #[v, .int .i64 1048576] w' fun e w2 => (∃ k : Int, e = .returned (.int .i64 k) ∧ (0 ≤ k → Small x)) ∧ Below w'.heap.size w' w2) := fun w' bel => szInterface_any v _ x w' (h.on bel) bel.size
  have HTo : Hid (Small x → ∀ w', Below w.heap.size w w' → Calls Tryd.prog 16 #[v] w' fun e w2 => (∃ a c, e = .returned (.agg #[.string s, .slice a n c]) ∧ Hid (FacAt w2 ⟨w'.heap.size, w2.heap.size, true⟩ (.agg #[.string s, .slice a n c]) x)) ∧ Below w'.heap.size w' w2) := fun hx w' bel => toFace_any v _ x s n hs hn w' hx (h.on bel) bel.size
  have HSp : Hid (∀ w' m u, FacAt w' m u x → m.hi ≤ w'.heap.size → Calls Tryd.prog 15 #[u] w' fun e w2 => e = .returned (.bool fb) ∧ Below w'.heap.size w' w2) := fun w' m u hu hm => (specInterfaceOK_any u m x w' hu hm).mono fun _ _ ⟨a, b⟩ => ⟨by rw [a, hfb], b.below⟩
  have HIm : Hid (∀ w' m u, Below w.heap.size w w' → FacAt w' m u x → m.hi ≤ w'.heap.size → Calls Tryd.prog 17 #[u] w' fun e w2 => e = .returned (.bool fb) ∧ Below w'.heap.size w' w2) := fun w' m u bel hu hm =>
    (implInterfaceOK_any u m x w' hu hm t fr ((bel.block 0 (Array.getElem?_eq_some_iff.1 hg).1).trans hg)).mono fun _ _ ⟨a, b⟩ => ⟨by rw [a, hfb], b⟩
  obtain ⟨u, rfl, -, -, a, c, rfl, -⟩ := h
  rw [hs, hn] at HSz HTo ⊢
  clear hs hn hfb hg
  go_enter Tryd.func4, Tryd.ntmps4
  go_wp2_with fail
  refine (HSz.out _ ((Below.refl _ _).alloc (Nat.le_refl _) _)).mono ?_
  rintro e w1 ⟨⟨k, rfl, hk⟩, b1⟩
  have hb1 : Below w.heap.size w w1 := ((Below.refl _ _).alloc (Nat.le_refl _) _).trans (b1.mono (by simp))
  have hz1 : w.heap.size < w1.heap.size := by have := b1.size; simp at this; omega
  have HK := hide hk
  have k0 := (b1.cell (p := ⟨w.heap.size, 0, none⟩) (by simp)).trans (show _ = some (Value.string s) by simp [go_sem])
  have k1 := (b1.cell (p := ⟨w.heap.size, 1, none⟩) (by simp)).trans (show _ = some (Value.slice a n c) by simp [go_sem])
  clear b1 hk
  by_cases hk0 : k < 0
  · go_wp2
    go_ret
    exact ⟨rfl, hb1⟩
  · have HSm := hide (HK.out (by omega))
    go_wp2_with fail
    refine (HTo.out HSm.out _ hb1).mono ?_
    rintro e w2 ⟨⟨a2, c2, rfl, HF2⟩, b2⟩
    go_wp2_with fail
    refine (HSp.out _ _ _ HF2.out (Nat.le_refl _)).mono ?_
    rintro e w3 ⟨rfl, b3⟩
    have hb3 : Below w1.heap.size w1 w3 := b2.trans (b3.mono b2.size)
    have l0 := (hb3.cell (p := ⟨w.heap.size, 0, none⟩) hz1).trans k0
    have l1 := (hb3.cell (p := ⟨w.heap.size, 1, none⟩) hz1).trans k1
    have hbw3 := hb1.trans (hb3.mono hb1.size)
    have hz3 : w.heap.size < w3.heap.size := Nat.lt_of_lt_of_le hz1 hb3.size
    clear b2 b3 k0 k1 hb3
    go_wp2_with fail
    refine (HTo.out HSm.out _ hbw3).mono ?_
    rintro e w4 ⟨⟨a4, c4, rfl, HF4⟩, b4⟩
    have m0 := (b4.cell (p := ⟨w.heap.size, 0, none⟩) hz3).trans l0
    have m1 := (b4.cell (p := ⟨w.heap.size, 1, none⟩) hz3).trans l1
    have hbw4 := hbw3.trans (b4.mono hbw3.size)
    have hz4 : w.heap.size < w4.heap.size := Nat.lt_of_lt_of_le hz3 b4.size
    clear l0 l1
    go_wp2_with fail
    refine (HIm.out _ _ _ (hbw4.alloc hbw4.size _) (HF4.out.on ((Below.refl _ _).alloc (Nat.le_refl _) _)) (by simp)).mono ?_
    rintro e w5 ⟨rfl, b5⟩
    have n0 := (b5.cell (p := ⟨w.heap.size, 0, none⟩) (by simp; omega)).trans ((Below.cell ((Below.refl _ w4).alloc (Nat.le_refl _) _) (p := ⟨w.heap.size, 0, none⟩) hz4).trans m0)
    have n1 := (b5.cell (p := ⟨w.heap.size, 1, none⟩) (by simp; omega)).trans ((Below.cell ((Below.refl _ w4).alloc (Nat.le_refl _) _) (p := ⟨w.heap.size, 1, none⟩) hz4).trans m1)
    have p0 := (b5.cell (p := ⟨w4.heap.size, 0, none⟩) (by simp)).trans (show _ = some (Value.string s) by simp [go_sem])
    have p1 := (b5.cell (p := ⟨w4.heap.size, 1, none⟩) (by simp)).trans (show _ = some (Value.slice a4 n c4) by simp [go_sem])
    have h45 : Below w4.heap.size w4 w5 := ((Below.refl _ _).alloc (Nat.le_refl _) _).trans (b5.mono (by simp))
    have hbw5 := hbw4.trans (h45.mono hbw4.size)
    have hz5 : w4.heap.size < w5.heap.size := by have := b5.size; simp at this; omega
    have HF5 := hide (HF4.out.on h45)
    clear m0 m1 b5 b4 h45
    go_wp2
    go_region_with (first
      | (go_at_call 16; refine (HTo.out HSm.out _ hbw5.drew).mono ?_; rintro e w6 ⟨⟨a6, c6, rfl, HF6⟩, b6⟩; have q0 := (b6.cell (p := ⟨w4.heap.size, 0, none⟩) hz5).trans p0; have q1 := (b6.cell (p := ⟨w4.heap.size, 1, none⟩) hz5).trans p1)
      | (go_at_call 18; refine (eqInterface_same _ _ _ _ x _ (HF5.out.on (Below.trans ((Below.refl _ _).drew) b6 |>.mono (Nat.le_of_lt hz5))) HF6.out (Nat.le_trans (Nat.le_of_lt hz5) b6.size) (Nat.le_refl _)).mono ?_; rintro e w7 ⟨rfl, b7⟩))
    all_goals
      go_wp2
      go_ret
      exact ⟨rfl, hbw5.trans ((((Below.refl _ _).drew).trans (b6.trans (b7.mono b6.size))).mono hbw5.size)⟩
theorem fnExactInterfaceOK_plainList : (Rows.fnExactInterfaceOKRow.laid.filter fun x => x.2.handleName?.isNone) = Rows.fnExactInterfaceOKRow.laid := by kernel_rfl
theorem fnExactInterfaceOK_core (x : Fac) (v : Value) (w : World) (h : FacAt w ⟨0, w.heap.size, false⟩ v x) (hL : laidMetH Tryd.prog Rows.fnExactInterfaceOKRow.laid w) : Calls Tryd.prog 4 #[v] w fun e w' => e = .returned (.bool true) ∧ Below w.heap.size w w' := by
  obtain ⟨t, fr, hg⟩ := row_of_laid (zs := keys) (name := "loop.example/g00168/impl.keyWords") hL fnExactInterfaceOK_plainList (by rw [← keys_laid]; simp [Rows.fnExactInterfaceOKRow]) gKeys gKeysType Tryd.underlying100 Tryd.underlying9 (by kernel_rfl) (by kernel_rfl)
  exact interfaceLaw_any x v w h t fr hg

theorem fnExactInterfaceOK_door (os : Os) (args : Array Value) : laidMetH Tryd.prog Rows.fnExactInterfaceOKRow.laid ((World.doorLaid Tryd.prog 400 os).forCall (fun _ _ => 0) ⟨#[], args, []⟩).memory :=
  laidMetH_of_parts3 (fuel := 8) (laidMet_of_run' 8 (by kernel_rfl) (by kernel_rfl)) (by kernel_rfl) (by kernel_rfl)

set_option maxRecDepth 100000 in
theorem fnExactInterfaceOK_lifted (os : Os) (started : os.Started) (H : Type) (enc : TypeId × Value → H) :
    ReturnsInHanded {} Tryd.checked os 4 .any (fun w args => (Rows.fnExactInterfaceOKSpec.pre enc Tryd.prog Tryd.f4 [] false w args ∧ laidMetH Tryd.prog Rows.fnExactInterfaceOKRow.laid w) ∧ sizedMet enc Tryd.prog Tryd.f4 (OpenSpec.ofChange Rows.fnExactInterfaceOKSpec) false w args)
      (Rows.fnExactInterfaceOKSpec.post enc Tryd.prog Tryd.f4 false true false false) := by
  refine returnsInHanded_of_change_and (C := Tryd.checked) (X := fun w _ => laidMetH Tryd.prog Rows.fnExactInterfaceOKRow.laid w) (fun _ _ _ hh h => h.of_heap hh) (show ownKnob Tryd.prog.godebug = none by kernel_rfl) started (by kernel_rfl) Tryd.func4
    (ChangeSpec.witness_shaped (enc := enc) (C := Tryd.checked) (os := os) (X := fun w _ => laidMetH Tryd.prog Rows.fnExactInterfaceOKRow.laid w) false (World.doorLaid Tryd.prog 400 os) #[.agg #[.string ByteArray.empty, .slice none 0 0]] 8 rfl (World.shaped_of_RefB (by kernel_rfl) (by kernel_rfl)) (by kernel_rfl) (by kernel_rfl) (by kernel_rfl) (fnExactInterfaceOK_door os _)) ?_
  intro W base args ds gs before hval0 hW _ _ hL _
  have hval : ∀ (j : Nat) t v, Tryd.f4.params[j]? = some t → args[j]? = some v → Value.okWide Tryd.prog W .any base t v := hval0
  have hW' := hW
  obtain ⟨p, q, hA0, hV, rfl, hfz, hnd⟩ := hW
  have hA : DataW.TrodAll enc Tryd.prog W 0 (fun _ => true) true Tryd.f4.params.toList args.toList ds p := hA0
  rw [Tryd.params4] at hA hval
  obtain ⟨v0, d0, rfl, rfl, h0⟩ := trodAll_one hA
  have hgl := vars_len hV
  obtain ⟨g0, rfl⟩ : ∃ g0, gs = [g0] := by
    match gs, hgl with
    | [g0], _ => exact ⟨_, rfl⟩
  obtain ⟨a0, b0⟩ := open_face (hval 0 37 v0 rfl rfl) h0
  clear hA0 hval0
  refine (fnExactInterfaceOK_core a0 v0 W b0 hL).mono fun e W' ⟨he, bel⟩ => ?_
  subst he
  exact ⟨_, rfl, law_post (show laidOutB Tryd.prog = true by kernel_rfl) (by kernel_rfl) (by kernel_rfl) rfl Tryd.underlying4 hW' rfl bel⟩

theorem fnExactInterfaceOK_holds : Rows.FnExactInterfaceOKSaid :=
  OpenClaim.holds_of_wide 4 Tryd.f4 rfl rfl rfl rfl rfl rfl rfl ⟨rfl, rfl, rfl, rfl, rfl⟩ rfl rfl rfl rfl rfl (by kernel_rfl) Tryd.func4 (by kernel_rfl)
    (of_decide_eq_true (by kernel_rfl)) (by unfold Func.isWrapper; first | (rw [if_pos (by decide +kernel)]; kernel_rfl) | (rw [if_neg (by decide +kernel)]; exact ⟨rfl, rfl⟩))
    (fun os started H enc _ => fnExactInterfaceOK_lifted os started H enc)
#print axioms fnExactInterfaceOK_holds

theorem fnExactInterfaceOK_plain (f : FuncId) (fn : Func) (hf : Tryd.pinned.checked.prog.funcNamed "loop.example/g00168/laws.FnExactInterfaceOK" = some f) (hfn : Tryd.pinned.checked.prog.funcs[f]? = some fn) :
    false = Tryd.pinned.checked.prog.looks [] ∧ ∀ (j : Nat) t, fn.params[j]? = some t → Tryd.pinned.checked.prog.wantsStandIn t = false := by
  obtain rfl : f = 4 := Option.some.inj ((show Tryd.prog.funcNamed "loop.example/g00168/laws.FnExactInterfaceOK" = some 4 by kernel_rfl).symm.trans hf) |>.symm
  obtain rfl : fn = Tryd.f4 := (Option.some.inj (Tryd.func4.symm.trans hfn)).symm
  refine ⟨by kernel_rfl, fun j t ht => ?_⟩
  rw [Tryd.params4] at ht
  have hm : t ∈ [37] := by
    have hm0 := Array.mem_of_getElem? ht
    simpa using hm0
  have hall : ([37].all fun u => !Tryd.prog.wantsStandIn u) = true := by kernel_rfl
  exact (show Tryd.prog.wantsStandIn t = false by simpa using List.all_eq_true.1 hall t hm)

theorem fnExactInterfaceOK_card : Rows.FnExactInterfaceOKCardSaid :=
  Claim7.holds_tied_plain_at .later [] _ _ _ _ fnExactInterfaceOK_holds (fun _ h => by cases h) (by kernel_rfl) (fun _ h => by cases h) fnExactInterfaceOK_row_tie rfl ⟨rfl, rfl⟩ (by kernel_rfl) rfl fnExactInterfaceOK_plain (by kernel_rfl)
#print axioms fnExactInterfaceOK_card

end Go.Proofs.YtoomnimbokbadaaDoor
