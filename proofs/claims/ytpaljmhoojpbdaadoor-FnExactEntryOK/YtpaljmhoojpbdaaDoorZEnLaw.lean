/- FnExactEntryOK: at every entry the program's EntryOK answers as the model's, and the entry reads as it did. Listed: the program's tables of words and signs and the library's tables, tied. No other condition. -/
import Derived.Test.YtpaljmhoojpbdaaDoorZObjD
import Derived.Test.YtpaljmhoojpbdaaDoorZEnOKI
import Derived.Test.YtpaljmhoojpbdaaDoorCards
import Derived.Test.YtpaljmhoojpbdaaDoorTie
import Derived.LaidMore
import Derived.Lay
import Derived.Stop.Joined
import Derived.SevenTiedAt
/- Structs as plain data, and how they lie in memory; how the row's own reading of an argument gives it. No condition. -/
namespace Go.Proofs.YtpaljmhoojpbdaaDoor
open Go.ChangeShapes Go.WideShapes Go.ChangeAt Go.RowKit Go.Deep

structure EntryD where
  module : ByteArray
  source : ByteArray
  faces : ByteArray
  bytes : ByteArray
  sum : Int
def EntryAt : Elem EntryD := fun cf _ _ x => (cf 0 = some (.string (x.module)) ∧ cf 1 = some (.string (x.source)) ∧ cf 2 = some (.string (x.faces)) ∧ cf 3 = some (.string (x.bytes)) ∧ cf 4 = some (.int .i64 (x.sum))) ∧ (x.module.size ≤ maxLen ∧ x.source.size ≤ maxLen ∧ x.faces.size ≤ maxLen ∧ x.bytes.size ≤ maxLen ∧ I64 x.sum)
theorem EntryAt.stays : Stays EntryAt := fun _ _ _ _ _ h _ => h
theorem EntryAt.widens : Widens EntryAt := fun _ _ _ _ _ h _ _ _ => h
theorem EntryAt.loc : Loc EntryAt 5 := fun _ _ _ _ _ e ⟨⟨c0, c1, c2, c3, c4⟩, hr⟩ => ⟨⟨(e 0 (by omega)).trans c0, (e 1 (by omega)).trans c1, (e 2 (by omega)).trans c2, (e 3 (by omega)).trans c3, (e 4 (by omega)).trans c4⟩, hr⟩
section
variable {H : Type} {enc : TypeId × Value → H} {w : World}
theorem opens_Entry : Opens enc Tryd.prog w 50 EntryAt := by
  intro fuel cs y h
  obtain ⟨hl, hf⟩ := open_fields Tryd.underlying50 (hone_of (by kernel_rfl)) (by kernel_rfl) h
  obtain ⟨v0, n0, z0, c0, t0⟩ := hf 0 _ rfl
  obtain ⟨v1, n1, z1, c1, t1⟩ := hf 1 _ rfl
  obtain ⟨v2, n2, z2, c2, t2⟩ := hf 2 _ rfl
  obtain ⟨v3, n3, z3, c3, t3⟩ := hf 3 _ rfl
  obtain ⟨v4, n4, z4, c4, t4⟩ := hf 4 _ rfl
  obtain ⟨a0, e0, _, w0⟩ := DataW.trod_string Tryd.underlying9 t0
  obtain ⟨a1, e1, _, w1⟩ := DataW.trod_string Tryd.underlying9 t1
  obtain ⟨a2, e2, _, w2⟩ := DataW.trod_string Tryd.underlying9 t2
  obtain ⟨a3, e3, _, w3⟩ := DataW.trod_string Tryd.underlying9 t3
  obtain ⟨a4, e4, _, w4⟩ := DataW.trod_int Tryd.underlying3 t4
  simp only [List.cons.injEq, and_true] at e0 e1 e2 e3 e4
  subst e0 e1 e2 e3 e4
  have hc : Tryd.prog.cellsOf 50 = 5 := by kernel_rfl
  refine ⟨⟨a0, a1, a2, a3, a4⟩, fun cf hcell => ⟨⟨?_, ?_, ?_, ?_, ?_⟩, ⟨w0, w1, w2, w3, I64.of_wf w4⟩⟩⟩
  · have := hcell 0 (by omega); rwa [c0] at this
  · have := hcell 1 (by omega); rwa [c1] at this
  · have := hcell 2 (by omega); rwa [c2] at this
  · have := hcell 3 (by omega); rwa [c3] at this
  · have := hcell 4 (by omega); rwa [c4] at this
end
def EntryVal (_ : World) (_ : Md) (v : Value) (x : EntryD) : Prop := v = .agg #[.string (x.module), .string (x.source), .string (x.faces), .string (x.bytes), .int .i64 (x.sum)] ∧ (x.module.size ≤ maxLen ∧ x.source.size ≤ maxLen ∧ x.faces.size ≤ maxLen ∧ x.bytes.size ≤ maxLen ∧ I64 x.sum)
theorem EntryVal.same {w w' : World} {m : Md} {v : Value} {x : EntryD} (h : EntryVal w m v x) (_ : Same m.lo m.hi w w') : EntryVal w' m v x := h
theorem EntryVal.wid {w : World} {m m' : Md} {v : Value} {x : EntryD} (h : EntryVal w m v x) (_ : m'.lo ≤ m.lo) (_ : m.hi ≤ m'.hi) (_ : m'.made = m.made) : EntryVal w m' v x := h
theorem EntryVal.on {w w' : World} {m : Md} {v : Value} {x : EntryD} (h : EntryVal w m v x) (bel : Below m.hi w w') : EntryVal w' m v x := h.same (.of_below bel (Nat.le_refl _))
end Go.Proofs.YtpaljmhoojpbdaaDoor

/- The law's own measure: what it lets through is small. No condition. -/
namespace Go.Proofs.YtpaljmhoojpbdaaDoor
open Go.RowKit

def EntrySm (x : EntryD) : Prop := x.module.size ≤ 1048576 ∧ x.source.size ≤ 1048576 ∧ x.faces.size ≤ 1048576 ∧ x.bytes.size ≤ 1048576
set_option maxHeartbeats 4000000 in
theorem szEntry_any (v : Value) (m : Md) (x : EntryD) (left : Int) (w : World) (h0 : 0 ≤ left) (h1 : left ≤ 1048576) (h : EntryVal w m v x) (_ : m.hi ≤ w.heap.size) :
    Calls Tryd.prog 16 #[v, .int .i64 left] w fun e w' => (∃ k : Int, e = .returned (.int .i64 k) ∧ -1 ≤ k ∧ k ≤ left ∧ (0 ≤ k → EntrySm x)) ∧ Below w.heap.size w w' := by
  obtain ⟨rfl, hb⟩ := h
  obtain ⟨lb0, lb1, lb2, lb3, -⟩ := hb
  unfold maxLen at lb0
  unfold maxLen at lb1
  unfold maxLen at lb2
  unfold maxLen at lb3
  by_cases g0 : left - (x.module.size : Int) < 0
  · go_enter Tryd.func16, Tryd.ntmps16
    go_wp2
    go_ret
    exact ⟨⟨-1, rfl, by omega, by omega, by omega⟩, (Below.refl w.heap.size w).alloc (Nat.le_refl _) _⟩
  · by_cases g1 : (left - (x.module.size : Int)) - (x.source.size : Int) < 0
    · go_enter Tryd.func16, Tryd.ntmps16
      go_wp2
      go_ret
      exact ⟨⟨-1, rfl, by omega, by omega, by omega⟩, (Below.refl w.heap.size w).alloc (Nat.le_refl _) _⟩
    · by_cases g2 : ((left - (x.module.size : Int)) - (x.source.size : Int)) - (x.faces.size : Int) < 0
      · go_enter Tryd.func16, Tryd.ntmps16
        go_wp2
        go_ret
        exact ⟨⟨-1, rfl, by omega, by omega, by omega⟩, (Below.refl w.heap.size w).alloc (Nat.le_refl _) _⟩
      · by_cases g3 : (((left - (x.module.size : Int)) - (x.source.size : Int)) - (x.faces.size : Int)) - (x.bytes.size : Int) < 0
        · go_enter Tryd.func16, Tryd.ntmps16
          go_wp2
          go_ret
          exact ⟨⟨-1, rfl, by omega, by omega, by omega⟩, (Below.refl w.heap.size w).alloc (Nat.le_refl _) _⟩
        · go_enter Tryd.func16, Tryd.ntmps16
          go_wp2
          go_ret
          exact ⟨⟨_, rfl, by omega, by omega, fun hk0 => ⟨by omega, by omega, by omega, by omega⟩⟩, (Below.refl w.heap.size w).alloc (Nat.le_refl _) _⟩
end Go.Proofs.YtpaljmhoojpbdaaDoor

/- The law's own copies: a copy holds what the argument holds, in memory of its own. No condition. -/
namespace Go.Proofs.YtpaljmhoojpbdaaDoor
open Go.RowKit

set_option maxHeartbeats 4000000 in
theorem toEntry_any (v : Value) (m : Md) (x : EntryD) (w : World) (_ : EntrySm x) (h : EntryVal w m v x) (_ : m.hi ≤ w.heap.size) :
    Calls Tryd.prog 18 #[v] w fun e w' => (∃ u, e = .returned u ∧ Hid (EntryVal w' ⟨w.heap.size, w'.heap.size, true⟩ u x)) ∧ Below w.heap.size w w' := by
  obtain ⟨rfl, hb⟩ := h
  have HB := hide hb
  clear hb
  go_enter Tryd.func18, Tryd.ntmps18
  go_wp2
  refine bodyPost_ret (v := .agg #[.string (x.module), .string (x.source), .string (x.faces), .string (x.bytes), .int .i64 (x.sum)]) (by simp [results, Tryd.results18, go_sem]) rfl ⟨⟨_, rfl, hide ⟨rfl, HB.out⟩⟩, ?_⟩
  exact (((Below.refl _ _).alloc (Nat.le_refl _) _).alloc (by simp) _).alloc (by simp; omega) _
end Go.Proofs.YtpaljmhoojpbdaaDoor

namespace Go.Proofs.YtpaljmhoojpbdaaDoor
open Go.ChangeShapes Go.WideShapes Go.ChangeAt Go.RowKit Go.PlainAid Go.Deep

section
variable {H : Type} {enc : TypeId × Value → H} {w : World}
set_option maxRecDepth 100000 in
theorem open_entry {r : Reach} {b0 : Nat} {v : Value} {d : DataW H} {ps : List MemPlace} (hval : Value.okWide Tryd.prog w r b0 50 v) (h : DataW.Trod enc Tryd.prog w 0 (fun _ => true) true 50 v d ps) : ∃ x, EntryVal w ⟨0, w.heap.size, false⟩ v x := by
  obtain ⟨cs, rfl, _⟩ := okWide_struct Tryd.underlying50 hval
  obtain ⟨fuel, h⟩ := h
  obtain ⟨hl, -⟩ := open_fields Tryd.underlying50 (hone_of (by kernel_rfl)) (by kernel_rfl) h
  obtain ⟨x, hx⟩ := opens_Entry _ _ _ h
  obtain ⟨l, rfl⟩ : ∃ l : List Value, cs = l.toArray := ⟨cs.toList, by simp⟩
  obtain ⟨⟨c0, c1, c2, c3, c4⟩, hr⟩ := hx (fun j => l[j]?) (fun j _ => by simp [Value.cells])
  refine ⟨x, ?_, hr⟩
  have hl' : l.length = 5 := by simpa [Value.cells] using hl
  match l, hl' with
  | [a, b, c, d, e], _ =>
    simp only [List.getElem?_cons_zero, List.getElem?_cons_succ, Option.some.injEq] at c0 c1 c2 c3 c4
    subst c0 c1 c2 c3 c4
    rfl
end
set_option maxRecDepth 100000 in
set_option maxHeartbeats 4000000 in
theorem entryLaw_any (x : EntryD) (v : Value) (w : World) (h : EntryVal w ⟨0, w.heap.size, false⟩ v x) (t : TypeId) (fr : Nat × Nat) (hg : w.heap[1]? = some (.cells keyRow t fr)) :
    Calls Tryd.prog 5 #[v] w fun e w' => e = .returned (.bool true) ∧ Below w.heap.size w w' := by
  obtain ⟨fb, hfb⟩ : ∃ fb, enB x.module x.source x.faces x.bytes x.sum = fb := ⟨_, rfl⟩
  have HSz : Hid (∀ w', Below w.heap.size w w' → Calls Tryd.prog 16 #[v, .int .i64 1048576] w' fun e w2 => (∃ k : Int, e = .returned (.int .i64 k) ∧ (0 ≤ k → EntrySm x)) ∧ Below w'.heap.size w' w2) := hide fun w' bel => (szEntry_any v _ x 1048576 w' (by decide) (by decide) (h.on bel) bel.size).mono fun _ _ ⟨⟨k, a, _, _, b⟩, c⟩ => ⟨⟨k, a, b⟩, c⟩
  have HTo : Hid (EntrySm x → ∀ w', Below w.heap.size w w' → Calls Tryd.prog 18 #[v] w' fun e w2 => e = .returned (.agg #[.string (x.module), .string (x.source), .string (x.faces), .string (x.bytes), .int .i64 (x.sum)]) ∧ Below w'.heap.size w' w2) := hide fun hx w' bel => (toEntry_any v _ x w' hx (h.on bel) bel.size).mono fun _ _ ⟨⟨u, e1, hu⟩, c⟩ => ⟨by rw [e1, hu.out.1], c⟩
  have HSp : Hid (EntrySm x → ∀ w', Calls Tryd.prog 17 #[.agg #[.string (x.module), .string (x.source), .string (x.faces), .string (x.bytes), .int .i64 (x.sum)]] w' fun e w2 => e = .returned (.bool fb) ∧ Below w'.heap.size w' w2) := hide fun ⟨a, b, c, d⟩ w' => by
    have := specEntryOK_any x.module x.source x.faces x.bytes x.sum w' a b c d
    rwa [hfb] at this
  have HIm : Hid (EntrySm x → ∀ w', Below w.heap.size w w' → Calls Tryd.prog 19 #[.agg #[.string (x.module), .string (x.source), .string (x.faces), .string (x.bytes), .int .i64 (x.sum)]] w' fun e w2 => e = .returned (.bool fb) ∧ Below w'.heap.size w' w2) := hide fun ⟨a, b, c, d⟩ w' bel => by
    have := implEntryOK_any x.module x.source x.faces x.bytes x.sum w' a b c d t fr ((bel.block _ (Array.getElem?_eq_some_iff.1 hg).1).trans hg)
    rwa [hfb] at this
  obtain ⟨rfl, -⟩ := h
  clear hg hfb
  generalize EntrySm x = Sm at *
  obtain ⟨y0, y1, y2, y3, y4⟩ := x
  simp only [] at HSz HTo HSp HIm ⊢
  go_enter Tryd.func5, Tryd.ntmps5
  go_wp2_with fail
  refine (HSz.out _ ((Below.refl _ _).alloc (Nat.le_refl _) _)).mono ?_
  rintro e w1 ⟨⟨k, rfl, hk⟩, b1⟩
  have hb1 : Below w.heap.size w w1 := ((Below.refl _ _).alloc (Nat.le_refl _) _).trans (b1.mono (by simp))
  have HK := hide hk
  have kc : ∀ j, j < 5 → w1.cell? ⟨w.heap.size, j, none⟩ = (#[Value.string y0, .string y1, .string y2, .string y3, .int .i64 y4])[j]? := fun j _ => (b1.cell (p := ⟨w.heap.size, j, none⟩) (by simp)).trans ((heapCells (Deep.blk_alloc_new w _)).1 j)
  have HKC := hide kc
  have hz1 : w.heap.size < w1.heap.size := by have := b1.size; simp at this; omega
  have k0 := kc 0 (by decide)
  have k1 := kc 1 (by decide)
  have k2 := kc 2 (by decide)
  have k3 := kc 3 (by decide)
  have k4 := kc 4 (by decide)
  simp only [List.getElem?_toArray, List.getElem?_cons_zero, List.getElem?_cons_succ] at k0 k1 k2 k3 k4
  clear b1 hk kc
  by_cases hk0 : k < 0
  · go_wp2
    go_ret
    exact ⟨rfl, hb1⟩
  · have HL := hide (HK.out (by omega))
    go_wp2_with fail
    refine (HTo.out HL.out _ hb1).mono ?_
    rintro e w2 ⟨rfl, b2⟩
    go_wp2_with fail
    refine (HSp.out HL.out _).mono ?_
    rintro e w3 ⟨rfl, b3⟩
    have hb13 := b2.trans (b3.mono b2.size)
    have hb3 := hb1.trans (hb13.mono hb1.size)
    have m0 := (hb13.cell (p := ⟨w.heap.size, 0, none⟩) hz1).trans k0
    have m1 := (hb13.cell (p := ⟨w.heap.size, 1, none⟩) hz1).trans k1
    have m2 := (hb13.cell (p := ⟨w.heap.size, 2, none⟩) hz1).trans k2
    have m3 := (hb13.cell (p := ⟨w.heap.size, 3, none⟩) hz1).trans k3
    have m4 := (hb13.cell (p := ⟨w.heap.size, 4, none⟩) hz1).trans k4
    clear k0 k1 k2 k3 k4 hb13
    go_wp2_with fail
    refine (HTo.out HL.out _ hb3).mono ?_
    rintro e w4 ⟨rfl, b4⟩
    have hb4 := hb3.trans (b4.mono hb3.size)
    go_wp2_with fail
    refine (HIm.out HL.out _ hb4).mono ?_
    rintro e w5 ⟨rfl, b5⟩
    have hb5 := hb4.trans (b5.mono hb4.size)
    go_wp2
    go_ret
    exact ⟨rfl, hb5⟩
theorem enKeys : Tryd.prog.globalNamed "loop.example/g00168/impl.keyWords" = some 1 := by kernel_rfl
theorem enKeysType : (Tryd.prog.globals[1]?).map (·.type) = some 150 := by kernel_rfl
theorem enPlain : (Rows.fnExactEntryOKRow.laid.filter fun x => x.2.handleName?.isNone) = Rows.fnExactEntryOKRow.laid := by kernel_rfl
theorem fnExactEntryOK_core (x : EntryD) (v : Value) (w : World) (h : EntryVal w ⟨0, w.heap.size, false⟩ v x) (hL : laidMetH Tryd.prog Rows.fnExactEntryOKRow.laid w) : Calls Tryd.prog 5 #[v] w fun e w' => e = .returned (.bool true) ∧ Below w.heap.size w w' := by
  obtain ⟨t, fr, hg⟩ := row_of_laid (zs := keys) (name := "loop.example/g00168/impl.keyWords") hL enPlain (by rw [← keys_laid]; simp [Rows.fnExactEntryOKRow]) enKeys enKeysType Tryd.underlying150 Tryd.underlying9 (by kernel_rfl) (by kernel_rfl)
  exact entryLaw_any x v w h t fr hg

theorem fnExactEntryOK_door (os : Os) (args : Array Value) : laidMetH Tryd.prog Rows.fnExactEntryOKRow.laid ((World.doorLaid Tryd.prog 400 os).forCall (fun _ _ => 0) ⟨#[], args, []⟩).memory :=
  laidMetH_of_parts3 (fuel := 8) (laidMet_of_run' 8 (by kernel_rfl) (by kernel_rfl)) (by kernel_rfl) (by kernel_rfl)

set_option maxRecDepth 100000 in
theorem fnExactEntryOK_lifted (os : Os) (started : os.Started) (H : Type) (enc : TypeId × Value → H) :
    ReturnsInHanded {} Tryd.checked os 5 .any (fun w args => (Rows.fnExactEntryOKSpec.pre enc Tryd.prog Tryd.f5 [] false w args ∧ laidMetH Tryd.prog Rows.fnExactEntryOKRow.laid w) ∧ sizedMet enc Tryd.prog Tryd.f5 (OpenSpec.ofChange Rows.fnExactEntryOKSpec) false w args)
      (Rows.fnExactEntryOKSpec.post enc Tryd.prog Tryd.f5 false true false false) := by
  refine returnsInHanded_of_change_and (C := Tryd.checked) (X := fun w _ => laidMetH Tryd.prog Rows.fnExactEntryOKRow.laid w) (fun _ _ _ hh h => h.of_heap hh) (show ownKnob Tryd.prog.godebug = none by kernel_rfl) started (by kernel_rfl) Tryd.func5
    (ChangeSpec.witness_shaped (enc := enc) (C := Tryd.checked) (os := os) (X := fun w _ => laidMetH Tryd.prog Rows.fnExactEntryOKRow.laid w) false (World.doorLaid Tryd.prog 400 os) #[.agg #[.string ByteArray.empty, .string ByteArray.empty, .string ByteArray.empty, .string ByteArray.empty, .int .i64 0]] 8 rfl (World.shaped_of_RefB (by kernel_rfl) (by kernel_rfl)) (by kernel_rfl) (by kernel_rfl) (by kernel_rfl) (fnExactEntryOK_door os _)) ?_
  intro W base args ds gs before hval0 hW _ _ hL _
  have hval : ∀ (j : Nat) t v, Tryd.f5.params[j]? = some t → args[j]? = some v → Value.okWide Tryd.prog W .any base t v := hval0
  have hW' := hW
  obtain ⟨p, q, hA0, hV, rfl, hfz, hnd⟩ := hW
  have hA : DataW.TrodAll enc Tryd.prog W 0 (fun _ => true) true Tryd.f5.params.toList args.toList ds p := hA0
  rw [Tryd.params5] at hA hval
  obtain ⟨v0, d0, rfl, rfl, h0⟩ := trodAll_one hA
  have hgl := vars_len hV
  obtain ⟨g0, g1, rfl⟩ : ∃ g0 g1, gs = [g0, g1] := by
    match gs, hgl with
    | [g0, g1], _ => exact ⟨_, _, rfl⟩
  obtain ⟨a0, b0⟩ := open_entry (hval 0 50 v0 rfl rfl) h0
  clear hA0 hval0
  refine (fnExactEntryOK_core a0 v0 W b0 hL).mono fun e W' ⟨he, bel⟩ => ?_
  subst he
  exact ⟨_, rfl, law_post (show laidOutB Tryd.prog = true by kernel_rfl) (by kernel_rfl) (by kernel_rfl) rfl Tryd.underlying4 hW' rfl bel⟩

theorem fnExactEntryOK_holds : Rows.FnExactEntryOKSaid :=
  OpenClaim.holds_of_wide 5 Tryd.f5 rfl rfl rfl rfl rfl rfl rfl ⟨rfl, rfl, rfl, rfl, rfl⟩ rfl rfl rfl rfl rfl (by kernel_rfl) Tryd.func5 (by kernel_rfl)
    (of_decide_eq_true (by kernel_rfl)) (by unfold Func.isWrapper; first | (rw [if_pos (by decide +kernel)]; kernel_rfl) | (rw [if_neg (by decide +kernel)]; exact ⟨rfl, rfl⟩))
    (fun os started H enc _ => fnExactEntryOK_lifted os started H enc)
#print axioms fnExactEntryOK_holds

theorem fnExactEntryOK_plain (f : FuncId) (fn : Func) (hf : Tryd.pinned.checked.prog.funcNamed "loop.example/g00168/laws.FnExactEntryOK" = some f) (hfn : Tryd.pinned.checked.prog.funcs[f]? = some fn) :
    true = Tryd.pinned.checked.prog.looks [] ∧ ∀ (j : Nat) t, fn.params[j]? = some t → Tryd.pinned.checked.prog.wantsStandIn t = false := by
  obtain rfl : f = 5 := Option.some.inj ((show Tryd.prog.funcNamed "loop.example/g00168/laws.FnExactEntryOK" = some 5 by kernel_rfl).symm.trans hf) |>.symm
  obtain rfl : fn = Tryd.f5 := (Option.some.inj (Tryd.func5.symm.trans hfn)).symm
  refine ⟨by kernel_rfl, fun j t ht => ?_⟩
  rw [Tryd.params5] at ht
  have hm : t ∈ [50] := by
    have hm0 := Array.mem_of_getElem? ht
    simpa using hm0
  have hall : ([50].all fun u => !Tryd.prog.wantsStandIn u) = true := by kernel_rfl
  exact (show Tryd.prog.wantsStandIn t = false by simpa using List.all_eq_true.1 hall t hm)

theorem fnExactEntryOK_card : Rows.FnExactEntryOKCardSaid :=
  Claim7.holds_tied_plain_at .later [] _ _ _ _ fnExactEntryOK_holds (fun _ h => by cases h) (by kernel_rfl) (fun _ h => by cases h) fnExactEntryOK_row_tie rfl ⟨rfl, rfl⟩ (by kernel_rfl) rfl fnExactEntryOK_plain (by kernel_rfl)
#print axioms fnExactEntryOK_card

end Go.Proofs.YtpaljmhoojpbdaaDoor
