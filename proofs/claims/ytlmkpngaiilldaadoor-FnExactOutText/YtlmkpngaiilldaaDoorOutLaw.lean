/- FnExactOutText: at every list of things told the program's OutText answers as the model's, text and code, and the list reads as it did. Listed: the library's tables that the road reads, tied or pinned. No other condition. -/
import Derived.Test.YtlmkpngaiilldaaDoorImplM
import Derived.Test.YtlmkpngaiilldaaDoorSpecO
import Derived.Test.YtlmkpngaiilldaaDoorOutSz
import Derived.Test.YtlmkpngaiilldaaDoorOutTo
import Derived.Test.YtlmkpngaiilldaaDoorOutEq
import Derived.Test.YtlmkpngaiilldaaDoorCards
import Derived.Test.YtlmkpngaiilldaaDoorTie
import Derived.LaidMore
import Derived.Lay
import Derived.Stop.Joined
import Derived.SevenTiedAt
namespace Go.Proofs.YtlmkpngaiilldaaDoor
open Go.ChangeShapes Go.WideShapes Go.ChangeAt Go.RowKit Go.Deep

section
variable {H : Type} {enc : TypeId × Value → H} {w : World}
set_option maxRecDepth 100000 in
theorem open_outs {r : Reach} {b0 : Nat} {v : Value} {d : DataW H} {ps : List MemPlace} (hval : Value.okWide Tryd.prog w r b0 35 v) (h : DataW.Trod enc Tryd.prog w 0 (fun _ => true) true 35 v d ps) : ∃ l, SlAt OutAt 2 w ⟨0, w.heap.size, false⟩ v l ∧ l.length ≤ maxLen := by
  obtain ⟨a, len, cap, rfl⟩ := okWide_slice Tryd.underlying35 hval
  obtain ⟨fuel, h⟩ := h
  obtain ⟨u, l, e, hs, hl⟩ := opens_slice Tryd.underlying35 (of_decide_eq_true (by kernel_rfl)) opens_Out h
  have hp : Tryd.prog.cellsOf 64 = 2 := by kernel_rfl
  rw [hp] at hs
  have e2 : [Value.slice a len cap] = [u] := by simpa [Value.cells] using e
  cases e2
  exact ⟨l, hs, hl⟩
end
set_option maxRecDepth 100000 in
set_option maxHeartbeats 4000000 in
theorem outLaw_any (l : List OutD) (v : Value) (w : World) (h : SlAt OutAt 2 w ⟨0, w.heap.size, false⟩ v l) (hl : l.length ≤ maxLen) (hT : Tabs w) :
    Calls Tryd.prog 4 #[v] w fun e w' => e = .returned (.bool true) ∧ Below w.heap.size w w' := by
  obtain ⟨T1, hT1⟩ : ∃ T1, (outA l).1 = T1 := ⟨_, rfl⟩
  obtain ⟨T2, hT2⟩ : ∃ T2, (outA l).2 = T2 := ⟨_, rfl⟩
  have HSz : Hid (Calls Tryd.prog 10 #[v, .int .i64 1048576] w fun e w2 => (∃ k : Int, e = .returned (.int .i64 k) ∧ (0 ≤ k → l.length ≤ 1048576)) ∧ Below w.heap.size w w2) := hide ((szOutS_any v _ l 1048576 w (by decide) (by decide) hl h (Nat.le_refl _)).mono fun _ _ ⟨⟨k, a, _, _, b⟩, c⟩ => ⟨⟨k, a, fun hk => by have := (b hk).1; omega⟩, c⟩)
  have HSp : Hid (∀ w' m u, SlAt OutAt 2 w' m u l → m.hi ≤ w'.heap.size → Calls Tryd.prog 11 #[u] w' fun e w2 => e = .returned (.tuple #[.string T1, .int .i64 T2]) ∧ Below w'.heap.size w' w2) := hide fun w' m u hu hm => by
    have := specOutText_any u m l w' hu hm
    rwa [hT1, hT2] at this
  have HIm : Hid (∀ w' m u, Below w.heap.size w w' → SlAt OutAt 2 w' m u l → m.hi ≤ w'.heap.size → Calls Tryd.prog 13 #[u] w' fun e w2 => e = .returned (.tuple #[.string T1, .int .i64 T2]) ∧ Below w'.heap.size w' w2) := hide fun w' m u bel hu hm => by
    have := implOutText_any u m l w' hu hm (hT.on bel)
    rwa [hT1, hT2] at this
  have HTo : Hid (l.length ≤ 1048576 → ∀ w', Below w.heap.size w w' → Calls Tryd.prog 12 #[v] w' fun e w2 => (∃ u, e = .returned u ∧ Hid (SlAt OutAt 2 w2 ⟨w'.heap.size, w2.heap.size, true⟩ u l)) ∧ Below w'.heap.size w' w2) := hide fun hx w' bel => toOutS_any v _ l w' hx (h.on OutAt.stays bel) bel.size
  have HEq : Hid (∀ w' v v' m m', SlAt OutAt 2 w' m v l → SlAt OutAt 2 w' m' v' l → m.hi ≤ w'.heap.size → m'.hi ≤ w'.heap.size → Calls Tryd.prog 14 #[v, v'] w' fun e w2 => e = .returned (.bool true) ∧ Below w'.heap.size w' w2) := hide fun w' v v' m m' a b c d => eqOutS_same v v' m m' l w' hl a b c d
  clear h hl hT hT1 hT2
  go_enter Tryd.func4, Tryd.ntmps4
  go_wp2_with fail
  refine HSz.out.mono ?_
  rintro e w1 ⟨⟨k, rfl, hk⟩, b1⟩
  have HK := hide hk
  clear hk
  by_cases hk0 : k < 0
  · go_wp2
    go_ret
    exact ⟨rfl, b1⟩
  · have HL := hide (HK.out (by omega))
    go_wp2_with fail
    refine (HTo.out HL.out _ b1).mono ?_
    rintro e w2 ⟨⟨u2, rfl, h2⟩, b2⟩
    go_wp2_with fail
    refine (HSp.out _ _ _ h2.out (Nat.le_refl _)).mono ?_
    rintro e w3 ⟨rfl, b3⟩
    have hb3 := b1.trans ((b2.trans (b3.mono b2.size)).mono b1.size)
    go_wp2_with fail
    refine (HTo.out HL.out _ hb3).mono ?_
    rintro e w4 ⟨⟨u4, rfl, h4⟩, b4⟩
    have hb4 := hb3.trans (b4.mono hb3.size)
    go_wp2_with fail
    refine (HIm.out _ _ _ hb4 h4.out (Nat.le_refl _)).mono ?_
    rintro e w5 ⟨rfl, b5⟩
    have hb5 := hb4.trans (b5.mono hb4.size)
    have H5 := hide (h4.out.on OutAt.stays b5)
    go_wp2_with fail
    refine (HTo.out HL.out _ hb5).mono ?_
    rintro e w6 ⟨⟨u6, rfl, h6⟩, b6⟩
    have hb6 := hb5.trans (b6.mono hb5.size)
    have H6 := hide (H5.out.on OutAt.stays (b6.mono b5.size))
    go_wp2_with fail
    refine (HEq.out _ _ _ _ _ H6.out h6.out (Nat.le_trans b5.size b6.size) (Nat.le_refl _)).mono ?_
    rintro e w7 ⟨rfl, b7⟩
    go_wp2
    go_ret
    exact ⟨rfl, hb6.trans (b7.mono hb6.size)⟩
end Go.Proofs.YtlmkpngaiilldaaDoor
