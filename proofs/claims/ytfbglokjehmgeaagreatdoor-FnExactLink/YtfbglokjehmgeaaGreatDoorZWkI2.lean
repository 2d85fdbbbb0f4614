/- The program's look at one instruction of its walk. No condition. -/
import Derived.Test.YtfbglokjehmgeaaGreatDoorZWkD
import Derived.Test.YtfbglokjehmgeaaGreatDoorZOps
import Derived.Test.YtfbglokjehmgeaaGreatDoorZVerS0
import Derived.Deep.QuietTactic
/- The program's walk through a code, as it lies in memory; one way on from an instruction. No condition. -/
namespace Go.Proofs.YtfbglokjehmgeaaGreatDoor
open Go.ChangeShapes Go.WideShapes Go.ChangeAt Go.RowKit Go.Deep

/-- A fault as an error. -/
def fvI (c p : Int) : Value := .iface 178 (.agg #[.int .i64 c, .int .i64 p])
def WkC (C : Array Value) (sl : Value) (n : Nat) (d : List Int) (wt : List Bool) : Prop :=
  C.size = 6091 ∧ C[0]? = some sl ∧ (∀ j, j < 90 → C[1 + j]? = opsCells[j]?) ∧ (d.length = n ∧ wt.length = n ∧ n ≤ 2000) ∧ ∀ j, j < n → C[2091 + j]? = some (.bool (decide (0 ≤ d.getD j 0))) ∧ (0 ≤ d.getD j 0 → C[91 + j]? = some (.int .i64 (d.getD j 0))) ∧ C[4091 + j]? = some (.bool (wt.getD j false))
def WkAt (w : World) (g : Nat) (sl : Value) (n : Nat) (d : List Int) (wt : List Bool) : Prop := ∃ C : Array Value, w.heap[g]? = some (.cells C 189 (0, 0)) ∧ WkC C sl n d wt
theorem WkAt.below {w w' : World} {g B : Nat} {sl : Value} {n : Nat} {d : List Int} {wt : List Bool} (h : WkAt w g sl n d wt) (bel : Below B w w') (hg : g < B) : WkAt w' g sl n d wt := by
  obtain ⟨C, h1, h2⟩ := h
  exact ⟨C, (bel.block g hg).trans h1, h2⟩
theorem WkC.unwait {C : Array Value} {sl : Value} {n i : Nat} {d : List Int} {wt : List Bool} (h : WkC C sl n d wt) (hi : i < n) : WkC (C.setIfInBounds (4091 + i) (.bool false)) sl n d (wt.set i false) := by
  obtain ⟨h1, h2, h3, ⟨h4, h5, h6⟩, h7⟩ := h
  refine ⟨by simpa using h1, ?_, fun j hj => ?_, ⟨h4, by simpa using h5, h6⟩, fun j hj => ?_⟩
  · rw [Array.getElem?_setIfInBounds_ne (by omega)]; exact h2
  · rw [Array.getElem?_setIfInBounds_ne (by omega)]; exact h3 j hj
  · obtain ⟨a, b, c⟩ := h7 j hj
    refine ⟨?_, fun q => ?_, ?_⟩
    · rw [Array.getElem?_setIfInBounds_ne (by omega)]; exact a
    · rw [Array.getElem?_setIfInBounds_ne (by omega)]; exact b q
    · rw [getD_set]
      by_cases e : i = j
      · subst e
        rw [if_pos ⟨rfl, by omega⟩, Array.getElem?_setIfInBounds_self_of_lt (by omega)]
      · rw [if_neg (fun q => e q.1), Array.getElem?_setIfInBounds_ne (by omega)]
        exact c
theorem WkC.reach {C C' : Array Value} {sl : Value} {n t : Nat} {y : Int} {d : List Int} {wt : List Bool} (h : WkC C sl n d wt) (ht : t < n) (hy : 0 ≤ y) (hs : C'.size = C.size) (ha : C'[2091 + t]? = some (.bool true)) (hb : C'[4091 + t]? = some (.bool true)) (hc : C'[91 + t]? = some (.int .i64 y))
    (ho : ∀ k, k ≠ 2091 + t → k ≠ 4091 + t → k ≠ 91 + t → C'[k]? = C[k]?) : WkC C' sl n (d.set t y) (wt.set t true) := by
  obtain ⟨h1, h2, h3, ⟨h4, h5, h6⟩, h7⟩ := h
  refine ⟨by rw [hs]; exact h1, ?_, fun j hj => ?_, ⟨by simpa using h4, by simpa using h5, h6⟩, fun j hj => ?_⟩
  · rw [ho _ (by omega) (by omega) (by omega)]; exact h2
  · rw [ho _ (by omega) (by omega) (by omega)]; exact h3 j hj
  · obtain ⟨a, b, c⟩ := h7 j hj
    rw [getD_set, getD_set]
    by_cases e : t = j
    · subst e
      rw [if_pos ⟨rfl, by omega⟩, if_pos ⟨rfl, by omega⟩]
      exact ⟨by rw [ha, decide_eq_true hy], fun _ => hc, hb⟩
    · rw [if_neg (fun q => e q.1), if_neg (fun q => e q.1)]
      refine ⟨?_, fun q => ?_, ?_⟩
      · rw [ho _ (by omega) (by omega) (by omega)]; exact a
      · rw [ho _ (by omega) (by omega) (by omega)]; exact b q
      · rw [ho _ (by omega) (by omega) (by omega)]; exact c
theorem three_set {C : Array Value} {a b c : Nat} {x y z : Value} (hab : a ≠ b) (hac : a ≠ c) (hbc : b ≠ c) (ha : a < C.size) (hb : b < C.size) (hc : c < C.size) :
    (((C.setIfInBounds a x).setIfInBounds b y).setIfInBounds c z).size = C.size ∧ (((C.setIfInBounds a x).setIfInBounds b y).setIfInBounds c z)[a]? = some x ∧ (((C.setIfInBounds a x).setIfInBounds b y).setIfInBounds c z)[b]? = some y ∧ (((C.setIfInBounds a x).setIfInBounds b y).setIfInBounds c z)[c]? = some z ∧ ∀ k, k ≠ a → k ≠ b → k ≠ c → (((C.setIfInBounds a x).setIfInBounds b y).setIfInBounds c z)[k]? = C[k]? := by
  refine ⟨by simp, ?_, ?_, ?_, fun k h1 h2 h3 => ?_⟩
  · rw [Array.getElem?_setIfInBounds_ne (by omega), Array.getElem?_setIfInBounds_ne (by omega), Array.getElem?_setIfInBounds_self_of_lt (by omega)]
  · rw [Array.getElem?_setIfInBounds_ne (by omega), Array.getElem?_setIfInBounds_self_of_lt (by simpa using hb)]
  · rw [Array.getElem?_setIfInBounds_self_of_lt (by simpa using hc)]
  · rw [Array.getElem?_setIfInBounds_ne (by omega), Array.getElem?_setIfInBounds_ne (by omega), Array.getElem?_setIfInBounds_ne (by omega)]
/-- What a step of the walk leaves. -/
def StepR (r : VerW) (g : Nat) (sl : Value) (n : Nat) (w : World) (e : Ending) (w' : World) : Prop := Below g w w' ∧ match r with
  | .bad c p => e = .returned (fvI c p)
  | .go d wt => e = .returned .nilIface ∧ WkAt w' g sl n d wt
theorem StepR.bad {r : VerW} {c p : Int} {g : Nat} {sl : Value} {n : Nat} {w w' : World} (h : r = .bad c p) (hb : Below g w w') : StepR r g sl n w (.returned (.iface 178 (.agg #[.int .i64 c, .int .i64 p]))) w' := by
  subst h
  exact ⟨hb, rfl⟩
theorem StepR.go {r : VerW} {d : List Int} {wt : List Bool} {g : Nat} {sl : Value} {n : Nat} {w w' : World} (h : r = .go d wt) (hb : Below g w w') (hw : WkAt w' g sl n d wt) : StepR r g sl n w (.returned .nilIface) w' := by
  subst h
  exact ⟨hb, rfl, hw⟩
theorem goW_end {n i : Nat} {now : Int} {t : Nat} (d : List Int) (wt : List Bool) (h : t = n) : goW n i now [(t : Int)] d wt = .bad 10 i := by
  rw [goW, if_pos (by omega)]
theorem goW_new {n i : Nat} {now : Int} {t : Nat} {d : List Int} (wt : List Bool) (h : t ≠ n) (k : d.getD t 0 < 0) : goW n i now [(t : Int)] d wt = .go (d.set t now) (wt.set t true) := by
  rw [goW, if_neg (by omega), Int.toNat_natCast, if_pos k]
  rfl
theorem goW_other {n i : Nat} {now : Int} {t : Nat} {d : List Int} (wt : List Bool) (h : t ≠ n) (k : ¬ d.getD t 0 < 0) (q : d.getD t 0 ≠ now) : goW n i now [(t : Int)] d wt = .bad 8 i := by
  rw [goW, if_neg (by omega), Int.toNat_natCast, if_neg k, if_pos q]
theorem goW_same {n i : Nat} {now : Int} {t : Nat} {d : List Int} (wt : List Bool) (h : t ≠ n) (k : ¬ d.getD t 0 < 0) (q : d.getD t 0 = now) : goW n i now [(t : Int)] d wt = .go d wt := by
  rw [goW, if_neg (by omega), Int.toNat_natCast, if_neg k, if_neg (by simpa using q)]
  rfl
set_option maxRecDepth 100000 in
set_option maxHeartbeats 4000000 in
theorem lead_any (g : Nat) (a : Option Addr) (c n i t : Nat) (now : Int) (d : List Int) (wt : List Bool) (w : World) (h : WkAt w g (.slice a n c) n d wt) (ht : t ≤ n) (hn : 0 ≤ now) :
    Calls Tryz.prog 137 #[.pointer (some ⟨g, 0, none⟩), .int .i64 i, .int .i64 t, .int .i64 now] w (StepR (goW n i now [(t : Int)] d wt) g (.slice a n c) n w) := by
  obtain ⟨C, hC, hW⟩ := h
  obtain ⟨h1, h2, h3, ⟨h4, h5, h6⟩, h7⟩ := id hW
  have k0 := ((heapCells hC).1 0).trans h2
  have hgz : g < w.heap.size := (Array.getElem?_eq_some_iff.1 hC).1
  by_cases e : t = n
  · have HG := hide (goW_end (now := now) (i := i) d wt e)
    have eb : ((t : Int) == (n : Int)) = true := by simp [e]
    clear e hW hC h1 h2 h3 h4 h5 h7
    go_enter Tryz.func137, Tryz.ntmps137
    go_wp2
    go_ret
    exact StepR.bad HG.out (Below.refl _ _)
  · have eb : ((t : Int) == (n : Int)) = false := by simp; omega
    have t2 : (t : Int) < 2000 := by omega
    have t3 : t < 2000 := by omega
    obtain ⟨q1, q2, -⟩ := h7 t (by omega)
    obtain ⟨dv, hdv⟩ : ∃ dv, d.getD t 0 = dv := ⟨_, rfl⟩
    rw [hdv] at q1 q2
    have c1 := ((heapCells hC).1 (2091 + t)).trans q1
    have f1 := (heapCells hC).2 (2091 + t)
    by_cases k : dv < 0
    · rw [decide_eq_false (show ¬ 0 ≤ dv by omega)] at c1
      have c2 : ∃ u, w.cell? ⟨g, 4091 + t, none⟩ = some u := ⟨C[4091 + t]'(by omega), ((heapCells hC).1 (4091 + t)).trans (Array.getElem?_eq_getElem (by omega))⟩
      have c3 : ∃ u, w.cell? ⟨g, 91 + t, none⟩ = some u := ⟨C[91 + t]'(by omega), ((heapCells hC).1 (91 + t)).trans (Array.getElem?_eq_getElem (by omega))⟩
      obtain ⟨u2, c2⟩ := c2
      obtain ⟨u3, c3⟩ := c3
      have f2 := (heapCells hC).2 (4091 + t)
      have f3 := (heapCells hC).2 (91 + t)
      have HG := hide (goW_new (now := now) (i := i) (d := d) wt e (by rw [hdv]; exact k))
      have HX := hide (And.intro hC hW)
      have htn : t < n := by omega
      have HS := hide h1
      clear e hW hC h1 h2 h3 h4 h5 h7 q1 q2 hdv k
      go_enter Tryz.func137, Tryz.ntmps137
      go_wp2
      go_region
      all_goals
        go_wp2
        go_ret
        obtain ⟨hC, hW⟩ := HX.out
        have hs := hW.1
        have hn6 := hW.2.2.2.1.2.2
        obtain ⟨s1, s2, s3, s4, s5⟩ := three_set (C := C) (a := 2091 + t) (b := 4091 + t) (c := 91 + t) (x := .bool true) (y := .bool true) (z := .int .i64 now) (by omega) (by omega) (by omega) (by omega) (by omega) (by omega)
        refine StepR.go HG.out ((((Below.refl g w).setCell (p := ⟨g, 2091 + t, none⟩) (Nat.le_refl _) (.bool true)).setCell (p := ⟨g, 4091 + t, none⟩) (Nat.le_refl _) (.bool true)).setCell (p := ⟨g, 91 + t, none⟩) (Nat.le_refl _) (.int .i64 now)).drew ?_
        exact ⟨_, block_set (block_set (block_set hC (.bool true)) (.bool true)) (.int .i64 now), hW.reach (by omega) hn s1 s2 s3 s4 s5⟩
    · have e0 : 0 ≤ dv := by omega
      rw [decide_eq_true e0] at c1
      have c3 := ((heapCells hC).1 (91 + t)).trans (q2 e0)
      have HX := hide (show WkAt w g (.slice a n c) n d wt from ⟨C, hC, hW⟩)
      by_cases q : dv = now
      · have HG := hide (goW_same (now := now) (i := i) (d := d) wt e (by rw [hdv]; exact k) (by rw [hdv]; exact q))
        have qb : (dv != now) = false := by simp [q]
        clear e hW hC h1 h2 h3 h4 h5 h7 q1 q2 hdv k q
        go_enter Tryz.func137, Tryz.ntmps137
        go_wp2
        go_ret
        exact StepR.go HG.out (Below.refl _ _) HX.out
      · have HG := hide (goW_other (now := now) (i := i) (d := d) wt e (by rw [hdv]; exact k) (by rw [hdv]; exact q))
        have qb : (dv != now) = true := by simp [q]
        clear e hW hC h1 h2 h3 h4 h5 h7 q1 q2 hdv k q
        go_enter Tryz.func137, Tryz.ntmps137
        go_wp2
        go_ret
        exact StepR.bad HG.out (Below.refl _ _)
end Go.Proofs.YtfbglokjehmgeaaGreatDoor

namespace Go.Proofs.YtfbglokjehmgeaaGreatDoor
open Go.ChangeShapes Go.WideShapes Go.ChangeAt Go.RowKit Go.Deep

/-- The row of an operation: what it takes and leaves, but for the two that tell it themselves. -/
theorem op_row (k : Nat) (h1 : 1 ≤ k) (h2 : k ≤ 17) : ∃ wd tl lv f1 f2, opsCells[k * 5]? = some (.string wd) ∧ opsCells[k * 5 + 1]? = some (.int .i64 tl) ∧ opsCells[k * 5 + 2]? = some (.int .i64 lv) ∧ opsCells[k * 5 + 3]? = some (.func (.func f1) #[] #[]) ∧ opsCells[k * 5 + 4]? = some (.func (.func f2) #[] #[]) ∧
    ∀ a b mod name, k ≠ 13 → k ≠ 14 → takes ⟨k, a, b, mod, name⟩ = tl ∧ leaves ⟨k, a, b, mod, name⟩ = lv := by
  have : k = 1 ∨ k = 2 ∨ k = 3 ∨ k = 4 ∨ k = 5 ∨ k = 6 ∨ k = 7 ∨ k = 8 ∨ k = 9 ∨ k = 10 ∨ k = 11 ∨ k = 12 ∨ k = 13 ∨ k = 14 ∨ k = 15 ∨ k = 16 ∨ k = 17 := by omega
  rcases this with rfl | rfl | rfl | rfl | rfl | rfl | rfl | rfl | rfl | rfl | rfl | rfl | rfl | rfl | rfl | rfl | rfl <;> exact ⟨_, _, _, _, _, rfl, rfl, rfl, rfl, rfl, fun a b mod name h13 h14 => by first | exact ⟨rfl, rfl⟩ | exact absurd rfl h13 | exact absurd rfl h14⟩
set_option maxHeartbeats 4000000 in
theorem moves_any (k : Nat) (h1 : 1 ≤ k) (h2 : k ≤ 17) (a b : Int) (mod name wd : ByteArray) (tl lv : Int) (f1 f2 : Nat) (hq : k ≠ 13 → k ≠ 14 → takes ⟨k, a, b, mod, name⟩ = tl ∧ leaves ⟨k, a, b, mod, name⟩ = lv) (w : World) :
    Calls Tryz.prog 136 #[.agg #[.int .i64 (k : Int), .int .i64 a, .int .i64 b, .string mod, .string name], .agg #[.string wd, .int .i64 tl, .int .i64 lv, .func (.func f1) #[] #[], .func (.func f2) #[] #[]]] w fun e w' => e = .returned (.tuple #[.int .i64 (takes ⟨k, a, b, mod, name⟩), .int .i64 (leaves ⟨k, a, b, mod, name⟩)]) ∧ Gw w w' := by
  have key : ∀ x y, takes ⟨k, a, b, mod, name⟩ = x → leaves ⟨k, a, b, mod, name⟩ = y → Ending.returned (.tuple #[.int .i64 x, .int .i64 y]) = .returned (.tuple #[.int .i64 (takes ⟨k, a, b, mod, name⟩), .int .i64 (leaves ⟨k, a, b, mod, name⟩)]) := fun x y h k => by rw [h, k]
  have HK := hide key
  by_cases e13 : k = 13
  · have p13 : ((k : Int) == 13) = true := by simp [e13]
    have HR := hide (show takes ⟨k, a, b, mod, name⟩ = a ∧ leaves ⟨k, a, b, mod, name⟩ = b by subst e13; exact ⟨rfl, rfl⟩)
    clear key hq h1 h2 e13
    go_enter Tryz.func136, Tryz.ntmps136
    go_wp2
    all_goals first
      | (go_ret2; exact ⟨HK.out _ _ HR.out.1 HR.out.2, (Gw.one _ _).trans (Gw.one _ _)⟩)
      | (go_quiet (fail); go_wp2; go_ret2; exact ⟨HK.out _ _ HR.out.1 HR.out.2, ((Gw.one _ _).trans (Gw.one _ _)).drewN _⟩)
  · have p13 : ((k : Int) == 13) = false := by simp; omega
    by_cases e14 : k = 14
    · have p14 : ((k : Int) == 14) = true := by simp [e14]
      have HR := hide (show takes ⟨k, a, b, mod, name⟩ = a ∧ leaves ⟨k, a, b, mod, name⟩ = 0 by subst e14; exact ⟨rfl, rfl⟩)
      clear key hq h1 h2 e13 e14
      go_enter Tryz.func136, Tryz.ntmps136
      go_wp2
      all_goals first
        | (go_ret2; exact ⟨HK.out _ _ HR.out.1 HR.out.2, (Gw.one _ _).trans (Gw.one _ _)⟩)
        | (go_quiet (fail); go_wp2; go_ret2; exact ⟨HK.out _ _ HR.out.1 HR.out.2, ((Gw.one _ _).trans (Gw.one _ _)).drewN _⟩)
    · have p14 : ((k : Int) == 14) = false := by simp; omega
      have HR := hide (hq e13 e14)
      clear key hq h1 h2 e13 e14
      go_enter Tryz.func136, Tryz.ntmps136
      go_wp2
      all_goals first
        | (go_ret2; exact ⟨HK.out _ _ HR.out.1 HR.out.2, (Gw.one _ _).trans (Gw.one _ _)⟩)
        | (go_quiet (fail); go_wp2; go_ret2; exact ⟨HK.out _ _ HR.out.1 HR.out.2, ((Gw.one _ _).trans (Gw.one _ _)).drewN _⟩)
end Go.Proofs.YtfbglokjehmgeaaGreatDoor
