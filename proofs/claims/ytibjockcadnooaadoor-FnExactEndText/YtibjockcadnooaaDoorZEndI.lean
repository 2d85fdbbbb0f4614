/- The program's EndText answers 'endT' and 'endC', where its two tables of words hold what the program's text lays in them. -/
import Derived.Test.YtibjockcadnooaaDoorZEndP
import Derived.BigQuiet
import Derived.Deep.RegionWith
namespace Go.Proofs.YtibjockcadnooaaDoor
open Go.RowKit

/-- The two tables of words. -/
def EndTabs (w : World) : Prop := (∀ i, i < 5 → w.cell? ⟨0, i, none⟩ = some (txt (endWs.getD i []))) ∧ (∀ i, i < 6 → w.cell? ⟨1, i, none⟩ = some (txt (trapWs.getD i []))) ∧ 0 < w.heap.size ∧ 1 < w.heap.size
theorem EndTabs.on {w w' : World} (h : EndTabs w) (b : Below w.heap.size w w') : EndTabs w' :=
  ⟨fun i hi => (b.cell h.2.2.1).trans (h.1 i hi), fun i hi => (b.cell h.2.2.2).trans (h.2.1 i hi), Nat.lt_of_lt_of_le h.2.2.1 b.size, Nat.lt_of_lt_of_le h.2.2.2 b.size⟩
theorem one_line {w : World} {a : ByteArray} {T : TypeId} (ha : a.size ≤ 10) : Calls Tryd.prog 13 #[.slice (some ⟨w.heap.size, 0, none⟩) 1 1] (w.alloc (.cells #[.string a] T)) fun e w' => e = .returned (.string (lineB [a])) ∧ Below w.heap.size w w' :=
  (lineOf_any w.heap.size 0 1 1 [a] (w.alloc (.cells #[.string a] T)) rfl (fun j x hx => by
    match j, hx with
    | 0, hx => cases hx; exact (heapCells (w := w.alloc (.cells #[.string a] T)) (Deep.blk_alloc_new w _)).1 0) (show w.heap.size < (w.alloc _).heap.size by simp) (by simp) (by simp) (by
    have : a.data.toList.length = a.size := Array.length_toList
    rw [List.map_cons, List.map_nil, Lib.join_one]
    omega)).mono fun _ _ ⟨x, y⟩ => ⟨x, ((Below.refl _ _).alloc (Nat.le_refl _) _).trans (y.mono (show w.heap.size ≤ (w.alloc _).heap.size by simp))⟩
theorem two_line {w : World} {a b : ByteArray} {T : TypeId} (ha : a.size ≤ 10) (hb : b.size ≤ 10) : Calls Tryd.prog 13 #[.slice (some ⟨w.heap.size, 0, none⟩) 2 2] (w.alloc (.cells #[.string a, .string b] T)).drew fun e w' => e = .returned (.string (lineB [a, b])) ∧ Below w.heap.size w w' :=
  (lineOf_any w.heap.size 0 2 2 [a, b] (w.alloc (.cells #[.string a, .string b] T)).drew rfl (fun j x hx => by
    match j, hx with
    | 0, hx => cases hx; exact (heapCells (w := (w.alloc (.cells #[.string a, .string b] T)).drew) (Deep.blk_alloc_new w _)).1 0
    | 1, hx => cases hx; exact (heapCells (w := (w.alloc (.cells #[.string a, .string b] T)).drew) (Deep.blk_alloc_new w _)).1 1) (show w.heap.size < (w.alloc _).heap.size by simp) (by simp) (by simp) (by
    have h1 : a.data.toList.length = a.size := Array.length_toList
    have h2 : b.data.toList.length = b.size := Array.length_toList
    rw [List.map_cons, Lib.join_cons]
    simp only [Lib.joinTail, List.map_cons, List.map_nil, List.flatten_cons, List.flatten_nil, List.length_append, List.length_cons, List.length_nil]; omega)).mono fun _ _ ⟨x, y⟩ => ⟨x, (((Below.refl _ _).alloc (Nat.le_refl _) _).drew).trans (y.mono (show w.heap.size ≤ (w.alloc _).heap.size by simp))⟩
set_option maxRecDepth 100000 in
set_option maxHeartbeats 4000000 in
theorem implEndText_any (e t us : Int) (u : Value) (w : World) (hT : EndTabs w) :
    Calls Tryd.prog 7 #[.agg #[.int .i64 e, .int .i64 t, u, .int .i64 us]] w fun r w' => r = .returned (.tuple #[.string (endT e t), .int .i64 (endC e t)]) ∧ Below w.heap.size w w' := by
  have bA : Below w.heap.size w (w.alloc (.cells #[.int .i64 e, .int .i64 t, u, .int .i64 us] 30)) := (Below.refl _ _).alloc (Nat.le_refl _) _
  have HT := hide (hT.on bA)
  have HB := hide bA
  clear bA hT
  by_cases he : 1 ≤ e ∧ e ≤ 4
  · obtain ⟨g1, g4⟩ := he
    by_cases ht5 : 1 ≤ t ∧ t ≤ 5
    · by_cases e2 : e = 2
      · subst e2
        obtain ⟨t3, t4⟩ := ht5
        have ho : t = 1 ∨ t = 2 ∨ t = 3 ∨ t = 4 ∨ t = 5 := by omega
        obtain ⟨a1, a2⟩ := end_ok (e := 2) (t := t) ⟨by omega, by omega⟩
        rw [a1, a2]
        clear a1 a2 g1 g4 t3 t4
        obtain ⟨X, hX⟩ : ∃ X : ByteArray, ⟨#[116, 114, 97, 112]⟩ = X := ⟨_, rfl⟩
        have q2 : (w.alloc (.cells #[.int .i64 2, .int .i64 t, u, .int .i64 us] 30)).cell? ⟨0, 2, none⟩ = some (Value.string X) := by rw [← hX]; exact HT.out.1 2 (by decide)
        have hxs : X.size ≤ 10 := by rw [← hX]; decide
        rcases ho with rfl | rfl | rfl | rfl | rfl
        · obtain ⟨Y, hY⟩ : ∃ Y : ByteArray, ⟨#[122, 101, 114, 111]⟩ = Y := ⟨_, rfl⟩
          have q1 : (w.alloc (.cells #[.int .i64 2, .int .i64 1, u, .int .i64 us] 30)).cell? ⟨1, 1, none⟩ = some (Value.string Y) := by rw [← hY]; exact HT.out.2.1 1 (by decide)
          have hys : Y.size ≤ 10 := by rw [← hY]; decide
          have hZ : lineB [X, Y] = ⟨(endU 2 1).toArray⟩ := by rw [← hX, ← hY]; rfl
          have HL : Hid (∀ b w' T, w'.heap.size = b → Calls Tryd.prog 13 #[.slice (some ⟨b, 0, none⟩) 2 2] (w'.alloc (.cells #[.string X, .string Y] T)).drew fun e w2 => e = .returned (.string (lineB [X, Y])) ∧ Below w'.heap.size w' w2) := hide fun b w' T e => by subst e; exact two_line (w := w') (T := T) hxs hys
          rw [hZ] at HL
          generalize (⟨(endU 2 1).toArray⟩ : ByteArray) = Z at *
          clear hX hY hxs hys hZ
          go_enter Tryd.func7, Tryd.ntmps7
          go_wp2_with fail
          go_region_with (go_at_call 13; refine (HL.out _ _ _ (by simp)).mono ?_; rintro e w3 ⟨rfl, b3⟩)
          all_goals
            go_wp2
            go_ret2
            exact ⟨rfl, HB.out.trans (b3.mono (by simp))⟩
        · obtain ⟨Y, hY⟩ : ∃ Y : ByteArray, ⟨#[105, 110, 100, 101, 120]⟩ = Y := ⟨_, rfl⟩
          have q1 : (w.alloc (.cells #[.int .i64 2, .int .i64 2, u, .int .i64 us] 30)).cell? ⟨1, 2, none⟩ = some (Value.string Y) := by rw [← hY]; exact HT.out.2.1 2 (by decide)
          have hys : Y.size ≤ 10 := by rw [← hY]; decide
          have hZ : lineB [X, Y] = ⟨(endU 2 2).toArray⟩ := by rw [← hX, ← hY]; rfl
          have HL : Hid (∀ b w' T, w'.heap.size = b → Calls Tryd.prog 13 #[.slice (some ⟨b, 0, none⟩) 2 2] (w'.alloc (.cells #[.string X, .string Y] T)).drew fun e w2 => e = .returned (.string (lineB [X, Y])) ∧ Below w'.heap.size w' w2) := hide fun b w' T e => by subst e; exact two_line (w := w') (T := T) hxs hys
          rw [hZ] at HL
          generalize (⟨(endU 2 2).toArray⟩ : ByteArray) = Z at *
          clear hX hY hxs hys hZ
          go_enter Tryd.func7, Tryd.ntmps7
          go_wp2_with fail
          go_region_with (go_at_call 13; refine (HL.out _ _ _ (by simp)).mono ?_; rintro e w3 ⟨rfl, b3⟩)
          all_goals
            go_wp2
            go_ret2
            exact ⟨rfl, HB.out.trans (b3.mono (by simp))⟩
        · obtain ⟨Y, hY⟩ : ∃ Y : ByteArray, ⟨#[99, 104, 97, 114]⟩ = Y := ⟨_, rfl⟩
          have q1 : (w.alloc (.cells #[.int .i64 2, .int .i64 3, u, .int .i64 us] 30)).cell? ⟨1, 3, none⟩ = some (Value.string Y) := by rw [← hY]; exact HT.out.2.1 3 (by decide)
          have hys : Y.size ≤ 10 := by rw [← hY]; decide
          have hZ : lineB [X, Y] = ⟨(endU 2 3).toArray⟩ := by rw [← hX, ← hY]; rfl
          have HL : Hid (∀ b w' T, w'.heap.size = b → Calls Tryd.prog 13 #[.slice (some ⟨b, 0, none⟩) 2 2] (w'.alloc (.cells #[.string X, .string Y] T)).drew fun e w2 => e = .returned (.string (lineB [X, Y])) ∧ Below w'.heap.size w' w2) := hide fun b w' T e => by subst e; exact two_line (w := w') (T := T) hxs hys
          rw [hZ] at HL
          generalize (⟨(endU 2 3).toArray⟩ : ByteArray) = Z at *
          clear hX hY hxs hys hZ
          go_enter Tryd.func7, Tryd.ntmps7
          go_wp2_with fail
          go_region_with (go_at_call 13; refine (HL.out _ _ _ (by simp)).mono ?_; rintro e w3 ⟨rfl, b3⟩)
          all_goals
            go_wp2
            go_ret2
            exact ⟨rfl, HB.out.trans (b3.mono (by simp))⟩
        · obtain ⟨Y, hY⟩ : ∃ Y : ByteArray, ⟨#[105, 110, 112, 117, 116]⟩ = Y := ⟨_, rfl⟩
          have q1 : (w.alloc (.cells #[.int .i64 2, .int .i64 4, u, .int .i64 us] 30)).cell? ⟨1, 4, none⟩ = some (Value.string Y) := by rw [← hY]; exact HT.out.2.1 4 (by decide)
          have hys : Y.size ≤ 10 := by rw [← hY]; decide
          have hZ : lineB [X, Y] = ⟨(endU 2 4).toArray⟩ := by rw [← hX, ← hY]; rfl
          have HL : Hid (∀ b w' T, w'.heap.size = b → Calls Tryd.prog 13 #[.slice (some ⟨b, 0, none⟩) 2 2] (w'.alloc (.cells #[.string X, .string Y] T)).drew fun e w2 => e = .returned (.string (lineB [X, Y])) ∧ Below w'.heap.size w' w2) := hide fun b w' T e => by subst e; exact two_line (w := w') (T := T) hxs hys
          rw [hZ] at HL
          generalize (⟨(endU 2 4).toArray⟩ : ByteArray) = Z at *
          clear hX hY hxs hys hZ
          go_enter Tryd.func7, Tryd.ntmps7
          go_wp2_with fail
          go_region_with (go_at_call 13; refine (HL.out _ _ _ (by simp)).mono ?_; rintro e w3 ⟨rfl, b3⟩)
          all_goals
            go_wp2
            go_ret2
            exact ⟨rfl, HB.out.trans (b3.mono (by simp))⟩
        · obtain ⟨Y, hY⟩ : ∃ Y : ByteArray, ⟨#[114, 101, 115, 117, 108, 116]⟩ = Y := ⟨_, rfl⟩
          have q1 : (w.alloc (.cells #[.int .i64 2, .int .i64 5, u, .int .i64 us] 30)).cell? ⟨1, 5, none⟩ = some (Value.string Y) := by rw [← hY]; exact HT.out.2.1 5 (by decide)
          have hys : Y.size ≤ 10 := by rw [← hY]; decide
          have hZ : lineB [X, Y] = ⟨(endU 2 5).toArray⟩ := by rw [← hX, ← hY]; rfl
          have HL : Hid (∀ b w' T, w'.heap.size = b → Calls Tryd.prog 13 #[.slice (some ⟨b, 0, none⟩) 2 2] (w'.alloc (.cells #[.string X, .string Y] T)).drew fun e w2 => e = .returned (.string (lineB [X, Y])) ∧ Below w'.heap.size w' w2) := hide fun b w' T e => by subst e; exact two_line (w := w') (T := T) hxs hys
          rw [hZ] at HL
          generalize (⟨(endU 2 5).toArray⟩ : ByteArray) = Z at *
          clear hX hY hxs hys hZ
          go_enter Tryd.func7, Tryd.ntmps7
          go_wp2_with fail
          go_region_with (go_at_call 13; refine (HL.out _ _ _ (by simp)).mono ?_; rintro e w3 ⟨rfl, b3⟩)
          all_goals
            go_wp2
            go_ret2
            exact ⟨rfl, HB.out.trans (b3.mono (by simp))⟩
      · obtain ⟨a1, a2⟩ := end_bad (e := e) (t := t) (fun h => e2 (h.2.1 ht5))
        rw [a1, a2]
        have ho : e = 1 ∨ e = 3 ∨ e = 4 := by omega
        clear a1 a2 HT g1 g4 e2
        obtain ⟨t3, t4⟩ := ht5
        rcases ho with rfl | rfl | rfl <;>
        · go_enter Tryd.func7, Tryd.ntmps7
          go_wp2
          go_ret2
          exact ⟨rfl, HB.out⟩
    · by_cases e2 : e = 2
      · subst e2
        obtain ⟨a1, a2⟩ := end_bad (e := 2) (t := t) (fun h => ht5 (h.2.2 rfl))
        rw [a1, a2]
        clear a1 a2 HT g1 g4
        rcases Int.lt_or_le t 1 with ht1 | ht1
        · have i1 : ¬ 1 ≤ t := by omega
          clear ht5 ht1
          go_enter Tryd.func7, Tryd.ntmps7
          go_wp2
          go_ret2
          exact ⟨rfl, HB.out⟩
        · have i2 : ¬ t ≤ 5 := by omega
          clear ht5
          go_enter Tryd.func7, Tryd.ntmps7
          go_wp2
          go_ret2
          exact ⟨rfl, HB.out⟩
      · have ho : e = 1 ∨ e = 3 ∨ e = 4 := by omega
        obtain ⟨a1, a2⟩ := end_ok (e := e) (t := t) ⟨⟨g1, g4⟩, by simp [ht5, e2]⟩
        rw [a1, a2]
        clear a1 a2 g1 g4 e2
        rcases ho with rfl | rfl | rfl
        · obtain ⟨X, hX⟩ : ∃ X : ByteArray, ⟨#[104, 97, 108, 116]⟩ = X := ⟨_, rfl⟩
          have q2 : (w.alloc (.cells #[.int .i64 1, .int .i64 t, u, .int .i64 us] 30)).cell? ⟨0, 1, none⟩ = some (Value.string X) := by rw [← hX]; exact HT.out.1 1 (by decide)
          have hxs : X.size ≤ 10 := by rw [← hX]; decide
          have hZ : lineB [X] = ⟨(endU 1 t).toArray⟩ := by rw [← hX]; rfl
          have HL : Hid (∀ b w' T, w'.heap.size = b → Calls Tryd.prog 13 #[.slice (some ⟨b, 0, none⟩) 1 1] (w'.alloc (.cells #[.string X] T)) fun e w2 => e = .returned (.string (lineB [X])) ∧ Below w'.heap.size w' w2) := hide fun b w' T e => by subst e; exact one_line (w := w') (T := T) hxs
          rw [hZ] at HL
          generalize (⟨(endU 1 t).toArray⟩ : ByteArray) = Z at *
          clear hX hxs hZ
          rcases Int.lt_or_le t 1 with ht1 | ht1
          · have i1 : ¬ 1 ≤ t := by omega
            clear ht5 ht1
            go_enter Tryd.func7, Tryd.ntmps7
            go_wp2_with (go_at_call 13; refine (HL.out _ _ _ (by simp)).mono ?_; rintro e w3 ⟨rfl, b3⟩)
            go_ret2
            exact ⟨rfl, HB.out.trans (b3.mono (by simp))⟩
          · have i2 : ¬ t ≤ 5 := by omega
            clear ht5
            go_enter Tryd.func7, Tryd.ntmps7
            go_wp2_with (go_at_call 13; refine (HL.out _ _ _ (by simp)).mono ?_; rintro e w3 ⟨rfl, b3⟩)
            go_ret2
            exact ⟨rfl, HB.out.trans (b3.mono (by simp))⟩
        · obtain ⟨X, hX⟩ : ∃ X : ByteArray, ⟨#[102, 117, 101, 108]⟩ = X := ⟨_, rfl⟩
          have q2 : (w.alloc (.cells #[.int .i64 3, .int .i64 t, u, .int .i64 us] 30)).cell? ⟨0, 3, none⟩ = some (Value.string X) := by rw [← hX]; exact HT.out.1 3 (by decide)
          have hxs : X.size ≤ 10 := by rw [← hX]; decide
          have hZ : lineB [X] = ⟨(endU 3 t).toArray⟩ := by rw [← hX]; rfl
          have HL : Hid (∀ b w' T, w'.heap.size = b → Calls Tryd.prog 13 #[.slice (some ⟨b, 0, none⟩) 1 1] (w'.alloc (.cells #[.string X] T)) fun e w2 => e = .returned (.string (lineB [X])) ∧ Below w'.heap.size w' w2) := hide fun b w' T e => by subst e; exact one_line (w := w') (T := T) hxs
          rw [hZ] at HL
          generalize (⟨(endU 3 t).toArray⟩ : ByteArray) = Z at *
          clear hX hxs hZ
          rcases Int.lt_or_le t 1 with ht1 | ht1
          · have i1 : ¬ 1 ≤ t := by omega
            clear ht5 ht1
            go_enter Tryd.func7, Tryd.ntmps7
            go_wp2_with (go_at_call 13; refine (HL.out _ _ _ (by simp)).mono ?_; rintro e w3 ⟨rfl, b3⟩)
            go_ret2
            exact ⟨rfl, HB.out.trans (b3.mono (by simp))⟩
          · have i2 : ¬ t ≤ 5 := by omega
            clear ht5
            go_enter Tryd.func7, Tryd.ntmps7
            go_wp2_with (go_at_call 13; refine (HL.out _ _ _ (by simp)).mono ?_; rintro e w3 ⟨rfl, b3⟩)
            go_ret2
            exact ⟨rfl, HB.out.trans (b3.mono (by simp))⟩
        · obtain ⟨X, hX⟩ : ∃ X : ByteArray, ⟨#[114, 111, 111, 109]⟩ = X := ⟨_, rfl⟩
          have q2 : (w.alloc (.cells #[.int .i64 4, .int .i64 t, u, .int .i64 us] 30)).cell? ⟨0, 4, none⟩ = some (Value.string X) := by rw [← hX]; exact HT.out.1 4 (by decide)
          have hxs : X.size ≤ 10 := by rw [← hX]; decide
          have hZ : lineB [X] = ⟨(endU 4 t).toArray⟩ := by rw [← hX]; rfl
          have HL : Hid (∀ b w' T, w'.heap.size = b → Calls Tryd.prog 13 #[.slice (some ⟨b, 0, none⟩) 1 1] (w'.alloc (.cells #[.string X] T)) fun e w2 => e = .returned (.string (lineB [X])) ∧ Below w'.heap.size w' w2) := hide fun b w' T e => by subst e; exact one_line (w := w') (T := T) hxs
          rw [hZ] at HL
          generalize (⟨(endU 4 t).toArray⟩ : ByteArray) = Z at *
          clear hX hxs hZ
          rcases Int.lt_or_le t 1 with ht1 | ht1
          · have i1 : ¬ 1 ≤ t := by omega
            clear ht5 ht1
            go_enter Tryd.func7, Tryd.ntmps7
            go_wp2_with (go_at_call 13; refine (HL.out _ _ _ (by simp)).mono ?_; rintro e w3 ⟨rfl, b3⟩)
            go_ret2
            exact ⟨rfl, HB.out.trans (b3.mono (by simp))⟩
          · have i2 : ¬ t ≤ 5 := by omega
            clear ht5
            go_enter Tryd.func7, Tryd.ntmps7
            go_wp2_with (go_at_call 13; refine (HL.out _ _ _ (by simp)).mono ?_; rintro e w3 ⟨rfl, b3⟩)
            go_ret2
            exact ⟨rfl, HB.out.trans (b3.mono (by simp))⟩
  · obtain ⟨a1, a2⟩ := end_bad (e := e) (t := t) (fun h => he h.1)
    rw [a1, a2]
    clear a1 a2 HT
    rcases Int.lt_or_le e 1 with he1 | he1
    · have i1 : ¬ 1 ≤ e := by omega
      clear he he1
      by_cases t1 : 1 ≤ t
      · by_cases t5 : t ≤ 5
        · go_enter Tryd.func7, Tryd.ntmps7
          go_wp2
          go_ret2
          exact ⟨rfl, HB.out⟩
        · go_enter Tryd.func7, Tryd.ntmps7
          go_wp2
          go_ret2
          exact ⟨rfl, HB.out⟩
      · go_enter Tryd.func7, Tryd.ntmps7
        go_wp2
        go_ret2
        exact ⟨rfl, HB.out⟩
    · have i2 : ¬ e ≤ 4 := by omega
      clear he
      by_cases t1 : 1 ≤ t
      · by_cases t5 : t ≤ 5
        · go_enter Tryd.func7, Tryd.ntmps7
          go_wp2
          go_ret2
          exact ⟨rfl, HB.out⟩
        · go_enter Tryd.func7, Tryd.ntmps7
          go_wp2
          go_ret2
          exact ⟨rfl, HB.out⟩
      · go_enter Tryd.func7, Tryd.ntmps7
        go_wp2
        go_ret2
        exact ⟨rfl, HB.out⟩
end Go.Proofs.YtibjockcadnooaaDoor
