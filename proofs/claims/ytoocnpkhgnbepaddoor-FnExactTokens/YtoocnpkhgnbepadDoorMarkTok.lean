/- The law's marks in a list of tokens: laid, and found again. -/
import Derived.Test.YtoocnpkhgnbepadDoorEqTok
import Derived.Lib.SmallJoins
namespace Go.Proofs.YtoocnpkhgnbepadDoor
open Go.RowKit Go.PlainAid

/-- Cells that bear the marks of element i. -/
def MarkAt (cur : Array Value) (i : Nat) : Prop :=
  cur[i * 4]? = some (.int .i64 (1 + 4 * (i : Int))) ∧ cur[i * 4 + 1]? = some (.int .i64 (1 + 4 * (i : Int) + 1)) ∧ cur[i * 4 + 2]? = some (.string (mt (1 + 4 * (i : Int) + 1 + 1))) ∧ cur[i * 4 + 3]? = some (.int .i64 (1 + 4 * (i : Int) + 1 + 1 + 1))
theorem lt_of_cell {w : World} {g i : Nat} {v : Value} (h : w.cell? ⟨g, i, none⟩ = some v) : g < w.heap.size := by
  cases e : w.heap[g]? with
  | none => simp [World.cell?, e] at h
  | some o => exact (Array.getElem?_eq_some_iff.1 e).1
def Marked (w : World) (g n : Nat) : Prop := ∃ cur, w.heap[g]? = some (.cells cur 41 (0, 0)) ∧ ∀ i, i < n → MarkAt cur i
theorem Marked.on {w w' : World} {g n : Nat} (h : Marked w g n) (bel : Below w.heap.size w w') : Marked w' g n := by
  obtain ⟨cur, a, b⟩ := h
  exact ⟨cur, by rw [bel.block g (Array.getElem?_eq_some_iff.1 a).1]; exact a, b⟩
theorem heapCells {w : World} {b : Nat} {C : Array Value} {T : TypeId} (h : w.heap[b]? = some (.cells C T (0, 0))) : (∀ j, w.cell? ⟨b, j, none⟩ = C[j]?) ∧ ∀ j, w.frozen? ⟨b, j, none⟩ = false := by
  constructor
  · intro j; simp [World.cell?, h]
  · intro j; simp [World.frozen?, h]
/-- What element k's stores make of the cells. -/
def putMark (cur : Array Value) (k : Nat) (a b c d : Value) : Array Value := (((cur.setIfInBounds (k * 4) a).setIfInBounds (k * 4 + 1) b).setIfInBounds (k * 4 + 2) c).setIfInBounds (k * 4 + 3) d
theorem putMark_old {cur : Array Value} {k i : Nat} {a b c d : Value} (h : MarkAt cur i) (hi : i < k) : MarkAt (putMark cur k a b c d) i := by
  obtain ⟨h0, h1, h2, h3⟩ := h
  unfold MarkAt putMark
  refine ⟨?_, ?_, ?_, ?_⟩
  all_goals
    rw [Array.getElem?_setIfInBounds_ne (by omega), Array.getElem?_setIfInBounds_ne (by omega), Array.getElem?_setIfInBounds_ne (by omega), Array.getElem?_setIfInBounds_ne (by omega)]
    assumption
theorem putMark_new {cur : Array Value} {k : Nat} {a b c d : Value} (h : k * 4 + 4 ≤ cur.size) : (putMark cur k a b c d)[k * 4]? = some a ∧ (putMark cur k a b c d)[k * 4 + 1]? = some b ∧ (putMark cur k a b c d)[k * 4 + 2]? = some c ∧ (putMark cur k a b c d)[k * 4 + 3]? = some d := by
  unfold putMark
  refine ⟨?_, ?_, ?_, ?_⟩
  · rw [Array.getElem?_setIfInBounds_ne (by omega), Array.getElem?_setIfInBounds_ne (by omega), Array.getElem?_setIfInBounds_ne (by omega), Array.getElem?_setIfInBounds_self_of_lt (by omega)]
  · rw [Array.getElem?_setIfInBounds_ne (by omega), Array.getElem?_setIfInBounds_ne (by omega), Array.getElem?_setIfInBounds_self_of_lt (by simp; omega)]
  · rw [Array.getElem?_setIfInBounds_ne (by omega), Array.getElem?_setIfInBounds_self_of_lt (by simp; omega)]
  · rw [Array.getElem?_setIfInBounds_self_of_lt (by simp; omega)]

theorem mid_cells {wr w1 : World} {g o1 o2 : Nat} {C : Array Value} {T : TypeId} {a b : Value} (h : wr.heap[g]? = some (.cells C T (0, 0))) (bel : Below ((wr.setCell ⟨g, o1, none⟩ a).setCell ⟨g, o2, none⟩ b).heap.size ((wr.setCell ⟨g, o1, none⟩ a).setCell ⟨g, o2, none⟩ b) w1) :
    w1.heap[g]? = some (.cells ((C.setIfInBounds o1 a).setIfInBounds o2 b) T (0, 0)) := by
  have h2 := Joins.block_setCell (Joins.block_setCell (i := o1) h a) (i := o2) b
  rw [bel.block g (Array.getElem?_eq_some_iff.1 h2).1]
  exact h2
set_option maxHeartbeats 4000000 in
theorem markTokenS_some (n g c b : Nat) (cur : Array Value) (w : World) (hg : w.heap[g]? = some (.cells cur 41 (0, 0))) (hb : b ≤ g) (hs : n * 4 ≤ cur.size) (hn : n ≤ 1200) :
    Calls Tryd.prog 14 #[.slice (some ⟨g, 0, none⟩) n c, .int .i64 1] w fun e w' => e = .returned (.int .i64 (1 + 4 * (n : Int))) ∧ Marked w' g n ∧ Below b w w' := by
  have Hg : Hid (w.heap[g]? = some (.cells cur 41 (0, 0))) := hg
  clear hg
  go_enter Tryd.func14, Tryd.ntmps14
  go_wp2
  go_loopw [1, 5] (fun m i wr => ∃ (k : Nat) (C : Array Value), m = .int .i64 (1 + 4 * (k : Int)) ∧ i = .int .i64 k ∧ k ≤ n ∧ wr.heap[g]? = some (.cells C 41 (0, 0)) ∧ n * 4 ≤ C.size ∧ Hid (∀ i, i < k → MarkAt C i) ∧ Below b w wr) (fun _ i _ => n - (intOf i).toNat)
  case atStart => exact ⟨0, cur, rfl, rfl, by omega, Hg.out, hs, fun i hi => absurd hi (by omega), Below.refl _ _⟩
  case round =>
    obtain ⟨k, C, rfl, rfl, hk, hC, hsz, Hm, hbw⟩ := hrel
    by_cases hp : k < n
    · have i1 : (k : Int) < n := by omega
      have HC : Hid (wr.heap[g]? = some (.cells C 41 (0, 0))) := hC
      obtain ⟨r1, r2⟩ := heapCells hC
      obtain ⟨y0, c0⟩ : ∃ y, wr.cell? ⟨g, k * 4, none⟩ = some y := by rw [r1]; exact ⟨_, Array.getElem?_eq_getElem (by omega)⟩
      obtain ⟨y1, c1⟩ : ∃ y, wr.cell? ⟨g, k * 4 + 1, none⟩ = some y := by rw [r1]; exact ⟨_, Array.getElem?_eq_getElem (by omega)⟩
      have f0 := r2 (k * 4)
      have f1 := r2 (k * 4 + 1)
      clear r1 r2 hC
      go_wp2_with (go_at_call 28; refine (markText_any _ _ (by omega)).mono ?_; rintro e w1 ⟨rfl, bel⟩; have hC1 := mid_cells HC.out bel; obtain ⟨s1, s2⟩ := heapCells hC1; obtain ⟨y2, c2⟩ : ∃ y, w1.cell? ⟨g, k * 4 + 2, none⟩ = some y := (by rw [s1]; exact ⟨_, Array.getElem?_eq_getElem (by simp; omega)⟩); obtain ⟨y3, c3⟩ : ∃ y, w1.cell? ⟨g, k * 4 + 3, none⟩ = some y := (by rw [s1]; exact ⟨_, Array.getElem?_eq_getElem (by simp; omega)⟩); have f2 := s2 (k * 4 + 2); have f3 := s2 (k * 4 + 3); have HC1 := (show Hid _ from hC1); clear s1 s2 hC1)
      have hbw1 := ((hbw.setCell (p := ⟨g, k * 4, none⟩) hb (.int .i64 (1 + 4 * (k : Int)))).setCell (p := ⟨g, k * 4 + 1, none⟩) hb (.int .i64 (1 + 4 * (k : Int) + 1))).trans (bel.mono (by have := hbw.size; have := (Array.getElem?_eq_some_iff.1 HC.out).1; simp; omega))
      go_roundw
      case rel =>
        have hfin := Joins.block_setCell (Joins.block_setCell (i := k * 4 + 2) HC1.out (.string (mt (1 + 4 * (k : Int) + 1 + 1)))) (i := k * 4 + 3) (.int .i64 (1 + 4 * (k : Int) + 1 + 1 + 1))
        refine ⟨k + 1, _, by first | go_num | (congr 1; omega), by go_num, by omega, hfin, by simpa using hsz, fun i hi => ?_, (hbw1.setCell (p := ⟨g, k * 4 + 2, none⟩) hb _).setCell (p := ⟨g, k * 4 + 3, none⟩) hb _⟩
        by_cases e : i < k
        · exact putMark_old (Hm.out i e) e
        · obtain rfl : i = k := by omega
          exact putMark_new (by omega)
      case measure => simp [intOf]; omega
    · have i1 : ¬ (k : Int) < n := by omega
      obtain rfl : k = n := by omega
      go_wp2
      go_ret
      exact ⟨rfl, ⟨C, hC, Hm.out⟩, hbw⟩

set_option maxHeartbeats 4000000 in
theorem heldTokenS_some (n g c : Nat) (w : World) (h : Marked w g n) (hn : n ≤ 1200) :
    Calls Tryd.prog 15 #[.slice (some ⟨g, 0, none⟩) n c, .int .i64 1] w fun e w' => e = .returned (.int .i64 (1 + 4 * (n : Int))) ∧ Below w.heap.size w w' := by
  have H : Hid (Marked w g n) := h
  clear h
  go_enter Tryd.func15, Tryd.ntmps15
  go_wp2
  go_loopw [1, 5] (fun m i wr => ∃ (k : Nat), m = .int .i64 (1 + 4 * (k : Int)) ∧ i = .int .i64 k ∧ k ≤ n ∧ Below w.heap.size w wr) (fun _ i _ => n - (intOf i).toNat)
  case atStart => exact ⟨0, rfl, rfl, by omega, Below.refl _ _⟩
  case round =>
    obtain ⟨k, rfl, rfl, hk, hbw⟩ := hrel
    by_cases hp : k < n
    · have i1 : (k : Int) < n := by omega
      have Hm : Hid (Marked wr g n) := H.out.on hbw
      obtain ⟨C, hC, hall⟩ := Hm.out
      have r1 := (heapCells hC).1
      obtain ⟨m0, m1, m2, m3⟩ := hall k hp
      rw [← r1] at m0 m1 m2 m3
      clear r1 hC hall
      go_wp2
      go_region_with (go_at_call 28; refine (markText_any _ _ (by omega)).mono ?_; rintro e w1 ⟨rfl, bel⟩; have d3 := (bel.cell (p := ⟨g, k * 4 + 3, none⟩) (lt_of_cell m3)).trans m3; have d2 := (bel.cell (p := ⟨g, k * 4 + 2, none⟩) (lt_of_cell m2)).trans m2)
      all_goals go_wp2
      all_goals go_roundw
      all_goals first
        | exact ⟨k + 1, by first | go_num | (congr 1; omega), by go_num, by omega, (below_drewN hbw 1).trans (bel.mono (show w.heap.size ≤ wr.drew.heap.size from hbw.size))⟩
        | (simp [intOf]; omega)
    · have i1 : ¬ (k : Int) < n := by omega
      obtain rfl : k = n := by omega
      go_wp2
      go_ret
      exact ⟨rfl, hbw⟩
end Go.Proofs.YtoocnpkhgnbepadDoor
