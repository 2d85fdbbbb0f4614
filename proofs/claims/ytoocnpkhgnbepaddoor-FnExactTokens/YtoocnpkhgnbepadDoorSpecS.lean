/- The model's scanner: what its memory holds; the calls that change it by a field. -/
import Derived.Test.YtoocnpkhgnbepadDoorMainI
import Derived.Lib.SmallJoins
namespace Go.Proofs.YtoocnpkhgnbepadDoor
open Go.RowKit Go.PlainAid

/-- The scanner at block B: its text, where it stands, what it has found, its code and place. Of what lies below B nothing has changed. -/
def Sc (B : Nat) (w0 w : World) (s : ByteArray) (p : Nat) (l : List Tok) (c : Int) (q : Nat) : Prop :=
  ∃ v T, w.heap[B]? = some (.cells #[.string s, .int .i64 p, v, .int .i64 c, .int .i64 q] T (0, 0)) ∧ w.ownsRow (B + 1) 41 4 v l.length (toksCells l) ∧ Below B w0 w
theorem cells_of_heap {w : World} {b : Nat} {C : Array Value} {T : TypeId} (h : w.heap[b]? = some (.cells C T (0, 0))) : (∀ j, w.cell? ⟨b, j, none⟩ = C[j]?) ∧ ∀ j, w.frozen? ⟨b, j, none⟩ = false := by
  constructor
  · intro j; simp [World.cell?, h]
  · intro j; simp [World.frozen?, h]
theorem lt_of_heap {w : World} {b : Nat} {o : Obj} (h : w.heap[b]? = some o) : b < w.heap.size := (Array.getElem?_eq_some_iff.1 h).1
variable {B : Nat} {w0 w : World} {s : ByteArray} {p : Nat} {l : List Tok} {c : Int} {q : Nat}
theorem Sc.lt (h : Sc B w0 w s p l c q) : B < w.heap.size := by obtain ⟨v, T, a, _⟩ := h; exact lt_of_heap a
theorem Sc.below (h : Sc B w0 w s p l c q) : Below B w0 w := by obtain ⟨v, T, _, _, a⟩ := h; exact a
theorem Sc.on {w' : World} (h : Sc B w0 w s p l c q) (bel : Below w.heap.size w w') : Sc B w0 w' s p l c q := by
  have hl := h.lt
  obtain ⟨v, T, a, b, d⟩ := h
  exact ⟨v, T, heap_below a bel, own_below b bel, d.trans (bel.mono (Nat.le_of_lt hl))⟩
theorem Sc.alloc (h : Sc B w0 w s p l c q) (o : Obj) : Sc B w0 (w.alloc o) s p l c q := h.on ((Below.refl _ _).alloc (Nat.le_refl _) _)
theorem Sc.drewN (h : Sc B w0 w s p l c q) (n : Nat) : Sc B w0 (w.drewN n) s p l c q := by
  obtain ⟨v, T, a, b, d⟩ := h
  exact ⟨v, T, a, b, d.trans ⟨rfl, rfl, rfl, Nat.le_refl _, fun _ _ => rfl⟩⟩
theorem Sc.k0 (h : Sc B w0 w s p l c q) : w.cell? ⟨B, 0, none⟩ = some (.string s) := by obtain ⟨v, T, a, _⟩ := h; exact (cells_of_heap a).1 0
theorem Sc.k1 (h : Sc B w0 w s p l c q) : w.cell? ⟨B, 1, none⟩ = some (.int .i64 p) := by obtain ⟨v, T, a, _⟩ := h; exact (cells_of_heap a).1 1
theorem Sc.k3 (h : Sc B w0 w s p l c q) : w.cell? ⟨B, 3, none⟩ = some (.int .i64 c) := by obtain ⟨v, T, a, _⟩ := h; exact (cells_of_heap a).1 3
theorem Sc.k4 (h : Sc B w0 w s p l c q) : w.cell? ⟨B, 4, none⟩ = some (.int .i64 q) := by obtain ⟨v, T, a, _⟩ := h; exact (cells_of_heap a).1 4
theorem Sc.fz (h : Sc B w0 w s p l c q) (j : Nat) : w.frozen? ⟨B, j, none⟩ = false := by obtain ⟨v, T, a, _⟩ := h; exact (cells_of_heap a).2 j
theorem Sc.set1 (h : Sc B w0 w s p l c q) (p' : Nat) : Sc B w0 (w.setCell ⟨B, 1, none⟩ (.int .i64 p')) s p' l c q := by
  obtain ⟨v, T, a, b, d⟩ := h
  exact ⟨v, T, Joins.block_setCell a _, ownsRow_setCell_below b (a := ⟨B, 1, none⟩) (Nat.lt_succ_self B) _, d.setCell (Nat.le_refl B) _⟩
theorem Sc.set3 (h : Sc B w0 w s p l c q) (c' : Int) : Sc B w0 (w.setCell ⟨B, 3, none⟩ (.int .i64 c')) s p l c' q := by
  obtain ⟨v, T, a, b, d⟩ := h
  exact ⟨v, T, Joins.block_setCell a _, ownsRow_setCell_below b (a := ⟨B, 3, none⟩) (Nat.lt_succ_self B) _, d.setCell (Nat.le_refl B) _⟩
theorem Sc.set4 (h : Sc B w0 w s p l c q) (q' : Nat) : Sc B w0 (w.setCell ⟨B, 4, none⟩ (.int .i64 q')) s p l c q' := by
  obtain ⟨v, T, a, b, d⟩ := h
  exact ⟨v, T, Joins.block_setCell a _, ownsRow_setCell_below b (a := ⟨B, 4, none⟩) (Nat.lt_succ_self B) _, d.setCell (Nat.le_refl B) _⟩

theorem Sc.at1 (h : Sc B w0 w s p l c q) (x : Int) (p' : Nat) (e : x = p') : Sc B w0 (w.setCell ⟨B, 1, none⟩ (.int .i64 x)) s p' l c q := by subst e; exact h.set1 p'

/-- Of the blocks that are none of the scanner's own, none has changed. -/
def Keep (B : Nat) (w w' : World) : Prop := ∀ k, k < w.heap.size → k ≠ B → (∀ v, w.cell? ⟨B, 2, none⟩ = some v → v.ownBlock ≠ some k) → w'.heap[k]? = w.heap[k]?

set_option maxHeartbeats 1600000 in
theorem fail_any (c : Int) (q' : Nat) (h : Sc B w0 w s p l 0 q) : Calls Tryd.prog 58 #[.pointer (some ⟨B, 0, none⟩), .int .i64 c, .int .i64 q'] w fun e w' => e = .returned (.tuple #[]) ∧ Sc B w0 w' s p l c q' ∧ Keep B w w' := by
  have H : Hid (Sc B w0 w s p l 0 q) := h
  have k3 := h.k3
  have k4 := h.k4
  have f3 := h.fz 3
  have f4 := h.fz 4
  clear h
  go_enter Tryd.func58, Tryd.ntmps58
  go_wp2
  go_end0
  exact ⟨rfl, (H.out.set3 c).set4 q', fun k hk hn _ => by rw [Below.heap_setCell _ _ _ _ hn, Below.heap_setCell _ _ _ _ hn]⟩

set_option maxRecDepth 100000 in
set_option maxHeartbeats 1600000 in
theorem add_full (k n : Int) (x : ByteArray) (q' : Nat) (h : Sc B w0 w s p l 0 q) (hl : l.length = 1200) : Calls Tryd.prog 59 #[.pointer (some ⟨B, 0, none⟩), .int .i64 k, .int .i64 n, .string x, .int .i64 q'] w fun e w' => e = .returned (.tuple #[]) ∧ Sc B w0 w' s p l 13 q' ∧ Keep B w w' := by
  have H : Hid (Sc B w0 w s p l 0 q) := h
  obtain ⟨v, T, a, b, d⟩ := h
  have k2 := (cells_of_heap a).1 2
  rcases b.2 with ⟨rfl, hn0⟩ | ⟨g, cap, cur, rfl, _, _, hncap, hcapm, _, _⟩
  · omega
  have k2' : w.cell? ⟨B, 2, none⟩ = some (.slice (some ⟨g, 0, none⟩) l.length cap) := k2
  have l0 : ((l.length : Int) == 1200) = true := by simp; omega
  have L0 : Hid (((l.length : Int) == 1200) = true) := l0
  clear k2 a b d hl
  go_enter Tryd.func59, Tryd.ntmps59
  go_wp2_with (go_at_call 58; refine (fail_any 13 q' H.out).mono ?_; rintro e w' ⟨rfl, h'⟩)
  first | go_end0 | refine bodyPost_ret (results_none rfl _ _ _) rfl ?_
  exact ⟨rfl, h'⟩

set_option maxRecDepth 100000 in
set_option maxHeartbeats 4000000 in
theorem add_any (k n : Int) (x : ByteArray) (q' : Nat) (h : Sc B w0 w s p l 0 q) (hl : l.length < 1200) : Calls Tryd.prog 59 #[.pointer (some ⟨B, 0, none⟩), .int .i64 k, .int .i64 n, .string x, .int .i64 q'] w fun e w' => e = .returned (.tuple #[]) ∧ Sc B w0 w' s p (l ++ [(k, n, x, q')]) 0 q ∧ Keep B w w' := by
  have hlt := h.lt
  have f2 := h.fz 2
  obtain ⟨v, T, a, hown, d⟩ := h
  obtain ⟨i0, hi, hz0, hz1, hz2⟩ := info_parts tokInfo
  have k2 := (cells_of_heap a).1 2
  have HA : Hid (w.heap[B]? = some (.cells #[.string s, .int .i64 p, v, .int .i64 0, .int .i64 q] T (0, 0))) := a
  have l0 : ((l.length : Int) == 1200) = false := by simp; omega
  have hfl : toksCells (l ++ [(k, n, x, q')]) = toksCells l ++ [.int .i64 k, .int .i64 n, .string x, .int .i64 (q' : Int)] := toksCells_snoc l _
  rcases hown.2 with ⟨rfl, hn0⟩ | ⟨g, cap, cur, rfl, _, _, hncap, hcapm, _, _⟩
  · have k2' : w.cell? ⟨B, 2, none⟩ = some (.slice none 0 0) := k2
    have l00 : l.length = 0 := hn0
    clear k2 a
    go_enter Tryd.func59, Tryd.ntmps59
    go_wp2_with (at_builtin
                 go_must (have hown4 := hown.alloc (.cells #[.int .i64 k, .int .i64 n, .string x, .int .i64 (q' : Int)] 41))
                 go_must (refine wpList_append_own _ rfl _ _ 24 rfl (B + 1) 41 i0 (.agg #[.int .i64 0, .int .i64 0, .string ⟨#[]⟩, .int .i64 0]) 4 40 Tryd.underlying24 hi hz0 hz1 hz2 rfl (by decide) _ _ _ rfl hown4 ⟨w.heap.size, 0, none⟩ 1 1 [.int .i64 k, .int .i64 n, .string x, .int .i64 (q' : Int)] rfl rfl (by have := cell_four_new w (.int .i64 k) (.int .i64 n) (.string x) (.int .i64 (q' : Int)) 41; simpa using this) (fun u hu => by simp at hu; rcases hu with rfl | rfl | rfl | rfl <;> rfl) (by unfold maxLen; omega) (by omega) (by simp; omega) ?_)
                 intro v' w5 hown5 hgrow0 hnil
                 have hgrow : World.grownBy (w.alloc (.cells #[.int .i64 k, .int .i64 n, .string x, .int .i64 (q' : Int)] 41)) w5 (Value.slice none 0 0).ownBlock := hgrow0
                 clear hgrow0 hnil
                 have hbw5 : Below B w0 w5 := Below.grown (d.alloc (Nat.le_of_lt hlt) _) hgrow (by simp; omega) (fun j hj => by simp [Value.ownBlock] at hj)
                 have hit5 : w5.heap[B]? = some (.cells #[.string s, .int .i64 p, .slice none 0 0, .int .i64 0, .int .i64 q] T (0, 0)) := by
                   rw [hgrow.block B (by simp; omega) (fun hh => by simp [Value.ownBlock] at hh), Below.heap_alloc _ _ _ hlt]; exact HA.out
                 obtain ⟨g', cap', rfl⟩ : ∃ g' cap', v' = .slice (some ⟨g', 0, none⟩) (l.length + 1) cap' := by
                   rcases hown5.2 with ⟨_, hh⟩ | ⟨g', cap', _, hh, _⟩
                   · omega
                   · exact ⟨g', cap', hh⟩
                 have kk := (cells_of_heap hit5).1 2
                 have ff := (cells_of_heap hit5).2 2
                 have hkeep : Hid (Keep B w (w5.setCell ⟨B, 2, none⟩ (.slice (some ⟨g', 0, none⟩) (l.length + 1) cap'))) := fun k hk hn hv => by
                   rw [Below.heap_setCell _ _ _ _ hn, hgrow.block k (by simp; omega) (fun hh => hv _ k2' hh.symm), Below.heap_alloc _ _ _ hk]
                 have X : Hid (w5.ownsRow (B + 1) 41 4 (.slice (some ⟨g', 0, none⟩) (l.length + 1) cap') (l.length + 1) (toksCells l ++ [.int .i64 k, .int .i64 n, .string x, .int .i64 (q' : Int)]) ∧ Below B w0 w5 ∧ w5.heap[B]? = some (.cells #[.string s, .int .i64 p, .slice none 0 0, .int .i64 0, .int .i64 q] T (0, 0))) := ⟨hown5, hbw5, hit5⟩
                 clear hown5 hgrow hown4 hbw5 hit5)
    obtain ⟨hown5, hbw5, hit5⟩ := X.out
    go_end0
    have hv : Value.slice (some ⟨g', 0, none⟩) 1 cap' = .slice (some ⟨g', 0, none⟩) (l.length + 1) cap' := by rw [l00]
    exact ⟨rfl, ⟨_, T, Joins.block_setCell hit5 _, ownsRow_setCell_below (by rw [hfl, List.length_append, hv]; exact hown5) (a := ⟨B, 2, none⟩) (Nat.lt_succ_self B) _, hbw5.setCell (Nat.le_refl B) _⟩, (by have := hkeep.out; rw [← hv] at this; exact this)⟩
  · have k2' : w.cell? ⟨B, 2, none⟩ = some (.slice (some ⟨g, 0, none⟩) l.length cap) := k2
    have hgl := hown.lt g rfl
    obtain ⟨hgl1, hgl2⟩ := hgl
    clear k2 a
    go_enter Tryd.func59, Tryd.ntmps59
    go_wp2_with (at_builtin
                 go_must (have hown4 := hown.alloc (.cells #[.int .i64 k, .int .i64 n, .string x, .int .i64 (q' : Int)] 41))
                 go_must (refine wpList_append_own _ rfl _ _ 24 rfl (B + 1) 41 i0 (.agg #[.int .i64 0, .int .i64 0, .string ⟨#[]⟩, .int .i64 0]) 4 40 Tryd.underlying24 hi hz0 hz1 hz2 rfl (by decide) _ _ _ rfl hown4 ⟨w.heap.size, 0, none⟩ 1 1 [.int .i64 k, .int .i64 n, .string x, .int .i64 (q' : Int)] rfl rfl (by have := cell_four_new w (.int .i64 k) (.int .i64 n) (.string x) (.int .i64 (q' : Int)) 41; simpa using this) (fun u hu => by simp at hu; rcases hu with rfl | rfl | rfl | rfl <;> rfl) (by unfold maxLen; omega) (by omega) (by simp; omega) ?_)
                 intro v' w5 hown5 hgrow0 hnil
                 have hgrow : World.grownBy (w.alloc (.cells #[.int .i64 k, .int .i64 n, .string x, .int .i64 (q' : Int)] 41)) w5 (Value.slice (some ⟨g, 0, none⟩) l.length cap).ownBlock := hgrow0
                 clear hgrow0 hnil
                 have hbw5 : Below B w0 w5 := Below.grown (d.alloc (Nat.le_of_lt hlt) _) hgrow (by simp; omega) (fun j hj => by simp [Value.ownBlock] at hj; omega)
                 have hit5 : w5.heap[B]? = some (.cells #[.string s, .int .i64 p, .slice (some ⟨g, 0, none⟩) l.length cap, .int .i64 0, .int .i64 q] T (0, 0)) := by
                   rw [hgrow.block B (by simp; omega) (fun hh => by simp [Value.ownBlock] at hh; omega), Below.heap_alloc _ _ _ hlt]; exact HA.out
                 obtain ⟨g', cap', rfl⟩ : ∃ g' cap', v' = .slice (some ⟨g', 0, none⟩) (l.length + 1) cap' := by
                   rcases hown5.2 with ⟨_, hh⟩ | ⟨g', cap', _, hh, _⟩
                   · omega
                   · exact ⟨g', cap', hh⟩
                 have kk := (cells_of_heap hit5).1 2
                 have ff := (cells_of_heap hit5).2 2
                 have hkeep : Hid (Keep B w (w5.setCell ⟨B, 2, none⟩ (.slice (some ⟨g', 0, none⟩) (l.length + 1) cap'))) := fun k hk hn hv => by
                   rw [Below.heap_setCell _ _ _ _ hn, hgrow.block k (by simp; omega) (fun hh => hv _ k2' hh.symm), Below.heap_alloc _ _ _ hk]
                 have X : Hid (w5.ownsRow (B + 1) 41 4 (.slice (some ⟨g', 0, none⟩) (l.length + 1) cap') (l.length + 1) (toksCells l ++ [.int .i64 k, .int .i64 n, .string x, .int .i64 (q' : Int)]) ∧ Below B w0 w5 ∧ w5.heap[B]? = some (.cells #[.string s, .int .i64 p, .slice (some ⟨g, 0, none⟩) l.length cap, .int .i64 0, .int .i64 q] T (0, 0))) := ⟨hown5, hbw5, hit5⟩
                 clear hown5 hgrow hown4 hbw5 hit5)
    obtain ⟨hown5, hbw5, hit5⟩ := X.out
    go_end0
    exact ⟨rfl, ⟨_, T, Joins.block_setCell hit5 _, ownsRow_setCell_below (by rw [hfl, List.length_append]; exact hown5) (a := ⟨B, 2, none⟩) (Nat.lt_succ_self B) _, hbw5.setCell (Nat.le_refl B) _⟩, hkeep.out⟩
end Go.Proofs.YtoocnpkhgnbepadDoor
