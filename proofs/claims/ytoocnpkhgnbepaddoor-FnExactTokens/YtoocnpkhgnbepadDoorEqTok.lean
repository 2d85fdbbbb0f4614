/- Two lists of tokens that hold the same are the same; the law's own way to compare them, to mark one, to see whether it still holds its marks. -/
import Derived.Test.YtoocnpkhgnbepadDoorMainI
import Derived.Test.YtoocnpkhgnbepadDoorMarks
import Derived.Deep.RegionWith
namespace Go.Proofs.YtoocnpkhgnbepadDoor
open Go.RowKit Go.PlainAid

theorem toksCells_at : ∀ (l : List Tok) (i j : Nat) (h : i < l.length), j < 4 → (toksCells l)[i * 4 + j]? = (tokCells l[i])[j]?
  | [], i, j, h, _ => absurd h (by simp)
  | x :: l, 0, j, _, hj => by
    show (tokCells x ++ toksCells l)[0 * 4 + j]? = _
    rw [show 0 * 4 + j = j by omega, List.getElem?_append_left (by show j < 4; exact hj)]; rfl
  | x :: l, i + 1, j, h, hj => by
    show (tokCells x ++ toksCells l)[(i + 1) * 4 + j]? = _
    rw [List.getElem?_append_right (by show 4 ≤ _; omega), show (i + 1) * 4 + j - (tokCells x).length = i * 4 + j by show _ - 4 = _; omega]
    exact toksCells_at l i j (by simpa using h) hj
/-- The cells of a list of tokens in a row of the call's own. -/
def RowAt (w : World) (g : Nat) (l : List Tok) : Prop :=
  ∀ i (h : i < l.length), w.cell? ⟨g, i * 4, none⟩ = some (.int .i64 l[i].1) ∧ w.cell? ⟨g, i * 4 + 1, none⟩ = some (.int .i64 l[i].2.1) ∧ w.cell? ⟨g, i * 4 + 2, none⟩ = some (.string l[i].2.2.1) ∧ w.cell? ⟨g, i * 4 + 3, none⟩ = some (.int .i64 l[i].2.2.2)
theorem rowAt_of {w : World} {b g cap : Nat} {l : List Tok} (h : w.ownsRow b 41 4 (.slice (some ⟨g, 0, none⟩) l.length cap) l.length (toksCells l)) : RowAt w g l := by
  intro i hi
  have hc : ∀ j u, j < 4 → (tokCells l[i])[j]? = some u → w.cell? ⟨g, i * 4 + j, none⟩ = some u := fun j u hj hu => by
    have := h.cells (g := g) rfl (i * 4 + j) u (by rw [toksCells_at l i j hi hj]; exact hu)
    rw [show (Addr.add ⟨g, 0, none⟩ (i * 4 + j)) = (⟨g, i * 4 + j, none⟩ : Addr) by simp [Addr.add]; omega] at this
    exact this
  exact ⟨by simpa using hc 0 _ (by omega) rfl, hc 1 _ (by omega) rfl, hc 2 _ (by omega) rfl, hc 3 _ (by omega) rfl⟩
theorem RowAt.on {w w' : World} {g : Nat} {l : List Tok} (h : RowAt w g l) (hg : g < w.heap.size) (bel : Below w.heap.size w w') : RowAt w' g l := by
  intro i hi
  obtain ⟨a, b, c, d⟩ := h i hi
  exact ⟨by rw [bel.cell hg]; exact a, by rw [bel.cell hg]; exact b, by rw [bel.cell hg]; exact c, by rw [bel.cell hg]; exact d⟩

set_option maxHeartbeats 1600000 in
theorem eqToken_same (a b d : Int) (s : ByteArray) (w : World) : Calls Tryd.prog 27 #[.agg #[.int .i64 a, .int .i64 b, .string s, .int .i64 d], .agg #[.int .i64 a, .int .i64 b, .string s, .int .i64 d]] w fun e w' => e = .returned (.bool true) ∧ Below w.heap.size w w' := by
  go_enter Tryd.func27, Tryd.ntmps27
  go_wp2
  go_ret
  exact ⟨rfl, ((Below.refl _ _).alloc (Nat.le_refl _) _).alloc (by simp) _⟩

set_option maxHeartbeats 4000000 in
theorem eqTokenS_some (l : List Tok) (g g' c c' : Nat) (w : World) (hg : g < w.heap.size) (hg' : g' < w.heap.size) (h : RowAt w g l) (h' : RowAt w g' l) (hl : l.length ≤ 1200) :
    Calls Tryd.prog 13 #[.slice (some ⟨g, 0, none⟩) l.length c, .slice (some ⟨g', 0, none⟩) l.length c'] w fun e w' => e = .returned (.bool true) ∧ Below w.heap.size w w' := by
  have H : Hid (RowAt w g l) := h
  have H' : Hid (RowAt w g' l) := h'
  have HL : Hid (l.length ≤ 1200) := hl
  obtain ⟨n, hn⟩ : ∃ n, l.length = n := ⟨_, rfl⟩
  have HN : Hid (l.length = n) := hn
  rw [hn] at hl ⊢
  clear h h' hn
  go_enter Tryd.func13, Tryd.ntmps13
  go_wp2
  go_loopw [5] (fun i wr => ∃ k : Nat, i = .int .i64 k ∧ k ≤ n ∧ Below w.heap.size w wr) (fun i _ => n - (intOf i).toNat)
  case atStart => exact ⟨0, rfl, by omega, Below.refl _ _⟩
  case round =>
    obtain ⟨k, rfl, hk, hbw⟩ := hrel
    by_cases hp : k < n
    · have i1 : (k : Int) < n := by omega
      obtain ⟨x, hx⟩ : ∃ x, l[k]'(by rw [HN.out]; exact hp) = x := ⟨_, rfl⟩
      obtain ⟨a0, a1, a2, a3⟩ := H.out.on hg hbw k (by rw [HN.out]; exact hp)
      obtain ⟨b0, b1, b2, b3⟩ := H'.out.on hg' hbw k (by rw [HN.out]; exact hp)
      rw [hx] at a0 a1 a2 a3 b0 b1 b2 b3
      clear hx
      obtain ⟨x1, x2, x3, x4⟩ := x
      simp only [] at a0 a1 a2 a3 b0 b1 b2 b3
      go_wp2
      go_region_with (go_at_call 27; refine (eqToken_same x1 x2 x4 x3 _).mono ?_; rintro e w' ⟨rfl, bel⟩)
      all_goals go_wp2
      all_goals go_roundw
      all_goals first
        | exact ⟨k + 1, by go_num, by omega, (below_drewN hbw 1).trans (bel.mono (show w.heap.size ≤ wr.drew.heap.size from hbw.size))⟩
        | (simp [intOf]; omega)
    · have i1 : ¬ (k : Int) < n := by omega
      go_wp2
      go_ret
      exact ⟨rfl, hbw⟩

theorem nil_len {w : World} {b : Nat} {l : List Tok} {v : Value} (h : w.ownsRow b 41 4 v l.length (toksCells l)) : (v = .slice none 0 0 ∧ l = []) ∨ ∃ g c, v = .slice (some ⟨g, 0, none⟩) l.length c ∧ b ≤ g ∧ g < w.heap.size ∧ RowAt w g l := by
  rcases h.2 with ⟨a, e⟩ | ⟨g, c, cur, rfl, hb, hg, _⟩
  · exact .inl ⟨a, List.length_eq_zero_iff.1 e⟩
  · exact .inr ⟨g, c, rfl, hb, (Array.getElem?_eq_some_iff.1 hg).1, rowAt_of h⟩

set_option maxHeartbeats 1600000 in
theorem eqTokenS_nil (a a' : Option Addr) (c c' : Nat) (w : World) : Calls Tryd.prog 13 #[.slice a 0 c, .slice a' 0 c'] w fun e w' => e = .returned (.bool true) ∧ Below w.heap.size w w' := by
  go_enter Tryd.func13, Tryd.ntmps13
  go_wp2
  go_loop [5] (fun i => i = .int .i64 0) (fun _ => 0)
  case atStart => rfl
  case round =>
    subst hrel
    go_wp2
    go_ret
    exact ⟨rfl, Below.refl _ _⟩
/-- Two rows that hold one list are told the same. -/
theorem eqTokenS_same (l : List Tok) (v v' : Value) (b b' : Nat) (w : World) (h : w.ownsRow b 41 4 v l.length (toksCells l)) (h' : w.ownsRow b' 41 4 v' l.length (toksCells l)) (hl : l.length ≤ 1200) :
    Calls Tryd.prog 13 #[v, v'] w fun e w' => e = .returned (.bool true) ∧ Below w.heap.size w w' := by
  rcases nil_len h with ⟨rfl, rfl⟩ | ⟨g, c, rfl, _, hg, hr⟩
  · rcases nil_len h' with ⟨rfl, _⟩ | ⟨g', c', rfl, _, hg', hr'⟩
    · exact eqTokenS_nil _ _ _ _ w
    · exact eqTokenS_nil _ _ _ _ w
  · rcases nil_len h' with ⟨rfl, rfl⟩ | ⟨g', c', rfl, _, hg', hr'⟩
    · exact eqTokenS_nil _ _ _ _ w
    · exact eqTokenS_some l g g' c c' w hg hg' hr hr' hl
end Go.Proofs.YtoocnpkhgnbepadDoor
