/- The rounds of verification, over plain data: they come to an end. No condition. -/
import Derived.Test.YtoodadepafghhaaGreatDoorZByD
namespace Go.Proofs.YtoodadepafghhaaGreatDoor
open Go.RowKit

def negs (d : List Int) : Nat := d.countP fun y => decide (y < 0)
theorem negs_set {d : List Int} {t : Nat} {y : Int} (h : d.getD t 0 < 0) (hy : 0 ≤ y) : negs (d.set t y) < negs d := by
  have ht : t < d.length := by
    by_cases k : t < d.length
    · exact k
    · rw [List.getD_eq_getElem?_getD, List.getElem?_eq_none (by omega)] at h
      simp at h
  rw [List.getD_eq_getElem?_getD, List.getElem?_eq_getElem ht] at h
  simp only [Option.getD_some] at h
  have hpos : 0 < negs d := List.countP_pos_iff.2 ⟨d[t], List.getElem_mem ht, by simpa using h⟩
  unfold negs at *
  rw [List.countP_set ht, if_pos (by simpa using h), if_neg (by simp; omega)]
  omega
/-- From one state to another: as long, and a new one reached where that is told. -/
def Fwd (d : List Int) (ag : Bool) (d' : List Int) (ag' : Bool) : Prop := d'.length = d.length ∧ negs d' ≤ negs d ∧ (ag' = true → ag = true ∨ negs d' < negs d)
theorem Fwd.refl (d : List Int) (ag : Bool) : Fwd d ag d ag := ⟨rfl, Nat.le_refl _, fun h => .inl h⟩
theorem Fwd.trans {d d1 d2 : List Int} {a a1 a2 : Bool} (h : Fwd d a d1 a1) (k : Fwd d1 a1 d2 a2) : Fwd d a d2 a2 := by
  obtain ⟨h1, h2, h3⟩ := h
  obtain ⟨k1, k2, k3⟩ := k
  refine ⟨k1.trans h1, Nat.le_trans k2 h2, fun e => ?_⟩
  rcases k3 e with e1 | e1
  · rcases h3 e1 with e2 | e2
    · exact .inl e2
    · exact .inr (by omega)
  · exact .inr (by omega)
theorem Fwd.set {d : List Int} {ag : Bool} {t : Nat} {y : Int} (h : d.getD t 0 < 0) (hy : 0 ≤ y) : Fwd d ag (d.set t y) true := ⟨by simp, Nat.le_of_lt (negs_set h hy), fun _ => .inr (negs_set h hy)⟩
theorem goTo_fwd {n i : Nat} {now : Int} (hn : 0 ≤ now) : ∀ (ts : List Int) (d : List Int) (ag : Bool) (d' : List Int) (ag' : Bool), goTo n i now ts d ag = .go d' ag' → Fwd d ag d' ag'
  | [], d, ag, d', ag', h => by
    cases h
    exact Fwd.refl _ _
  | t :: r, d, ag, d', ag', h => by
    rw [goTo] at h
    split at h
    · cases h
    · split at h
      · rename_i h1
        exact (Fwd.set (ag := ag) h1 hn).trans (goTo_fwd hn r _ _ _ _ h)
      · split at h
        · cases h
        · exact goTo_fwd hn r _ _ _ _ h
theorem oneV_fwd {n i : Nat} {x : InsD} (hx : 0 ≤ leaves x) {d : List Int} {ag : Bool} {d' : List Int} {ag' : Bool} (h : oneV n i x d ag = .go d' ag') : Fwd d ag d' ag' := by
  unfold oneV at h
  simp only [] at h
  split at h
  · cases h
    exact Fwd.refl _ _
  · split at h
    · cases h
    · split at h
      · cases h
      · split at h
        · cases h
        · exact goTo_fwd (by omega) _ _ _ _ _ h
theorem fromV_fwd {n : Nat} : ∀ (l : List InsD) (i : Nat) (d : List Int) (ag : Bool) (d' : List Int) (ag' : Bool), (∀ x ∈ l, 0 ≤ leaves x) → fromV n i l d ag = .go d' ag' → Fwd d ag d' ag'
  | [], _, _, _, _, _, _, h => by
    cases h
    exact Fwd.refl _ _
  | x :: r, i, d, ag, d', ag', hx, h => by
    rw [fromV] at h
    split at h
    · cases h
    · rename_i d1 ag1 h1
      exact (oneV_fwd (hx x (by simp)) h1).trans (fromV_fwd r _ _ _ _ _ (fun y hy => hx y (by simp [hy])) h)
theorem negs_le (d : List Int) : negs d ≤ d.length := List.countP_le_length
/-- A round that has reached a new one leaves fewer. -/
theorem rounds_step {l : List InsD} {f : Nat} {d d' : List Int} (hx : ∀ x ∈ l, 0 ≤ leaves x) (hf : negs d < f) (h : fromV l.length 0 l d false = .go d' true) : ∃ f', negs d' < f' ∧ roundsV l f d = roundsV l f' d' := by
  have := (fromV_fwd l 0 d false d' true hx h).2.2 rfl
  obtain ⟨f', rfl⟩ : ∃ f', f = f' + 1 := ⟨f - 1, by omega⟩
  refine ⟨f', by simp at this; omega, ?_⟩
  rw [roundsV, h]
theorem rounds_end {l : List InsD} {f : Nat} {d d' : List Int} (hf : negs d < f) (h : fromV l.length 0 l d false = .go d' false) : roundsV l f d = (0, 0) := by
  obtain ⟨f', rfl⟩ : ∃ f', f = f' + 1 := ⟨f - 1, by omega⟩
  rw [roundsV, h]
theorem rounds_bad {l : List InsD} {f : Nat} {d : List Int} {c p : Int} (hf : negs d < f) (h : fromV l.length 0 l d false = .bad c p) : roundsV l f d = (c, p) := by
  obtain ⟨f', rfl⟩ : ∃ f', f = f' + 1 := ⟨f - 1, by omega⟩
  rw [roundsV, h]
/-- What the form has told of an instruction. -/
theorem form_all {cells len result : Int} : ∀ (l : List InsD) (i : Nat), formAt cells len result i l = none → ∀ x ∈ l, insB x cells len result = true
  | [], _, _, x, hx => by cases hx
  | y :: r, i, h, x, hx => by
    rw [formAt] at h
    split at h
    · rcases List.mem_cons.1 hx with rfl | hx
      · assumption
      · exact form_all r _ h x hx
    · cases h
theorem ins_leaves {x : InsD} {cells len result : Int} (h : insB x cells len result = true) : 0 ≤ leaves x := by
  unfold leaves
  by_cases h13 : x.op = 13
  · unfold insB argB at h
    simp [h13, inB] at h
    simp [h13]
    omega
  · repeat (first | omega | split)
theorem ins_jump {x : InsD} {cells len result : Int} (h : insB x cells len result = true) (hj : x.op = 11 ∨ x.op = 12) : 0 ≤ x.a ∧ x.a < len := by
  unfold insB argB at h
  rcases hj with e | e <;> simp [e, inB] at h <;> omega
end Go.Proofs.YtoodadepafghhaaGreatDoor
