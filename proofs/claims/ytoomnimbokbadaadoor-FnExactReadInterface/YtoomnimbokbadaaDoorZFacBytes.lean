/- An interface's bytes, told once over plain data. No condition. -/
import Derived.Test.YtoomnimbokbadaaDoorZBytImpl
import Derived.Test.YtoomnimbokbadaaDoorZFacB
namespace Go.Proofs.YtoomnimbokbadaaDoor
open Go.RowKit

def prmB (p : Prm) : Int := if p.2 then (p.1 + 8) % 256 else p.1 % 256
/-- An item's bytes ahead of its parameters. -/
def itHead (x : Itm) : List Int := [x.kind % 256, x.type % 256, x.length % 256] ++ numB x.value ++ txtB x.name ++ [(x.params.length : Int) % 256]
def itB (x : Itm) : List Int := itHead x ++ x.params.map prmB
def facHead (x : Fac) : List Int := [79, 73, 49] ++ txtB x.module ++ [(x.items.length : Int) % 256]
def facBytes (x : Fac) : List Int := facHead x ++ x.items.flatMap itB
theorem own_small {s : ByteArray} (h : ownB s = true) : s.size ≤ 40 := by
  unfold ownB nameB at h
  simp only [Bool.and_eq_true, decide_eq_true_eq] at h
  omega
theorem rest_small {k t len v : Int} {n : Nat} {pb : Bool} (h : restN k t len v n pb = true) : n ≤ 20 := by
  unfold restN at h
  split at h
  · simp at h; omega
  · split at h
    · simp at h; omega
    · split at h
      · simp at h; omega
      · cases h
theorem itm_small {x : Itm} (h : itmB x = true) : x.name.size ≤ 40 ∧ x.params.length ≤ 20 := by
  unfold itmB at h
  simp only [Bool.and_eq_true] at h
  exact ⟨own_small h.1, rest_small h.2⟩
theorem prm_ok {x : Itm} (h : itmB x = true) : ∀ p ∈ x.params, 1 ≤ p.1 ∧ p.1 ≤ 3 := by
  intro p hp
  unfold itmB at h
  simp only [Bool.and_eq_true] at h
  have h2 := h.2
  have hne : x.params.length ≠ 0 := by
    intro e
    have := List.length_eq_zero_iff.1 e
    rw [this] at hp
    cases hp
  unfold restN at h2
  split at h2
  · simp only [Bool.and_eq_true, decide_eq_true_eq] at h2
    exact absurd h2.2 hne
  · split at h2
    · simp only [Bool.and_eq_true, decide_eq_true_eq] at h2
      exact absurd h2.2 hne
    · split at h2
      · simp only [Bool.and_eq_true] at h2
        have h3 := h2.2
        unfold prmsB at h3
        rw [List.all_eq_true] at h3
        have := h3 p hp
        unfold inB at this
        simpa using this
      · cases h2
theorem txtB_len (s : ByteArray) : (txtB s).length = s.size + 1 := by unfold txtB; rw [List.length_cons, sb_len]
theorem itHead_len (x : Itm) : (itHead x).length = x.name.size + 13 := by unfold itHead; simp [numB_len, txtB_len]; omega
theorem itB_small {x : Itm} (h : itmB x = true) : (itB x).length ≤ 73 := by
  have := itm_small h
  unfold itB
  rw [List.length_append, itHead_len, List.length_map]
  omega
theorem items_ok : ∀ (l : List Itm) (seen : List ByteArray), itemsB seen l = true → ∀ x ∈ l, itmB x = true
  | [], _, _, _, h => by cases h
  | y :: r, seen, h, x, hx => by
    unfold itemsB at h
    simp only [Bool.and_eq_true] at h
    rcases List.mem_cons.1 hx with rfl | hx
    · exact h.1.1
    · exact items_ok r _ h.2 x hx
theorem fac_ok {x : Fac} (h : facB x = true) : x.module.size ≤ 40 ∧ x.items.length ≤ 60 ∧ ∀ y ∈ x.items, itmB y = true := by
  unfold facB at h
  simp only [Bool.and_eq_true, decide_eq_true_eq] at h
  exact ⟨own_small h.1.1, h.1.2, items_ok _ _ h.2⟩
theorem flat_len : ∀ (l : List Itm), (∀ y ∈ l, itmB y = true) → (l.flatMap itB).length ≤ 73 * l.length
  | [], _ => by simp
  | y :: r, h => by
    rw [List.flatMap_cons, List.length_append, List.length_cons]
    have h1 := itB_small (h y (by simp))
    have h2 := flat_len r fun z hz => h z (by simp [hz])
    omega
theorem pre_len {l : List Itm} {k : Nat} (h : ∀ y ∈ l, itmB y = true) (hl : l.length ≤ 60) : ((l.take k).flatMap itB).length ≤ 4380 := by
  have h1 := flat_len (l.take k) fun y hy => h y (List.mem_of_mem_take hy)
  have h2 : (l.take k).length ≤ l.length := by simp; omega
  omega
theorem facHead_len (x : Fac) : (facHead x).length = x.module.size + 5 := by unfold facHead; simp [txtB_len]
theorem flat_take {l : List Itm} {k : Nat} (h : k < l.length) : (l.take (k + 1)).flatMap itB = (l.take k).flatMap itB ++ itB l[k] := by
  rw [List.take_succ_eq_append_getElem h, List.flatMap_append]
  simp
theorem prm_take {l : List Prm} {k : Nat} (h : k < l.length) : (l.take (k + 1)).map prmB = (l.take k).map prmB ++ [prmB l[k]] := by
  rw [List.take_succ_eq_append_getElem h, List.map_append]
  rfl
end Go.Proofs.YtoomnimbokbadaaDoor
