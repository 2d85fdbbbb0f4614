/- When an interface is right, told once over plain data. No condition. -/
import Derived.Test.YtoomnimbokbadaaDoorZFacName
namespace Go.Proofs.YtoomnimbokbadaaDoor
open Go.RowKit Go.PlainAid

def prmsB (l : List Prm) : Bool := l.all fun p => inB p.1 1 3
def constB (t v : Int) : Bool := inB t 1 3 && (decide (t ≠ 2) || inB v 0 1) && (decide (t ≠ 3) || chrB v)
/-- All but the name of an item: n parameters, whose types are right or not. -/
def restN (k t len v : Int) (n : Nat) (pb : Bool) : Bool :=
  if k = 1 then constB t v && decide (len = 0) && decide (n = 0)
  else if k = 2 then inB t 1 3 && inB len 0 100 && decide (v = 0) && decide (n = 0)
  else if k = 3 then inB t 0 3 && decide (len = 0) && decide (v = 0) && decide (n ≤ 20) && pb
  else false
def itmB (x : Itm) : Bool := ownB x.name && restN x.kind x.type x.length x.value x.params.length (prmsB x.params)
/-- A name that has been met. -/
def metB (seen : List ByteArray) (s : ByteArray) : Bool := seen.any fun z => z.toList == s.toList
/-- The items, behind the names that have been met. -/
def itemsB : List ByteArray → List Itm → Bool
  | _, [] => true
  | seen, x :: r => itmB x && !(metB seen x.name) && itemsB (seen ++ [x.name]) r
def facB (x : Fac) : Bool := ownB x.module && decide (x.items.length ≤ 60) && itemsB [] x.items
theorem prms_no {l : List Prm} {k : Nat} (h : k < l.length) (e : inB l[k].1 1 3 = false) : prmsB l = false := by
  unfold prmsB
  rw [List.all_eq_false]
  exact ⟨l[k], List.getElem_mem h, by rw [e]; simp⟩
theorem prms_yes {l : List Prm} (h : ∀ i (h : i < l.length), inB l[i].1 1 3 = true) : prmsB l = true := by
  unfold prmsB
  rw [List.all_eq_true]
  intro x hx
  obtain ⟨i, hi, rfl⟩ := List.getElem_of_mem hx
  exact h i hi
/-- The names of the first k items. -/
def seenOf (l : List Itm) (k : Nat) : List ByteArray := (l.take k).map (·.name)
/-- .. round by round: the first k are right. -/
def upto (l : List Itm) (k : Nat) : Prop := ∀ i (h : i < l.length), i < k → itmB l[i] = true ∧ metB (seenOf l i) l[i].name = false
theorem items_split : ∀ (l : List Itm) (seen : List ByteArray), (∀ i (h : i < l.length), itmB l[i] = true ∧ metB (seen ++ (l.take i).map (·.name)) l[i].name = false) → itemsB seen l = true
  | [], _, _ => rfl
  | x :: r, seen, h => by
    have h0 := h 0 (by simp)
    simp only [List.getElem_cons_zero, List.take_zero, List.map_nil, List.append_nil] at h0
    unfold itemsB
    rw [h0.1, h0.2]
    refine (Bool.and_eq_true _ _).mpr ⟨rfl, items_split r _ fun i hi => ?_⟩
    have hh := h (i + 1) (by simpa using hi)
    simpa using hh
theorem items_no : ∀ (l : List Itm) (seen : List ByteArray) (i : Nat) (h : i < l.length), (itmB l[i] = false ∨ metB (seen ++ (l.take i).map (·.name)) l[i].name = true) → itemsB seen l = false
  | [], _, _, h, _ => absurd h (by simp)
  | x :: r, seen, 0, _, e => by
    simp only [List.getElem_cons_zero, List.take_zero, List.map_nil, List.append_nil] at e
    unfold itemsB
    rcases e with e | e
    · rw [e]; rfl
    · rw [e]; simp
  | x :: r, seen, i + 1, h, e => by
    unfold itemsB
    rw [items_no r (seen ++ [x.name]) i (by simpa using h) (by simpa using e)]
    simp
theorem fac_yes {x : Fac} (h1 : ownB x.module = true) (h2 : x.items.length ≤ 60) (h : upto x.items x.items.length) : facB x = true := by
  unfold facB
  rw [h1, decide_eq_true h2, items_split _ _ fun i hi => ?_]
  · rfl
  · have := h i hi hi
    simpa [seenOf] using this
theorem fac_no {x : Fac} (i : Nat) (h : i < x.items.length) (e : itmB x.items[i] = false ∨ metB (seenOf x.items i) x.items[i].name = true) : facB x = false := by
  unfold facB
  rw [items_no x.items [] i h (by simpa [seenOf] using e)]
  simp
theorem upto_step {l : List Itm} {k : Nat} (h : upto l k) (hk : k < l.length) (h1 : itmB l[k] = true) (h2 : metB (seenOf l k) l[k].name = false) : upto l (k + 1) := by
  intro i hi hik
  by_cases e : i < k
  · exact h i hi e
  · obtain rfl : i = k := by omega
    exact ⟨h1, h2⟩
end Go.Proofs.YtoomnimbokbadaaDoor
