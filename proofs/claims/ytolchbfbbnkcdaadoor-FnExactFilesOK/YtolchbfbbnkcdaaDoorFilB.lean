/- Files that are right, as plain data. No condition. -/
import Derived.Test.YtolchbfbbnkcdaaDoorFilD
import Derived.Test.YtolchbfbbnkcdaaDoorOwn
namespace Go.Proofs.YtolchbfbbnkcdaaDoor
open Go.RowKit Go.PlainAid

def lessB (a b : ByteArray) : Bool := Op.bytesLess a.toList b.toList
def fileB (x : FileD) : Bool := ownB x.name && decide (x.text.size ≤ 4000)
def riseB (l : List FileD) (i : Nat) : Bool := decide (i = 0) || lessB (l.getD (i - 1) ⟨ByteArray.empty, ByteArray.empty⟩).name (l.getD i ⟨ByteArray.empty, ByteArray.empty⟩).name
def atB (l : List FileD) (i : Nat) : Bool := fileB (l.getD i ⟨ByteArray.empty, ByteArray.empty⟩) && riseB l i
def filesB (l : List FileD) : Bool := decide (l.length ≤ 10) && (List.range l.length).all (atB l)
theorem files_yes {l : List FileD} (h : l.length ≤ 10) (k : ∀ i, i < l.length → atB l i = true) : filesB l = true := by
  unfold filesB
  rw [decide_eq_true h, Bool.true_and, List.all_eq_true]
  intro i hi
  exact k i (by simpa using hi)
theorem files_many {l : List FileD} (h : 10 < l.length) : filesB l = false := by
  unfold filesB
  rw [decide_eq_false (by omega), Bool.false_and]
theorem files_no {l : List FileD} {i : Nat} (h : i < l.length) (k : atB l i = false) : filesB l = false := by
  unfold filesB
  cases hq : (List.range l.length).all (atB l) with
  | false => simp
  | true =>
    rw [List.all_eq_true] at hq
    have := hq i (by simpa using h)
    rw [k] at this
    cases this
theorem getD_at {l : List FileD} {i : Nat} (h : i < l.length) (d : FileD) : l.getD i d = l[i] := by simp [List.getD, h]
theorem at_no_file {l : List FileD} {i : Nat} {x : FileD} (h : i < l.length) (e : l[i] = x) (k : fileB x = false) : atB l i = false := by
  unfold atB
  rw [getD_at h, e, k, Bool.false_and]
theorem at_no_rise {l : List FileD} {i : Nat} {x y : FileD} (h : i + 1 < l.length) (e : l[i + 1] = x) (e' : l[i] = y) (k : lessB y.name x.name = false) : atB l (i + 1) = false := by
  unfold atB riseB
  rw [getD_at h, e, Nat.add_sub_cancel, getD_at (show i < l.length by omega), e', k]
  simp
theorem at_yes {l : List FileD} {i : Nat} {x y : FileD} (h : i + 1 < l.length) (e : l[i + 1] = x) (e' : l[i] = y) (f : fileB x = true) (k : lessB y.name x.name = true) : atB l (i + 1) = true := by
  unfold atB riseB
  rw [getD_at h, e, Nat.add_sub_cancel, getD_at (show i < l.length by omega), e', f, k]
  simp
theorem at_first {l : List FileD} {x : FileD} (h : 0 < l.length) (e : l[0] = x) (f : fileB x = true) : atB l 0 = true := by
  unfold atB riseB
  rw [getD_at h, e, f]
  simp
end Go.Proofs.YtolchbfbbnkcdaaDoor
