/- The sum of bytes tells two rows apart that differ in one byte. Of whatever program. No condition. -/
import Derived.Test.YtoomnimbokbadaaDoorZSum
namespace Go.Proofs.YtoomnimbokbadaaDoor
open Go.RowKit

theorem xor_left {a b c : Nat} (h : a ^^^ c = b ^^^ c) : a = b := by
  have := congrArg (fun x => x ^^^ c) h
  simpa [Nat.xor_assoc] using this
theorem mul_back (x : Int) : x * 16777619 % 4294967296 * 899433627 % 4294967296 = x % 4294967296 := by
  have h1 : x * 16777619 % 4294967296 * 899433627 % 4294967296 = x * 16777619 * 899433627 % 4294967296 := by
    rw [Int.mul_emod, Int.emod_emod, ← Int.mul_emod]
  rw [h1, Int.mul_assoc, show (16777619 : Int) * 899433627 = 1 + 4294967296 * 3513497 from by decide, Int.mul_add, Int.mul_one, ← Int.mul_assoc, Int.mul_comm x, Int.mul_assoc, Int.add_mul_emod_self_left]
theorem mul_inj {c d : Int} (c0 : 0 ≤ c) (c1 : c < 4294967296) (d0 : 0 ≤ d) (d1 : d < 4294967296) (h : c * 16777619 % 4294967296 = d * 16777619 % 4294967296) : c = d := by
  have h1 := mul_back c
  rw [h, mul_back, Int.emod_eq_of_lt c0 c1, Int.emod_eq_of_lt d0 d1] at h1
  exact h1.symm
theorem xor_in {x y : Int} (x0 : 0 ≤ x) (x1 : x ≤ 4294967295) (y0 : 0 ≤ y) (y1 : y ≤ 255) : ((x.toNat ^^^ y.toNat : Nat) : Int) < 4294967296 := by
  have : x.toNat ^^^ y.toNat < 2 ^ 32 := Nat.xor_lt_two_pow (by omega) (by omega)
  omega
theorem step_inj {x x' y : Int} (x0 : 0 ≤ x) (x1 : x ≤ 4294967295) (x0' : 0 ≤ x') (x1' : x' ≤ 4294967295) (y0 : 0 ≤ y) (y1 : y ≤ 255) (h : sumStep x y = sumStep x' y) : x = x' := by
  unfold sumStep at h
  have := mul_inj (Int.natCast_nonneg _) (xor_in x0 x1 y0 y1) (Int.natCast_nonneg _) (xor_in x0' x1' y0 y1) h
  have := xor_left (Int.ofNat.inj this)
  omega
theorem step_injy {x y y' : Int} (x0 : 0 ≤ x) (x1 : x ≤ 4294967295) (y0 : 0 ≤ y) (y1 : y ≤ 255) (y0' : 0 ≤ y') (y1' : y' ≤ 255) (h : sumStep x y = sumStep x y') : y = y' := by
  unfold sumStep at h
  have h2 := Int.ofNat.inj (mul_inj (Int.natCast_nonneg _) (xor_in x0 x1 y0 y1) (Int.natCast_nonneg _) (xor_in x0 x1 y0' y1') h)
  rw [Nat.xor_comm x.toNat, Nat.xor_comm x.toNat] at h2
  have := xor_left h2
  omega
theorem fold_inj : ∀ (l : List Int) {x x' : Int}, (∀ y ∈ l, 0 ≤ y ∧ y ≤ 255) → 0 ≤ x → x ≤ 4294967295 → 0 ≤ x' → x' ≤ 4294967295 → l.foldl sumStep x = l.foldl sumStep x' → x = x'
  | [], _, _, _, _, _, _, _, h => h
  | y :: r, x, x', hl, a, b, c, d, h => by
    have hy := hl y (by simp)
    have i1 := sumStep_in x y
    have i2 := sumStep_in x' y
    exact step_inj a b c d hy.1 hy.2 (fold_inj r (fun z hz => hl z (by simp [hz])) i1.1 i1.2 i2.1 i2.2 h)
theorem fold_in : ∀ (l : List Int) {x : Int}, 0 ≤ x → x ≤ 4294967295 → 0 ≤ l.foldl sumStep x ∧ l.foldl sumStep x ≤ 4294967295
  | [], _, a, b => ⟨a, b⟩
  | y :: r, x, _, _ => fold_in r (sumStep_in x y).1 (sumStep_in x y).2
theorem sum_set {l : List Int} {k : Nat} {y : Int} (hk : k < l.length) (hl : ∀ z ∈ l, 0 ≤ z ∧ z ≤ 255) (y0 : 0 ≤ y) (y1 : y ≤ 255) (hne : y ≠ l[k]) : sumF (l.set k y) ≠ sumF l := by
  intro h
  have e : l = l.take k ++ l[k] :: l.drop (k + 1) := by rw [List.getElem_cons_drop, List.take_append_drop]
  have e2 : l.set k y = l.take k ++ y :: l.drop (k + 1) := List.set_eq_take_append_cons_drop.trans (if_pos hk)
  have hd : ∀ z ∈ l.drop (k + 1), 0 ≤ z ∧ z ≤ 255 := fun z hz => hl z (List.mem_of_mem_drop hz)
  have hy := hl _ (List.getElem_mem hk)
  rw [e2] at h
  have h2 : sumF (l.take k ++ y :: l.drop (k + 1)) = sumF (l.take k ++ l[k] :: l.drop (k + 1)) := h.trans (congrArg sumF e)
  unfold sumF at h2
  rw [List.foldl_append, List.foldl_append, List.foldl_cons, List.foldl_cons] at h2
  have i := fold_in (l.take k) (x := 2166136261) (by omega) (by omega)
  have i1 := sumStep_in ((l.take k).foldl sumStep 2166136261) y
  have i2 := sumStep_in ((l.take k).foldl sumStep 2166136261) l[k]
  exact hne (step_injy i.1 i.2 y0 y1 hy.1 hy.2 (fold_inj _ hd i1.1 i1.2 i2.1 i2.2 h2))
end Go.Proofs.YtoomnimbokbadaaDoor
