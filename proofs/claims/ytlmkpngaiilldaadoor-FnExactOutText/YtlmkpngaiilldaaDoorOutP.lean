/- What is told, as plain data: which things are right, and their lines' bytes. No condition. -/
import Derived.Test.YtlmkpngaiilldaaDoorOutD
import Derived.Test.YtlmkpngaiilldaaDoorCharText
import Derived.Test.YtlmkpngaiilldaaDoorDigits
import Derived.Test.YtlmkpngaiilldaaDoorBuild
namespace Go.Proofs.YtlmkpngaiilldaaDoor
open Go.RowKit

def outB (x : OutD) : Bool := x.ty == 1 || (x.ty == 2 && (x.value == 0 || x.value == 1)) || (x.ty == 3 && charB x.value)
def outT (x : OutD) : ByteArray := if x.ty = 2 then (if x.value = 1 then ⟨#[84, 82, 85, 69]⟩ else ⟨#[70, 65, 76, 83, 69]⟩) else if x.ty = 3 then charText x.value else ⟨(Lib.itoa x.value).toArray⟩
theorem outT_size (x : OutD) (h : I64 x.value) (hb : outB x = true) : (outT x).size ≤ 20 := by
  unfold outT
  split
  · split <;> decide
  · split
    · rename_i h2 h3
      have hc : charB x.value = true := by
        unfold outB at hb
        simp [h3] at hb
        exact hb
      unfold charText
      split
      · rename_i hn
        have hr := charB_iff.1 hc
        have hn' : x.value < 32 ∨ x.value = 127 ∨ x.value = 34 := of_decide_eq_true hn
        have := up_len ⟨x.value.toNat, by omega⟩
        simp only [] at this
        rw [ByteArray.size_append, ByteArray.size_append, txt_size]
        show 1 + (upL x.value.toNat).length + 1 ≤ 20
        omega
      · have := enc_size x.value
        rw [ByteArray.size_append, ByteArray.size_append]
        show 1 + (Utf8.encode x.value).size + 1 ≤ 20
        omega
    · have := itoa_len x.value h.1 h.2
      rw [txt_size]
      exact this
/-- A text's bytes. -/
def ub (s : ByteArray) : List UInt8 := s.data.toList
theorem ub_len (s : ByteArray) : (ub s).length = s.size := by
  unfold ub
  rw [Array.length_toList]
  rfl
def lineU (x : OutD) : List UInt8 := ub (outT x) ++ [10]
def linesU : List OutD → List UInt8
  | [] => []
  | x :: r => lineU x ++ linesU r
/-- Bytes as numbers. -/
def nb (l : List UInt8) : List Int := l.map fun b => (b.toNat : Int)
theorem nb_app (a b : List UInt8) : nb (a ++ b) = nb a ++ nb b := by unfold nb; simp
theorem nb_sb (s : ByteArray) : sb s = nb (ub s) := rfl
theorem nb_len (a : List UInt8) : (nb a).length = a.length := by unfold nb; simp
theorem bc_nb (a : List UInt8) : bc (nb a) = Lib.byteCells a := by unfold bc nb Lib.byteCells; simp
theorem nb_back (a : List UInt8) : (nb a).map (fun n => UInt8.ofNat n.toNat) = a := by
  unfold nb
  rw [List.map_map]
  refine (List.map_congr_left fun b _ => ?_).trans (List.map_id a)
  simp
theorem lineU_len (x : OutD) (h : I64 x.value) (hb : outB x = true) : (lineU x).length ≤ 21 := by
  have := outT_size x h hb
  unfold lineU
  rw [List.length_append, ub_len]
  simp
  omega
theorem linesU_app (a b : List OutD) : linesU (a ++ b) = linesU a ++ linesU b := by
  induction a with
  | nil => rfl
  | cons x r ih => rw [List.cons_append, linesU, linesU, ih, List.append_assoc]
theorem linesU_len : ∀ (l : List OutD), (∀ x ∈ l, I64 x.value ∧ outB x = true) → (linesU l).length ≤ 21 * l.length
  | [], _ => by simp [linesU]
  | x :: r, h => by
    have h1 := lineU_len x (h x (by simp)).1 (h x (by simp)).2
    have h2 := linesU_len r fun y hy => h y (by simp [hy])
    rw [linesU, List.length_append, List.length_cons]
    omega
theorem linesU_take {l : List OutD} {k : Nat} (h : k < l.length) : linesU (l.take (k + 1)) = linesU (l.take k) ++ lineU l[k] := by
  rw [List.take_succ_eq_append_getElem h, linesU_app]
  congr 1
  simp [linesU]
/-- Up to k all is right. -/
def OutUp (l : List OutD) (k : Nat) : Prop := ∀ j (hj : j < l.length), j < k → I64 l[j].value ∧ outB l[j] = true
theorem OutUp.len {l : List OutD} {k : Nat} (h : OutUp l k) (hk : k ≤ l.length) : (linesU (l.take k)).length ≤ 21 * k := by
  have := linesU_len (l.take k) fun x hx => by
    obtain ⟨j, hj, rfl⟩ := List.getElem_of_mem hx
    rw [List.getElem_take]
    rw [List.length_take] at hj
    exact h j (by omega) (by omega)
  rw [List.length_take] at this
  omega
theorem OutUp.step {l : List OutD} {k : Nat} (h : OutUp l k) (hk : k < l.length) (hi : I64 l[k].value) (hb : outB l[k] = true) : OutUp l (k + 1) := fun j hj hlt => by
  by_cases e : j < k
  · exact h j hj e
  · obtain rfl : j = k := by omega
    exact ⟨hi, hb⟩
/-- The answer. -/
def outA (l : List OutD) : ByteArray × Int := if 4096 < l.length then (⟨#[]⟩, 2) else if l.all outB then (⟨(linesU l).toArray⟩, 0) else (⟨#[]⟩, 1)
theorem outA_long {l : List OutD} (h : 4096 < l.length) : outA l = (⟨#[]⟩, 2) := by unfold outA; rw [if_pos h]
theorem outA_bad {l : List OutD} (h : ¬ 4096 < l.length) {k : Nat} (hk : k < l.length) (hb : outB l[k] = false) : outA l = (⟨#[]⟩, 1) := by
  unfold outA
  rw [if_neg h, if_neg]
  intro q
  have := List.all_eq_true.1 q l[k] (List.getElem_mem hk)
  rw [hb] at this
  cases this
theorem outA_all {l : List OutD} (h : ¬ 4096 < l.length) (hu : OutUp l l.length) : outA l = (⟨(linesU l).toArray⟩, 0) := by
  unfold outA
  rw [if_neg h, if_pos]
  refine List.all_eq_true.2 fun x hx => ?_
  obtain ⟨j, hj, rfl⟩ := List.getElem_of_mem hx
  exact (hu j hj hj).2
end Go.Proofs.YtlmkpngaiilldaaDoor
