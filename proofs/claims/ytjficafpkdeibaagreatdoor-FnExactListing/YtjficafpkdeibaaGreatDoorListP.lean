/- What a listing says, as plain data. No condition. -/
import Derived.Test.YtjficafpkdeibaaGreatDoorObjD
import Derived.Test.YtjficafpkdeibaaGreatDoorDigits
import Derived.Test.YtjficafpkdeibaaGreatDoorBuild
import Derived.Lib.ItoaNum
namespace Go.Proofs.YtjficafpkdeibaaGreatDoor
open Go.RowKit

/-- A text's bytes, bytes as numbers. -/
def ub (s : ByteArray) : List UInt8 := s.data.toList
theorem ub_len (s : ByteArray) : (ub s).length = s.size := by
  unfold ub
  rw [Array.length_toList]
  rfl
theorem ub_mk (l : List UInt8) : ub ⟨l.toArray⟩ = l := by unfold ub; simp
theorem mk_ub (s : ByteArray) : (⟨(ub s).toArray⟩ : ByteArray) = s := by
  apply ByteArray.ext
  simp [ub]
theorem ub_app (a b : ByteArray) : ub (a ++ b) = ub a ++ ub b := by unfold ub; simp
def nb (l : List UInt8) : List Int := l.map fun b => (b.toNat : Int)
theorem nb_app (a b : List UInt8) : nb (a ++ b) = nb a ++ nb b := by unfold nb; simp
theorem nb_sb (s : ByteArray) : sb s = nb (ub s) := rfl
theorem nb_len (a : List UInt8) : (nb a).length = a.length := by unfold nb; simp
theorem bc_nb (a : List UInt8) : bc (nb a) = Lib.byteCells a := by unfold bc nb Lib.byteCells; simp
theorem nb_back (a : List UInt8) : (nb a).map (fun n => UInt8.ofNat n.toNat) = a := by
  unfold nb
  rw [List.map_map]
  refine (List.map_congr_left fun b _ => ?_).trans (List.map_id a)
  simp
theorem txt_size (l : List UInt8) : (⟨l.toArray⟩ : ByteArray).size = l.length := by simp [ByteArray.size]
/-- The words of the table, the signs. -/
def opWords : List (List UInt8) := [[], [112, 117, 115, 104], [108, 111, 99, 97, 108], [103, 108, 111, 98, 97, 108], [108, 111, 97, 100], [115, 116, 111, 114, 101], [105, 110, 100, 101, 120], [119, 111, 114, 107], [110, 101, 103], [110, 111, 116], [99, 104, 114], [106, 117, 109, 112], [106, 117, 109, 112, 102, 97, 108, 115, 101], [99, 97, 108, 108], [114, 101, 116, 117, 114, 110], [119, 114, 105, 116, 101], [114, 101, 97, 100], [116, 114, 97, 112]]
def opSigns : List (List UInt8) := [[43], [45], [42], [68, 73, 86], [77, 79, 68], [61], [35], [60], [60, 61], [62], [62, 61]]
def wordU (k : Nat) : List UInt8 := opWords.getD k []
def signU (k : Nat) : List UInt8 := opSigns.getD k []
theorem word_len : ∀ k : Fin 18, (wordU k.val).length ≤ 9 := by decide
theorem sign_len : ∀ k : Fin 11, (signU k.val).length ≤ 3 := by decide
/-- What is listed behind the word. -/
def numU (n : Int) : List UInt8 := 32 :: Lib.itoa n
def nameU (x : InsD) : List UInt8 := ([32] ++ ub x.mod ++ [46]) ++ ub x.name
def tailU (x : InsD) : List UInt8 :=
  if x.op = 7 then 32 :: signU x.a.toNat
  else if x.op = 3 then nameU x
  else if x.op = 13 then (nameU x ++ numU x.a) ++ numU x.b
  else if x.op = 1 ∨ x.op = 2 ∨ x.op = 6 ∨ x.op = 11 ∨ x.op = 12 ∨ x.op = 15 ∨ x.op = 16 ∨ x.op = 17 then numU x.a
  else []
def rowU (i : Nat) (x : InsD) : List UInt8 := (Lib.itoa i ++ [32] ++ wordU x.op.toNat) ++ tailU x ++ [10]
def rowsU : Nat → List InsD → List UInt8
  | _, [] => []
  | i, x :: r => rowU i x ++ rowsU (i + 1) r
/-- An instruction as a right code has it. -/
def GoodI (x : InsD) : Prop := 1 ≤ x.op ∧ x.op ≤ 17 ∧ I64 x.a ∧ I64 x.b ∧ x.mod.size ≤ 40 ∧ x.name.size ≤ 40 ∧ (x.op = 7 → 0 ≤ x.a ∧ x.a < 11)
theorem num_len (n : Int) (h : I64 n) : (numU n).length ≤ 21 := by
  have := itoa_len n h.1 h.2
  unfold numU
  simp
  omega
theorem name_len {x : InsD} (h : GoodI x) : (nameU x).length ≤ 82 := by
  obtain ⟨-, -, -, -, h1, h2, -⟩ := h
  unfold nameU
  rw [List.length_append, List.length_append, List.length_append, ub_len, ub_len]
  simp
  omega
theorem tail_len {x : InsD} (h : GoodI x) : (tailU x).length ≤ 130 := by
  have h1 := name_len h
  have h2 := num_len x.a h.2.2.1
  have h3 := num_len x.b h.2.2.2.1
  unfold tailU
  split
  · rename_i e
    have hs := h.2.2.2.2.2.2 e
    have := sign_len ⟨x.a.toNat, by omega⟩
    simp only [] at this
    simp
    omega
  · split
    · omega
    · split
      · rw [List.length_append, List.length_append]
        omega
      · split
        · omega
        · simp
theorem row_len {i : Nat} {x : InsD} (h : GoodI x) (hi : i ≤ 1000000) : (rowU i x).length ≤ 200 := by
  have h1 := tail_len h
  have h2 := itoa_len (i : Int) (by omega) (by omega)
  have h3 := word_len ⟨x.op.toNat, by have := h.1; have := h.2.1; omega⟩
  simp only [] at h3
  unfold rowU
  simp only [List.length_append, List.length_cons, List.length_nil]
  omega
theorem rows_snoc : ∀ (l : List InsD) (i k : Nat) (hk : k < l.length), rowsU i (l.take (k + 1)) = rowsU i (l.take k) ++ rowU (i + k) l[k]
  | [], _, _, hk => by simp at hk
  | x :: r, i, 0, _ => by simp [rowsU]
  | x :: r, i, k + 1, hk => by
    have := rows_snoc r (i + 1) k (by simpa using hk)
    rw [List.take_succ_cons, rowsU, this, List.take_succ_cons, rowsU, List.append_assoc]
    congr 3
    omega
def Good (l : List InsD) : Prop := ∀ x ∈ l, GoodI x
theorem rows_len : ∀ (l : List InsD) (i : Nat), Good l → i + l.length ≤ 1000000 → (rowsU i l).length ≤ 200 * l.length
  | [], _, _, _ => by simp [rowsU]
  | x :: r, i, h, hi => by
    have h1 := row_len (i := i) (h x (by simp)) (by simp at hi; omega)
    have h2 := rows_len r (i + 1) (fun y hy => h y (by simp [hy])) (by simp at hi; omega)
    rw [rowsU, List.length_append, List.length_cons]
    omega
end Go.Proofs.YtjficafpkdeibaaGreatDoor
