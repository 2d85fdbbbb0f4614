/- What is told of a build: the data. No condition. -/
import Derived.Test.YtpfceikohoncgaaDoorZLineOf
import Derived.Test.YtpfceikohoncgaaDoorZBuD
import Derived.Test.YtpfceikohoncgaaDoorZDigits
namespace Go.Proofs.YtpfceikohoncgaaDoor
open Go.RowKit

def codeWs : List (List UInt8) := [[111, 107], [98, 97, 100], [108, 111, 110, 103], [102, 111, 114, 109], [115, 121, 110, 116, 97, 120], [110, 97, 109, 101], [116, 119, 105, 99, 101], [116, 121, 112, 101], [99, 111, 117, 110, 116], [114, 101, 115, 117, 108, 116], [112, 108, 97, 99, 101], [114, 97, 110, 103, 101], [110, 111, 110, 101], [109, 97, 110, 121], [100, 101, 101, 112], [115, 105, 122, 101], [115, 117, 109], [112, 114, 105, 110, 116], [99, 121, 99, 108, 101]]
def wordB (n : Nat) : ByteArray := ⟨(codeWs.getD n []).toArray⟩
theorem wordB_size (n : Nat) : (wordB n).size ≤ 6 := by
  by_cases h : n < 19
  · obtain rfl | rfl | rfl | rfl | rfl | rfl | rfl | rfl | rfl | rfl | rfl | rfl | rfl | rfl | rfl | rfl | rfl | rfl | rfl : n = 0 ∨ n = 1 ∨ n = 2 ∨ n = 3 ∨ n = 4 ∨ n = 5 ∨ n = 6 ∨ n = 7 ∨ n = 8 ∨ n = 9 ∨ n = 10 ∨ n = 11 ∨ n = 12 ∨ n = 13 ∨ n = 14 ∨ n = 15 ∨ n = 16 ∨ n = 17 ∨ n = 18 := by omega
    all_goals decide
  · have : codeWs.getD n [] = [] := by rw [List.getD_eq_getElem?_getD, List.getElem?_eq_none (by simp only [codeWs, List.length_cons, List.length_nil]; omega)]; rfl
    unfold wordB
    rw [this]
    decide
theorem wordB_ne {n : Nat} (h : n < 19) : (wordB n == ⟨#[]⟩) = false := by
  obtain rfl | rfl | rfl | rfl | rfl | rfl | rfl | rfl | rfl | rfl | rfl | rfl | rfl | rfl | rfl | rfl | rfl | rfl | rfl : n = 0 ∨ n = 1 ∨ n = 2 ∨ n = 3 ∨ n = 4 ∨ n = 5 ∨ n = 6 ∨ n = 7 ∨ n = 8 ∨ n = 9 ∨ n = 10 ∨ n = 11 ∨ n = 12 ∨ n = 13 ∨ n = 14 ∨ n = 15 ∨ n = 16 ∨ n = 17 ∨ n = 18 := by omega
  all_goals decide
theorem wordB_ne2 {n : Nat} (h : n < 19) : (wordB n).toList.isEmpty = false := by
  obtain rfl | rfl | rfl | rfl | rfl | rfl | rfl | rfl | rfl | rfl | rfl | rfl | rfl | rfl | rfl | rfl | rfl | rfl | rfl : n = 0 ∨ n = 1 ∨ n = 2 ∨ n = 3 ∨ n = 4 ∨ n = 5 ∨ n = 6 ∨ n = 7 ∨ n = 8 ∨ n = 9 ∨ n = 10 ∨ n = 11 ∨ n = 12 ∨ n = 13 ∨ n = 14 ∨ n = 15 ∨ n = 16 ∨ n = 17 ∨ n = 18 := by omega
  all_goals first | rfl | decide | decide +kernel
def itoaB (n : Int) : ByteArray := ⟨(Lib.itoa n).toArray⟩
theorem itoaB_size {n : Int} (h : I64 n) : (itoaB n).size ≤ 20 := by
  have := itoa_len n h.1 h.2
  simpa [itoaB, ByteArray.size] using this
def BuOK (code : Int) (module : ByteArray) (made : List StringD) : Prop := (0 ≤ code ∧ code ≤ 18) ∧ made.length ≤ 20 ∧ module.size ≤ 40 ∧ ∀ s ∈ made, s.size ≤ 40
instance (c : Int) (m : ByteArray) (l : List StringD) : Decidable (BuOK c m l) := by unfold BuOK; exact inferInstance
/-- The words of the line: of a fault, of a build. -/
def faultL (code place : Int) (module : ByteArray) : List ByteArray := [⟨#[101, 114, 114, 111, 114]⟩, wordB code.toNat, module, itoaB place]
def builtL (n : Nat) (made : List StringD) : List ByteArray := ⟨#[98, 117, 105, 108, 116]⟩ :: itoaB n :: made
def buL (code place : Int) (module : ByteArray) (n : Nat) (made : List StringD) : List ByteArray := if code = 0 then builtL n made else faultL code place module
def buT (code place : Int) (module : ByteArray) (n : Nat) (made : List StringD) : ByteArray := if BuOK code module made then lineB (buL code place module n made) else ⟨#[]⟩
def buC (code : Int) (module : ByteArray) (made : List StringD) : Int := if BuOK code module made then 0 else 1
theorem bu_bad {c p : Int} {m : ByteArray} {n : Nat} {l : List StringD} (h : ¬ BuOK c m l) : buT c p m n l = ⟨#[]⟩ ∧ buC c m l = 1 := by simp [buT, buC, h]
theorem bu_ok {c p : Int} {m : ByteArray} {n : Nat} {l : List StringD} (h : BuOK c m l) : buT c p m n l = lineB (buL c p m n l) ∧ buC c m l = 0 := by simp [buT, buC, h]
/-- Texts as lists of bytes. -/
theorem ba_of (s : ByteArray) : s = ⟨s.data.toList.toArray⟩ := by cases s; simp
theorem ba_len (s : ByteArray) : s.data.toList.length = s.size := Array.length_toList
theorem line_fault (a b c d : ByteArray) : lineB [a, b, c, d] = ((((((a ++ ⟨#[32]⟩) ++ b) ++ ⟨#[32]⟩) ++ c) ++ ⟨#[32]⟩) ++ d) ++ ⟨#[10]⟩ := by
  obtain ⟨⟨a⟩⟩ := a
  obtain ⟨⟨b⟩⟩ := b
  obtain ⟨⟨c⟩⟩ := c
  obtain ⟨⟨d⟩⟩ := d
  have e : ∀ l : List UInt8, (⟨l.toArray⟩ : ByteArray) = ⟨⟨l⟩⟩ := fun l => rfl
  unfold lineB
  rw [List.map_cons, Lib.join_cons]
  simp only [← e, Lib.joinTail, List.map_cons, List.map_nil, List.flatten_cons, List.flatten_nil, ba_app, List.append_assoc, List.append_nil]
/-- The line as far as it goes, without its end. -/
def outB (n : Nat) (l : List StringD) : ByteArray := ⟨(Lib.join ((builtL n l).map (·.data.toList)) [32]).toArray⟩
theorem outB_eq (n : Nat) (l : List StringD) : outB n l = ⟨((([98, 117, 105, 108, 116] : List UInt8) ++ ([32] ++ (itoaB n).data.toList)) ++ Lib.joinTail [32] (l.map fun x : ByteArray => x.data.toList)).toArray⟩ := by
  unfold outB builtL
  rw [List.map_cons, Lib.join_cons]
  simp only [Lib.joinTail, List.map_cons, List.flatten_cons, List.append_assoc]
theorem outB_nil (n : Nat) : outB n [] = ⟨#[98, 117, 105, 108, 116, 32]⟩ ++ itoaB n := by
  rw [outB_eq]
  simp only [Lib.joinTail, List.map_nil, List.flatten_nil, List.append_nil]
  unfold itoaB
  rw [show (⟨#[98, 117, 105, 108, 116, 32]⟩ : ByteArray) = ⟨[98, 117, 105, 108, 116, 32].toArray⟩ from rfl, ba_app]
  rfl
theorem outB_snoc (n : Nat) (l : List StringD) (s : ByteArray) : outB n (l ++ [s]) = outB n l ++ (⟨#[32]⟩ ++ s) := by
  rw [outB_eq, outB_eq]
  obtain ⟨⟨s⟩⟩ := s
  rw [show (⟨⟨s⟩⟩ : ByteArray) = ⟨s.toArray⟩ from rfl, show (⟨#[32]⟩ : ByteArray) = ⟨[32].toArray⟩ from rfl, ba_app, ba_app, List.map_append]
  simp only [Lib.joinTail, List.map_cons, List.map_append, List.map_nil, List.flatten_cons, List.flatten_append, List.flatten_nil, List.append_assoc, List.append_nil]
theorem outB_line (n : Nat) (l : List StringD) : lineB (builtL n l) = outB n l ++ ⟨#[10]⟩ := rfl
theorem tail_size : ∀ (l : List StringD), (∀ s ∈ l, s.size ≤ 40) → (Lib.joinTail [32] (l.map fun x : ByteArray => x.data.toList)).length ≤ 41 * l.length
  | [], _ => by simp [Lib.joinTail]
  | s :: r, h => by
    have h1 := tail_size r fun x hx => h x (List.mem_cons_of_mem _ hx)
    have h2 := h s (List.mem_cons_self ..)
    have h3 := ba_len s
    simp only [Lib.joinTail, List.map_cons, List.flatten_cons, List.length_append, List.length_cons, List.length_nil] at h1 ⊢
    omega
theorem outB_size {n : Nat} (l : List StringD) (h : ∀ s ∈ l, s.size ≤ 40) : (outB n l).size ≤ 6 + (itoaB n).size + 41 * l.length := by
  have h1 := tail_size l h
  have h2 := ba_len (itoaB n)
  rw [outB_eq]
  simp only [ByteArray.size, List.size_toArray, List.length_append, List.length_cons, List.length_nil, Array.length_toList] at h1 h2 ⊢
  omega
end Go.Proofs.YtpfceikohoncgaaDoor
