/- The program's line of words: the words with a blank between each two, and a byte 10. Of whatever words, within the library's bound. -/
import Derived.Test.YtpfceikohoncgaaDoorZRd
import Derived.Test.YtpfceikohoncgaaDoorZShelf
namespace Go.Proofs.YtpfceikohoncgaaDoor
open Go.RowKit

def lineB (xs : List ByteArray) : ByteArray := ⟨(Lib.join (xs.map (·.data.toList)) [32]).toArray⟩ ++ ⟨#[10]⟩
theorem lineOf_any (bk o c n : Nat) (xs : List ByteArray) (w : World) (hn : xs.length = n) (hcells : ∀ (j : Nat) x, xs[j]? = some x → w.cell? ⟨bk, o + j, none⟩ = some (.string x)) (hbk : bk < w.heap.size) (hN : xs.length ≤ 140737488355328) (hcap : xs.length ≤ c) (hlen : (Lib.join (xs.map (·.data.toList)) [32]).length ≤ 140737488355328) :
    Calls Tryd.prog 18 #[.slice (some ⟨bk, o, none⟩) n c] w fun e w' => e = .returned (.string (lineB xs)) ∧ Below w.heap.size w w' := by
  have HJ := hide (Tryd.strings_Join bk o c xs ⟨#[32]⟩ w hcells hbk hN hcap hlen)
  rw [hn] at HJ
  obtain ⟨T, hT⟩ : ∃ T : ByteArray, ⟨(Lib.join (xs.map (·.data.toList)) [32]).toArray⟩ = T := ⟨_, rfl⟩
  have HJ2 : Hid (Calls Tryd.prog 29 #[.slice (some ⟨bk, o, none⟩) n c, .string ⟨#[32]⟩] w fun e w' => e = .returned (.string T) ∧ Below w.heap.size w w') := hide (by have := HJ.out; rw [← hT]; exact this)
  have hsz : ¬ 9223372036854775807 < T.size + 1 := by rw [← hT]; simp [ByteArray.size]; omega
  unfold lineB
  rw [hT]
  clear HJ hT hcells hlen hN hcap hn
  go_enter Tryd.func18, Tryd.ntmps18
  go_wp2_with fail
  refine HJ2.out.mono ?_
  rintro e w1 ⟨rfl, b1⟩
  go_wp2
  go_ret
  exact ⟨rfl, b1⟩
end Go.Proofs.YtpfceikohoncgaaDoor
