/- The text that a law writes into an answer to see who else holds it: a function of its number alone. -/
import Derived.Test.YtoomnimbokbadaaDoorZConv
namespace Go.Proofs.YtoomnimbokbadaaDoor
open Go.RowKit

def mtAux : Nat → Int → ByteArray → ByteArray
  | 0, _, out => out
  | f + 1, k, out => if 0 < k then mtAux f (k / 10) (⟨#[UInt8.ofNat (48 + k % 10).toNat]⟩ ++ out) else out
/-- The text of mark k. -/
def mt (k : Int) : ByteArray := if k ≤ 0 then ⟨#[109, 48]⟩ else ⟨#[109]⟩ ++ mtAux (k.toNat + 1) k ⟨#[]⟩
theorem mtAux_enough : ∀ (f g : Nat) (k : Int) (out : ByteArray), 0 ≤ k → k < f → k < g → mtAux f k out = mtAux g k out
  | 0, _, k, _, h0, h, _ => by omega
  | _ + 1, 0, k, _, h0, _, h => by omega
  | f + 1, g + 1, k, out, h0, hf, hg => by
    simp only [mtAux]
    by_cases c : 0 < k
    · rw [if_pos c, if_pos c]
      exact mtAux_enough f g (k / 10) _ (by omega) (by omega) (by omega)
    · rw [if_neg c, if_neg c]
theorem mtAux_step {k : Int} (out : ByteArray) (h : 0 < k) : mtAux (k.toNat + 1) k out = mtAux ((k / 10).toNat + 1) (k / 10) (⟨#[UInt8.ofNat (48 + k % 10).toNat]⟩ ++ out) := by
  simp only [mtAux]
  rw [if_pos h]
  exact mtAux_enough k.toNat ((k / 10).toNat + 1) (k / 10) _ (by omega) (by omega) (by omega)
theorem mtAux_stop {k : Int} (out : ByteArray) (h : k ≤ 0) : mtAux (k.toNat + 1) k out = out := by
  simp only [mtAux]
  rw [if_neg (by omega)]

theorem one_size (a : UInt8) (o : ByteArray) : ((⟨#[a]⟩ : ByteArray) ++ o).size = 1 + o.size := by rw [ByteArray.size_append]; rfl
set_option maxHeartbeats 1600000 in
theorem markText_any (k : Int) (w : World) (h1 : k ≤ 4000000000000000000) : Calls Tryd.prog 70 #[.int .i64 k] w fun e w' => e = .returned (.string (mt k)) ∧ Below w.heap.size w w' := by
  by_cases h : k ≤ 0
  · have e : mt k = ⟨#[109, 48]⟩ := by unfold mt; rw [if_pos h]
    rw [e]
    clear e
    go_enter Tryd.func70, Tryd.ntmps70
    go_wp2
    go_ret
    exact ⟨rfl, Below.refl _ _⟩
  · have e : mt k = ⟨#[109]⟩ ++ mtAux (k.toNat + 1) k ⟨#[]⟩ := by unfold mt; rw [if_neg h]
    rw [e]
    clear e
    have k1 := conv1
    go_enter Tryd.func70, Tryd.ntmps70
    go_wp2
    go_loopw [0, 3] (fun n out wr => ∃ (j : Int) (o : ByteArray), n = .int .i64 j ∧ out = .string o ∧ 0 ≤ j ∧ (o.size : Int) + j ≤ 4000000000000000000 ∧ Hid (mtAux (j.toNat + 1) j o = mtAux (k.toNat + 1) k ⟨#[]⟩) ∧ Below w.heap.size w wr) (fun n _ _ => (intOf n).toNat)
    case atStart => exact ⟨k, _, rfl, rfl, by omega, by show (0 : Int) + k ≤ _; omega, rfl, Below.refl _ _⟩
    case round =>
      obtain ⟨j, o, rfl, rfl, j0, j1, Hj, hbw⟩ := hrel
      by_cases hp : 0 < j
      · have hz : ¬ 9223372036854775807 < 1 + o.size := by omega
        go_wp2
        go_roundw
        case rel => exact ⟨_, _, rfl, rfl, by omega, by rw [one_size]; omega, by rw [← mtAux_step o hp]; exact Hj, hbw.alloc hbw.size _⟩
        case measure => simp [intOf]; omega
      · have hz : ¬ 9223372036854775807 < 1 + o.size := by omega
        go_wp2
        go_ret
        exact ⟨ret_string (by rw [← Hj.out, mtAux_stop o (by omega)]), hbw⟩
end Go.Proofs.YtoomnimbokbadaaDoor
