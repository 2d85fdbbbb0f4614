/- Small numbers in base 16, by the model's way. -/
import Derived.Test.YtlmkpngaiilldaaDoorHex
import Derived.Deep.QuietTactic
import Derived.BigQuiet
import Derived.WalkSmall
namespace Go.Proofs.YtlmkpngaiilldaaDoor
open Go.RowKit Go.PlainAid

def updigs : ByteArray := ⟨#[48, 49, 50, 51, 52, 53, 54, 55, 56, 57, 65, 66, 67, 68, 69, 70]⟩
def upL (k : Nat) : List UInt8 := if k < 16 then [UInt8.ofNat (bt updigs k).toNat] else [UInt8.ofNat (bt updigs (k / 16)).toNat, UInt8.ofNat (bt updigs (k % 16)).toNat]
theorem up_small : ∀ k : Fin 16, 0 ≤ bt updigs k.val ∧ bt updigs k.val < 128 := by decide +kernel
theorem up_enc (k : Nat) (hk : k < 16) : Utf8.encode (bt updigs k) = ⟨#[UInt8.ofNat (bt updigs k).toNat]⟩ := by
  have := up_small ⟨k, hk⟩
  simp only [] at this
  exact enc1 (charB_iff.2 (by omega)) this.1 this.2

set_option maxRecDepth 100000 in
set_option maxHeartbeats 800000 in
theorem specHexOne (n : Int) (h0 : 0 ≤ n) (h1 : n < 16) (w : World) : Calls Tryd.prog 44 #[.int .i64 n] w fun e w' => e = .returned (.string ⟨#[UInt8.ofNat (bt updigs n.toNat).toNat]⟩) ∧ w = w' := by
  have hb := get_bt updigs
  unfold updigs at hb
  have he := up_enc n.toNat (by omega)
  unfold updigs at he
  go_enter Tryd.func44, Tryd.ntmps44
  go_wp2
  go_ret
  exact ⟨rfl, rfl⟩

set_option maxRecDepth 100000 in
set_option maxHeartbeats 800000 in
theorem specHexTwo (k : Nat) (hk1 : 16 ≤ k) (hk : k < 256) (w : World) : Calls Tryd.prog 44 #[.int .i64 k] w fun e w' => e = .returned (txt (upL k)) ∧ Below w.heap.size w w' := by
  have hb := get_bt updigs
  unfold updigs at hb
  have hk' : ¬ (k : Int) < 16 := by omega
  have he := up_enc (k % 16) (by omega)
  unfold updigs at he
  have i0 : (0 : Int) ≤ (k : Int) % 16 := by omega
  have i1 : (k : Int) % 16 < 16 := by omega
  have i2 : ((k : Int) % 16).toNat < 16 := by omega
  have hw := IntWalk.i64_in ((k : Int) / 16) ⟨by omega, by omega⟩
  have hw2 := IntWalk.i64_in ((k : Int) % 16) ⟨by omega, by omega⟩
  go_enter Tryd.func44, Tryd.ntmps44
  go_wp2
  go_quiet ((go_at_call 44; refine Calls.quiet_of_same ((specHexOne _ ?_ ?_ _).mono fun _ _ q => ⟨q.1, q.2.symm⟩) <;> omega))
  go_wp2
  go_ret
  refine ⟨?_, below_drewN (Below.refl _ _) _⟩
  have hn : ¬ k < 16 := by omega
  simp [upL, hn, txt, updigs]
  rfl

theorem specHex_any (k : Nat) (hk : k < 256) (w : World) : Calls Tryd.prog 44 #[.int .i64 k] w fun e w' => e = .returned (txt (upL k)) ∧ Below w.heap.size w w' := by
  by_cases h : k < 16
  · refine (specHexOne k (by omega) (by omega) w).mono ?_
    rintro e w' ⟨rfl, rfl⟩
    exact ⟨by simp [upL, h, txt], Below.refl _ _⟩
  · exact specHexTwo k (by omega) hk w
end Go.Proofs.YtlmkpngaiilldaaDoor
