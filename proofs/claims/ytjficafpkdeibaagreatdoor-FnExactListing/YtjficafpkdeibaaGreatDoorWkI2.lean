/- The program's look at one instruction of its walk. No condition. -/
import Derived.Test.YtjficafpkdeibaaGreatDoorWkI1
import Derived.Deep.QuietTactic
namespace Go.Proofs.YtjficafpkdeibaaGreatDoor
open Go.ChangeShapes Go.WideShapes Go.ChangeAt Go.RowKit Go.Deep

/-- The row of an operation: what it takes and leaves, but for the two that tell it themselves. -/
theorem op_row (k : Nat) (h1 : 1 ≤ k) (h2 : k ≤ 17) : ∃ wd tl lv f1 f2, opsCells[k * 5]? = some (.string wd) ∧ opsCells[k * 5 + 1]? = some (.int .i64 tl) ∧ opsCells[k * 5 + 2]? = some (.int .i64 lv) ∧ opsCells[k * 5 + 3]? = some (.func (.func f1) #[] #[]) ∧ opsCells[k * 5 + 4]? = some (.func (.func f2) #[] #[]) ∧
    ∀ a b mod name, k ≠ 13 → k ≠ 14 → takes ⟨k, a, b, mod, name⟩ = tl ∧ leaves ⟨k, a, b, mod, name⟩ = lv := by
  have : k = 1 ∨ k = 2 ∨ k = 3 ∨ k = 4 ∨ k = 5 ∨ k = 6 ∨ k = 7 ∨ k = 8 ∨ k = 9 ∨ k = 10 ∨ k = 11 ∨ k = 12 ∨ k = 13 ∨ k = 14 ∨ k = 15 ∨ k = 16 ∨ k = 17 := by omega
  rcases this with rfl | rfl | rfl | rfl | rfl | rfl | rfl | rfl | rfl | rfl | rfl | rfl | rfl | rfl | rfl | rfl | rfl <;> exact ⟨_, _, _, _, _, rfl, rfl, rfl, rfl, rfl, fun a b mod name h13 h14 => by first | exact ⟨rfl, rfl⟩ | exact absurd rfl h13 | exact absurd rfl h14⟩
set_option maxHeartbeats 4000000 in
theorem moves_any (k : Nat) (h1 : 1 ≤ k) (h2 : k ≤ 17) (a b : Int) (mod name wd : ByteArray) (tl lv : Int) (f1 f2 : Nat) (hq : k ≠ 13 → k ≠ 14 → takes ⟨k, a, b, mod, name⟩ = tl ∧ leaves ⟨k, a, b, mod, name⟩ = lv) (w : World) :
    Calls Tryz.prog 160 #[.agg #[.int .i64 (k : Int), .int .i64 a, .int .i64 b, .string mod, .string name], .agg #[.string wd, .int .i64 tl, .int .i64 lv, .func (.func f1) #[] #[], .func (.func f2) #[] #[]]] w fun e w' => e = .returned (.tuple #[.int .i64 (takes ⟨k, a, b, mod, name⟩), .int .i64 (leaves ⟨k, a, b, mod, name⟩)]) ∧ Gw w w' := by
  have key : ∀ x y, takes ⟨k, a, b, mod, name⟩ = x → leaves ⟨k, a, b, mod, name⟩ = y → Ending.returned (.tuple #[.int .i64 x, .int .i64 y]) = .returned (.tuple #[.int .i64 (takes ⟨k, a, b, mod, name⟩), .int .i64 (leaves ⟨k, a, b, mod, name⟩)]) := fun x y h k => by rw [h, k]
  have HK := hide key
  by_cases e13 : k = 13
  · have p13 : ((k : Int) == 13) = true := by simp [e13]
    have HR := hide (show takes ⟨k, a, b, mod, name⟩ = a ∧ leaves ⟨k, a, b, mod, name⟩ = b by subst e13; exact ⟨rfl, rfl⟩)
    clear key hq h1 h2 e13
    go_enter Tryz.func160, Tryz.ntmps160
    go_wp2
    all_goals first
      | (go_ret2; exact ⟨HK.out _ _ HR.out.1 HR.out.2, (Gw.one _ _).trans (Gw.one _ _)⟩)
      | (go_quiet (fail); go_wp2; go_ret2; exact ⟨HK.out _ _ HR.out.1 HR.out.2, ((Gw.one _ _).trans (Gw.one _ _)).drewN _⟩)
  · have p13 : ((k : Int) == 13) = false := by simp; omega
    by_cases e14 : k = 14
    · have p14 : ((k : Int) == 14) = true := by simp [e14]
      have HR := hide (show takes ⟨k, a, b, mod, name⟩ = a ∧ leaves ⟨k, a, b, mod, name⟩ = 0 by subst e14; exact ⟨rfl, rfl⟩)
      clear key hq h1 h2 e13 e14
      go_enter Tryz.func160, Tryz.ntmps160
      go_wp2
      all_goals first
        | (go_ret2; exact ⟨HK.out _ _ HR.out.1 HR.out.2, (Gw.one _ _).trans (Gw.one _ _)⟩)
        | (go_quiet (fail); go_wp2; go_ret2; exact ⟨HK.out _ _ HR.out.1 HR.out.2, ((Gw.one _ _).trans (Gw.one _ _)).drewN _⟩)
    · have p14 : ((k : Int) == 14) = false := by simp; omega
      have HR := hide (hq e13 e14)
      clear key hq h1 h2 e13 e14
      go_enter Tryz.func160, Tryz.ntmps160
      go_wp2
      all_goals first
        | (go_ret2; exact ⟨HK.out _ _ HR.out.1 HR.out.2, (Gw.one _ _).trans (Gw.one _ _)⟩)
        | (go_quiet (fail); go_wp2; go_ret2; exact ⟨HK.out _ _ HR.out.1 HR.out.2, ((Gw.one _ _).trans (Gw.one _ _)).drewN _⟩)
end Go.Proofs.YtjficafpkdeibaaGreatDoor
