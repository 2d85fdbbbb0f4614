/- The laws' pick of a number off bytes. No condition but the sizes that the laws give it. -/
import Derived.Test.YtoomnimbokbadaaDoorZBase
import Derived.BigQuiet
import Derived.Deep.QuietTactic
namespace Go.Proofs.YtoomnimbokbadaaDoor
open Go.RowKit

theorem pick_in {n : Nat} (hn : 1 ≤ n) (x : Int) : ∃ k : Nat, k < n ∧ Ending.returned (.int .i64 (x % n)) = .returned (.int .i64 k) := by
  have h1 := Int.emod_nonneg x (show (n : Int) ≠ 0 by omega)
  have h2 := Int.emod_lt_of_pos x (show (0 : Int) < n by omega)
  exact ⟨(x % n).toNat, by omega, by rw [Int.toNat_of_nonneg h1]⟩
theorem at_none (a : Option Addr) (c i n : Nat) (w : World) (hi : i ≤ 1) (hn : 1 ≤ n) (hn2 : n ≤ 100000) :
    Calls Tryd.prog 12 #[.slice a 0 c, .int .i64 i, .int .i64 n] w fun e w' => (∃ k : Nat, k < n ∧ e = .returned (.int .i64 k)) ∧ Below w.heap.size w w' := by
  by_cases h1 : n ≤ 1
  · have i1 : (n : Int) ≤ 1 := by omega
    go_enter Tryd.func12, Tryd.ntmps12
    go_wp2
    go_ret
    exact ⟨⟨0, by omega, rfl⟩, Below.refl _ _⟩
  · have i1 : ¬ (n : Int) ≤ 1 := by omega
    have i2 : ((n : Int) == 0) = false := by simp; omega
    go_enter Tryd.func12, Tryd.ntmps12
    go_wp2
    go_ret
    exact ⟨pick_in hn _, Below.refl _ _⟩
set_option maxRecDepth 100000 in
set_option maxHeartbeats 4000000 in
theorem at_some (b o p c i n k1 k2 d : Nat) (z1 z2 : Int) (w : World) (hi : i ≤ 1) (hn : 1 ≤ n) (hn2 : n ≤ 100000) (hp : 1 ≤ p) (hp2 : p ≤ 1048576) (e1 : (i : Int).tmod p = k1) (e2 : ((i : Int) + 1).tmod p = k2) (e3 : (i : Int).tdiv p = d) (hd : d ≤ 1)
    (h1 : k1 < p) (h2 : k2 < p) (hc1 : w.cell? ⟨b, o + k1, none⟩ = some (.int .u8 z1)) (hc2 : w.cell? ⟨b, o + k2, none⟩ = some (.int .u8 z2)) (hz1 : 0 ≤ z1 ∧ z1 ≤ 255) (hz2 : 0 ≤ z2 ∧ z2 ≤ 255) :
    Calls Tryd.prog 12 #[.slice (some ⟨b, o, none⟩) p c, .int .i64 i, .int .i64 n] w fun e w' => (∃ k : Nat, k < n ∧ e = .returned (.int .i64 k)) ∧ Below w.heap.size w w' := by
  by_cases h1 : n ≤ 1
  · have i1 : (n : Int) ≤ 1 := by omega
    go_enter Tryd.func12, Tryd.ntmps12
    go_wp2
    go_ret
    exact ⟨⟨0, by omega, rfl⟩, Below.refl _ _⟩
  · have i1 : ¬ (n : Int) ≤ 1 := by omega
    have i2 : ((n : Int) == 0) = false := by simp; omega
    have i3 : ((p : Int) == 0) = false := by simp; omega
    have i4 : (0 : Int) ≤ (k1 : Int) := by omega
    have i5 : (k1 : Int) < p := by omega
    have i6 : (0 : Int) ≤ (k2 : Int) := by omega
    have i7 : (k2 : Int) < p := by omega
    have i8 : IntKind.i64.wrap ((i : Int) + 1) = (i : Int) + 1 := by rw [IntKind.wrap_i64]; omega
    have i9 : ¬ p = 0 := by omega
    obtain ⟨z10, z11⟩ := hz1
    obtain ⟨z20, z21⟩ := hz2
    go_enter Tryd.func12, Tryd.ntmps12
    go_wp2
    go_quiet (fail)
    go_wp2
    go_ret
    exact ⟨pick_in hn _, ⟨rfl, rfl, rfl, Nat.le_refl _, fun _ _ => rfl⟩⟩
/-- Off whatever row of bytes. -/
def RowB (w : World) (a : Option Addr) (p : Nat) : Prop := p ≤ 1048576 ∧ ∀ j, j < p → ∃ b o z, a = some ⟨b, o, none⟩ ∧ b < w.heap.size ∧ w.cell? ⟨b, o + j, none⟩ = some (.int .u8 z) ∧ 0 ≤ z ∧ z ≤ 255
theorem RowB.on {w w' : World} {a : Option Addr} {p : Nat} (h : RowB w a p) (bel : Below w.heap.size w w') : RowB w' a p := ⟨h.1, fun j hj => by
  obtain ⟨b, o, z, e, h1, h2, h3⟩ := h.2 j hj
  exact ⟨b, o, z, e, Nat.lt_of_lt_of_le h1 bel.size, (bel.cell (p := ⟨b, o + j, none⟩) h1).trans h2, h3⟩⟩
theorem at_any (a : Option Addr) (p c i n : Nat) (w : World) (h : RowB w a p) (hi : i ≤ 1) (hn : 1 ≤ n) (hn2 : n ≤ 100000) :
    Calls Tryd.prog 12 #[.slice a p c, .int .i64 i, .int .i64 n] w fun e w' => (∃ k : Nat, k < n ∧ e = .returned (.int .i64 k)) ∧ Below w.heap.size w w' := by
  by_cases hp : p = 0
  · subst hp
    exact at_none a c i n w hi hn hn2
  · have l1 : i % p < p := Nat.mod_lt _ (by omega)
    have l2 : (i + 1) % p < p := Nat.mod_lt _ (by omega)
    obtain ⟨b, o, z1, rfl, -, c1, y1⟩ := h.2 _ l1
    obtain ⟨b', o', z2, e, -, c2, y2⟩ := h.2 _ l2
    cases e
    refine at_some b o p c i n (i % p) ((i + 1) % p) (i / p) z1 z2 w hi hn hn2 (by omega) h.1 ?_ ?_ ?_ ?_ l1 l2 c1 c2 y1 y2
    · rw [Int.tmod_eq_emod_of_nonneg (by omega)]; rfl
    · rw [Int.tmod_eq_emod_of_nonneg (by omega)]; rfl
    · rw [Int.tdiv_eq_ediv_of_nonneg (by omega)]; rfl
    · exact Nat.le_trans (Nat.div_le_self _ _) hi
end Go.Proofs.YtoomnimbokbadaaDoor
