/- Rows of bytes: told the same, marked, and their marks found again, by the law's own ways. No condition. -/
import Derived.Test.YtoomnimbokbadaaDoorZByt
import Derived.BigQuiet
import Derived.Deep.QuietTactic
namespace Go.Proofs.YtoomnimbokbadaaDoor
open Go.RowKit

def ByAt (w : World) (B : Nat) (a : Option Addr) (l : List Int) : Prop := ∀ i (h : i < l.length), ∃ g, a = some ⟨g, 0, none⟩ ∧ B ≤ g ∧ g < w.heap.size ∧ w.cell? ⟨g, i, none⟩ = some (.int .u8 l[i]) ∧ w.frozen? ⟨g, i, none⟩ = false
theorem Own.at {w : World} {B : Nat} {v : Value} {l : List Int} (h : Own w B v l) : ∃ a c, v = .slice a l.length c ∧ ByAt w B a l := by
  rcases h.2 with ⟨rfl, e⟩ | ⟨g, cap, cur, rfl, hb, hg, _⟩
  · rw [e]
    exact ⟨none, 0, rfl, fun i hi => by omega⟩
  · refine ⟨_, cap, rfl, fun i hi => ⟨g, rfl, hb, (Array.getElem?_eq_some_iff.1 hg).1, ?_, (heapCells hg).2 i⟩⟩
    have := h.cells i (.int .u8 l[i]) (by unfold bc; simp [hi])
    have e : (⟨g, 0, none⟩ : Addr).add i = ⟨g, i, none⟩ := by simp [Addr.add]; intro h; exact h.symm
    rwa [e] at this
theorem ByAt.on {w w' : World} {B : Nat} {a : Option Addr} {l : List Int} (h : ByAt w B a l) (bel : Below w.heap.size w w') : ByAt w' B a l := by
  intro i hi
  obtain ⟨g, e, h1, h2, h3, h4⟩ := h i hi
  exact ⟨g, e, h1, Nat.lt_of_lt_of_le h2 bel.size, (bel.cell (p := ⟨g, i, none⟩) h2).trans h3, (bel.frozen (p := ⟨g, i, none⟩) h2).trans h4⟩
set_option maxHeartbeats 2000000 in
theorem eqByteS_same (B B' : Nat) (v v' : Value) (l : List Int) (w : World) (hl : l.length ≤ 1099511627776) (h : Own w B v l) (h' : Own w B' v' l) :
    Calls Tryd.prog 20 #[v, v'] w fun e w' => e = .returned (.bool true) ∧ Below w.heap.size w w' := by
  have hmix : Tryd.prog.follows .mixedOrders = true := by kernel_rfl
  obtain ⟨a, c, rfl, hb⟩ := h.at
  obtain ⟨a', c', rfl, hb'⟩ := h'.at
  have H := hide hb
  have H' := hide hb'
  obtain ⟨n, hn⟩ : ∃ n, l.length = n := ⟨_, rfl⟩
  have HN := hide hn
  rw [hn] at hl ⊢
  clear h h' hb hb' hn
  go_enter Tryd.func20, Tryd.ntmps20
  go_wp2
  go_loopw [5] (fun i wr => ∃ k : Nat, i = .int .i64 k ∧ k ≤ n ∧ Below w.heap.size w wr) (fun i _ => n - (intOf i).toNat)
  case atStart => exact ⟨0, rfl, by omega, Below.refl _ _⟩
  case round =>
    obtain ⟨k, rfl, hk, hbw⟩ := hrel
    by_cases hp : k < n
    · have i1 : (k : Int) < n := by omega
      have i0 : (0 : Int) ≤ (k : Int) := by omega
      obtain ⟨g, rfl, -, -, hc, -⟩ := H.out.on hbw k (by rw [HN.out]; exact hp)
      obtain ⟨g', rfl, -, -, hc', -⟩ := H'.out.on hbw k (by rw [HN.out]; exact hp)
      generalize l[k]'(by rw [HN.out]; exact hp) = y at *
      go_wp2
      go_quiet (fail)
      go_wp2
      go_roundw
      case rel => exact ⟨k + 1, by go_num, by omega, hbw.trans ((Below.refl _ _).trans ⟨rfl, rfl, rfl, Nat.le_refl _, fun _ _ => rfl⟩)⟩
      case measure => simp [intOf]; omega
    · have i1 : ¬ (k : Int) < n := by omega
      go_wp2
      go_ret
      exact ⟨rfl, hbw⟩
/-- The marks in a row of bytes. -/
def MarkdB (w : World) (B : Nat) (a : Option Addr) (n : Nat) : Prop := ∀ i, i < n → ∃ g, a = some ⟨g, 0, none⟩ ∧ B ≤ g ∧ g < w.heap.size ∧ w.cell? ⟨g, i, none⟩ = some (.int .u8 ((1 + (i : Int)) % 256))
theorem MarkdB.on {w w' : World} {B : Nat} {a : Option Addr} {n : Nat} (h : MarkdB w B a n) (bel : Below w.heap.size w w') : MarkdB w' B a n := by
  intro i hi
  obtain ⟨g, e, h1, h2, h3⟩ := h i hi
  exact ⟨g, e, h1, Nat.lt_of_lt_of_le h2 bel.size, (bel.cell (p := ⟨g, i, none⟩) h2).trans h3⟩
set_option maxHeartbeats 2000000 in
theorem markByteS_any (B : Nat) (a : Option Addr) (c : Nat) (l : List Int) (w : World) (hl : l.length ≤ 1099511627776) (h : ByAt w B a l) :
    Calls Tryd.prog 22 #[.slice a l.length c, .int .i64 1] w fun e w' => e = .returned (.int .i64 (1 + (l.length : Int))) ∧ MarkdB w' B a l.length ∧ Below B w w' := by
  have H := hide h
  obtain ⟨n, hn⟩ : ∃ n, l.length = n := ⟨_, rfl⟩
  have HN := hide hn
  rw [hn] at hl ⊢
  clear h hn
  go_enter Tryd.func22, Tryd.ntmps22
  go_wp2
  go_loopw [1, 5] (fun q i wr => ∃ k : Nat, i = .int .i64 k ∧ q = .int .i64 (1 + (k : Int)) ∧ k ≤ n ∧ Hid (MarkdB wr B a k) ∧ Hid (∀ i, i < n → ∃ g, a = some ⟨g, 0, none⟩ ∧ B ≤ g ∧ g < wr.heap.size ∧ (∃ y, wr.cell? ⟨g, i, none⟩ = some y) ∧ wr.frozen? ⟨g, i, none⟩ = false) ∧ Below B w wr) (fun _ i _ => n - (intOf i).toNat)
  case atStart =>
    refine ⟨0, rfl, rfl, by omega, fun i hi => absurd hi (by omega), fun i hi => ?_, Below.refl _ _⟩
    obtain ⟨g, e, h1, h2, h3, h4⟩ := H.out i (by rw [HN.out]; exact hi)
    exact ⟨g, e, h1, h2, ⟨_, h3⟩, h4⟩
  case round =>
    obtain ⟨k, rfl, rfl, hk, Hm, Hr, hbw⟩ := hrel
    by_cases hp : k < n
    · have i1 : (k : Int) < n := by omega
      obtain ⟨g, rfl, hg1, hg2, ⟨y, hc⟩, hf⟩ := Hr.out k hp
      go_wp2
      go_roundw
      case rel =>
        refine ⟨k + 1, by go_num, by go_num, by omega, fun i hi => ?_, fun i hi => ?_, hbw.setCell (p := ⟨g, k, none⟩) hg1 _⟩
        · by_cases e : i < k
          · obtain ⟨g', e', h1, h2, h3⟩ := Hm.out i e
            cases e'
            exact ⟨g, rfl, h1, by simpa [World.setCell] using h2, (World.cell?_setCell_other _ _ _ _ (by simp <;> omega)).trans h3⟩
          · obtain rfl : i = k := by omega
            exact ⟨g, rfl, hg1, by simpa [World.setCell] using hg2, World.cell?_setCell_same _ _ _ hc⟩
        · obtain ⟨g', e', h1, h2, ⟨y', h3⟩, h4⟩ := Hr.out i hi
          cases e'
          exact ⟨g, rfl, h1, by simpa [World.setCell] using h2, cell?_setCell_some h3, by rw [World.frozen?_setCell]; exact h4⟩
      case measure => simp [intOf]; omega
    · have i1 : ¬ (k : Int) < n := by omega
      obtain rfl : k = n := by omega
      go_wp2
      go_ret
      exact ⟨rfl, Hm.out, hbw⟩
set_option maxHeartbeats 2000000 in
theorem heldByteS_any (B : Nat) (a : Option Addr) (c n : Nat) (w : World) (hl : n ≤ 1099511627776) (h : MarkdB w B a n) :
    Calls Tryd.prog 23 #[.slice a n c, .int .i64 1] w fun e w' => e = .returned (.int .i64 (1 + (n : Int))) ∧ Below w.heap.size w w' := by
  have H := hide h
  clear h
  go_enter Tryd.func23, Tryd.ntmps23
  go_wp2
  go_loop [1, 5] (fun q i => ∃ k : Nat, i = .int .i64 k ∧ q = .int .i64 (1 + (k : Int)) ∧ k ≤ n) (fun _ i => n - (intOf i).toNat)
  case atStart => exact ⟨0, rfl, rfl, by omega⟩
  case round =>
    obtain ⟨k, rfl, rfl, hk⟩ := hrel
    by_cases hp : k < n
    · have i1 : (k : Int) < n := by omega
      obtain ⟨g, rfl, -, -, hc⟩ := H.out k hp
      go_wp2
      go_round
      case rel => exact ⟨k + 1, by go_num, by go_num, by omega⟩
      case measure => simp [intOf]; omega
    · have i1 : ¬ (k : Int) < n := by omega
      obtain rfl : k = n := by omega
      go_wp2
      go_ret
      exact ⟨rfl, Below.refl _ _⟩
end Go.Proofs.YtoomnimbokbadaaDoor
