/- The law's marks in its copies of objects: needs, globals, instructions; codes that may be marked. No condition. -/
import Derived.Test.YtfbglokjehmgeaaGreatDoorZTchL
import Derived.Test.YtfbglokjehmgeaaGreatDoorZObjTo
/- Marks in a law's own copies: they turn the copy's rows alone. No condition. -/
namespace Go.Proofs.YtfbglokjehmgeaaGreatDoor
open Go.RowKit

/-- From 'lo' on, below 'hi', cells may have turned; of what was there nothing has gone or been frozen, and all else is as it was. -/
structure Out (lo hi : Nat) (w w' : World) : Prop where
  os : w'.os = w.os
  tape : w'.tape = w.tape
  output : w'.output = w.output
  size : w.heap.size ≤ w'.heap.size
  block : ∀ k, k < w.heap.size → (k < lo ∨ hi ≤ k) → w'.heap[k]? = w.heap[k]?
  alive : ∀ b o y, w.cell? ⟨b, o, none⟩ = some y → ∃ z, w'.cell? ⟨b, o, none⟩ = some z
  free : ∀ b o, b < w.heap.size → w'.frozen? ⟨b, o, none⟩ = w.frozen? ⟨b, o, none⟩
theorem Out.refl (lo hi : Nat) (w : World) : Out lo hi w w := ⟨rfl, rfl, rfl, Nat.le_refl _, fun _ _ _ => rfl, fun _ _ y h => ⟨y, h⟩, fun _ _ _ => rfl⟩
theorem Out.trans {lo hi : Nat} {a b c : World} (h : Out lo hi a b) (k : Out lo hi b c) : Out lo hi a c :=
  ⟨k.os.trans h.os, k.tape.trans h.tape, k.output.trans h.output, Nat.le_trans h.size k.size, fun i hi hh => (k.block i (Nat.lt_of_lt_of_le hi h.size) hh).trans (h.block i hi hh),
   fun b o y hy => by obtain ⟨z, hz⟩ := h.alive b o y hy; exact k.alive b o z hz, fun b o hb => (k.free b o (Nat.lt_of_lt_of_le hb h.size)).trans (h.free b o hb)⟩
theorem Out.of_below {lo hi : Nat} {w w' : World} (h : Below w.heap.size w w') : Out lo hi w w' :=
  ⟨h.os, h.tape, h.output, h.size, fun k hk _ => h.block k hk, fun b o y hy => ⟨y, (h.cell (p := ⟨b, o, none⟩) (block_lt hy)).trans hy⟩, fun b o hb => h.frozen (p := ⟨b, o, none⟩) hb⟩
theorem Out.set {lo hi : Nat} {a w : World} (h : Out lo hi a w) {b o : Nat} (h1 : lo ≤ b) (h2 : b < hi) (v : Value) : Out lo hi a (w.setCell ⟨b, o, none⟩ v) :=
  h.trans ⟨rfl, rfl, rfl, by simp [World.setCell], fun k _ hk => Below.heap_setCell _ _ _ _ (by show k ≠ b; omega), fun b' o' y hy => cell?_setCell_some hy, fun b' o' _ => World.frozen?_setCell ..⟩
theorem Out.wid {lo hi lo' hi' : Nat} {w w' : World} (h : Out lo hi w w') (h1 : lo' ≤ lo) (h2 : hi ≤ hi') : Out lo' hi' w w' :=
  ⟨h.os, h.tape, h.output, h.size, fun k hk hh => h.block k hk (by omega), h.alive, h.free⟩
theorem Out.below {lo hi : Nat} {w w' : World} (h : Out lo hi w w') (hl : lo ≤ w.heap.size) : Below lo w w' := ⟨h.os, h.tape, h.output, h.size, fun k hk => h.block k (by omega) (.inl hk)⟩
/-- Cells that are there and may be written. -/
def Room (w : World) (m : Md) (sz : Nat) (a : Option Addr) (n : Nat) : Prop := ∀ i, i < n → ∃ b o, a = some ⟨b, o, none⟩ ∧ m.lo ≤ b ∧ b < m.hi ∧ b < w.heap.size ∧ ∀ j, j < sz → (∃ y, w.cell? ⟨b, o + i * sz + j, none⟩ = some y) ∧ w.frozen? ⟨b, o + i * sz + j, none⟩ = false
theorem Room.on {w w' : World} {m : Md} {sz : Nat} {a : Option Addr} {n : Nat} (h : Room w m sz a n) {lo hi : Nat} (k : Out lo hi w w') : Room w' m sz a n := by
  intro i hi
  obtain ⟨b, o, e, h1, h2, h3, h4⟩ := h i hi
  refine ⟨b, o, e, h1, h2, Nat.lt_of_lt_of_le h3 k.size, fun j hj => ?_⟩
  obtain ⟨⟨y, hy⟩, hf⟩ := h4 j hj
  exact ⟨k.alive _ _ _ hy, (k.free _ _ h3).trans hf⟩
/-- A list that a law has copied may be marked, element by element. -/
theorem room_of {D : Type} {E : Elem D} {sz : Nat} (hE : ∀ cf w m x, E cf w m x → ∀ j, j < sz → ∃ y, cf j = some y) {w : World} {m : Md} {l : List D} {a : Option Addr} {c : Nat} (hm : m.made = true) (hw : m.hi ≤ w.heap.size) (h : SlAt E sz w m (.slice a l.length c) l) : Room w m sz a l.length := by
  intro i hi
  obtain ⟨a', c', e, hr⟩ := h
  cases e
  obtain ⟨b, o, rfl, h1, h2, h3, he⟩ := hr i hi
  exact ⟨b, o, rfl, h1.1, h2, by omega, fun j hj => ⟨hE _ _ _ _ he j hj, h3 hm _⟩⟩
end Go.Proofs.YtfbglokjehmgeaaGreatDoor

namespace Go.Proofs.YtfbglokjehmgeaaGreatDoor
open Go.RowKit

set_option maxHeartbeats 4000000 in
theorem markNeedS_any (m : Md) (a : Option Addr) (n c : Nat) (K : Int) (w : World) (hn : n ≤ 1048576) (k0 : 0 ≤ K) (k1 : K ≤ 1000000000000000000) (h : Room w m 2 a n) :
    Calls Tryz.prog 31 #[.slice a n c, .int .i64 K] w fun e w' => e = .returned (.int .i64 (K + 2 * (n : Int))) ∧ Out m.lo m.hi w w' := by
  have H := hide h
  clear h
  go_enter Tryz.func31, Tryz.ntmps31
  go_wp2
  go_loopw [1, 5] (fun q i wr => ∃ k : Nat, i = .int .i64 k ∧ q = .int .i64 (K + 2 * (k : Int)) ∧ k ≤ n ∧ Out m.lo m.hi w wr) (fun _ i _ => n - (intOf i).toNat)
  case atStart => exact ⟨0, rfl, by simp, by omega, Out.refl _ _ _⟩
  case round =>
    obtain ⟨k, rfl, rfl, hk, hbw⟩ := hrel
    by_cases hp : k < n
    · have i1 : (k : Int) < n := by omega
      obtain ⟨b, o, rfl, h1, h2, h3, h4⟩ := H.out.on hbw k hp
      clear h4
      go_wp2_with fail
      refine (markText_any _ _ (by omega)).mono ?_
      rintro e w1' ⟨rfl, b1⟩
      have o1 := hbw.trans (Out.of_below b1)
      obtain ⟨b', o', e', -, -, -, g4⟩ := H.out.on o1 k hp
      cases e'
      obtain ⟨⟨y0, c0⟩, f0⟩ := g4 0 (by omega)
      simp only [Nat.add_zero] at c0 f0
      obtain ⟨⟨y1, c1⟩, f1⟩ := g4 1 (by omega)
      clear g4
      go_wp2
      go_roundw
      case rel => exact ⟨k + 1, by go_num, by first | go_num | (congr 1; omega), by omega, ((o1.set h1 h2 _).set h1 h2 _)⟩
      case measure => simp [intOf]; omega
    · have i1 : ¬ (k : Int) < n := by omega
      obtain rfl : k = n := by omega
      go_wp2
      go_ret
      exact ⟨rfl, hbw⟩
set_option maxHeartbeats 4000000 in
theorem markGlobalS_any (m : Md) (a : Option Addr) (n c : Nat) (K : Int) (w : World) (hn : n ≤ 1048576) (k0 : 0 ≤ K) (k1 : K ≤ 1000000000000000000) (h : Room w m 2 a n) :
    Calls Tryz.prog 32 #[.slice a n c, .int .i64 K] w fun e w' => e = .returned (.int .i64 (K + 2 * (n : Int))) ∧ Out m.lo m.hi w w' := by
  have H := hide h
  clear h
  go_enter Tryz.func32, Tryz.ntmps32
  go_wp2
  go_loopw [1, 5] (fun q i wr => ∃ k : Nat, i = .int .i64 k ∧ q = .int .i64 (K + 2 * (k : Int)) ∧ k ≤ n ∧ Out m.lo m.hi w wr) (fun _ i _ => n - (intOf i).toNat)
  case atStart => exact ⟨0, rfl, by simp, by omega, Out.refl _ _ _⟩
  case round =>
    obtain ⟨k, rfl, rfl, hk, hbw⟩ := hrel
    by_cases hp : k < n
    · have i1 : (k : Int) < n := by omega
      obtain ⟨b, o, rfl, h1, h2, h3, h4⟩ := H.out.on hbw k hp
      clear h4
      go_wp2_with fail
      refine (markText_any _ _ (by omega)).mono ?_
      rintro e w1' ⟨rfl, b1⟩
      have o1 := hbw.trans (Out.of_below b1)
      obtain ⟨b', o', e', -, -, -, g4⟩ := H.out.on o1 k hp
      cases e'
      obtain ⟨⟨y0, c0⟩, f0⟩ := g4 0 (by omega)
      simp only [Nat.add_zero] at c0 f0
      obtain ⟨⟨y1, c1⟩, f1⟩ := g4 1 (by omega)
      clear g4
      go_wp2
      go_roundw
      case rel => exact ⟨k + 1, by go_num, by first | go_num | (congr 1; omega), by omega, ((o1.set h1 h2 _).set h1 h2 _)⟩
      case measure => simp [intOf]; omega
    · have i1 : ¬ (k : Int) < n := by omega
      obtain rfl : k = n := by omega
      go_wp2
      go_ret
      exact ⟨rfl, hbw⟩
set_option maxHeartbeats 4000000 in
theorem markInsS_any (m : Md) (a : Option Addr) (n c : Nat) (K : Int) (w : World) (hn : n ≤ 1048576) (k0 : 0 ≤ K) (k1 : K ≤ 1000000000000000000) (h : Room w m 5 a n) :
    Calls Tryz.prog 72 #[.slice a n c, .int .i64 K] w fun e w' => e = .returned (.int .i64 (K + 5 * (n : Int))) ∧ Out m.lo m.hi w w' := by
  have H := hide h
  clear h
  go_enter Tryz.func72, Tryz.ntmps72
  go_wp2
  go_loopw [1, 5] (fun q i wr => ∃ k : Nat, i = .int .i64 k ∧ q = .int .i64 (K + 5 * (k : Int)) ∧ k ≤ n ∧ Out m.lo m.hi w wr) (fun _ i _ => n - (intOf i).toNat)
  case atStart => exact ⟨0, rfl, by simp, by omega, Out.refl _ _ _⟩
  case round =>
    obtain ⟨k, rfl, rfl, hk, hbw⟩ := hrel
    by_cases hp : k < n
    · have i1 : (k : Int) < n := by omega
      obtain ⟨b, o, rfl, h1, h2, h3, h4⟩ := H.out.on hbw k hp
      obtain ⟨⟨y0, c0⟩, f0⟩ := h4 0 (by omega)
      simp only [Nat.add_zero] at c0 f0
      obtain ⟨⟨y1, c1⟩, f1⟩ := h4 1 (by omega)
      obtain ⟨⟨y2, c2⟩, f2⟩ := h4 2 (by omega)
      clear h4
      go_wp2_with fail
      refine (markText_any _ _ (by omega)).mono ?_
      rintro e w1' ⟨rfl, b1⟩
      have o1 := (((hbw.set h1 h2 _).set h1 h2 _).set h1 h2 _).trans (Out.of_below b1)
      clear c0 f0 y0 c1 f1 y1 c2 f2 y2
      obtain ⟨b', o', e', -, -, -, g4⟩ := H.out.on o1 k hp
      cases e'
      obtain ⟨⟨y3, c3⟩, f3⟩ := g4 3 (by omega)
      clear g4
      go_wp2_with fail
      refine (markText_any _ _ (by omega)).mono ?_
      rintro e w2' ⟨rfl, b2⟩
      have o2 := (o1.set h1 h2 _).trans (Out.of_below b2)
      clear c3 f3 y3
      obtain ⟨b', o', e', -, -, -, g4⟩ := H.out.on o2 k hp
      cases e'
      obtain ⟨⟨y4, c4⟩, f4⟩ := g4 4 (by omega)
      clear g4
      go_wp2
      go_roundw
      case rel => exact ⟨k + 1, by go_num, by first | go_num | (congr 1; omega), by omega, (o2.set h1 h2 _)⟩
      case measure => simp [intOf]; omega
    · have i1 : ¬ (k : Int) < n := by omega
      obtain rfl : k = n := by omega
      go_wp2
      go_ret
      exact ⟨rfl, hbw⟩

/-- A code's cells that are there and may be written; its instructions' cells, behind its own row. -/
def CLive (w : World) (m : Md) (a : Option Addr) (n : Nat) (f : Nat → Nat) (i : Nat) : Prop := ∃ b o a2 q c2, a = some ⟨b, o, none⟩ ∧ m.lo ≤ b ∧ b < m.hi ∧ b < w.heap.size ∧ q = f i ∧ i < n ∧ (∀ j, j < 5 → (∃ y, w.cell? ⟨b, o + i * 5 + j, none⟩ = some y) ∧ w.frozen? ⟨b, o + i * 5 + j, none⟩ = false) ∧ w.cell? ⟨b, o + i * 5 + 4, none⟩ = some (.slice a2 q c2) ∧ Room w ⟨b + 1, m.hi, true⟩ 5 a2 q
/-- A step that leaves the code's own row alone. -/
theorem CLive.inner {w w' : World} {m : Md} {a : Option Addr} {n i : Nat} {f : Nat → Nat} (h : CLive w m a n f i) {b0 o0 : Nat} (ha : a = some ⟨b0, o0, none⟩) {hi : Nat} (k : Out (b0 + 1) hi w w') : CLive w' m a n f i := by
  obtain ⟨b, o, a2, q, c2, e, h1, h2, h3, h4, h5, h6, h7, h8⟩ := h
  rw [ha] at e
  cases e
  refine ⟨b0, o0, a2, q, c2, ha, h1, h2, Nat.lt_of_lt_of_le h3 k.size, h4, h5, fun j hj => ?_, ?_, h8.on k⟩
  · obtain ⟨⟨y, hy⟩, hf⟩ := h6 j hj
    exact ⟨k.alive _ _ _ hy, (k.free _ _ h3).trans hf⟩
  · rw [World.cell?_of_block (w := w) (k.block b0 h3 (.inl (Nat.lt_succ_self _)))]
    exact h7
/-- Steps that turn rows ahead of all codes. -/
theorem CLive.far {w w' : World} {m : Md} {a : Option Addr} {n i : Nat} {f : Nat → Nat} (h : CLive w m a n f i) {lo hi : Nat} (k : Out lo hi w w') (hh : hi ≤ m.lo) : CLive w' m a n f i := by
  obtain ⟨b, o, a2, q, c2, e, h1, h2, h3, h4, h5, h6, h7, h8⟩ := h
  refine ⟨b, o, a2, q, c2, e, h1, h2, Nat.lt_of_lt_of_le h3 k.size, h4, h5, fun j hj => ?_, ?_, h8.on k⟩
  · obtain ⟨⟨y, hy⟩, hf⟩ := h6 j hj
    exact ⟨k.alive _ _ _ hy, (k.free _ _ h3).trans hf⟩
  · rw [World.cell?_of_block (w := w) (k.block b h3 (.inr (by omega)))]
    exact h7
/-- A store into another code, or into another field than the last. -/
theorem CLive.set {w : World} {m : Md} {a : Option Addr} {n i : Nat} {f : Nat → Nat} (h : CLive w m a n f i) {b0 o0 p : Nat} (ha : a = some ⟨b0, o0, none⟩) (hp : p ≠ o0 + i * 5 + 4) (v : Value) : CLive (w.setCell ⟨b0, p, none⟩ v) m a n f i := by
  obtain ⟨b, o, a2, q, c2, e, h1, h2, h3, h4, h5, h6, h7, h8⟩ := h
  rw [ha] at e
  cases e
  refine ⟨b0, o0, a2, q, c2, ha, h1, h2, by simpa [World.setCell] using h3, h4, h5, fun j hj => ?_, ?_, h8.on ((Out.refl b0 (b0 + 1) w).set (Nat.le_refl _) (Nat.lt_succ_self _) v)⟩
  · obtain ⟨⟨y, hy⟩, hf⟩ := h6 j hj
    exact ⟨cell?_setCell_some hy, by rw [World.frozen?_setCell]; exact hf⟩
  · rw [World.cell?_setCell_other _ _ _ _ (by simp <;> omega)]
    exact h7
set_option maxHeartbeats 8000000 in
theorem markCodeS_w (m : Md) (a : Option Addr) (n c : Nat) (f S : Nat → Nat) (K0 : Int) (w : World) (hn : n ≤ 1048576) (k0 : 0 ≤ K0) (k1 : K0 ≤ 1000000000) (hS : S 0 = 0 ∧ (∀ k, k < n → S (k + 1) = S k + f k) ∧ ∀ k, k ≤ n → S k ≤ 1048576) (h : ∀ i, i < n → CLive w m a n f i) :
    Calls Tryz.prog 33 #[.slice a n c, .int .i64 K0] w fun e w' => (∃ K : Int, e = .returned (.int .i64 K) ∧ K0 ≤ K ∧ K ≤ K0 + 4 * (n : Int) + 5 * (S n : Int)) ∧ Out m.lo m.hi w w' := by
  have H := hide h
  have HSS := hide hS
  clear h hS
  go_enter Tryz.func33, Tryz.ntmps33
  go_wp2
  go_loopw [1, 5] (fun q i wr => ∃ (k : Nat) (K : Int), i = .int .i64 k ∧ q = .int .i64 K ∧ k ≤ n ∧ K0 ≤ K ∧ Hid (K ≤ K0 + 4 * (k : Int) + 5 * (S k : Int)) ∧ Hid (∀ i, i < n → k ≤ i → CLive wr m a n f i) ∧ Out m.lo m.hi w wr) (fun _ i _ => n - (intOf i).toNat)
  case atStart => exact ⟨0, K0, rfl, rfl, by omega, by omega, hide (by have := HSS.out.1; omega), fun i hi _ => H.out i hi, Out.refl _ _ _⟩
  case round =>
    obtain ⟨k, K, rfl, rfl, hk, K0', HK1, HL, hbw⟩ := hrel
    have K1 : K ≤ 2000000000 := by have := HK1.out; have := HSS.out.2.2 k hk; omega
    by_cases hp : k < n
    · have i1 : (k : Int) < n := by omega
      obtain ⟨b, o, a2, q, c2, rfl, h1, h2, h3, h4, -, h6, c5, -⟩ := id (HL.out k hp (Nat.le_refl _))
      clear h6 c5 h4 a2 q c2
      go_wp2_with fail
      refine (markText_any _ _ (by omega)).mono ?_
      rintro e w5 ⟨rfl, b5⟩
      have HL5 := hide (fun i hi (hki : k ≤ i) => (HL.out i hi hki).inner rfl (Out.of_below (lo := b + 1) (hi := m.hi) b5))
      have o5 := hbw.trans (Out.of_below b5)
      clear b5 HL
      obtain ⟨b', o', a2, q, c2, e', -, -, g3, g4, -, g6, c4, g8⟩ := id (HL5.out k hp (Nat.le_refl _))
      cases e'
      have HG4 := hide g4
      replace g4 : q ≤ 1048576 := by have e2 := HSS.out.2.1 k hp; have e3 := HSS.out.2.2 (k + 1) hp; omega
      obtain ⟨⟨y0, c0⟩, f0⟩ := g6 0 (by omega)
      obtain ⟨⟨y1, c1⟩, f1⟩ := g6 1 (by omega)
      obtain ⟨⟨y2, c2'⟩, f2⟩ := g6 2 (by omega)
      obtain ⟨⟨y3, c3⟩, f3⟩ := g6 3 (by omega)
      simp only [Nat.add_zero] at c0 f0
      have HL6 := hide (fun i hi (hki : k ≤ i) => ((((HL5.out i hi hki).set rfl (p := o + k * 5) (by omega) (.string (mt K))).set rfl (p := o + k * 5 + 1) (by omega) (.int .i64 (K + 1))).set rfl (p := o + k * 5 + 2) (by omega) (.int .i64 (K + 1 + 1))).set rfl (p := o + k * 5 + 3) (by omega) (.int .i64 (K + 1 + 1 + 1)))
      have o6 := (((o5.set (o := o + k * 5) h1 h2 (.string (mt K))).set (o := o + k * 5 + 1) h1 h2 (.int .i64 (K + 1))).set (o := o + k * 5 + 2) h1 h2 (.int .i64 (K + 1 + 1))).set (o := o + k * 5 + 3) h1 h2 (.int .i64 (K + 1 + 1 + 1))
      have HR := hide ((((g8.on ((Out.refl b (b + 1) w5).set (o := o + k * 5) (Nat.le_refl _) (Nat.lt_succ_self _) (.string (mt K)))).on ((Out.refl b (b + 1) _).set (o := o + k * 5 + 1) (Nat.le_refl _) (Nat.lt_succ_self _) (.int .i64 (K + 1)))).on ((Out.refl b (b + 1) _).set (o := o + k * 5 + 2) (Nat.le_refl _) (Nat.lt_succ_self _) (.int .i64 (K + 1 + 1)))).on ((Out.refl b (b + 1) _).set (o := o + k * 5 + 3) (Nat.le_refl _) (Nat.lt_succ_self _) (.int .i64 (K + 1 + 1 + 1))))
      clear g6 g8 HL5 o5 hbw
      go_wp2_with fail
      refine (markInsS_any ⟨b + 1, m.hi, true⟩ a2 q c2 _ _ g4 (by omega) (by omega) HR.out).mono ?_
      rintro e w7 ⟨rfl, o7⟩
      have HL7 := hide (fun i hi (hki : k ≤ i) => (HL6.out i hi hki).inner rfl o7)
      have o8 := o6.trans (o7.wid (by show m.lo ≤ b + 1; omega) (Nat.le_refl _))
      clear HL6 o6 o7 c0 c1 c2' c3 c4 f0 f1 f2 f3 HR
      go_wp2
      go_roundw
      case rel => exact ⟨k + 1, K + 1 + 1 + 1 + 1 + 5 * (q : Int), by go_num, rfl, by omega, by omega, hide (by have e1 := HK1.out; have e2 := HSS.out.2.1 k hp; have e3 := HG4.out; omega), fun i hi hki => HL7.out i hi (by omega), o8⟩
      case measure => simp [intOf]; omega
    · have i1 : ¬ (k : Int) < n := by omega
      go_wp2
      go_ret
      obtain rfl : k = n := by omega
      exact ⟨⟨K, rfl, K0', HK1.out⟩, hbw⟩
theorem need_al : ∀ cf w m x, NeedAt cf w m x → ∀ j, j < 2 → ∃ y, cf j = some y := by
  rintro cf w m x ⟨⟨c0, c1⟩, -⟩ j hj
  match j, hj with
  | 0, _ => exact ⟨_, c0⟩
  | 1, _ => exact ⟨_, c1⟩
  | j + 2, hj => exact absurd hj (by omega)
theorem glob_al : ∀ cf w m x, GlobalAt cf w m x → ∀ j, j < 2 → ∃ y, cf j = some y := by
  rintro cf w m x ⟨⟨c0, c1⟩, -⟩ j hj
  match j, hj with
  | 0, _ => exact ⟨_, c0⟩
  | 1, _ => exact ⟨_, c1⟩
  | j + 2, hj => exact absurd hj (by omega)
theorem ins_al : ∀ cf w m x, InsAt cf w m x → ∀ j, j < 5 → ∃ y, cf j = some y := by
  rintro cf w m x ⟨⟨c0, c1, c2, c3, c4⟩, -⟩ j hj
  match j, hj with
  | 0, _ => exact ⟨_, c0⟩
  | 1, _ => exact ⟨_, c1⟩
  | 2, _ => exact ⟨_, c2⟩
  | 3, _ => exact ⟨_, c3⟩
  | 4, _ => exact ⟨_, c4⟩
  | j + 5, hj => exact absurd hj (by omega)
theorem clive_of {w : World} {m : Md} {l : List CodeD} {a : Option Addr} {c : Nat} (hm : m.made = true) {f : Nat → Nat} (hs : ∀ i (h : i < l.length), f i = l[i].list.length) (hw : m.hi ≤ w.heap.size) (h : SlAt CodeAt 5 w m (.slice a l.length c) l) : ∀ i, i < l.length → CLive w m a l.length f i := by
  intro i hi
  obtain ⟨a', c', e, hr⟩ := h
  cases e
  obtain ⟨b, o, rfl, h1, h2, h3, ⟨⟨c0, c1, c2, c3⟩, -, u, c4, hu⟩⟩ := hr i hi
  have hu' := hu
  obtain ⟨a2, q2, rfl, -⟩ := hu
  have hin : (m.inner b).lo = b + 1 := by unfold Md.inner; rw [if_pos hm]
  have hR := room_of ins_al (by rw [Md.inner_made]; exact hm) (by rw [Md.inner_hi]; exact hw) hu'
  refine ⟨b, o, a2, l[i].list.length, q2, rfl, h1.1, h2, by omega, (hs i hi).symm, hi, fun j hj => ⟨?_, h3 hm _⟩, c4, ?_⟩
  · match j, hj with
    | 0, _ => exact ⟨_, c0⟩
    | 1, _ => exact ⟨_, c1⟩
    | 2, _ => exact ⟨_, c2⟩
    | 3, _ => exact ⟨_, c3⟩
    | 4, _ => exact ⟨_, c4⟩
    | j + 5, hj => exact absurd hj (by omega)
  · intro j hj
    obtain ⟨b', o', e', g1, g2, g3, g4⟩ := hR j hj
    rw [Md.inner_hi] at g2
    exact ⟨b', o', e', by show b + 1 ≤ b'; rw [hin] at g1; exact g1, g2, g3, g4⟩
end Go.Proofs.YtfbglokjehmgeaaGreatDoor
