/- The law's marks in a copy of an interface: they turn the copy alone. No condition. -/
import Derived.Test.YtoomnimbokbadaaDoorZFac
import Derived.Test.YtoomnimbokbadaaDoorZMarks
namespace Go.Proofs.YtoomnimbokbadaaDoor
open Go.RowKit

/-- From 'lo' on, below 'hi', cells may have turned; of what was there nothing has gone or been frozen, and all else is as it was. -/
structure Out (lo hi : Nat) (w w' : World) : Prop where
  os : w'.os = w.os
  tape : w'.tape = w.tape
  output : w'.output = w.output
  size : w.heap.size ≤ w'.heap.size
  block : ∀ k, k < w.heap.size → (k < lo ∨ hi ≤ k) → w'.heap[k]? = w.heap[k]?
  alive : ∀ b o y, w.cell? ⟨b, o, none⟩ = some y → ∃ z, w'.cell? ⟨b, o, none⟩ = some z
  free : ∀ b o, b < w.heap.size → w'.frozen? ⟨b, o, none⟩ = w.frozen? ⟨b, o, none⟩
theorem Out.refl (lo hi : Nat) (w : World) : Out lo hi w w := ⟨rfl, rfl, rfl, Nat.le_refl _, fun _ _ _ => rfl, fun _ _ y h => ⟨y, h⟩, fun _ _ _ => rfl⟩
theorem Out.trans {lo hi : Nat} {a b c : World} (h : Out lo hi a b) (k : Out lo hi b c) : Out lo hi a c :=
  ⟨k.os.trans h.os, k.tape.trans h.tape, k.output.trans h.output, Nat.le_trans h.size k.size, fun i hi hh => (k.block i (Nat.lt_of_lt_of_le hi h.size) hh).trans (h.block i hi hh),
   fun b o y hy => by obtain ⟨z, hz⟩ := h.alive b o y hy; exact k.alive b o z hz, fun b o hb => (k.free b o (Nat.lt_of_lt_of_le hb h.size)).trans (h.free b o hb)⟩
theorem Out.of_below {lo hi : Nat} {w w' : World} (h : Below w.heap.size w w') : Out lo hi w w' :=
  ⟨h.os, h.tape, h.output, h.size, fun k hk _ => h.block k hk, fun b o y hy => ⟨y, (h.cell (p := ⟨b, o, none⟩) (block_lt hy)).trans hy⟩, fun b o hb => h.frozen (p := ⟨b, o, none⟩) hb⟩
theorem Out.set {lo hi : Nat} {a w : World} (h : Out lo hi a w) {b o : Nat} (h1 : lo ≤ b) (h2 : b < hi) (v : Value) : Out lo hi a (w.setCell ⟨b, o, none⟩ v) :=
  h.trans ⟨rfl, rfl, rfl, by simp [World.setCell], fun k _ hk => Below.heap_setCell _ _ _ _ (by show k ≠ b; omega), fun b' o' y hy => cell?_setCell_some hy, fun b' o' _ => World.frozen?_setCell ..⟩
theorem Out.wid {lo hi lo' hi' : Nat} {w w' : World} (h : Out lo hi w w') (h1 : lo' ≤ lo) (h2 : hi ≤ hi') : Out lo' hi' w w' :=
  ⟨h.os, h.tape, h.output, h.size, fun k hk hh => h.block k hk (by omega), h.alive, h.free⟩
theorem Out.below {lo hi : Nat} {w w' : World} (h : Out lo hi w w') (hl : lo ≤ w.heap.size) : Below lo w w' := ⟨h.os, h.tape, h.output, h.size, fun k hk => h.block k (by omega) (.inl hk)⟩
/-- Cells that are there and may be written. -/
def Room (w : World) (m : Md) (sz : Nat) (a : Option Addr) (n : Nat) : Prop := ∀ i, i < n → ∃ b o, a = some ⟨b, o, none⟩ ∧ m.lo ≤ b ∧ b < m.hi ∧ b < w.heap.size ∧ ∀ j, j < sz → (∃ y, w.cell? ⟨b, o + i * sz + j, none⟩ = some y) ∧ w.frozen? ⟨b, o + i * sz + j, none⟩ = false
theorem Room.on {w w' : World} {m : Md} {sz : Nat} {a : Option Addr} {n : Nat} (h : Room w m sz a n) {lo hi : Nat} (k : Out lo hi w w') : Room w' m sz a n := by
  intro i hi
  obtain ⟨b, o, e, h1, h2, h3, h4⟩ := h i hi
  refine ⟨b, o, e, h1, h2, Nat.lt_of_lt_of_le h3 k.size, fun j hj => ?_⟩
  obtain ⟨⟨y, hy⟩, hf⟩ := h4 j hj
  exact ⟨k.alive _ _ _ hy, (k.free _ _ h3).trans hf⟩
set_option maxHeartbeats 4000000 in
theorem markParamS_any (m : Md) (a : Option Addr) (n c : Nat) (K : Int) (w : World) (hn : n ≤ 1048576) (k0 : 0 ≤ K) (k1 : K ≤ 1000000000000000000) (h : Room w m 2 a n) :
    Calls Tryd.prog 71 #[.slice a n c, .int .i64 K] w fun e w' => e = .returned (.int .i64 (K + 2 * (n : Int))) ∧ Out m.lo m.hi w w' := by
  have H := hide h
  clear h
  go_enter Tryd.func71, Tryd.ntmps71
  go_wp2
  go_loopw [1, 5] (fun q i wr => ∃ k : Nat, i = .int .i64 k ∧ q = .int .i64 (K + 2 * (k : Int)) ∧ k ≤ n ∧ Out m.lo m.hi w wr) (fun _ i _ => n - (intOf i).toNat)
  case atStart => exact ⟨0, rfl, by simp, by omega, Out.refl _ _ _⟩
  case round =>
    obtain ⟨k, rfl, rfl, hk, hbw⟩ := hrel
    by_cases hp : k < n
    · have i1 : (k : Int) < n := by omega
      obtain ⟨b, o, rfl, h1, h2, h3, h4⟩ := H.out.on hbw k hp
      obtain ⟨⟨y0, c0⟩, f0⟩ := h4 0 (by omega)
      obtain ⟨⟨y1, c1⟩, f1⟩ := h4 1 (by omega)
      simp only [Nat.add_zero] at c0 f0
      clear h4
      go_wp2
      go_roundw
      case rel => exact ⟨k + 1, by go_num, by first | go_num | (congr 1; omega), by omega, (hbw.set h1 h2 _).set h1 h2 _⟩
      case measure => simp [intOf]; omega
    · have i1 : ¬ (k : Int) < n := by omega
      obtain rfl : k = n := by omega
      go_wp2
      go_ret
      exact ⟨rfl, hbw⟩
/-- An item's cells that are there and may be written; its parameters' cells, behind its own row. -/
def Lives (w : World) (m : Md) (a : Option Addr) (n : Nat) (i : Nat) : Prop := ∃ b o a2 q c2, a = some ⟨b, o, none⟩ ∧ m.lo ≤ b ∧ b < m.hi ∧ b < w.heap.size ∧ q ≤ 1048576 ∧ i < n ∧ (∀ j, j < 6 → (∃ y, w.cell? ⟨b, o + i * 6 + j, none⟩ = some y) ∧ w.frozen? ⟨b, o + i * 6 + j, none⟩ = false) ∧ w.cell? ⟨b, o + i * 6 + 5, none⟩ = some (.slice a2 q c2) ∧ Room w ⟨b + 1, m.hi, true⟩ 2 a2 q
/-- A step that leaves the item's own row alone. -/
theorem Lives.inner {w w' : World} {m : Md} {a : Option Addr} {n i : Nat} (h : Lives w m a n i) {b0 o0 : Nat} (ha : a = some ⟨b0, o0, none⟩) {hi : Nat} (k : Out (b0 + 1) hi w w') : Lives w' m a n i := by
  obtain ⟨b, o, a2, q, c2, e, h1, h2, h3, h4, h5, h6, h7, h8⟩ := h
  rw [ha] at e
  cases e
  refine ⟨b0, o0, a2, q, c2, ha, h1, h2, Nat.lt_of_lt_of_le h3 k.size, h4, h5, fun j hj => ?_, ?_, h8.on k⟩
  · obtain ⟨⟨y, hy⟩, hf⟩ := h6 j hj
    exact ⟨k.alive _ _ _ hy, (k.free _ _ h3).trans hf⟩
  · rw [World.cell?_of_block (w := w) (k.block b0 h3 (.inl (Nat.lt_succ_self _)))]
    exact h7
/-- A store into another item, or into another field than the last. -/
theorem Lives.set {w : World} {m : Md} {a : Option Addr} {n i : Nat} (h : Lives w m a n i) {b0 o0 p : Nat} (ha : a = some ⟨b0, o0, none⟩) (hp : p ≠ o0 + i * 6 + 5) (v : Value) : Lives (w.setCell ⟨b0, p, none⟩ v) m a n i := by
  obtain ⟨b, o, a2, q, c2, e, h1, h2, h3, h4, h5, h6, h7, h8⟩ := h
  rw [ha] at e
  cases e
  refine ⟨b0, o0, a2, q, c2, ha, h1, h2, by simpa [World.setCell] using h3, h4, h5, fun j hj => ?_, ?_, h8.on ((Out.refl b0 (b0 + 1) w).set (Nat.le_refl _) (Nat.lt_succ_self _) v)⟩
  · obtain ⟨⟨y, hy⟩, hf⟩ := h6 j hj
    exact ⟨cell?_setCell_some hy, by rw [World.frozen?_setCell]; exact hf⟩
  · rw [World.cell?_setCell_other _ _ _ _ (by simp <;> omega)]
    exact h7
set_option maxHeartbeats 8000000 in
theorem markItemS_any (m : Md) (a : Option Addr) (n c : Nat) (w : World) (hn : n ≤ 1048576) (h : ∀ i, i < n → Lives w m a n i) :
    Calls Tryd.prog 44 #[.slice a n c, .int .i64 1] w fun e w' => (∃ K : Int, e = .returned (.int .i64 K) ∧ 0 ≤ K) ∧ Out m.lo m.hi w w' := by
  have H := hide h
  clear h
  go_enter Tryd.func44, Tryd.ntmps44
  go_wp2
  go_loopw [1, 5] (fun q i wr => ∃ (k : Nat) (K : Int), i = .int .i64 k ∧ q = .int .i64 K ∧ k ≤ n ∧ 1 ≤ K ∧ K ≤ 1 + 2097160 * (k : Int) ∧ Hid (∀ i, i < n → k ≤ i → Lives wr m a n i) ∧ Out m.lo m.hi w wr) (fun _ i _ => n - (intOf i).toNat)
  case atStart => exact ⟨0, 1, rfl, rfl, by omega, by omega, by omega, fun i hi _ => H.out i hi, Out.refl _ _ _⟩
  case round =>
    obtain ⟨k, K, rfl, rfl, hk, K0, K1, HL, hbw⟩ := hrel
    by_cases hp : k < n
    · have i1 : (k : Int) < n := by omega
      obtain ⟨b, o, a2, q, c2, rfl, h1, h2, h3, h4, -, h6, c5, -⟩ := id (HL.out k hp (Nat.le_refl _))
      obtain ⟨⟨y0, c0⟩, f0⟩ := h6 0 (by omega)
      obtain ⟨⟨y1, c1⟩, f1⟩ := h6 1 (by omega)
      obtain ⟨⟨y2, c2'⟩, f2⟩ := h6 2 (by omega)
      obtain ⟨⟨y3, c3⟩, f3⟩ := h6 3 (by omega)
      simp only [Nat.add_zero] at c0 f0
      clear h6
      go_wp2_with fail
      have HL4 := hide (fun i hi (hki : k ≤ i) => ((((HL.out i hi hki).set rfl (p := o + k * 6) (by omega) (.int .i64 K)).set rfl (p := o + k * 6 + 1) (by omega) (.int .i64 (K + 1))).set rfl (p := o + k * 6 + 2) (by omega) (.int .i64 (K + 1 + 1))).set rfl (p := o + k * 6 + 3) (by omega) (.int .i64 (K + 1 + 1 + 1)))
      have o4 := (((hbw.set (o := o + k * 6) h1 h2 (.int .i64 K)).set (o := o + k * 6 + 1) h1 h2 (.int .i64 (K + 1))).set (o := o + k * 6 + 2) h1 h2 (.int .i64 (K + 1 + 1))).set (o := o + k * 6 + 3) h1 h2 (.int .i64 (K + 1 + 1 + 1))
      refine (markText_any _ _ (by omega)).mono ?_
      rintro e w5 ⟨rfl, b5⟩
      have HL5 := hide (fun i hi (hki : k ≤ i) => (HL4.out i hi hki).inner rfl (Out.of_below (lo := b + 1) (hi := m.hi) b5))
      have o5 := o4.trans (Out.of_below b5)
      clear c0 c1 c2' c3 f0 f1 f2 f3 c5 b5 HL HL4 o4 y0 y1 y2 y3 h4 a2 q c2
      obtain ⟨b', o', a2, q, c2, e', -, -, g3, g4, -, g6, c5, g8⟩ := id (HL5.out k hp (Nat.le_refl _))
      cases e'
      obtain ⟨⟨y4, c4⟩, f4⟩ := g6 4 (by omega)
      have HR := hide (g8.on ((Out.refl b (b + 1) w5).set (o := o + k * 6 + 4) (Nat.le_refl _) (Nat.lt_succ_self _) (.string (mt (K + 1 + 1 + 1 + 1)))))
      have HL6 := hide (fun i hi (hki : k ≤ i) => (HL5.out i hi hki).set rfl (p := o + k * 6 + 4) (by omega) (.string (mt (K + 1 + 1 + 1 + 1))))
      have o6 := o5.set (o := o + k * 6 + 4) h1 h2 (.string (mt (K + 1 + 1 + 1 + 1)))
      clear g6 g8 HL5 o5
      go_wp2_with fail
      refine (markParamS_any ⟨b + 1, m.hi, true⟩ a2 q c2 _ _ g4 (by omega) (by omega) HR.out).mono ?_
      rintro e w7 ⟨rfl, o7⟩
      have HL7 := hide (fun i hi (hki : k ≤ i) => (HL6.out i hi hki).inner rfl o7)
      have o8 := o6.trans (o7.wid (by show m.lo ≤ b + 1; omega) (Nat.le_refl _))
      clear HL6 o6 o7 c4 f4 c5 HR
      go_wp2
      go_roundw
      case rel => exact ⟨k + 1, K + 1 + 1 + 1 + 1 + 1 + 2 * (q : Int), by go_num, rfl, by omega, by omega, by omega, fun i hi hki => HL7.out i hi (by omega), o8⟩
      case measure => simp [intOf]; omega
    · have i1 : ¬ (k : Int) < n := by omega
      go_wp2
      go_ret
      exact ⟨⟨K, rfl, by omega⟩, hbw⟩
/-- A copy that a law has made may be marked. -/
theorem lives_of {w : World} {m : Md} {l : List Itm} {a : Option Addr} {c : Nat} (hm : m.made = true) (hs : ∀ y ∈ l, y.params.length ≤ 1048576) (hw : m.hi ≤ w.heap.size) (h : SlAt ItmAt 6 w m (.slice a l.length c) l) : ∀ i, i < l.length → Lives w m a l.length i := by
  intro i hi
  obtain ⟨a', c', e, hr⟩ := h
  cases e
  obtain ⟨b, o, rfl, h1, h2, h3, ⟨⟨c0, c1, c2, c3, c4⟩, -, u, c5, a2, q2, rfl, hp⟩⟩ := hr i hi
  refine ⟨b, o, a2, l[i].params.length, q2, rfl, h1.1, h2, by omega, hs _ (List.getElem_mem hi), hi, fun j hj => ⟨?_, h3 hm _⟩, c5, fun j hj => ?_⟩
  · match j, hj with
    | 0, _ => exact ⟨_, c0⟩
    | 1, _ => exact ⟨_, c1⟩
    | 2, _ => exact ⟨_, c2⟩
    | 3, _ => exact ⟨_, c3⟩
    | 4, _ => exact ⟨_, c4⟩
    | 5, _ => exact ⟨_, c5⟩
    | j + 6, hj => exact absurd hj (by omega)
  · obtain ⟨b', o', e', g1, g2, g3, ⟨d0, d1, -⟩⟩ := hp j hj
    have hin : (m.inner b).lo = b + 1 := by unfold Md.inner; rw [if_pos hm]
    rw [Md.inner_hi] at g2
    rw [Md.inner_made] at g3
    refine ⟨b', o', e', by show b + 1 ≤ b'; have := g1.1; omega, g2, by omega, fun i' hi' => ⟨?_, g3 hm _⟩⟩
    match i', hi' with
    | 0, _ => exact ⟨_, d0⟩
    | 1, _ => exact ⟨_, d1⟩
    | i' + 2, hi' => exact absurd hi' (by omega)
set_option maxHeartbeats 2000000 in
theorem markInterface_any (m : Md) (v : Value) (x : Fac) (w : World) (hm : m.made = true) (hs : x.items.length ≤ 1048576 ∧ ∀ y ∈ x.items, y.params.length ≤ 1048576) (hw : m.hi ≤ w.heap.size) (h : FacAt w m v x) :
    Calls Tryd.prog 21 #[v, .int .i64 1] w fun e w' => (∃ K : Int, e = .returned (.int .i64 K) ∧ 0 ≤ K) ∧ Out m.lo m.hi w w' := by
  obtain ⟨u, rfl, -, -, hu⟩ := h
  have HM : Hid (∀ w', Below w.heap.size w w' → Calls Tryd.prog 44 #[u, .int .i64 1] w' fun e w2 => (∃ K : Int, e = .returned (.int .i64 K) ∧ 0 ≤ K) ∧ Out m.lo m.hi w' w2) := by
    intro w' bel
    have hu' := hu.on ItmAt.stays (bel.mono hw)
    obtain ⟨a, c, rfl, -⟩ := id hu'
    exact markItemS_any m a x.items.length c w' hs.1 (lives_of hm hs.2 (Nat.le_trans hw bel.size) hu')
  obtain ⟨a, c, rfl, -⟩ := hu
  generalize x.items.length = n at *
  generalize x.module = s at *
  go_enter Tryd.func21, Tryd.ntmps21
  go_wp2_with fail
  refine (HM.out _ ((Below.refl _ _).alloc (Nat.le_refl _) _)).mono ?_
  rintro e w1 ⟨⟨K, rfl, hK⟩, o1⟩
  go_wp2
  go_ret
  exact ⟨⟨K, rfl, hK⟩, (Out.of_below ((Below.refl _ _).alloc (Nat.le_refl _) _)).trans o1⟩
end Go.Proofs.YtoomnimbokbadaaDoor
