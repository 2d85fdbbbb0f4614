/- The law's marks in its copy of an object. No condition. -/
import Derived.Test.YtoodadepafghhaaGreatDoorZOuts
import Derived.Test.YtoodadepafghhaaGreatDoorZToSep
namespace Go.Proofs.YtoodadepafghhaaGreatDoor
open Go.RowKit

set_option maxHeartbeats 4000000 in
theorem markNeedS_any (m : Md) (a : Option Addr) (n c : Nat) (K : Int) (w : World) (hn : n ≤ 1048576) (k0 : 0 ≤ K) (k1 : K ≤ 1000000000000000000) (h : Room w m 2 a n) :
    Calls Tryz.prog 54 #[.slice a n c, .int .i64 K] w fun e w' => e = .returned (.int .i64 (K + 2 * (n : Int))) ∧ Out m.lo m.hi w w' := by
  have H := hide h
  clear h
  go_enter Tryz.func54, Tryz.ntmps54
  go_wp2
  go_loopw [1, 5] (fun q i wr => ∃ k : Nat, i = .int .i64 k ∧ q = .int .i64 (K + 2 * (k : Int)) ∧ k ≤ n ∧ Out m.lo m.hi w wr) (fun _ i _ => n - (intOf i).toNat)
  case atStart => exact ⟨0, rfl, by simp, by omega, Out.refl _ _ _⟩
  case round =>
    obtain ⟨k, rfl, rfl, hk, hbw⟩ := hrel
    by_cases hp : k < n
    · have i1 : (k : Int) < n := by omega
      obtain ⟨b, o, rfl, h1, h2, h3, h4⟩ := H.out.on hbw k hp
      clear h4
      go_wp2_with fail
      refine (markText_any _ _ (by omega)).mono ?_
      rintro e w1' ⟨rfl, b1⟩
      have o1 := hbw.trans (Out.of_below b1)
      obtain ⟨b', o', e', -, -, -, g4⟩ := H.out.on o1 k hp
      cases e'
      obtain ⟨⟨y0, c0⟩, f0⟩ := g4 0 (by omega)
      simp only [Nat.add_zero] at c0 f0
      obtain ⟨⟨y1, c1⟩, f1⟩ := g4 1 (by omega)
      clear g4
      go_wp2
      go_roundw
      case rel => exact ⟨k + 1, by go_num, by first | go_num | (congr 1; omega), by omega, ((o1.set h1 h2 _).set h1 h2 _)⟩
      case measure => simp [intOf]; omega
    · have i1 : ¬ (k : Int) < n := by omega
      obtain rfl : k = n := by omega
      go_wp2
      go_ret
      exact ⟨rfl, hbw⟩
set_option maxHeartbeats 4000000 in
theorem markGlobalS_any (m : Md) (a : Option Addr) (n c : Nat) (K : Int) (w : World) (hn : n ≤ 1048576) (k0 : 0 ≤ K) (k1 : K ≤ 1000000000000000000) (h : Room w m 2 a n) :
    Calls Tryz.prog 55 #[.slice a n c, .int .i64 K] w fun e w' => e = .returned (.int .i64 (K + 2 * (n : Int))) ∧ Out m.lo m.hi w w' := by
  have H := hide h
  clear h
  go_enter Tryz.func55, Tryz.ntmps55
  go_wp2
  go_loopw [1, 5] (fun q i wr => ∃ k : Nat, i = .int .i64 k ∧ q = .int .i64 (K + 2 * (k : Int)) ∧ k ≤ n ∧ Out m.lo m.hi w wr) (fun _ i _ => n - (intOf i).toNat)
  case atStart => exact ⟨0, rfl, by simp, by omega, Out.refl _ _ _⟩
  case round =>
    obtain ⟨k, rfl, rfl, hk, hbw⟩ := hrel
    by_cases hp : k < n
    · have i1 : (k : Int) < n := by omega
      obtain ⟨b, o, rfl, h1, h2, h3, h4⟩ := H.out.on hbw k hp
      clear h4
      go_wp2_with fail
      refine (markText_any _ _ (by omega)).mono ?_
      rintro e w1' ⟨rfl, b1⟩
      have o1 := hbw.trans (Out.of_below b1)
      obtain ⟨b', o', e', -, -, -, g4⟩ := H.out.on o1 k hp
      cases e'
      obtain ⟨⟨y0, c0⟩, f0⟩ := g4 0 (by omega)
      simp only [Nat.add_zero] at c0 f0
      obtain ⟨⟨y1, c1⟩, f1⟩ := g4 1 (by omega)
      clear g4
      go_wp2
      go_roundw
      case rel => exact ⟨k + 1, by go_num, by first | go_num | (congr 1; omega), by omega, ((o1.set h1 h2 _).set h1 h2 _)⟩
      case measure => simp [intOf]; omega
    · have i1 : ¬ (k : Int) < n := by omega
      obtain rfl : k = n := by omega
      go_wp2
      go_ret
      exact ⟨rfl, hbw⟩
set_option maxHeartbeats 4000000 in
theorem markInsS_any (m : Md) (a : Option Addr) (n c : Nat) (K : Int) (w : World) (hn : n ≤ 1048576) (k0 : 0 ≤ K) (k1 : K ≤ 1000000000000000000) (h : Room w m 5 a n) :
    Calls Tryz.prog 114 #[.slice a n c, .int .i64 K] w fun e w' => e = .returned (.int .i64 (K + 5 * (n : Int))) ∧ Out m.lo m.hi w w' := by
  have H := hide h
  clear h
  go_enter Tryz.func114, Tryz.ntmps114
  go_wp2
  go_loopw [1, 5] (fun q i wr => ∃ k : Nat, i = .int .i64 k ∧ q = .int .i64 (K + 5 * (k : Int)) ∧ k ≤ n ∧ Out m.lo m.hi w wr) (fun _ i _ => n - (intOf i).toNat)
  case atStart => exact ⟨0, rfl, by simp, by omega, Out.refl _ _ _⟩
  case round =>
    obtain ⟨k, rfl, rfl, hk, hbw⟩ := hrel
    by_cases hp : k < n
    · have i1 : (k : Int) < n := by omega
      obtain ⟨b, o, rfl, h1, h2, h3, h4⟩ := H.out.on hbw k hp
      obtain ⟨⟨y0, c0⟩, f0⟩ := h4 0 (by omega)
      simp only [Nat.add_zero] at c0 f0
      obtain ⟨⟨y1, c1⟩, f1⟩ := h4 1 (by omega)
      obtain ⟨⟨y2, c2⟩, f2⟩ := h4 2 (by omega)
      clear h4
      go_wp2_with fail
      refine (markText_any _ _ (by omega)).mono ?_
      rintro e w1' ⟨rfl, b1⟩
      have o1 := (((hbw.set h1 h2 _).set h1 h2 _).set h1 h2 _).trans (Out.of_below b1)
      clear c0 f0 y0 c1 f1 y1 c2 f2 y2
      obtain ⟨b', o', e', -, -, -, g4⟩ := H.out.on o1 k hp
      cases e'
      obtain ⟨⟨y3, c3⟩, f3⟩ := g4 3 (by omega)
      clear g4
      go_wp2_with fail
      refine (markText_any _ _ (by omega)).mono ?_
      rintro e w2' ⟨rfl, b2⟩
      have o2 := (o1.set h1 h2 _).trans (Out.of_below b2)
      clear c3 f3 y3
      obtain ⟨b', o', e', -, -, -, g4⟩ := H.out.on o2 k hp
      cases e'
      obtain ⟨⟨y4, c4⟩, f4⟩ := g4 4 (by omega)
      clear g4
      go_wp2
      go_roundw
      case rel => exact ⟨k + 1, by go_num, by first | go_num | (congr 1; omega), by omega, (o2.set h1 h2 _)⟩
      case measure => simp [intOf]; omega
    · have i1 : ¬ (k : Int) < n := by omega
      obtain rfl : k = n := by omega
      go_wp2
      go_ret
      exact ⟨rfl, hbw⟩

/-- A code's cells that are there and may be written; its instructions' cells, behind its own row. -/
def CLive (w : World) (m : Md) (a : Option Addr) (n : Nat) (i : Nat) : Prop := ∃ b o a2 q c2, a = some ⟨b, o, none⟩ ∧ m.lo ≤ b ∧ b < m.hi ∧ b < w.heap.size ∧ q ≤ 1048576 ∧ i < n ∧ (∀ j, j < 5 → (∃ y, w.cell? ⟨b, o + i * 5 + j, none⟩ = some y) ∧ w.frozen? ⟨b, o + i * 5 + j, none⟩ = false) ∧ w.cell? ⟨b, o + i * 5 + 4, none⟩ = some (.slice a2 q c2) ∧ Room w ⟨b + 1, m.hi, true⟩ 5 a2 q
/-- A step that leaves the code's own row alone. -/
theorem CLive.inner {w w' : World} {m : Md} {a : Option Addr} {n i : Nat} (h : CLive w m a n i) {b0 o0 : Nat} (ha : a = some ⟨b0, o0, none⟩) {hi : Nat} (k : Out (b0 + 1) hi w w') : CLive w' m a n i := by
  obtain ⟨b, o, a2, q, c2, e, h1, h2, h3, h4, h5, h6, h7, h8⟩ := h
  rw [ha] at e
  cases e
  refine ⟨b0, o0, a2, q, c2, ha, h1, h2, Nat.lt_of_lt_of_le h3 k.size, h4, h5, fun j hj => ?_, ?_, h8.on k⟩
  · obtain ⟨⟨y, hy⟩, hf⟩ := h6 j hj
    exact ⟨k.alive _ _ _ hy, (k.free _ _ h3).trans hf⟩
  · rw [World.cell?_of_block (w := w) (k.block b0 h3 (.inl (Nat.lt_succ_self _)))]
    exact h7
/-- Steps that turn rows ahead of all codes. -/
theorem CLive.far {w w' : World} {m : Md} {a : Option Addr} {n i : Nat} (h : CLive w m a n i) {lo hi : Nat} (k : Out lo hi w w') (hh : hi ≤ m.lo) : CLive w' m a n i := by
  obtain ⟨b, o, a2, q, c2, e, h1, h2, h3, h4, h5, h6, h7, h8⟩ := h
  refine ⟨b, o, a2, q, c2, e, h1, h2, Nat.lt_of_lt_of_le h3 k.size, h4, h5, fun j hj => ?_, ?_, h8.on k⟩
  · obtain ⟨⟨y, hy⟩, hf⟩ := h6 j hj
    exact ⟨k.alive _ _ _ hy, (k.free _ _ h3).trans hf⟩
  · rw [World.cell?_of_block (w := w) (k.block b h3 (.inr (by omega)))]
    exact h7
/-- A store into another code, or into another field than the last. -/
theorem CLive.set {w : World} {m : Md} {a : Option Addr} {n i : Nat} (h : CLive w m a n i) {b0 o0 p : Nat} (ha : a = some ⟨b0, o0, none⟩) (hp : p ≠ o0 + i * 5 + 4) (v : Value) : CLive (w.setCell ⟨b0, p, none⟩ v) m a n i := by
  obtain ⟨b, o, a2, q, c2, e, h1, h2, h3, h4, h5, h6, h7, h8⟩ := h
  rw [ha] at e
  cases e
  refine ⟨b0, o0, a2, q, c2, ha, h1, h2, by simpa [World.setCell] using h3, h4, h5, fun j hj => ?_, ?_, h8.on ((Out.refl b0 (b0 + 1) w).set (Nat.le_refl _) (Nat.lt_succ_self _) v)⟩
  · obtain ⟨⟨y, hy⟩, hf⟩ := h6 j hj
    exact ⟨cell?_setCell_some hy, by rw [World.frozen?_setCell]; exact hf⟩
  · rw [World.cell?_setCell_other _ _ _ _ (by simp <;> omega)]
    exact h7
set_option maxHeartbeats 8000000 in
theorem markCodeS_any (m : Md) (a : Option Addr) (n c : Nat) (K0 : Int) (w : World) (hn : n ≤ 1048576) (k0 : 0 ≤ K0) (k1 : K0 ≤ 1000000000) (h : ∀ i, i < n → CLive w m a n i) :
    Calls Tryz.prog 56 #[.slice a n c, .int .i64 K0] w fun e w' => (∃ K : Int, e = .returned (.int .i64 K) ∧ 0 ≤ K) ∧ Out m.lo m.hi w w' := by
  have H := hide h
  clear h
  go_enter Tryz.func56, Tryz.ntmps56
  go_wp2
  go_loopw [1, 5] (fun q i wr => ∃ (k : Nat) (K : Int), i = .int .i64 k ∧ q = .int .i64 K ∧ k ≤ n ∧ 0 ≤ K ∧ K ≤ 1000000000 + 5242900 * (k : Int) ∧ Hid (∀ i, i < n → k ≤ i → CLive wr m a n i) ∧ Out m.lo m.hi w wr) (fun _ i _ => n - (intOf i).toNat)
  case atStart => exact ⟨0, K0, rfl, rfl, by omega, by omega, by omega, fun i hi _ => H.out i hi, Out.refl _ _ _⟩
  case round =>
    obtain ⟨k, K, rfl, rfl, hk, K0', K1, HL, hbw⟩ := hrel
    by_cases hp : k < n
    · have i1 : (k : Int) < n := by omega
      obtain ⟨b, o, a2, q, c2, rfl, h1, h2, h3, h4, -, h6, c5, -⟩ := id (HL.out k hp (Nat.le_refl _))
      clear h6 c5 h4 a2 q c2
      go_wp2_with fail
      refine (markText_any _ _ (by omega)).mono ?_
      rintro e w5 ⟨rfl, b5⟩
      have HL5 := hide (fun i hi (hki : k ≤ i) => (HL.out i hi hki).inner rfl (Out.of_below (lo := b + 1) (hi := m.hi) b5))
      have o5 := hbw.trans (Out.of_below b5)
      clear b5 HL
      obtain ⟨b', o', a2, q, c2, e', -, -, g3, g4, -, g6, c4, g8⟩ := id (HL5.out k hp (Nat.le_refl _))
      cases e'
      obtain ⟨⟨y0, c0⟩, f0⟩ := g6 0 (by omega)
      obtain ⟨⟨y1, c1⟩, f1⟩ := g6 1 (by omega)
      obtain ⟨⟨y2, c2'⟩, f2⟩ := g6 2 (by omega)
      obtain ⟨⟨y3, c3⟩, f3⟩ := g6 3 (by omega)
      simp only [Nat.add_zero] at c0 f0
      have HL6 := hide (fun i hi (hki : k ≤ i) => ((((HL5.out i hi hki).set rfl (p := o + k * 5) (by omega) (.string (mt K))).set rfl (p := o + k * 5 + 1) (by omega) (.int .i64 (K + 1))).set rfl (p := o + k * 5 + 2) (by omega) (.int .i64 (K + 1 + 1))).set rfl (p := o + k * 5 + 3) (by omega) (.int .i64 (K + 1 + 1 + 1)))
      have o6 := (((o5.set (o := o + k * 5) h1 h2 (.string (mt K))).set (o := o + k * 5 + 1) h1 h2 (.int .i64 (K + 1))).set (o := o + k * 5 + 2) h1 h2 (.int .i64 (K + 1 + 1))).set (o := o + k * 5 + 3) h1 h2 (.int .i64 (K + 1 + 1 + 1))
      have HR := hide ((((g8.on ((Out.refl b (b + 1) w5).set (o := o + k * 5) (Nat.le_refl _) (Nat.lt_succ_self _) (.string (mt K)))).on ((Out.refl b (b + 1) _).set (o := o + k * 5 + 1) (Nat.le_refl _) (Nat.lt_succ_self _) (.int .i64 (K + 1)))).on ((Out.refl b (b + 1) _).set (o := o + k * 5 + 2) (Nat.le_refl _) (Nat.lt_succ_self _) (.int .i64 (K + 1 + 1)))).on ((Out.refl b (b + 1) _).set (o := o + k * 5 + 3) (Nat.le_refl _) (Nat.lt_succ_self _) (.int .i64 (K + 1 + 1 + 1))))
      clear g6 g8 HL5 o5 hbw
      go_wp2_with fail
      refine (markInsS_any ⟨b + 1, m.hi, true⟩ a2 q c2 _ _ g4 (by omega) (by omega) HR.out).mono ?_
      rintro e w7 ⟨rfl, o7⟩
      have HL7 := hide (fun i hi (hki : k ≤ i) => (HL6.out i hi hki).inner rfl o7)
      have o8 := o6.trans (o7.wid (by show m.lo ≤ b + 1; omega) (Nat.le_refl _))
      clear HL6 o6 o7 c0 c1 c2' c3 c4 f0 f1 f2 f3 HR
      go_wp2
      go_roundw
      case rel => exact ⟨k + 1, K + 1 + 1 + 1 + 1 + 5 * (q : Int), by go_num, rfl, by omega, by omega, by omega, fun i hi hki => HL7.out i hi (by omega), o8⟩
      case measure => simp [intOf]; omega
    · have i1 : ¬ (k : Int) < n := by omega
      go_wp2
      go_ret
      exact ⟨⟨K, rfl, by omega⟩, hbw⟩
theorem need_al : ∀ cf w m x, NeedAt cf w m x → ∀ j, j < 2 → ∃ y, cf j = some y := by
  rintro cf w m x ⟨⟨c0, c1⟩, -⟩ j hj
  match j, hj with
  | 0, _ => exact ⟨_, c0⟩
  | 1, _ => exact ⟨_, c1⟩
  | j + 2, hj => exact absurd hj (by omega)
theorem glob_al : ∀ cf w m x, GlobalAt cf w m x → ∀ j, j < 2 → ∃ y, cf j = some y := by
  rintro cf w m x ⟨⟨c0, c1⟩, -⟩ j hj
  match j, hj with
  | 0, _ => exact ⟨_, c0⟩
  | 1, _ => exact ⟨_, c1⟩
  | j + 2, hj => exact absurd hj (by omega)
theorem ins_al : ∀ cf w m x, InsAt cf w m x → ∀ j, j < 5 → ∃ y, cf j = some y := by
  rintro cf w m x ⟨⟨c0, c1, c2, c3, c4⟩, -⟩ j hj
  match j, hj with
  | 0, _ => exact ⟨_, c0⟩
  | 1, _ => exact ⟨_, c1⟩
  | 2, _ => exact ⟨_, c2⟩
  | 3, _ => exact ⟨_, c3⟩
  | 4, _ => exact ⟨_, c4⟩
  | j + 5, hj => exact absurd hj (by omega)
theorem clive_of {w : World} {m : Md} {l : List CodeD} {a : Option Addr} {c : Nat} (hm : m.made = true) (hs : ∀ y ∈ l, CodeSm y) (hw : m.hi ≤ w.heap.size) (h : SlAt CodeAt 5 w m (.slice a l.length c) l) : ∀ i, i < l.length → CLive w m a l.length i := by
  intro i hi
  obtain ⟨a', c', e, hr⟩ := h
  cases e
  obtain ⟨b, o, rfl, h1, h2, h3, ⟨⟨c0, c1, c2, c3⟩, -, u, c4, hu⟩⟩ := hr i hi
  have hu' := hu
  obtain ⟨a2, q2, rfl, -⟩ := hu
  have hin : (m.inner b).lo = b + 1 := by unfold Md.inner; rw [if_pos hm]
  have hR := room_of ins_al (by rw [Md.inner_made]; exact hm) (by rw [Md.inner_hi]; exact hw) hu'
  refine ⟨b, o, a2, l[i].list.length, q2, rfl, h1.1, h2, by omega, hs _ (List.getElem_mem hi), hi, fun j hj => ⟨?_, h3 hm _⟩, c4, ?_⟩
  · match j, hj with
    | 0, _ => exact ⟨_, c0⟩
    | 1, _ => exact ⟨_, c1⟩
    | 2, _ => exact ⟨_, c2⟩
    | 3, _ => exact ⟨_, c3⟩
    | 4, _ => exact ⟨_, c4⟩
    | j + 5, hj => exact absurd hj (by omega)
  · intro j hj
    obtain ⟨b', o', e', g1, g2, g3, g4⟩ := hR j hj
    rw [Md.inner_hi] at g2
    exact ⟨b', o', e', by show b + 1 ≤ b'; rw [hin] at g1; exact g1, g2, g3, g4⟩
set_option maxHeartbeats 4000000 in
theorem markObject_any (lo hi : Nat) (v : Value) (x : ObjectD) (w : World) (hs : ObjectSm x) (hw : hi ≤ w.heap.size) (h : ObjectSep w lo hi v x) :
    Calls Tryz.prog 18 #[v, .int .i64 1] w fun e w' => (∃ K : Int, e = .returned (.int .i64 K) ∧ 0 ≤ K) ∧ Out lo hi w w' := by
  obtain ⟨u2, u3, u4, l2, h2, l3, h3, l4, h4, rfl, -, ⟨q1, q2, q3, q4, q5, q6, q7⟩, s2, s3, s4⟩ := h
  obtain ⟨a2, c2, rfl, -⟩ := id s2
  obtain ⟨a3, c3, rfl, -⟩ := id s3
  obtain ⟨a4, c4, rfl, -⟩ := id s4
  obtain ⟨g2, g3, g4, g5⟩ := hs
  have R2 := hide (room_of need_al rfl (by show h2 ≤ _; omega) s2)
  have R3 := hide (room_of glob_al rfl (by show h3 ≤ _; omega) s3)
  have R4 := hide (clive_of rfl g5 (by show h4 ≤ _; omega) s4)
  generalize x.needs.length = n2 at *
  generalize x.globals.length = n3 at *
  generalize x.procs.length = n4 at *
  generalize x.module = s at *
  generalize x.print = p at *
  clear s2 s3 s4 g5
  go_enter Tryz.func18, Tryz.ntmps18
  have HW := hide (Deep.blk_alloc_new w (.cells #[.string s, .int .i64 p, .slice a2 n2 c2, .slice a3 n3 c3, .slice a4 n4 c4] 44))
  have o0 : Out lo hi w (w.alloc (.cells #[.string s, .int .i64 p, .slice a2 n2 c2, .slice a3 n3 c3, .slice a4 n4 c4] 44)) := Out.of_below ((Below.refl _ _).alloc (Nat.le_refl _) _)
  have o00 : Out 0 0 w (w.alloc (.cells #[.string s, .int .i64 p, .slice a2 n2 c2, .slice a3 n3 c3, .slice a4 n4 c4] 44)) := Out.of_below ((Below.refl _ _).alloc (Nat.le_refl _) _)
  have z0 : w.heap.size < (w.alloc (.cells #[.string s, .int .i64 p, .slice a2 n2 c2, .slice a3 n3 c3, .slice a4 n4 c4] 44)).heap.size := by simp
  go_wp2_with fail
  refine (markNeedS_any ⟨l2, h2, true⟩ a2 n2 c2 _ _ g2 (by omega) (by omega) (R2.out.on o0)).mono ?_
  rintro e w2 ⟨rfl, o2⟩
  have o2' : Out lo hi _ w2 := o2.wid q1 (by show h2 ≤ hi; omega)
  have k2 := (o2.block w.heap.size z0 (.inr (by show h2 ≤ _; omega))).trans HW.out
  have c23 := (heapCells k2).1 3
  simp at c23
  have z2 := Nat.lt_of_lt_of_le z0 o2.size
  go_wp2_with fail
  refine (markGlobalS_any ⟨l3, h3, true⟩ a3 n3 c3 _ _ g3 (by omega) (by omega) ((R3.out.on o0).on o2)).mono ?_
  rintro e w3 ⟨rfl, o3⟩
  have o3' : Out lo hi _ w3 := o3.wid (by show lo ≤ l3; omega) (by show h3 ≤ hi; omega)
  have k3 := (o3.block w.heap.size z2 (.inr (by show h3 ≤ _; omega))).trans k2
  have c34 := (heapCells k3).1 4
  simp at c34
  clear c23
  go_wp2_with fail
  refine (markCodeS_any ⟨l4, h4, true⟩ a4 n4 c4 _ _ g4 (by omega) (by omega) (fun i hi => (((R4.out i hi).far o00 (Nat.zero_le _)).far o2 (by show h2 ≤ l4; omega)).far o3 (by show h3 ≤ l4; omega))).mono ?_
  rintro e w4 ⟨⟨K, rfl, hK⟩, o4⟩
  have o4' : Out lo hi _ w4 := o4.wid (by show lo ≤ l4; omega) (by show h4 ≤ hi; omega)
  clear c34
  go_wp2
  go_ret
  exact ⟨⟨K, rfl, hK⟩, ((o0.trans o2').trans o3').trans o4'⟩
end Go.Proofs.YtoodadepafghhaaGreatDoor
