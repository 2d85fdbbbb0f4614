/- Marks in a law's own copies: they turn the copy's rows alone. No condition. -/
import Derived.Test.YtoodadepafghhaaGreatDoorZByt
import Derived.BigQuiet
import Derived.Deep.QuietTactic
import Derived.Test.YtoodadepafghhaaGreatDoorZBase
import Derived.Test.YtoodadepafghhaaGreatDoorZRd
/- Rows of bytes: told the same, marked, and their marks found again, by the law's own ways. No condition. -/
namespace Go.Proofs.YtoodadepafghhaaGreatDoor
open Go.RowKit

def ByAt (w : World) (B : Nat) (a : Option Addr) (l : List Int) : Prop := ∀ i (h : i < l.length), ∃ g, a = some ⟨g, 0, none⟩ ∧ B ≤ g ∧ g < w.heap.size ∧ w.cell? ⟨g, i, none⟩ = some (.int .u8 l[i]) ∧ w.frozen? ⟨g, i, none⟩ = false
theorem Own.at {w : World} {B : Nat} {v : Value} {l : List Int} (h : Own w B v l) : ∃ a c, v = .slice a l.length c ∧ ByAt w B a l := by
  rcases h.2 with ⟨rfl, e⟩ | ⟨g, cap, cur, rfl, hb, hg, _⟩
  · rw [e]
    exact ⟨none, 0, rfl, fun i hi => by omega⟩
  · refine ⟨_, cap, rfl, fun i hi => ⟨g, rfl, hb, (Array.getElem?_eq_some_iff.1 hg).1, ?_, (heapCells hg).2 i⟩⟩
    have := h.cells i (.int .u8 l[i]) (by unfold bc; simp [hi])
    have e : (⟨g, 0, none⟩ : Addr).add i = ⟨g, i, none⟩ := by simp [Addr.add]; intro h; exact h.symm
    rwa [e] at this
theorem ByAt.on {w w' : World} {B : Nat} {a : Option Addr} {l : List Int} (h : ByAt w B a l) (bel : Below w.heap.size w w') : ByAt w' B a l := by
  intro i hi
  obtain ⟨g, e, h1, h2, h3, h4⟩ := h i hi
  exact ⟨g, e, h1, Nat.lt_of_lt_of_le h2 bel.size, (bel.cell (p := ⟨g, i, none⟩) h2).trans h3, (bel.frozen (p := ⟨g, i, none⟩) h2).trans h4⟩
set_option maxHeartbeats 2000000 in
theorem eqByteS_same (B B' : Nat) (v v' : Value) (l : List Int) (w : World) (hl : l.length ≤ 1099511627776) (h : Own w B v l) (h' : Own w B' v' l) :
    Calls Tryz.prog 16 #[v, v'] w fun e w' => e = .returned (.bool true) ∧ Below w.heap.size w w' := by
  have hmix : Tryz.prog.follows .mixedOrders = true := by kernel_rfl
  obtain ⟨a, c, rfl, hb⟩ := h.at
  obtain ⟨a', c', rfl, hb'⟩ := h'.at
  have H := hide hb
  have H' := hide hb'
  obtain ⟨n, hn⟩ : ∃ n, l.length = n := ⟨_, rfl⟩
  have HN := hide hn
  rw [hn] at hl ⊢
  clear h h' hb hb' hn
  go_enter Tryz.func16, Tryz.ntmps16
  go_wp2
  go_loopw [5] (fun i wr => ∃ k : Nat, i = .int .i64 k ∧ k ≤ n ∧ Below w.heap.size w wr) (fun i _ => n - (intOf i).toNat)
  case atStart => exact ⟨0, rfl, by omega, Below.refl _ _⟩
  case round =>
    obtain ⟨k, rfl, hk, hbw⟩ := hrel
    by_cases hp : k < n
    · have i1 : (k : Int) < n := by omega
      have i0 : (0 : Int) ≤ (k : Int) := by omega
      obtain ⟨g, rfl, -, -, hc, -⟩ := H.out.on hbw k (by rw [HN.out]; exact hp)
      obtain ⟨g', rfl, -, -, hc', -⟩ := H'.out.on hbw k (by rw [HN.out]; exact hp)
      generalize l[k]'(by rw [HN.out]; exact hp) = y at *
      go_wp2
      go_quiet (fail)
      go_wp2
      go_roundw
      case rel => exact ⟨k + 1, by go_num, by omega, hbw.trans ((Below.refl _ _).trans ⟨rfl, rfl, rfl, Nat.le_refl _, fun _ _ => rfl⟩)⟩
      case measure => simp [intOf]; omega
    · have i1 : ¬ (k : Int) < n := by omega
      go_wp2
      go_ret
      exact ⟨rfl, hbw⟩
/-- The marks in a row of bytes. -/
def MarkdB (w : World) (B : Nat) (a : Option Addr) (n : Nat) : Prop := ∀ i, i < n → ∃ g, a = some ⟨g, 0, none⟩ ∧ B ≤ g ∧ g < w.heap.size ∧ w.cell? ⟨g, i, none⟩ = some (.int .u8 ((1 + (i : Int)) % 256))
theorem MarkdB.on {w w' : World} {B : Nat} {a : Option Addr} {n : Nat} (h : MarkdB w B a n) (bel : Below w.heap.size w w') : MarkdB w' B a n := by
  intro i hi
  obtain ⟨g, e, h1, h2, h3⟩ := h i hi
  exact ⟨g, e, h1, Nat.lt_of_lt_of_le h2 bel.size, (bel.cell (p := ⟨g, i, none⟩) h2).trans h3⟩
set_option maxHeartbeats 2000000 in
theorem markByteS_any (B : Nat) (a : Option Addr) (c : Nat) (l : List Int) (w : World) (hl : l.length ≤ 1099511627776) (h : ByAt w B a l) :
    Calls Tryz.prog 19 #[.slice a l.length c, .int .i64 1] w fun e w' => e = .returned (.int .i64 (1 + (l.length : Int))) ∧ MarkdB w' B a l.length ∧ Below B w w' := by
  have H := hide h
  obtain ⟨n, hn⟩ : ∃ n, l.length = n := ⟨_, rfl⟩
  have HN := hide hn
  rw [hn] at hl ⊢
  clear h hn
  go_enter Tryz.func19, Tryz.ntmps19
  go_wp2
  go_loopw [1, 5] (fun q i wr => ∃ k : Nat, i = .int .i64 k ∧ q = .int .i64 (1 + (k : Int)) ∧ k ≤ n ∧ Hid (MarkdB wr B a k) ∧ Hid (∀ i, i < n → ∃ g, a = some ⟨g, 0, none⟩ ∧ B ≤ g ∧ g < wr.heap.size ∧ (∃ y, wr.cell? ⟨g, i, none⟩ = some y) ∧ wr.frozen? ⟨g, i, none⟩ = false) ∧ Below B w wr) (fun _ i _ => n - (intOf i).toNat)
  case atStart =>
    refine ⟨0, rfl, rfl, by omega, fun i hi => absurd hi (by omega), fun i hi => ?_, Below.refl _ _⟩
    obtain ⟨g, e, h1, h2, h3, h4⟩ := H.out i (by rw [HN.out]; exact hi)
    exact ⟨g, e, h1, h2, ⟨_, h3⟩, h4⟩
  case round =>
    obtain ⟨k, rfl, rfl, hk, Hm, Hr, hbw⟩ := hrel
    by_cases hp : k < n
    · have i1 : (k : Int) < n := by omega
      obtain ⟨g, rfl, hg1, hg2, ⟨y, hc⟩, hf⟩ := Hr.out k hp
      go_wp2
      go_roundw
      case rel =>
        refine ⟨k + 1, by go_num, by go_num, by omega, fun i hi => ?_, fun i hi => ?_, hbw.setCell (p := ⟨g, k, none⟩) hg1 _⟩
        · by_cases e : i < k
          · obtain ⟨g', e', h1, h2, h3⟩ := Hm.out i e
            cases e'
            exact ⟨g, rfl, h1, by simpa [World.setCell] using h2, (World.cell?_setCell_other _ _ _ _ (by simp <;> omega)).trans h3⟩
          · obtain rfl : i = k := by omega
            exact ⟨g, rfl, hg1, by simpa [World.setCell] using hg2, World.cell?_setCell_same _ _ _ hc⟩
        · obtain ⟨g', e', h1, h2, ⟨y', h3⟩, h4⟩ := Hr.out i hi
          cases e'
          exact ⟨g, rfl, h1, by simpa [World.setCell] using h2, cell?_setCell_some h3, by rw [World.frozen?_setCell]; exact h4⟩
      case measure => simp [intOf]; omega
    · have i1 : ¬ (k : Int) < n := by omega
      obtain rfl : k = n := by omega
      go_wp2
      go_ret
      exact ⟨rfl, Hm.out, hbw⟩
set_option maxHeartbeats 2000000 in
theorem heldByteS_any (B : Nat) (a : Option Addr) (c n : Nat) (w : World) (hl : n ≤ 1099511627776) (h : MarkdB w B a n) :
    Calls Tryz.prog 20 #[.slice a n c, .int .i64 1] w fun e w' => e = .returned (.int .i64 (1 + (n : Int))) ∧ Below w.heap.size w w' := by
  have H := hide h
  clear h
  go_enter Tryz.func20, Tryz.ntmps20
  go_wp2
  go_loop [1, 5] (fun q i => ∃ k : Nat, i = .int .i64 k ∧ q = .int .i64 (1 + (k : Int)) ∧ k ≤ n) (fun _ i => n - (intOf i).toNat)
  case atStart => exact ⟨0, rfl, rfl, by omega⟩
  case round =>
    obtain ⟨k, rfl, rfl, hk⟩ := hrel
    by_cases hp : k < n
    · have i1 : (k : Int) < n := by omega
      obtain ⟨g, rfl, -, -, hc⟩ := H.out k hp
      go_wp2
      go_round
      case rel => exact ⟨k + 1, by go_num, by go_num, by omega⟩
      case measure => simp [intOf]; omega
    · have i1 : ¬ (k : Int) < n := by omega
      obtain rfl : k = n := by omega
      go_wp2
      go_ret
      exact ⟨rfl, Below.refl _ _⟩
end Go.Proofs.YtoodadepafghhaaGreatDoor

/- A row of bytes that the call has made, as a text. -/
namespace Go.Proofs.YtoodadepafghhaaGreatDoor
open Go.RowKit

theorem foldl_push (ns : List Int) : ∀ r : ByteArray, ns.foldl (fun r n => r.push (UInt8.ofNat n.toNat)) r = ⟨r.data ++ (ns.map fun n => UInt8.ofNat n.toNat).toArray⟩ := by
  induction ns with
  | nil => intro r; simp
  | cons n ns ih =>
    intro r
    simp only [List.foldl_cons, ih, List.map_cons]
    simp [ByteArray.push]

/-- The bytes of a row, wherever it lies, as a text. -/
theorem run_convert_cells {P : Program} (src dst e : TypeId) (hs : P.underlying src = some (.slice e)) (he : P.underlying e = some (.int .u8)) (hd : P.underlying dst = some .string) (b off : Nat) (ns : List Int) (cap : Nat) (w : World)
    (hc : ∀ j (h : j < ns.length), w.cell? ⟨b, off + j, none⟩ = some (.int .u8 ns[j])) :
    (convert src dst (.slice (some ⟨b, off, none⟩) ns.length cap)).run P w = .ok (.string ⟨(ns.map fun n => UInt8.ofNat n.toNat).toArray⟩) w := by
  rw [run_convert_bytes_string _ src dst e _ _ _ hs he hd]
  have h := run_loadCells_list (P := P) (w := w) ⟨b, off, none⟩ (ns.map (Value.int .u8)) (fun j v hj => by
    have hl : j < ns.length := by
      have := (List.getElem?_eq_some_iff.1 hj).1
      simpa using this
    have e1 : (Addr.add ⟨b, off, none⟩ j) = (⟨b, off + j, none⟩ : Addr) := by simp [Addr.add]
    rw [e1, hc j hl]
    simpa [List.getElem?_eq_getElem hl] using hj)
  rw [List.length_map] at h
  rw [run_bytesToString _ _ _ _ ns h, foldl_push]
  simp

/-- The bytes of a new row, as a text. -/
theorem run_convert_new {P : Program} (src dst e : TypeId) (hs : P.underlying src = some (.slice e)) (he : P.underlying e = some (.int .u8)) (hd : P.underlying dst = some .string) (ns : List Int) (cap : Nat) (w : World) (t : TypeId) :
    (convert src dst (.slice (some ⟨w.heap.size, 0, none⟩) ns.length cap)).run P (w.alloc (.cells (ns.map (Value.int .u8)).toArray t)) = .ok (.string ⟨(ns.map fun n => UInt8.ofNat n.toNat).toArray⟩) (w.alloc (.cells (ns.map (Value.int .u8)).toArray t)) := by
  rw [run_convert_bytes_string _ src dst e _ _ _ hs he hd]
  have h := run_loadCells_list (P := P) (w := w.alloc (.cells (ns.map (Value.int .u8)).toArray t)) ⟨w.heap.size, 0, none⟩ (ns.map (Value.int .u8)) (fun j v hj => by
    have : (Addr.add ⟨w.heap.size, 0, none⟩ j) = (⟨w.heap.size, j, none⟩ : Addr) := by simp [Addr.add]; omega
    rw [this, World.cell?_alloc_new]
    simpa using hj)
  rw [List.length_map] at h
  rw [run_bytesToString _ _ _ _ ns h, foldl_push]
  simp

theorem conv1 (a : Int) (w : World) : (convert 22 9 (.slice (some ⟨w.heap.size, 0, none⟩) 1 1)).run Tryz.prog (w.alloc (.cells #[.int .u8 a] 5)) = .ok (.string ⟨#[UInt8.ofNat a.toNat]⟩) (w.alloc (.cells #[.int .u8 a] 5)) :=
  run_convert_new 22 9 5 Tryz.underlying22 Tryz.underlying5 Tryz.underlying9 [a] 1 w 5
theorem conv2 (a b : Int) (w : World) : (convert 22 9 (.slice (some ⟨w.heap.size, 0, none⟩) 2 2)).run Tryz.prog (w.alloc (.cells #[.int .u8 a, .int .u8 b] 5)) = .ok (.string ⟨#[UInt8.ofNat a.toNat, UInt8.ofNat b.toNat]⟩) (w.alloc (.cells #[.int .u8 a, .int .u8 b] 5)) :=
  run_convert_new 22 9 5 Tryz.underlying22 Tryz.underlying5 Tryz.underlying9 [a, b] 2 w 5
theorem conv3 (a b c : Int) (w : World) : (convert 22 9 (.slice (some ⟨w.heap.size, 0, none⟩) 3 3)).run Tryz.prog (w.alloc (.cells #[.int .u8 a, .int .u8 b, .int .u8 c] 5)) = .ok (.string ⟨#[UInt8.ofNat a.toNat, UInt8.ofNat b.toNat, UInt8.ofNat c.toNat]⟩) (w.alloc (.cells #[.int .u8 a, .int .u8 b, .int .u8 c] 5)) :=
  run_convert_new 22 9 5 Tryz.underlying22 Tryz.underlying5 Tryz.underlying9 [a, b, c] 3 w 5
theorem conv4 (a b c d : Int) (w : World) : (convert 22 9 (.slice (some ⟨w.heap.size, 0, none⟩) 4 4)).run Tryz.prog (w.alloc (.cells #[.int .u8 a, .int .u8 b, .int .u8 c, .int .u8 d] 5)) = .ok (.string ⟨#[UInt8.ofNat a.toNat, UInt8.ofNat b.toNat, UInt8.ofNat c.toNat, UInt8.ofNat d.toNat]⟩) (w.alloc (.cells #[.int .u8 a, .int .u8 b, .int .u8 c, .int .u8 d] 5)) :=
  run_convert_new 22 9 5 Tryz.underlying22 Tryz.underlying5 Tryz.underlying9 [a, b, c, d] 4 w 5

theorem ret_string {a b : ByteArray} (h : a = b) : Ending.returned (.string a) = .returned (.string b) := by rw [h]
end Go.Proofs.YtoodadepafghhaaGreatDoor

/- The text that a law writes into an answer to see who else holds it: a function of its number alone. -/
namespace Go.Proofs.YtoodadepafghhaaGreatDoor
open Go.RowKit

def mtAux : Nat → Int → ByteArray → ByteArray
  | 0, _, out => out
  | f + 1, k, out => if 0 < k then mtAux f (k / 10) (⟨#[UInt8.ofNat (48 + k % 10).toNat]⟩ ++ out) else out
/-- The text of mark k. -/
def mt (k : Int) : ByteArray := if k ≤ 0 then ⟨#[109, 48]⟩ else ⟨#[109]⟩ ++ mtAux (k.toNat + 1) k ⟨#[]⟩
theorem mtAux_enough : ∀ (f g : Nat) (k : Int) (out : ByteArray), 0 ≤ k → k < f → k < g → mtAux f k out = mtAux g k out
  | 0, _, k, _, h0, h, _ => by omega
  | _ + 1, 0, k, _, h0, _, h => by omega
  | f + 1, g + 1, k, out, h0, hf, hg => by
    simp only [mtAux]
    by_cases c : 0 < k
    · rw [if_pos c, if_pos c]
      exact mtAux_enough f g (k / 10) _ (by omega) (by omega) (by omega)
    · rw [if_neg c, if_neg c]
theorem mtAux_step {k : Int} (out : ByteArray) (h : 0 < k) : mtAux (k.toNat + 1) k out = mtAux ((k / 10).toNat + 1) (k / 10) (⟨#[UInt8.ofNat (48 + k % 10).toNat]⟩ ++ out) := by
  simp only [mtAux]
  rw [if_pos h]
  exact mtAux_enough k.toNat ((k / 10).toNat + 1) (k / 10) _ (by omega) (by omega) (by omega)
theorem mtAux_stop {k : Int} (out : ByteArray) (h : k ≤ 0) : mtAux (k.toNat + 1) k out = out := by
  simp only [mtAux]
  rw [if_neg (by omega)]

theorem one_size (a : UInt8) (o : ByteArray) : ((⟨#[a]⟩ : ByteArray) ++ o).size = 1 + o.size := by rw [ByteArray.size_append]; rfl
set_option maxHeartbeats 1600000 in
theorem markText_any (k : Int) (w : World) (h1 : k ≤ 4000000000000000000) : Calls Tryz.prog 113 #[.int .i64 k] w fun e w' => e = .returned (.string (mt k)) ∧ Below w.heap.size w w' := by
  by_cases h : k ≤ 0
  · have e : mt k = ⟨#[109, 48]⟩ := by unfold mt; rw [if_pos h]
    rw [e]
    clear e
    go_enter Tryz.func113, Tryz.ntmps113
    go_wp2
    go_ret
    exact ⟨rfl, Below.refl _ _⟩
  · have e : mt k = ⟨#[109]⟩ ++ mtAux (k.toNat + 1) k ⟨#[]⟩ := by unfold mt; rw [if_neg h]
    rw [e]
    clear e
    have k1 := conv1
    go_enter Tryz.func113, Tryz.ntmps113
    go_wp2
    go_loopw [0, 3] (fun n out wr => ∃ (j : Int) (o : ByteArray), n = .int .i64 j ∧ out = .string o ∧ 0 ≤ j ∧ (o.size : Int) + j ≤ 4000000000000000000 ∧ Hid (mtAux (j.toNat + 1) j o = mtAux (k.toNat + 1) k ⟨#[]⟩) ∧ Below w.heap.size w wr) (fun n _ _ => (intOf n).toNat)
    case atStart => exact ⟨k, _, rfl, rfl, by omega, by show (0 : Int) + k ≤ _; omega, rfl, Below.refl _ _⟩
    case round =>
      obtain ⟨j, o, rfl, rfl, j0, j1, Hj, hbw⟩ := hrel
      by_cases hp : 0 < j
      · have hz : ¬ 9223372036854775807 < 1 + o.size := by omega
        go_wp2
        go_roundw
        case rel => exact ⟨_, _, rfl, rfl, by omega, by rw [one_size]; omega, by rw [← mtAux_step o hp]; exact Hj, hbw.alloc hbw.size _⟩
        case measure => simp [intOf]; omega
      · have hz : ¬ 9223372036854775807 < 1 + o.size := by omega
        go_wp2
        go_ret
        exact ⟨ret_string (by rw [← Hj.out, mtAux_stop o (by omega)]), hbw⟩
end Go.Proofs.YtoodadepafghhaaGreatDoor

namespace Go.Proofs.YtoodadepafghhaaGreatDoor
open Go.RowKit

/-- From 'lo' on, below 'hi', cells may have turned; of what was there nothing has gone or been frozen, and all else is as it was. -/
structure Out (lo hi : Nat) (w w' : World) : Prop where
  os : w'.os = w.os
  tape : w'.tape = w.tape
  output : w'.output = w.output
  size : w.heap.size ≤ w'.heap.size
  block : ∀ k, k < w.heap.size → (k < lo ∨ hi ≤ k) → w'.heap[k]? = w.heap[k]?
  alive : ∀ b o y, w.cell? ⟨b, o, none⟩ = some y → ∃ z, w'.cell? ⟨b, o, none⟩ = some z
  free : ∀ b o, b < w.heap.size → w'.frozen? ⟨b, o, none⟩ = w.frozen? ⟨b, o, none⟩
theorem Out.refl (lo hi : Nat) (w : World) : Out lo hi w w := ⟨rfl, rfl, rfl, Nat.le_refl _, fun _ _ _ => rfl, fun _ _ y h => ⟨y, h⟩, fun _ _ _ => rfl⟩
theorem Out.trans {lo hi : Nat} {a b c : World} (h : Out lo hi a b) (k : Out lo hi b c) : Out lo hi a c :=
  ⟨k.os.trans h.os, k.tape.trans h.tape, k.output.trans h.output, Nat.le_trans h.size k.size, fun i hi hh => (k.block i (Nat.lt_of_lt_of_le hi h.size) hh).trans (h.block i hi hh),
   fun b o y hy => by obtain ⟨z, hz⟩ := h.alive b o y hy; exact k.alive b o z hz, fun b o hb => (k.free b o (Nat.lt_of_lt_of_le hb h.size)).trans (h.free b o hb)⟩
theorem Out.of_below {lo hi : Nat} {w w' : World} (h : Below w.heap.size w w') : Out lo hi w w' :=
  ⟨h.os, h.tape, h.output, h.size, fun k hk _ => h.block k hk, fun b o y hy => ⟨y, (h.cell (p := ⟨b, o, none⟩) (block_lt hy)).trans hy⟩, fun b o hb => h.frozen (p := ⟨b, o, none⟩) hb⟩
theorem Out.set {lo hi : Nat} {a w : World} (h : Out lo hi a w) {b o : Nat} (h1 : lo ≤ b) (h2 : b < hi) (v : Value) : Out lo hi a (w.setCell ⟨b, o, none⟩ v) :=
  h.trans ⟨rfl, rfl, rfl, by simp [World.setCell], fun k _ hk => Below.heap_setCell _ _ _ _ (by show k ≠ b; omega), fun b' o' y hy => cell?_setCell_some hy, fun b' o' _ => World.frozen?_setCell ..⟩
theorem Out.wid {lo hi lo' hi' : Nat} {w w' : World} (h : Out lo hi w w') (h1 : lo' ≤ lo) (h2 : hi ≤ hi') : Out lo' hi' w w' :=
  ⟨h.os, h.tape, h.output, h.size, fun k hk hh => h.block k hk (by omega), h.alive, h.free⟩
theorem Out.below {lo hi : Nat} {w w' : World} (h : Out lo hi w w') (hl : lo ≤ w.heap.size) : Below lo w w' := ⟨h.os, h.tape, h.output, h.size, fun k hk => h.block k (by omega) (.inl hk)⟩
/-- Cells that are there and may be written. -/
def Room (w : World) (m : Md) (sz : Nat) (a : Option Addr) (n : Nat) : Prop := ∀ i, i < n → ∃ b o, a = some ⟨b, o, none⟩ ∧ m.lo ≤ b ∧ b < m.hi ∧ b < w.heap.size ∧ ∀ j, j < sz → (∃ y, w.cell? ⟨b, o + i * sz + j, none⟩ = some y) ∧ w.frozen? ⟨b, o + i * sz + j, none⟩ = false
theorem Room.on {w w' : World} {m : Md} {sz : Nat} {a : Option Addr} {n : Nat} (h : Room w m sz a n) {lo hi : Nat} (k : Out lo hi w w') : Room w' m sz a n := by
  intro i hi
  obtain ⟨b, o, e, h1, h2, h3, h4⟩ := h i hi
  refine ⟨b, o, e, h1, h2, Nat.lt_of_lt_of_le h3 k.size, fun j hj => ?_⟩
  obtain ⟨⟨y, hy⟩, hf⟩ := h4 j hj
  exact ⟨k.alive _ _ _ hy, (k.free _ _ h3).trans hf⟩
/-- A list that a law has copied may be marked, element by element. -/
theorem room_of {D : Type} {E : Elem D} {sz : Nat} (hE : ∀ cf w m x, E cf w m x → ∀ j, j < sz → ∃ y, cf j = some y) {w : World} {m : Md} {l : List D} {a : Option Addr} {c : Nat} (hm : m.made = true) (hw : m.hi ≤ w.heap.size) (h : SlAt E sz w m (.slice a l.length c) l) : Room w m sz a l.length := by
  intro i hi
  obtain ⟨a', c', e, hr⟩ := h
  cases e
  obtain ⟨b, o, rfl, h1, h2, h3, he⟩ := hr i hi
  exact ⟨b, o, rfl, h1.1, h2, by omega, fun j hj => ⟨hE _ _ _ _ he j hj, h3 hm _⟩⟩
end Go.Proofs.YtoodadepafghhaaGreatDoor
