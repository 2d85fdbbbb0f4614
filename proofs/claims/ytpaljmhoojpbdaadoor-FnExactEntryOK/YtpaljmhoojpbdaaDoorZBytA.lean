/- The program's ways to lay texts and numbers into bytes. No condition. -/
import Derived.Test.YtpaljmhoojpbdaaDoorZRd
import Derived.Lib.AppendStr
import Derived.OwnWalk
import Derived.ArgAppend
import Derived.Lib.SlBytesConst
/- A row of bytes that the call has made, said of a list of numbers; appending to it. Of whatever interface. No condition. -/
namespace Go.Proofs.YtpaljmhoojpbdaaDoor
open Go.RowKit

/-- Bytes as cells. -/
def bc (l : List Int) : List Value := l.map fun n => Value.int .u8 n
theorem bc_len (l : List Int) : (bc l).length = l.length := by unfold bc; simp
theorem bc_app (l r : List Int) : bc (l ++ r) = bc l ++ bc r := by unfold bc; simp
theorem bc_one (l : List Int) : ∀ u ∈ bc l, u.oneCell' = true := by
  intro u hu
  unfold bc at hu
  obtain ⟨n, _, rfl⟩ := List.mem_map.1 hu
  rfl
/-- The value is a slice of the bytes l, in a row of the call's own from 'base' on. -/
def Own (w : World) (base : Nat) (v : Value) (l : List Int) : Prop := w.ownsRow base 5 1 v l.length (bc l)
theorem Own.on {w w' : World} {B : Nat} {v : Value} {l : List Int} (h : Own w B v l) (bel : Below w.heap.size w w') : Own w' B v l := by
  obtain ⟨h1, h2⟩ := h
  refine ⟨h1, ?_⟩
  rcases h2 with h2 | ⟨g, cap, cur, hv, hb, hg, r⟩
  · exact .inl h2
  · exact .inr ⟨g, cap, cur, hv, hb, (bel.block g (Array.getElem?_eq_some_iff.1 hg).1).trans hg, r⟩
theorem Own.alloc {w : World} {B : Nat} {v : Value} {l : List Int} (h : Own w B v l) (o : Obj) : Own (w.alloc o) B v l := h.on ((Below.refl _ _).alloc (Nat.le_refl _) _)
theorem Own.low {w : World} {B B' : Nat} {v : Value} {l : List Int} (h : Own w B v l) (hb : B' ≤ B) : Own w B' v l := by
  obtain ⟨h1, h2⟩ := h
  refine ⟨h1, ?_⟩
  rcases h2 with h2 | ⟨g, cap, cur, hv, hb', r⟩
  · exact .inl h2
  · exact .inr ⟨g, cap, cur, hv, Nat.le_trans hb hb', r⟩
theorem Own.block_ge {w : World} {B : Nat} {v : Value} {l : List Int} (h : Own w B v l) : ∀ k, v.ownBlock = some k → B ≤ k := by
  intro k hk
  rcases h.2 with ⟨rfl, _⟩ | ⟨g, cap, cur, rfl, hb, _⟩
  · cases hk
  · cases hk
    exact hb
theorem Own.nil (w : World) (B : Nat) : Own w B (.slice none 0 0) [] := ⟨rfl, .inl ⟨rfl, rfl⟩⟩
/-- A row that has just been laid. -/
theorem Own.made (w : World) (B : Nat) (l : List Int) (hB : B ≤ w.heap.size) (hl : l.length ≤ maxLen) : Own (w.alloc (.cells (bc l).toArray 5)) B (.slice (some ⟨w.heap.size, 0, none⟩) l.length l.length) l :=
  ⟨by rw [bc_len, Nat.mul_one], .inr ⟨w.heap.size, l.length, _, rfl, hB, Deep.blk_alloc_new _ _, Nat.le_refl _, hl, by simp [bc_len], by simp [bc_len, List.take_of_length_le]⟩⟩
theorem Own.cells {w : World} {B : Nat} {g n c : Nat} {l : List Int} (h : Own w B (.slice (some ⟨g, 0, none⟩) n c) l) : ∀ j u, (bc l)[j]? = some u → w.cell? ((⟨g, 0, none⟩ : Addr).add j) = some u := World.ownsRow.cells (g := g) h rfl
/-- Below 'B' the world is as it was; of what lies above, rows of bytes alone may have turned. -/
structure Kp (B : Nat) (w w' : World) : Prop where
  bel : Below B w w'
  keep : ∀ k, k < w.heap.size → (∀ C, w.heap[k]? ≠ some (.cells C 5 (0, 0))) → w'.heap[k]? = w.heap[k]?
theorem Kp.refl (B : Nat) (w : World) : Kp B w w := ⟨Below.refl _ _, fun _ _ _ => rfl⟩
theorem Kp.trans {B : Nat} {a b c : World} (h : Kp B a b) (k : Kp B b c) : Kp B a c :=
  ⟨h.bel.trans k.bel, fun i hi hn => (k.keep i (Nat.lt_of_lt_of_le hi h.bel.size) (by rw [h.keep i hi hn]; exact hn)).trans (h.keep i hi hn)⟩
theorem Kp.of_below {B : Nat} {w w' : World} (h : Below w.heap.size w w') (hB : B ≤ w.heap.size) : Kp B w w' := ⟨h.mono hB, fun k hk _ => h.block k hk⟩
theorem Kp.alloc {B : Nat} {a w : World} (h : Kp B a w) (hB : B ≤ w.heap.size) (o : Obj) : Kp B a (w.alloc o) := h.trans (.of_below ((Below.refl _ _).alloc (Nat.le_refl _) _) hB)
theorem Kp.size {B : Nat} {w w' : World} (h : Kp B w w') : w.heap.size ≤ w'.heap.size := h.bel.size
theorem Kp.row {B : Nat} {w w' : World} (h : Kp B w w') {g : Nat} {C : Array Value} {T : TypeId} (hg : w.heap[g]? = some (.cells C T (0, 0))) (hT : T ≠ 5) : w'.heap[g]? = some (.cells C T (0, 0)) := by
  rw [h.keep g (Array.getElem?_eq_some_iff.1 hg).1 (fun C' e => by rw [hg] at e; cases e; exact hT rfl)]
  exact hg
theorem Kp.of_grown {B : Nat} {w w' : World} {v : Value} {l : List Int} (h : w.grownBy w' v.ownBlock) (ho : Own w B v l) (hB : B ≤ w.heap.size) : Kp B w w' := by
  refine ⟨(Below.refl _ _).grown h hB ho.block_ge, fun k hk hn => h.block k hk fun e => ?_⟩
  rcases ho.2 with ⟨rfl, _⟩ | ⟨g, cap, cur, rfl, hb, hg, _⟩
  · cases e
  · cases e
    exact hn _ hg
theorem u8Info : (Tryd.prog.info? 5).map (fun i => (i.zero, i.size, i.bytes)) = some (some (.int .u8 0), 1, 1) := by kernel_rfl
/-- 'append(b, x, ..)', 'append(b, r...)': the bytes of a slice that is read. -/
theorem wp_append_bytes {w : World} {ops : Array Oper} {rest : List Oper} {o : Oper} {a : Act} {Q : Exit → Act → World → Prop} (hgd : o.guard = none) (s x : Operand)
    (ho : o.op = .call { callee := .builtin .append, args := #[s, x], argTypes := #[88, 88] }) (base : Nat) (v : Value) (l : List Int) (hs : a.eval s = v) (hown : Own w base v l)
    (ad : Addr) (m c : Nat) (new : List Int) (hx : a.eval x = .slice (some ad) m c) (hl : new.length = m) (hnews : ∀ j u, (bc new)[j]? = some u → w.cell? (ad.add j) = some u) (hb : l.length + m ≤ 140737488355328) (hbase : base ≤ w.heap.size)
    (h : ∀ v' w', Own w' base v' (l ++ new) → Kp base w w' → wpList Tryd.prog ops Q rest (a.put o.dst v') w') : wpList Tryd.prog ops Q (o :: rest) a w := by
  obtain ⟨i, hi, hz0, hz1, hz2⟩ := info_parts u8Info
  refine wpList_append_own w hgd s x _ ho base 5 i (.int .u8 0) 1 1 Tryd.underlying88 hi hz0 hz1 hz2 rfl (by decide) v l.length (bc l) hs hown ad m c (bc new) hx (by rw [bc_len, hl, Nat.mul_one]) hnews (bc_one _) (by unfold maxLen; omega) (by omega) hbase fun v' w' h2 h3 _ => ?_
  refine h v' w' ?_ (Kp.of_grown h3 hown hbase)
  have e : (l ++ new).length = l.length + m := by rw [List.length_append, hl]
  unfold Own
  rw [e, bc_app]
  exact h2
def sb (s : ByteArray) : List Int := s.data.toList.map fun b => (b.toNat : Int)
theorem sb_len (s : ByteArray) : (sb s).length = s.size := by unfold sb; rw [List.length_map, Array.length_toList]; rfl
theorem bc_sb (s : ByteArray) : bc (sb s) = Lib.strCells s := by unfold bc sb Lib.strCells; simp
/-- 'append(b, t...)': a text's bytes. -/
theorem wp_append_text {w : World} {ops : Array Oper} {rest : List Oper} {o : Oper} {a : Act} {Q : Exit → Act → World → Prop} (hgd : o.guard = none) (sl x : Operand)
    (ho : o.op = .call { callee := .builtin .append, args := #[sl, x], argTypes := #[88, 9] }) (base : Nat) (v : Value) (l : List Int) (hs : a.eval sl = v) (hown : Own w base v l)
    (s : ByteArray) (hx : a.eval x = .string s) (hb : l.length + s.size ≤ 140737488355328) (hbase : base ≤ w.heap.size)
    (h : ∀ v' w', Own w' base v' (l ++ sb s) → Kp base w w' → wpList Tryd.prog ops Q rest (a.put o.dst v') w') : wpList Tryd.prog ops Q (o :: rest) a w := by
  obtain ⟨i, hi, hz0, hz1, hz2⟩ := info_parts u8Info
  refine Lib.wpList_append_own_string w hgd sl x _ _ ho base 5 i Tryd.underlying88 Tryd.underlying9 hi hz0 hz1 hz2 v l.length (bc l) hs hown s hx (by unfold maxLen; omega) hb hbase fun v' w' h2 h3 _ => ?_
  refine h v' w' ?_ (Kp.of_grown h3 hown hbase)
  have e : (l ++ sb s).length = l.length + s.size := by rw [List.length_append, sb_len]
  unfold Own
  rw [e, bc_app, bc_sb]
  exact h2
/-- A literal's row: read, and full. -/
def Full (w : World) (v : Value) (l : List Int) : Prop := ∃ g, v = .slice (some ⟨g, 0, none⟩) l.length l.length ∧ ∀ j u, (bc l)[j]? = some u → w.cell? ((⟨g, 0, none⟩ : Addr).add j) = some u
theorem Full.alloc {w : World} {v : Value} {l : List Int} (h : Full w v l) (o : Obj) : Full (w.alloc o) v l := by
  obtain ⟨g, e, hc⟩ := h
  exact ⟨g, e, fun j u hu => Lib.cell?_alloc_marked o (hc j u hu)⟩
theorem wp_append_full {w : World} {ops : Array Oper} {rest : List Oper} {o : Oper} {a : Act} {Q : Exit → Act → World → Prop} (hgd : o.guard = none) (s x : Operand)
    (ho : o.op = .call { callee := .builtin .append, args := #[s, x], argTypes := #[88, 88] }) (base : Nat) (v : Value) (l : List Int) (hs : a.eval s = v) (hown : Full w v l)
    (ad : Addr) (m c : Nat) (new : List Int) (hx : a.eval x = .slice (some ad) m c) (hl : new.length = m) (hnews : ∀ j u, (bc new)[j]? = some u → w.cell? (ad.add j) = some u) (hm : 0 < m) (hb : l.length + m ≤ 140737488355328) (hbase : base ≤ w.heap.size)
    (h : ∀ v' w', Own w' base v' (l ++ new) → Kp base w w' → wpList Tryd.prog ops Q rest (a.put o.dst v') w') : wpList Tryd.prog ops Q (o :: rest) a w := by
  obtain ⟨i, hi, hz0, hz1, hz2⟩ := info_parts u8Info
  obtain ⟨g, rfl, hc⟩ := hown
  refine wpList_append_grows w hgd s x _ ho 5 i (.int .u8 0) 1 1 Tryd.underlying88 hi hz0 hz1 hz2 rfl (by decide) (some ⟨g, 0, none⟩) l.length l.length (bc l) hs (fun h => by cases h) (by rw [bc_len, Nat.mul_one]) (fun b hb => by cases hb; exact hc)
    ad m c (bc new) hx (by rw [bc_len, hl, Nat.mul_one]) hnews (bc_one _) (by omega) (by unfold maxLen; omega) (by omega) fun v' w' h2 h3 => ?_
  refine h v' w' ?_ (Kp.of_below ((Below.refl _ _).grown h3 (Nat.le_refl _) (fun k hk => by cases hk)) hbase)
  have e : (l ++ new).length = l.length + m := by rw [List.length_append, hl]
  have h4 : Own w' w.heap.size v' (l ++ new) := by
    unfold Own
    rw [e, bc_app]
    exact h2
  exact h4.low hbase
theorem one_new (w : World) (x : Int) (T : TypeId) : ∀ j u, (bc [x])[j]? = some u → (w.alloc (.cells #[.int .u8 x] T)).cell? ((⟨w.heap.size, 0, none⟩ : Addr).add j) = some u := by
  intro j u hu
  match j, hu with
  | 0, hu =>
    simp [bc] at hu
    subst hu
    simp [Addr.add, go_sem]
  | j + 1, hu => simp [bc] at hu
theorem three_new (w : World) (x y z : Int) (T : TypeId) : ∀ j u, (bc [x, y, z])[j]? = some u → (w.alloc (.cells #[.int .u8 x, .int .u8 y, .int .u8 z] T)).cell? ((⟨w.heap.size, 0, none⟩ : Addr).add j) = some u := by
  intro j u hu
  match j, hu with
  | 0, hu => simp [bc] at hu; subst hu; simp [Addr.add, go_sem]
  | 1, hu => simp [bc] at hu; subst hu; simp [Addr.add, go_sem]
  | 2, hu => simp [bc] at hu; subst hu; simp [Addr.add, go_sem]
  | j + 3, hu => simp [bc] at hu
theorem one_at {w : World} {b : Nat} (hb : b = w.heap.size) (x : Int) (T : TypeId) : ∀ j u, (bc [x])[j]? = some u → (w.alloc (.cells #[.int .u8 x] T)).cell? ((⟨b, 0, none⟩ : Addr).add j) = some u := by
  subst hb
  exact one_new w x T
theorem three_at {w : World} {b : Nat} (hb : b = w.heap.size) (x y z : Int) (T : TypeId) : ∀ j u, (bc [x, y, z])[j]? = some u → (w.alloc (.cells #[.int .u8 x, .int .u8 y, .int .u8 z] T)).cell? ((⟨b, 0, none⟩ : Addr).add j) = some u := by
  subst hb
  exact three_new w x y z T
theorem oi_full (w : World) (fr : Nat × Nat) : Full (w.alloc (.cells #[.int .u8 79, .int .u8 73, .int .u8 49] 5 fr)) (.slice (some ⟨w.heap.size, 0, none⟩) 3 3) [79, 73, 49] := by
  refine ⟨_, rfl, fun j u hu => ?_⟩
  match j, hu with
  | 0, hu => simp [bc] at hu; subst hu; simp [Addr.add, World.cell?_alloc_mark]
  | 1, hu => simp [bc] at hu; subst hu; simp [Addr.add, World.cell?_alloc_mark]
  | 2, hu => simp [bc] at hu; subst hu; simp [Addr.add, World.cell?_alloc_mark]
  | j + 3, hu => simp [bc] at hu
theorem oi_conv (w : World) : (convert 88 88 (.slice (some ⟨w.heap.size, 0, none⟩) 3 3)).run Tryd.prog (w.alloc (.cells #[.int .u8 79, .int .u8 73, .int .u8 49] 5)) = .ok (.slice (some ⟨w.heap.size, 0, none⟩) 3 3) (w.alloc (.cells #[.int .u8 79, .int .u8 73, .int .u8 49] 5 (3, 4))) :=
  Lib.run_convert_bytes_const w _ _ _ 3 3 Tryd.underlying88 Tryd.underlying5
end Go.Proofs.YtpaljmhoojpbdaaDoor

namespace Go.Proofs.YtpaljmhoojpbdaaDoor
open Go.RowKit

def txtB (s : ByteArray) : List Int := ((s.size : Int) % 256) :: sb s
set_option maxHeartbeats 1000000 in
theorem appendText_any (B : Nat) (v : Value) (l : List Int) (s : ByteArray) (w : World) (h : Own w B v l) (hB : B ≤ w.heap.size) (hl : l.length ≤ 1099511627776) (hs : s.size ≤ 1099511627776) :
    Calls Tryd.prog 118 #[v, .string s] w fun e w' => (∃ u, e = .returned u ∧ Own w' B u (l ++ txtB s)) ∧ Kp B w w' := by
  have H := hide h
  clear h
  go_enter Tryd.func118, Tryd.ntmps118
  go_wp2_with (first
    | (at_builtin; refine wp_append_bytes rfl _ _ rfl B v l rfl (H.out.alloc _) ⟨w.heap.size, 0, none⟩ 1 1 [(s.size : Int) % 256] rfl rfl (one_new _ _ _) (by omega) (by simp; omega) ?_; intro v1 w1 h1 b1)
    | (at_builtin; refine wp_append_text rfl _ _ rfl B v1 _ rfl h1 s rfl (by simp; omega) (by have := b1.size; simp at this; omega) ?_; intro v2 w2 h2 b2))
  go_ret
  refine ⟨⟨_, rfl, ?_⟩, ((Kp.refl _ _).alloc hB _).trans (b1.trans b2)⟩
  unfold txtB
  rw [List.append_assoc] at h2
  exact h2
set_option maxHeartbeats 1000000 in
theorem appendText_full (B : Nat) (v : Value) (l : List Int) (s : ByteArray) (w : World) (h : Full w v l) (hB : B ≤ w.heap.size) (hl : l.length ≤ 1099511627776) (hs : s.size ≤ 1099511627776) :
    Calls Tryd.prog 118 #[v, .string s] w fun e w' => (∃ u, e = .returned u ∧ Own w' B u (l ++ txtB s)) ∧ Kp B w w' := by
  have H := hide h
  clear h
  go_enter Tryd.func118, Tryd.ntmps118
  go_wp2_with (first
    | (at_builtin; refine wp_append_full rfl _ _ rfl B v l rfl (H.out.alloc _) ⟨w.heap.size, 0, none⟩ 1 1 [(s.size : Int) % 256] rfl rfl (one_new _ _ _) (by decide) (by omega) (by simp; omega) ?_; intro v1 w1 h1 b1)
    | (at_builtin; refine wp_append_text rfl _ _ rfl B v1 _ rfl h1 s rfl (by simp; omega) (by have := b1.size; simp at this; omega) ?_; intro v2 w2 h2 b2))
  go_ret
  refine ⟨⟨_, rfl, ?_⟩, ((Kp.refl _ _).alloc hB _).trans (b1.trans b2)⟩
  unfold txtB
  rw [List.append_assoc] at h2
  exact h2
def numB (n : Int) : List Int := [n / 72057594037927936 % 256, n / 281474976710656 % 256, n / 1099511627776 % 256, n / 4294967296 % 256, n / 16777216 % 256, n / 65536 % 256, n / 256 % 256, n % 256]
theorem numB_len (n : Int) : (numB n).length = 8 := rfl
theorem own_step {w : World} {B : Nat} {v : Value} {l r : List Int} {k : Nat} {x : Int} (h : Own w B v (l ++ r.take k ++ [x])) (hk : k < r.length) (e : r[k] = x) : Own w B v (l ++ r.take (k + 1)) := by
  rw [List.take_succ_eq_append_getElem hk, e, ← List.append_assoc]
  exact h
set_option maxHeartbeats 4000000 in
theorem appendNumber_any (B : Nat) (v : Value) (l : List Int) (n : Int) (w : World) (h : Own w B v l) (hB : B ≤ w.heap.size) (hl : l.length ≤ 1099511627776) :
    Calls Tryd.prog 103 #[v, .int .i64 n] w fun e w' => (∃ u, e = .returned u ∧ Own w' B u (l ++ numB n)) ∧ Kp B w w' := by
  have H := hide h
  clear h
  go_enter Tryd.func103, Tryd.ntmps103
  go_wp2
  go_loopw [0, 5] (fun b i wr => ∃ k : Nat, k ≤ 8 ∧ i = .int .i64 (56 - 8 * (k : Int)) ∧ Hid (Own wr B b (l ++ (numB n).take k)) ∧ Kp B w wr) (fun _ i _ => (intOf i + 8).toNat)
  case atStart => exact ⟨0, by omega, rfl, by rw [List.take_zero, List.append_nil]; exact H.out, Kp.refl _ _⟩
  case round =>
    obtain ⟨k, hk, rfl, Hk, hbw⟩ := hrel
    have hB' : B ≤ wr.heap.size := Nat.le_trans hB hbw.size
    match k, hk with
    | 0, _ =>
      rw [show (56 : Int) - 8 * ((0 : Nat) : Int) = 56 from rfl]
      go_wp2_with (at_builtin; refine wp_append_bytes rfl _ _ rfl B _ _ rfl (Hk.out.alloc _) ⟨wr.heap.size, 0, none⟩ 1 1 [n / 72057594037927936 % 256] rfl rfl (one_new _ _ _) (by simp [numB]; omega) (by simp; omega) ?_; intro v1 w1 h1 b1)
      have HO := hide (own_step h1 (by rw [numB_len]; omega) rfl)
      have hbw1 := (hbw.alloc hB' _).trans b1
      clear h1 b1
      go_roundw
      case rel => exact ⟨1, by omega, rfl, HO, hbw1⟩
      case measure => simp [intOf]
    | 1, _ =>
      rw [show (56 : Int) - 8 * ((1 : Nat) : Int) = 48 from rfl]
      go_wp2_with (at_builtin; refine wp_append_bytes rfl _ _ rfl B _ _ rfl (Hk.out.alloc _) ⟨wr.heap.size, 0, none⟩ 1 1 [n / 281474976710656 % 256] rfl rfl (one_new _ _ _) (by simp [numB]; omega) (by simp; omega) ?_; intro v1 w1 h1 b1)
      have HO := hide (own_step h1 (by rw [numB_len]; omega) rfl)
      have hbw1 := (hbw.alloc hB' _).trans b1
      clear h1 b1
      go_roundw
      case rel => exact ⟨2, by omega, rfl, HO, hbw1⟩
      case measure => simp [intOf]
    | 2, _ =>
      rw [show (56 : Int) - 8 * ((2 : Nat) : Int) = 40 from rfl]
      go_wp2_with (at_builtin; refine wp_append_bytes rfl _ _ rfl B _ _ rfl (Hk.out.alloc _) ⟨wr.heap.size, 0, none⟩ 1 1 [n / 1099511627776 % 256] rfl rfl (one_new _ _ _) (by simp [numB]; omega) (by simp; omega) ?_; intro v1 w1 h1 b1)
      have HO := hide (own_step h1 (by rw [numB_len]; omega) rfl)
      have hbw1 := (hbw.alloc hB' _).trans b1
      clear h1 b1
      go_roundw
      case rel => exact ⟨3, by omega, rfl, HO, hbw1⟩
      case measure => simp [intOf]
    | 3, _ =>
      rw [show (56 : Int) - 8 * ((3 : Nat) : Int) = 32 from rfl]
      go_wp2_with (at_builtin; refine wp_append_bytes rfl _ _ rfl B _ _ rfl (Hk.out.alloc _) ⟨wr.heap.size, 0, none⟩ 1 1 [n / 4294967296 % 256] rfl rfl (one_new _ _ _) (by simp [numB]; omega) (by simp; omega) ?_; intro v1 w1 h1 b1)
      have HO := hide (own_step h1 (by rw [numB_len]; omega) rfl)
      have hbw1 := (hbw.alloc hB' _).trans b1
      clear h1 b1
      go_roundw
      case rel => exact ⟨4, by omega, rfl, HO, hbw1⟩
      case measure => simp [intOf]
    | 4, _ =>
      rw [show (56 : Int) - 8 * ((4 : Nat) : Int) = 24 from rfl]
      go_wp2_with (at_builtin; refine wp_append_bytes rfl _ _ rfl B _ _ rfl (Hk.out.alloc _) ⟨wr.heap.size, 0, none⟩ 1 1 [n / 16777216 % 256] rfl rfl (one_new _ _ _) (by simp [numB]; omega) (by simp; omega) ?_; intro v1 w1 h1 b1)
      have HO := hide (own_step h1 (by rw [numB_len]; omega) rfl)
      have hbw1 := (hbw.alloc hB' _).trans b1
      clear h1 b1
      go_roundw
      case rel => exact ⟨5, by omega, rfl, HO, hbw1⟩
      case measure => simp [intOf]
    | 5, _ =>
      rw [show (56 : Int) - 8 * ((5 : Nat) : Int) = 16 from rfl]
      go_wp2_with (at_builtin; refine wp_append_bytes rfl _ _ rfl B _ _ rfl (Hk.out.alloc _) ⟨wr.heap.size, 0, none⟩ 1 1 [n / 65536 % 256] rfl rfl (one_new _ _ _) (by simp [numB]; omega) (by simp; omega) ?_; intro v1 w1 h1 b1)
      have HO := hide (own_step h1 (by rw [numB_len]; omega) rfl)
      have hbw1 := (hbw.alloc hB' _).trans b1
      clear h1 b1
      go_roundw
      case rel => exact ⟨6, by omega, rfl, HO, hbw1⟩
      case measure => simp [intOf]
    | 6, _ =>
      rw [show (56 : Int) - 8 * ((6 : Nat) : Int) = 8 from rfl]
      go_wp2_with (at_builtin; refine wp_append_bytes rfl _ _ rfl B _ _ rfl (Hk.out.alloc _) ⟨wr.heap.size, 0, none⟩ 1 1 [n / 256 % 256] rfl rfl (one_new _ _ _) (by simp [numB]; omega) (by simp; omega) ?_; intro v1 w1 h1 b1)
      have HO := hide (own_step h1 (by rw [numB_len]; omega) rfl)
      have hbw1 := (hbw.alloc hB' _).trans b1
      clear h1 b1
      go_roundw
      case rel => exact ⟨7, by omega, rfl, HO, hbw1⟩
      case measure => simp [intOf]
    | 7, _ =>
      rw [show (56 : Int) - 8 * ((7 : Nat) : Int) = 0 from rfl]
      go_wp2_with (at_builtin; refine wp_append_bytes rfl _ _ rfl B _ _ rfl (Hk.out.alloc _) ⟨wr.heap.size, 0, none⟩ 1 1 [n % 256] rfl rfl (one_new _ _ _) (by simp [numB]; omega) (by simp; omega) ?_; intro v1 w1 h1 b1)
      have HO := hide (own_step h1 (by rw [numB_len]; omega) rfl)
      have hbw1 := (hbw.alloc hB' _).trans b1
      clear h1 b1
      go_roundw
      case rel => exact ⟨8, by omega, rfl, HO, hbw1⟩
      case measure => simp [intOf]
    | 8, _ =>
      rw [show (56 : Int) - 8 * ((8 : Nat) : Int) = -8 from rfl]
      go_wp2
      go_ret
      exact ⟨⟨_, rfl, Hk.out⟩, hbw⟩
    | k + 9, hk => exact absurd hk (by omega)
end Go.Proofs.YtpaljmhoojpbdaaDoor
