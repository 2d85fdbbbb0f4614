/- A row of bytes that the call has made, perhaps with a mark behind its end (a text's own bytes): said by its cells; appending to it. No condition. -/
import Derived.Test.YtpaljmhoojpbdaaDoorZSum
import Derived.Lib.ConvBytes
import Derived.ArgAppend
namespace Go.Proofs.YtpaljmhoojpbdaaDoor
open Go.RowKit

/-- Block g, from 'B' on, has 'cap' bytes that may be written, the first of them l. -/
def MRowAt (w : World) (B g cap : Nat) (l : List Int) : Prop := B ≤ g ∧ g < w.heap.size ∧ l.length ≤ cap ∧ cap ≤ maxLen ∧ (∀ j, j < cap → (w.cell? ⟨g, j, none⟩).isSome = true ∧ w.frozen? ⟨g, j, none⟩ = false) ∧ ∀ j u, (bc l)[j]? = some u → w.cell? ⟨g, j, none⟩ = some u
def MOwn (w : World) (B : Nat) (v : Value) (l : List Int) : Prop := ∃ g cap, v = .slice (some ⟨g, 0, none⟩) l.length cap ∧ MRowAt w B g cap l
theorem MOwn.of_block {w w' : World} {B g n cap : Nat} {l : List Int} (h : MOwn w B (.slice (some ⟨g, 0, none⟩) n cap) l) (e : w'.heap[g]? = w.heap[g]?) (hs : w.heap.size ≤ w'.heap.size) : MOwn w' B (.slice (some ⟨g, 0, none⟩) n cap) l := by
  obtain ⟨g', cap', e1, h1, h2, h3, h4, h5, h6⟩ := h
  cases e1
  refine ⟨g, cap, rfl, h1, by omega, h3, h4, fun j hj => ?_, fun j u hu => ?_⟩
  · rw [World.cell?_of_block (w := w) e, World.frozen?_of_block (w := w) e]
    exact h5 j hj
  · rw [World.cell?_of_block (w := w) e]
    exact h6 j u hu
theorem MOwn.on {w w' : World} {B : Nat} {v : Value} {l : List Int} (h : MOwn w B v l) (bel : Below w.heap.size w w') : MOwn w' B v l := by
  obtain ⟨g, cap, rfl, hr⟩ := h
  exact MOwn.of_block ⟨g, cap, rfl, hr⟩ (bel.block g hr.2.1) bel.size
theorem MOwn.alloc {w : World} {B : Nat} {v : Value} {l : List Int} (h : MOwn w B v l) (o : Obj) : MOwn (w.alloc o) B v l := h.on ((Below.refl _ _).alloc (Nat.le_refl _) _)
theorem MOwn.low {w : World} {B C : Nat} {v : Value} {l : List Int} (h : MOwn w B v l) (hc : C ≤ B) : MOwn w C v l := by
  obtain ⟨g, cap, e, h1, r⟩ := h
  exact ⟨g, cap, e, by omega, r⟩
theorem MOwn.ge {w : World} {B : Nat} {v : Value} {l : List Int} (h : MOwn w B v l) : ∀ k, v.ownBlock = some k → B ≤ k := by
  obtain ⟨g, cap, rfl, h1, -⟩ := h
  intro k hk
  cases hk
  exact h1
theorem MOwn.lt {w : World} {B : Nat} {v : Value} {l : List Int} (h : MOwn w B v l) : ∀ k, v.ownBlock = some k → k < w.heap.size := by
  obtain ⟨g, cap, rfl, -, h1, -⟩ := h
  intro k hk
  cases hk
  exact h1
theorem MOwn.of_own {w : World} {B : Nat} {v : Value} {l : List Int} (h : Own w B v l) (hl : 0 < l.length) : MOwn w B v l := by
  obtain ⟨h1, h2⟩ := h
  rcases h2 with ⟨-, e⟩ | ⟨g, cap, cur, rfl, hb, hg, h3, h4, h5, h6⟩
  · omega
  · obtain ⟨s1, s2⟩ := heapCells hg
    refine ⟨g, cap, rfl, hb, (Array.getElem?_eq_some_iff.1 hg).1, h3, h4, fun j hj => ⟨?_, s2 j⟩, fun j u hu => ?_⟩
    · rw [s1, Array.getElem?_eq_getElem (by omega)]; rfl
    · have hj : j < l.length := by
        have := (List.getElem?_eq_some_iff.1 hu).1
        rwa [bc_len] at this
      rw [s1, ← Array.getElem?_toList]
      rw [← h6, List.getElem?_take, if_pos (by omega)] at hu
      exact hu
theorem MOwn.own_cells {w : World} {B : Nat} {g n c : Nat} {l : List Int} (h : MOwn w B (.slice (some ⟨g, 0, none⟩) n c) l) : ∀ j u, (bc l)[j]? = some u → w.cell? ((⟨g, 0, none⟩ : Addr).add j) = some u := by
  obtain ⟨g', cap', e1, h1, h2, h3, h4, h5, h6⟩ := h
  cases e1
  intro j u hu
  rw [Addr.add_lit, Nat.zero_add]
  exact h6 j u hu
theorem MOwn.bytes {w : World} {B g n c : Nat} {l : List Int} (h : MOwn w B (.slice (some ⟨g, 0, none⟩) n c) l) (hb : ∀ y ∈ l, 0 ≤ y ∧ y ≤ 255) : BytesAt w (some ⟨g, 0, none⟩) l := by
  obtain ⟨g', cap', e1, h1, h2, h3, h4, h5, h6⟩ := h
  cases e1
  intro i hi
  have hm := hb l[i] (List.getElem_mem hi)
  exact ⟨g, rfl, h2, h6 i _ (by unfold bc; rw [List.getElem?_map, List.getElem?_eq_getElem hi]; rfl), hm.1, hm.2⟩
/-- A text's bytes, converted. -/
theorem MOwn.conv (w : World) (B : Nat) (s : ByteArray) (hB : B ≤ w.heap.size) (hs : s.size ≤ maxLen) : MOwn (Lib.bytesWorld w 5 s) B (.slice (some ⟨w.heap.size, 0, none⟩) s.size (grownCap w s.size 0 5)) (sb s) := by
  have hge := grownCap_ge w s.size 0 5
  have hcm := grownCap_le_maxLen w s.size 0 5 hs
  have hg := Lib.bytesWorld_at_new w 5 s
  have hsz : (Lib.bytesCells w 5 s).size = grownCap w s.size 0 5 := by
    unfold Lib.bytesCells
    simp only [Array.size_append, Array.size_map, Array.size_replicate]
    have : s.data.size = s.size := rfl
    omega
  refine ⟨w.heap.size, _, by rw [sb_len], hB, by rw [Lib.bytesWorld_size]; omega, by rw [sb_len]; exact hge, hcm, fun j hj => ⟨?_, ?_⟩, fun j u hu => ?_⟩
  · simp only [World.cell?, hg]
    rw [Array.getElem?_eq_getElem (by rw [hsz]; exact hj)]
    rfl
  · simp only [World.frozen?, hg]
    simp
    omega
  · have hj : j < s.size := by
      have := (List.getElem?_eq_some_iff.1 hu).1
      rwa [bc_len, sb_len] at this
    have := Lib.bytesWorld_cell w 5 s j hj
    rw [this]
    rw [bc_sb] at hu
    unfold Lib.strCells at hu
    rw [List.getElem?_map, List.getElem?_eq_getElem (by rw [Array.length_toList]; exact hj)] at hu
    simp only [Option.map_some, Option.some.injEq] at hu
    rw [← hu, List.getD, List.getElem?_eq_getElem (by rw [Array.length_toList]; exact hj)]
    rfl
theorem conv_run (w : World) (s : ByteArray) : (convert 9 88 (.string s)).run Tryd.prog w = .ok (.slice (some ⟨w.heap.size, 0, none⟩) s.size (grownCap w s.size 0 5)) (Lib.bytesWorld w 5 s) :=
  Lib.run_convert_string_bytes w _ _ _ s Tryd.underlying9 Tryd.underlying88 Tryd.underlying5
theorem conv_below (w : World) (s : ByteArray) : Below w.heap.size w (Lib.bytesWorld w 5 s) := ⟨rfl, rfl, rfl, by rw [Lib.bytesWorld_size]; omega, fun k hk => Lib.bytesWorld_at_old w _ s k hk⟩
theorem setCells_other (b : Nat) : ∀ (vs : List Value) (o : Nat) (w : World) (k : Nat), k ≠ b → (w.setCells b o vs).heap[k]? = w.heap[k]?
  | [], _, _, _, _ => rfl
  | v :: r, o, w, k, h => by rw [World.setCells, setCells_other b r _ _ _ h, Below.heap_setCell _ _ _ _ h]
theorem setCells_size (b : Nat) : ∀ (vs : List Value) (o : Nat) (w : World), (w.setCells b o vs).heap.size = w.heap.size
  | [], _, _ => rfl
  | v :: r, o, w => by rw [World.setCells, setCells_size b r]; simp [World.setCell]
theorem setCells_rest (b : Nat) : ∀ (vs : List Value) (o : Nat) (w : World), (w.setCells b o vs).os = w.os ∧ (w.setCells b o vs).tape = w.tape ∧ (w.setCells b o vs).output = w.output
  | [], _, _ => ⟨rfl, rfl, rfl⟩
  | v :: r, o, w => by rw [World.setCells]; exact setCells_rest b r (o + 1) _
theorem setCells_grown (w : World) (b o : Nat) (vs : List Value) : w.grownBy (w.setCells b o vs) (some b) := by
  obtain ⟨h1, h2, h3⟩ := setCells_rest b vs o w
  exact ⟨h1, h2, h3, by rw [setCells_size]; exact Nat.le_refl _, fun k _ hk => setCells_other b vs o w k (fun e => hk (by rw [e]))⟩
/-- Cells written behind what is there. -/
theorem MRowAt.more {w : World} {B g cap : Nat} {l new : List Int} (h : MRowAt w B g cap l) (hn : l.length + new.length ≤ cap) : MRowAt (w.setCells g l.length (bc new)) B g cap (l ++ new) := by
  obtain ⟨h1, h2, h3, h4, h5, h6⟩ := h
  have hs : ∀ j, j < (bc new).length → (w.cell? ⟨g, l.length + j, none⟩).isSome = true := fun j hj => (h5 (l.length + j) (by rw [bc_len] at hj; omega)).1
  have hc : ∀ j, j < cap → (World.cell? (w.setCells g l.length (bc new)) ⟨g, j, none⟩).isSome = true := fun j hj => by
    by_cases c : l.length ≤ j ∧ j < l.length + new.length
    · have := World.cell?_setCells_in g (bc new) l.length w hs (j - l.length) (by rw [bc_len]; omega)
      rw [show l.length + (j - l.length) = j by omega] at this
      rw [this]; rfl
    · rw [World.cell?_setCells_out g (bc new) l.length w _ (fun _ _ => by simp only [bc_len]; omega)]
      exact (h5 j hj).1
  refine ⟨h1, by rw [setCells_size]; exact h2, by rw [List.length_append]; exact hn, h4, fun j hj => ⟨hc j hj, by rw [World.frozen?_setCells]; exact (h5 j hj).2⟩, fun j u hu => ?_⟩
  rw [bc_app] at hu
  by_cases c : j < l.length
  · rw [List.getElem?_append_left (by rw [bc_len]; exact c)] at hu
    rw [World.cell?_setCells_out g (bc new) l.length w _ (fun _ _ => Or.inl c)]
    exact h6 j u hu
  · rw [List.getElem?_append_right (by rw [bc_len]; omega), bc_len] at hu
    have hj := (List.getElem?_eq_some_iff.1 hu).1
    have := World.cell?_setCells_in g (bc new) l.length w hs (j - l.length) hj
    rw [show l.length + (j - l.length) = j by omega] at this
    rw [this, ← hu, List.getElem?_eq_getElem hj]
theorem MOwn.of_grown {w w' : World} {v : Value} {n : Nat} {l new : List Int} (h : w'.ownsRow w.heap.size 5 1 v n (bc l ++ bc new)) (hn : n = l.length + new.length) (hp : 0 < n) {B : Nat} (hB : B ≤ w.heap.size) : MOwn w' B v (l ++ new) := by
  have : Own w' w.heap.size v (l ++ new) := by
    unfold Own
    rw [List.length_append, bc_app, ← hn]
    exact h
  exact (MOwn.of_own this (by rw [List.length_append]; omega)).low hB
theorem run_append_m {w : World} {B : Nat} {v : Value} {l : List Int} (ty : TypeId) (hown : MOwn w B v l) (hB : B ≤ w.heap.size) (ad : Addr) (m c : Nat) (new : List Int) (hl : new.length = m) (hnews : ∀ j u, (bc new)[j]? = some u → w.cell? (ad.add j) = some u) (hb : l.length + m ≤ 140737488355328) :
    ∃ v' w', (Builtin.append_ #[88, 88] ty #[v, .slice (some ad) m c]).run Tryd.prog w = .ok v' w' ∧ MOwn w' B v' (l ++ new) ∧ w.grownBy w' v.ownBlock := by
  obtain ⟨i, hi, hz0, hz1, hz2⟩ := info_parts u8Info
  obtain ⟨g, cap, rfl, hr⟩ := hown
  by_cases hroom : l.length + m ≤ cap
  · have hrun := run_append_room_cells (P := Tryd.prog) w 88 ty 5 i Tryd.underlying88 hi g 0 l.length cap ad m c (bc new) (by rw [bc_len, hl, hz1, Nat.mul_one]) hnews (bc_one _) hroom
      (fun j hj => by rw [hz1, Nat.mul_one, Nat.zero_add]; rw [bc_len] at hj; exact (hr.2.2.2.2.1 _ (by omega)).1) (fun j hj => by rw [hz1, Nat.mul_one, Nat.zero_add]; rw [bc_len] at hj; exact (hr.2.2.2.2.1 _ (by omega)).2)
    rw [hz1, Nat.mul_one, Nat.zero_add] at hrun
    exact ⟨_, _, hrun, ⟨g, cap, by rw [List.length_append, hl], hr.more (by rw [hl]; exact hroom)⟩, setCells_grown _ _ _ _⟩
  · obtain ⟨v', w', hrun, r1, r2⟩ := run_append_arg_grows (P := Tryd.prog) w 88 ty 5 i (.int .u8 0) 1 1 Tryd.underlying88 hi hz0 hz1 hz2 rfl (by decide) ⟨g, 0, none⟩ l.length cap (bc l) (by rw [bc_len, Nat.mul_one]) (fun j u hu => by rw [Addr.add_lit, Nat.zero_add]; exact hr.2.2.2.2.2 j u hu) ad m c (bc new) (by rw [bc_len, hl, Nat.mul_one]) hnews (by omega) (by unfold maxLen; omega) (by omega)
    exact ⟨v', w', hrun, MOwn.of_grown r1 (by rw [hl]) (by omega) hB, ⟨r2.os, r2.tape, r2.output, r2.size, fun k hk _ => r2.block k hk (by simp)⟩⟩
theorem run_append_mt {w : World} {B : Nat} {v : Value} {l : List Int} (ty : TypeId) (hown : MOwn w B v l) (hB : B ≤ w.heap.size) (s : ByteArray) (hb : l.length + s.size ≤ 140737488355328) :
    ∃ v' w', (Builtin.append_ #[88, 9] ty #[v, .string s]).run Tryd.prog w = .ok v' w' ∧ MOwn w' B v' (l ++ sb s) ∧ w.grownBy w' v.ownBlock := by
  obtain ⟨i, hi, hz0, hz1, hz2⟩ := info_parts u8Info
  obtain ⟨g, cap, rfl, hr⟩ := hown
  by_cases hroom : l.length + s.size ≤ cap
  · have hf := Lib.run_firstCells_string (P := Tryd.prog) w 1 s
    have hst := run_storeCells_cells (P := Tryd.prog) g l.length (bc (sb s)) 0 w (fun j hj => by rw [bc_len, sb_len] at hj; exact (hr.2.2.2.2.1 _ (by omega)).1) (fun j hj => by rw [bc_len, sb_len] at hj; exact (hr.2.2.2.2.1 _ (by omega)).2) (bc_one _)
    rw [bc_sb] at hst
    simp only [Nat.add_zero] at hst
    have hrun : (Builtin.append_ #[88, 9] ty #[.slice (some ⟨g, 0, none⟩) l.length cap, .string s]).run Tryd.prog w = .ok (.slice (some ⟨g, 0, none⟩) (l.length + s.size) cap) (w.setCells g l.length (Lib.strCells s)) := by
      simp [Builtin.append_, run_underlying Tryd.underlying88, run_underlying Tryd.underlying9, sizeOf, typeInfo, hi, hz1, Builtin.lenOf, hroom, hf, Addr.add_lit, hst]
    have hm := hr.more (new := sb s) (by rw [sb_len]; exact hroom)
    rw [bc_sb] at hm
    exact ⟨_, _, hrun, ⟨g, cap, by rw [List.length_append, sb_len], hm⟩, setCells_grown _ _ _ _⟩
  · have hrun := Lib.run_append_grow_string (P := Tryd.prog) w 88 9 ty 5 i (.int .u8 0) Tryd.underlying88 Tryd.underlying9 hi hz0 ⟨g, 0, none⟩ l.length cap (bc l) (by rw [bc_len, hz1, Nat.mul_one]) (fun j u hu => by rw [Addr.add_lit, Nat.zero_add]; exact hr.2.2.2.2.2 j u hu) s (by omega) (by omega) (by rw [hz2]; exact growslice_fits (by omega) (by omega))
    have hge := grownCap_ge w (l.length + s.size) cap 5
    have hcm := grownCap_le_maxLen w (l.length + s.size) cap 5 (by unfold maxLen; omega)
    refine ⟨_, _, hrun, MOwn.of_grown (w := w) (n := l.length + s.size) ?_ (by rw [sb_len]) (by omega) hB, ⟨rfl, rfl, rfl, by simp, fun k hk _ => heap_alloc_old w.drew _ hk⟩⟩
    rw [bc_sb]
    have hlen : (bc l ++ Lib.strCells s).length = (l.length + s.size) * 1 := by rw [List.length_append, bc_len, Lib.strCells_length, Nat.mul_one]
    refine ⟨hlen, .inr ⟨w.heap.size, _, _, rfl, Nat.le_refl _, heap_alloc_new w.drew _, hge, hcm, ?_, ?_⟩⟩
    · have hz1 : (Value.int IntKind.u8 0).cells.size = 1 := rfl
      simp only [Array.size_append, List.size_toArray, size_zeroCells, hz1, bc_len, Lib.strCells_length]
      omega
    · simp only [Array.toList_append, List.append_assoc]
      rw [← List.append_assoc, ← hlen]
      exact List.take_left
theorem MOwn.below {w w' : World} {B : Nat} {v : Value} {l : List Int} (h : MOwn w B v l) (hg : w.grownBy w' v.ownBlock) (hB : B ≤ w.heap.size) : Below B w w' := (Below.refl _ _).grown hg hB h.ge
theorem wp_m_bytes {w : World} {o : Oper} {a : Act} {K : Act → World → Prop} {Q : Exit → Act → World → Prop} (s x : Operand)
    (ho : o.op = .call { callee := .builtin .append, args := #[s, x], argTypes := #[88, 88] }) (B : Nat) (v : Value) (l : List Int) (hs : a.eval s = v) (hown : MOwn w B v l)
    (ad : Addr) (m c : Nat) (new : List Int) (hx : a.eval x = .slice (some ad) m c) (hl : new.length = m) (hnews : ∀ j u, (bc new)[j]? = some u → w.cell? (ad.add j) = some u) (hb : l.length + m ≤ 140737488355328) (hB : B ≤ w.heap.size)
    (h : ∀ v' w', MOwn w' B v' (l ++ new) → w.grownBy w' v.ownBlock → Below B w w' → K (a.put o.dst v') w') : o.wp Tryd.prog a w K Q := by
  obtain ⟨v', w', hr, h2, h3⟩ := run_append_m (w := w) o.type hown hB ad m c new hl hnews hb
  unfold Oper.wp execOp
  simp only [ho, resolve, invoke, builtin, Sem.run_bind, Sem.run_pure, Result.andThen_ok, List.map_toArray, List.map_cons, List.map_nil, hs, hx, hr]
  exact h v' w' h2 h3 (hown.below h3 hB)
theorem wp_m_text {w : World} {o : Oper} {a : Act} {K : Act → World → Prop} {Q : Exit → Act → World → Prop} (sl x : Operand)
    (ho : o.op = .call { callee := .builtin .append, args := #[sl, x], argTypes := #[88, 9] }) (B : Nat) (v : Value) (l : List Int) (hs : a.eval sl = v) (hown : MOwn w B v l)
    (s : ByteArray) (hx : a.eval x = .string s) (hb : l.length + s.size ≤ 140737488355328) (hB : B ≤ w.heap.size)
    (h : ∀ v' w', MOwn w' B v' (l ++ sb s) → w.grownBy w' v.ownBlock → Below B w w' → K (a.put o.dst v') w') : o.wp Tryd.prog a w K Q := by
  obtain ⟨v', w', hr, h2, h3⟩ := run_append_mt (w := w) o.type hown hB s hb
  unfold Oper.wp execOp
  simp only [ho, resolve, invoke, builtin, Sem.run_bind, Sem.run_pure, Result.andThen_ok, List.map_toArray, List.map_cons, List.map_nil, hs, hx, hr]
  exact h v' w' h2 h3 (hown.below h3 hB)
theorem list_m_bytes {w : World} {ops : Array Oper} {rest : List Oper} {o : Oper} {a : Act} {Q : Exit → Act → World → Prop} (hgd : o.guard = none) (s x : Operand)
    (ho : o.op = .call { callee := .builtin .append, args := #[s, x], argTypes := #[88, 88] }) (B : Nat) (v : Value) (l : List Int) (hs : a.eval s = v) (hown : MOwn w B v l)
    (ad : Addr) (m c : Nat) (new : List Int) (hx : a.eval x = .slice (some ad) m c) (hl : new.length = m) (hnews : ∀ j u, (bc new)[j]? = some u → w.cell? (ad.add j) = some u) (hb : l.length + m ≤ 140737488355328) (hB : B ≤ w.heap.size)
    (h : ∀ v' w', MOwn w' B v' (l ++ new) → w.grownBy w' v.ownBlock → Below B w w' → wpList Tryd.prog ops Q rest (a.put o.dst v') w') : wpList Tryd.prog ops Q (o :: rest) a w :=
  wpList_plain hgd fun _ hK => wp_m_bytes s x ho B v l hs hown ad m c new hx hl hnews hb hB fun v' w' h2 h3 h4 => hK _ _ (h v' w' h2 h3 h4)
theorem list_m_text {w : World} {ops : Array Oper} {rest : List Oper} {o : Oper} {a : Act} {Q : Exit → Act → World → Prop} (hgd : o.guard = none) (sl x : Operand)
    (ho : o.op = .call { callee := .builtin .append, args := #[sl, x], argTypes := #[88, 9] }) (B : Nat) (v : Value) (l : List Int) (hs : a.eval sl = v) (hown : MOwn w B v l)
    (s : ByteArray) (hx : a.eval x = .string s) (hb : l.length + s.size ≤ 140737488355328) (hB : B ≤ w.heap.size)
    (h : ∀ v' w', MOwn w' B v' (l ++ sb s) → w.grownBy w' v.ownBlock → Below B w w' → wpList Tryd.prog ops Q rest (a.put o.dst v') w') : wpList Tryd.prog ops Q (o :: rest) a w :=
  wpList_plain hgd fun _ hK => wp_m_text sl x ho B v l hs hown s hx hb hB fun v' w' h2 h3 h4 => hK _ _ (h v' w' h2 h3 h4)
theorem step_m_bytes {w : World} {ops : Array Oper} {o : Oper} {a : Act} {K : Act → World → Prop} {Q : Exit → Act → World → Prop} {E : Prop} (hgd : o.guard = none) (s x : Operand)
    (ho : o.op = .call { callee := .builtin .append, args := #[s, x], argTypes := #[88, 88] }) (B : Nat) (v : Value) (l : List Int) (hs : a.eval s = v) (hown : MOwn w B v l)
    (ad : Addr) (m c : Nat) (new : List Int) (hx : a.eval x = .slice (some ad) m c) (hl : new.length = m) (hnews : ∀ j u, (bc new)[j]? = some u → w.cell? (ad.add j) = some u) (hb : l.length + m ≤ 140737488355328) (hB : B ≤ w.heap.size)
    (h : ∀ v' w', MOwn w' B v' (l ++ new) → w.grownBy w' v.ownBlock → Below B w w' → K (a.put o.dst v') w') : if Region.wanted o (yielded ops a.tmps) = true then Oper.wp Tryd.prog o a w K Q else E := by
  have hw : Region.wanted o (yielded ops a.tmps) = true := by simp [Region.wanted, hgd]
  rw [if_pos hw]
  exact wp_m_bytes s x ho B v l hs hown ad m c new hx hl hnews hb hB h
theorem step_m_text {w : World} {ops : Array Oper} {o : Oper} {a : Act} {K : Act → World → Prop} {Q : Exit → Act → World → Prop} {E : Prop} (hgd : o.guard = none) (sl x : Operand)
    (ho : o.op = .call { callee := .builtin .append, args := #[sl, x], argTypes := #[88, 9] }) (B : Nat) (v : Value) (l : List Int) (hs : a.eval sl = v) (hown : MOwn w B v l)
    (s : ByteArray) (hx : a.eval x = .string s) (hb : l.length + s.size ≤ 140737488355328) (hB : B ≤ w.heap.size)
    (h : ∀ v' w', MOwn w' B v' (l ++ sb s) → w.grownBy w' v.ownBlock → Below B w w' → K (a.put o.dst v') w') : if Region.wanted o (yielded ops a.tmps) = true then Oper.wp Tryd.prog o a w K Q else E := by
  have hw : Region.wanted o (yielded ops a.tmps) = true := by simp [Region.wanted, hgd]
  rw [if_pos hw]
  exact wp_m_text sl x ho B v l hs hown s hx hb hB h
end Go.Proofs.YtpaljmhoojpbdaaDoor
