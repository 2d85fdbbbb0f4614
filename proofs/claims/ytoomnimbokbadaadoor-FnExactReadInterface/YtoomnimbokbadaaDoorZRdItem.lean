/- The program reads an item off its bytes. No condition. -/
import Derived.Test.YtoomnimbokbadaaDoorZReader
import Derived.Test.YtoomnimbokbadaaDoorZFac
namespace Go.Proofs.YtoomnimbokbadaaDoor
open Go.RowKit

def pc : List Prm → List Value
  | [] => []
  | p :: r => .int .i64 p.1 :: .bool p.2 :: pc r
theorem pc_len : ∀ l : List Prm, (pc l).length = l.length * 2
  | [] => rfl
  | p :: r => by simp [pc, pc_len r]; omega
theorem pc_app : ∀ l r : List Prm, pc (l ++ r) = pc l ++ pc r
  | [], _ => rfl
  | p :: l, r => by simp [pc, pc_app l r]
theorem pc_one : ∀ l : List Prm, ∀ u ∈ pc l, u.oneCell' = true
  | [], u, h => by cases h
  | p :: r, u, h => by
    simp only [pc, List.mem_cons] at h
    rcases h with rfl | rfl | h
    · rfl
    · rfl
    · exact pc_one r u h
theorem pc_at : ∀ (l : List Prm) (i : Nat) (h : i < l.length), (pc l)[i * 2]? = some (.int .i64 l[i].1) ∧ (pc l)[i * 2 + 1]? = some (.bool l[i].2)
  | [], i, h => absurd h (by simp)
  | p :: r, 0, _ => ⟨rfl, rfl⟩
  | p :: r, i + 1, h => by
    have := pc_at r i (by simpa using h)
    rw [show (i + 1) * 2 = i * 2 + 1 + 1 by omega]
    exact this
/-- A slice of parameters in a row of the call's own. -/
def PRow (w : World) (B : Nat) (v : Value) (l : List Prm) : Prop := w.ownsRow B 70 2 v l.length (pc l)
theorem PRow.of_heap {w w' : World} {B : Nat} {v : Value} {l : List Prm} (h : PRow w B v l) (hk : ∀ k, B ≤ k → k < w.heap.size → (∃ C, w.heap[k]? = some (.cells C 70 (0, 0))) → w'.heap[k]? = w.heap[k]?) : PRow w' B v l := by
  refine ⟨h.1, ?_⟩
  rcases h.2 with h2 | ⟨g, cap, cur, e, hb, hg, r⟩
  · exact .inl h2
  · exact .inr ⟨g, cap, cur, e, hb, (hk g hb (Array.getElem?_eq_some_iff.1 hg).1 ⟨_, hg⟩).trans hg, r⟩
theorem PRow.on {w w' : World} {B : Nat} {v : Value} {l : List Prm} (h : PRow w B v l) (bel : Below w.heap.size w w') : PRow w' B v l := h.of_heap fun k _ hk _ => bel.block k hk
/-- But for the reader's block all that was there is as it was. -/
structure Fr (R : Nat) (w w' : World) : Prop where
  os : w'.os = w.os
  tape : w'.tape = w.tape
  output : w'.output = w.output
  size : w.heap.size ≤ w'.heap.size
  block : ∀ k, k < w.heap.size → k ≠ R → w'.heap[k]? = w.heap[k]?
theorem Fr.refl (R : Nat) (w : World) : Fr R w w := ⟨rfl, rfl, rfl, Nat.le_refl _, fun _ _ _ => rfl⟩
theorem Fr.trans {R : Nat} {a b c : World} (h : Fr R a b) (k : Fr R b c) : Fr R a c := ⟨k.os.trans h.os, k.tape.trans h.tape, k.output.trans h.output, Nat.le_trans h.size k.size, fun i hi hr => (k.block i (Nat.lt_of_lt_of_le hi h.size) hr).trans (h.block i hi hr)⟩
theorem Fr.of_only {R : Nat} {w w' : World} (h : Only R w w') : Fr R w w' := ⟨h.os, h.tape, h.output, by rw [h.size]; exact Nat.le_refl _, fun k _ hk => h.block k hk⟩
theorem Fr.of_below {R : Nat} {w w' : World} (h : Below w.heap.size w w') : Fr R w w' := ⟨h.os, h.tape, h.output, h.size, fun k hk _ => h.block k hk⟩
/-- Above 'B' whatever may turn, and the reader's block. -/
structure FrB (R B : Nat) (w w' : World) : Prop where
  os : w'.os = w.os
  tape : w'.tape = w.tape
  output : w'.output = w.output
  size : w.heap.size ≤ w'.heap.size
  block : ∀ k, k < B → k ≠ R → w'.heap[k]? = w.heap[k]?
theorem FrB.refl (R B : Nat) (w : World) : FrB R B w w := ⟨rfl, rfl, rfl, Nat.le_refl _, fun _ _ _ => rfl⟩
theorem FrB.trans {R B : Nat} {a b c : World} (h : FrB R B a b) (k : FrB R B b c) : FrB R B a c := ⟨k.os.trans h.os, k.tape.trans h.tape, k.output.trans h.output, Nat.le_trans h.size k.size, fun i hi hr => (k.block i hi hr).trans (h.block i hi hr)⟩
theorem FrB.of_only {R B : Nat} {w w' : World} (h : Only R w w') : FrB R B w w' := ⟨h.os, h.tape, h.output, by rw [h.size]; exact Nat.le_refl _, fun k _ hk => h.block k hk⟩
theorem FrB.of_below {R B : Nat} {w w' : World} (h : Below B w w') : FrB R B w w' := ⟨h.os, h.tape, h.output, h.size, fun k hk _ => h.block k hk⟩
theorem FrB.fr {R : Nat} {w w' : World} (h : FrB R w.heap.size w w') : Fr R w w' := ⟨h.os, h.tape, h.output, h.size, h.block⟩
theorem Fr.frB {R B : Nat} {w w' : World} (h : Fr R w w') (hB : B ≤ w.heap.size) : FrB R B w w' := ⟨h.os, h.tape, h.output, h.size, fun k hk => h.block k (by omega)⟩
/-- The reader goes on where its bytes and its own block have not turned. -/
theorem RS.same {w w' : World} {R : Nat} {m : Md} {r : List Int} (h : RS w R m r) (s : Same m.lo m.hi w w') (hR : w'.heap[R]? = w.heap[R]?) : RS w' R m r := by
  obtain ⟨v, h0, h1, h2, h3, h4⟩ := h
  exact ⟨v, h0, (World.cell?_of_block (w := w) (a := ⟨R, 0, none⟩) hR).trans h1, (World.frozen?_of_block (w := w) (a := ⟨R, 0, none⟩) hR).trans h2, h3.same BAt.stays s, h4⟩
theorem RS.below {w w' : World} {R B : Nat} {m : Md} {r : List Int} (h : RS w R m r) (bel : Below B w w') (hR : R < B) : RS w' R m r := h.same (.of_below bel (by obtain ⟨_, _, _, _, _, h4⟩ := h; omega)) (bel.block R hR)
def rdPs : Nat → List Int → List Prm
  | 0, _ => []
  | k + 1, r => (hd r % 8, decide (8 ≤ hd r)) :: rdPs k (r.drop 1)
theorem rdPs_len : ∀ (k : Nat) (r : List Int), (rdPs k r).length = k
  | 0, _ => rfl
  | k + 1, r => by simp [rdPs, rdPs_len k]
theorem rdPs_snoc : ∀ (k : Nat) (r : List Int), rdPs (k + 1) r = rdPs k r ++ [(hd (r.drop k) % 8, decide (8 ≤ hd (r.drop k)))]
  | 0, r => by simp [rdPs]
  | k + 1, r => by
    have := rdPs_snoc k (r.drop 1)
    rw [List.drop_drop, Nat.add_comm 1 k] at this
    rw [rdPs, this]
    rfl
theorem prmInfo : (Tryd.prog.info? 70).map (fun i => (i.zero, i.size, i.bytes)) = some (some (.agg #[.int .i64 0, .bool false]), 2, 16) := by kernel_rfl
theorem wp_append_prm {w : World} {ops : Array Oper} {rest : List Oper} {o : Oper} {a : Act} {Q : Exit → Act → World → Prop} (hgd : o.guard = none) (s x : Operand)
    (ho : o.op = .call { callee := .builtin .append, args := #[s, x], argTypes := #[55, 55] }) (B : Nat) (v : Value) (l : List Prm) (hs : a.eval s = v) (hown : PRow w B v l)
    (b : Nat) (p : Prm) (hx : a.eval x = .slice (some ⟨b, 0, none⟩) 1 1) (hc0 : w.cell? ⟨b, 0, none⟩ = some (.int .i64 p.1)) (hc1 : w.cell? ⟨b, 1, none⟩ = some (.bool p.2)) (hb : l.length ≤ 1000) (hbase : B ≤ w.heap.size)
    (h : ∀ v' w', PRow w' B v' (l ++ [p]) → w.grownBy w' v.ownBlock → wpList Tryd.prog ops Q rest (a.put o.dst v') w') : wpList Tryd.prog ops Q (o :: rest) a w := by
  obtain ⟨i, hi, hz0, hz1, hz2⟩ := info_parts prmInfo
  refine wpList_append_own w hgd s x _ ho B 70 i (.agg #[.int .i64 0, .bool false]) 2 16 Tryd.underlying55 hi hz0 hz1 hz2 rfl (by decide) v l.length (pc l) hs hown ⟨b, 0, none⟩ 1 1 (pc [p]) hx rfl (fun j u hu => ?_) (pc_one _) (by unfold maxLen; omega) (by omega) hbase fun v' w' h2 h3 _ => ?_
  · match j, hu with
    | 0, hu => simp [pc] at hu; subst hu; simpa [Addr.add] using hc0
    | 1, hu => simp [pc] at hu; subst hu; simpa [Addr.add] using hc1
    | j + 2, hu => simp [pc] at hu
  · refine h v' w' ?_ h3
    unfold PRow
    rw [List.length_append, pc_app]
    exact h2
theorem prm_new (w : World) (x : Int) (y : Bool) : (w.alloc (.cells #[.int .i64 x, .bool y] 70)).cell? ⟨w.heap.size, 0, none⟩ = some (.int .i64 x) ∧ (w.alloc (.cells #[.int .i64 x, .bool y] 70)).cell? ⟨w.heap.size, 1, none⟩ = some (.bool y) := by
  have h := heapCells (Deep.blk_alloc_new w (.cells #[.int .i64 x, .bool y] 70))
  exact ⟨h.1 0, h.1 1⟩
theorem own_far {w : World} {B k : Nat} {v : Value} {l : List Prm} (h : PRow w B v l) (hk : k < B) : some k ≠ v.ownBlock := fun e => by have := (h.lt k e.symm).1; omega
theorem prow_form {w : World} {B : Nat} {v : Value} {l : List Prm} (h : PRow w B v l) : ∃ a n c, v = .slice a n c := by
  rcases h.2 with ⟨e, -⟩ | ⟨g, cap, _, e, -⟩
  · exact ⟨_, _, _, e⟩
  · exact ⟨_, _, _, e⟩
theorem PRow.le {w : World} {B C : Nat} {v : Value} {l : List Prm} (h : PRow w B v l) (hc : C ≤ B) : PRow w C v l := ⟨h.1, h.2.imp id fun ⟨g, cap, cur, e, hb, r⟩ => ⟨g, cap, cur, e, by omega, r⟩⟩
/-- What readItem reads. -/
def nmL (r : List Int) : Nat := (hd (r.drop 11)).toNat
def prL (r : List Int) : Nat := (hd (r.drop (12 + nmL r))).toNat
def rdIt (r : List Int) : Itm := ⟨hd r, hd (r.drop 1), hd (r.drop 2), accN 0 (r.drop 3) 8, bs ((r.drop 12).take (nmL r)), rdPs (prL r) (r.drop (13 + nmL r))⟩
def itL (r : List Int) : Nat := 13 + nmL r + prL r
set_option maxRecDepth 100000 in
set_option maxHeartbeats 8000000 in
theorem readItem_any (R : Nat) (m : Md) (r : List Int) (w : World) (hl : r.length ≤ 1099511627776) (h : RS w R m r) :
    Calls Tryd.prog 57 #[.pointer (some ⟨R, 0, none⟩)] w fun e w' => (∃ v, e = .returned (.agg #[.int .i64 (rdIt r).kind, .int .i64 (rdIt r).type, .int .i64 (rdIt r).length, .int .i64 (rdIt r).value, .string (rdIt r).name, v]) ∧ PRow w' w.heap.size v (rdIt r).params) ∧ RS w' R m (r.drop (itL r)) ∧ Fr R w w' := by
  have HR := hide h
  have hRw : R < w.heap.size := by obtain ⟨_, _, h1, _⟩ := h; exact block_lt h1
  clear h
  go_enter Tryd.func57, Tryd.ntmps57
  obtain ⟨w0, hw0⟩ : ∃ w0, w0 = (w.alloc (.cells #[.int .i64 0, .int .i64 0, .int .i64 0, .int .i64 0, .string ⟨#[]⟩, .slice none 0 0] 57)).alloc (.cells #[.int .i64 0, .int .i64 0, .int .i64 0, .int .i64 0, .string ⟨#[]⟩, .slice none 0 0] 57) := ⟨_, rfl⟩
  have hb0 : Below w.heap.size w w0 := by rw [hw0]; exact ((Below.refl _ _).alloc (Nat.le_refl _) _).alloc (by simp) _
  have hx0 : w0.heap[w.heap.size + 1]? = some (.cells #[.int .i64 0, .int .i64 0, .int .i64 0, .int .i64 0, .string ⟨#[]⟩, .slice none 0 0] 57 (0, 0)) := by
    rw [hw0]
    have := Deep.blk_alloc_new (w.alloc (.cells #[.int .i64 0, .int .i64 0, .int .i64 0, .int .i64 0, .string ⟨#[]⟩, .slice none 0 0] 57)) (.cells #[.int .i64 0, .int .i64 0, .int .i64 0, .int .i64 0, .string ⟨#[]⟩, .slice none 0 0] 57)
    rwa [World.size_alloc] at this
  have hs0 : w0.heap.size = w.heap.size + 2 := by rw [hw0]; simp
  have HR0 := hide (HR.out.on hb0)
  have hy0 : w0.heap[w.heap.size]? = some (.cells #[.int .i64 0, .int .i64 0, .int .i64 0, .int .i64 0, .string ⟨#[]⟩, .slice none 0 0] 57 (0, 0)) := by
    rw [hw0, Below.heap_alloc _ _ _ (by simp)]
    exact Deep.blk_alloc_new w (.cells #[.int .i64 0, .int .i64 0, .int .i64 0, .int .i64 0, .string ⟨#[]⟩, .slice none 0 0] 57)
  have F00 := hide (show FrB R w.heap.size w w0 from .of_below hb0)
  have HY0 := hide hy0
  have f0 : FrB R (w.heap.size + 1) w0 w0 := .refl _ _ _
  have hq : (w.heap.size + 1) ≠ R := by omega
  have HX0 := hide hx0
  obtain ⟨r1, E1⟩ : ∃ x, Hid (x = r.drop 1) := ⟨_, rfl⟩
  obtain ⟨r2, E2⟩ : ∃ x, Hid (x = r1.drop 1) := ⟨_, rfl⟩
  obtain ⟨r3, E3⟩ : ∃ x, Hid (x = r2.drop 1) := ⟨_, rfl⟩
  obtain ⟨r4, E4⟩ : ∃ x, Hid (x = r3.drop 8) := ⟨_, rfl⟩
  obtain ⟨r5, E5⟩ : ∃ x, Hid (x = r4.drop 1) := ⟨_, rfl⟩
  have HL0 := hide hl
  have HL1 : Hid (r1.length ≤ 1099511627776) := by refine hide ?_; rw [E1.out, List.length_drop]; omega
  have HL2 : Hid (r2.length ≤ 1099511627776) := by refine hide ?_; have := HL1.out; rw [E2.out, List.length_drop]; omega
  have HL3 : Hid (r3.length ≤ 1099511627776) := by refine hide ?_; have := HL2.out; rw [E3.out, List.length_drop]; omega
  have HL4 : Hid (r4.length ≤ 1099511627776) := by refine hide ?_; have := HL3.out; rw [E4.out, List.length_drop]; omega
  have HL5 : Hid (r5.length ≤ 1099511627776) := by refine hide ?_; have := HL4.out; rw [E5.out, List.length_drop]; omega
  clear hl
  go_wp2_with fail
  rw [← hw0]
  clear hw0 hb0 hx0 hy0
  refine (readByte_any R m r _ HL0.out HR0.out).mono ?_
  rintro e w1 ⟨rfl, h0, o0⟩
  have hx0' := (o0.block _ hq).trans HX0.out
  have c0 : w1.cell? ⟨w.heap.size + 1, 0, none⟩ = some (.int .i64 0) := (heapCells hx0').1 0
  have z0 := (heapCells hx0').2 0
  have hs0' : w1.heap.size = w.heap.size + 2 := o0.size.trans hs0
  have HX1 := hide (show (w1.setCell ⟨w.heap.size + 1, 0, none⟩ (.int .i64 (hd r))).heap[w.heap.size + 1]? = some (.cells #[.int .i64 (hd r), .int .i64 0, .int .i64 0, .int .i64 0, .string ⟨#[]⟩, .slice none 0 0] 57 (0, 0)) from block_set hx0' _)
  have b0 : Below (w.heap.size + 1) w1 (w1.setCell ⟨w.heap.size + 1, 0, none⟩ (.int .i64 (hd r))) := (Below.refl (w.heap.size + 1) w1).setCell (p := ⟨w.heap.size + 1, 0, none⟩) (Nat.le_refl _) _
  have HR1 : Hid (RS (w1.setCell ⟨w.heap.size + 1, 0, none⟩ (.int .i64 (hd r))) R m r1) := by
    refine hide ?_
    rw [E1.out]
    exact h0.below b0 (by omega)
  have f1 := (f0.trans (.of_only o0)).trans (.of_below b0)
  have hs1 : (w1.setCell ⟨w.heap.size + 1, 0, none⟩ (.int .i64 (hd r))).heap.size = w.heap.size + 2 := by simpa [World.setCell] using hs0'
  clear h0 o0 hx0' b0 hs0' HX0 f0 HR0 hs0
  go_wp2_with fail
  clear c0 z0
  refine (readByte_any R m r1 _ HL1.out HR1.out).mono ?_
  rintro e w3 ⟨rfl, h1, o1⟩
  have hx1' := (o1.block _ hq).trans HX1.out
  have c1 : w3.cell? ⟨w.heap.size + 1, 1, none⟩ = some (.int .i64 0) := (heapCells hx1').1 1
  have z1 := (heapCells hx1').2 1
  have hs1' : w3.heap.size = w.heap.size + 2 := o1.size.trans hs1
  have HX2 := hide (show (w3.setCell ⟨w.heap.size + 1, 1, none⟩ (.int .i64 (hd r1))).heap[w.heap.size + 1]? = some (.cells #[.int .i64 (hd r), .int .i64 (hd r1), .int .i64 0, .int .i64 0, .string ⟨#[]⟩, .slice none 0 0] 57 (0, 0)) from block_set hx1' _)
  have b1 : Below (w.heap.size + 1) w3 (w3.setCell ⟨w.heap.size + 1, 1, none⟩ (.int .i64 (hd r1))) := (Below.refl (w.heap.size + 1) w3).setCell (p := ⟨w.heap.size + 1, 1, none⟩) (Nat.le_refl _) _
  have HR2 : Hid (RS (w3.setCell ⟨w.heap.size + 1, 1, none⟩ (.int .i64 (hd r1))) R m r2) := by
    refine hide ?_
    rw [E2.out]
    exact h1.below b1 (by omega)
  have f2 := (f1.trans (.of_only o1)).trans (.of_below b1)
  have hs2 : (w3.setCell ⟨w.heap.size + 1, 1, none⟩ (.int .i64 (hd r1))).heap.size = w.heap.size + 2 := by simpa [World.setCell] using hs1'
  clear h1 o1 hx1' b1 hs1' HX1 f1 HR1 hs1
  go_wp2_with fail
  clear c1 z1
  refine (readByte_any R m r2 _ HL2.out HR2.out).mono ?_
  rintro e w5 ⟨rfl, h2, o2⟩
  have hx2' := (o2.block _ hq).trans HX2.out
  have c2 : w5.cell? ⟨w.heap.size + 1, 2, none⟩ = some (.int .i64 0) := (heapCells hx2').1 2
  have z2 := (heapCells hx2').2 2
  have hs2' : w5.heap.size = w.heap.size + 2 := o2.size.trans hs2
  have HX3 := hide (show (w5.setCell ⟨w.heap.size + 1, 2, none⟩ (.int .i64 (hd r2))).heap[w.heap.size + 1]? = some (.cells #[.int .i64 (hd r), .int .i64 (hd r1), .int .i64 (hd r2), .int .i64 0, .string ⟨#[]⟩, .slice none 0 0] 57 (0, 0)) from block_set hx2' _)
  have b2 : Below (w.heap.size + 1) w5 (w5.setCell ⟨w.heap.size + 1, 2, none⟩ (.int .i64 (hd r2))) := (Below.refl (w.heap.size + 1) w5).setCell (p := ⟨w.heap.size + 1, 2, none⟩) (Nat.le_refl _) _
  have HR3 : Hid (RS (w5.setCell ⟨w.heap.size + 1, 2, none⟩ (.int .i64 (hd r2))) R m r3) := by
    refine hide ?_
    rw [E3.out]
    exact h2.below b2 (by omega)
  have f3 := (f2.trans (.of_only o2)).trans (.of_below b2)
  have hs3 : (w5.setCell ⟨w.heap.size + 1, 2, none⟩ (.int .i64 (hd r2))).heap.size = w.heap.size + 2 := by simpa [World.setCell] using hs2'
  clear h2 o2 hx2' b2 hs2' HX2 f2 HR2 hs2
  go_wp2_with fail
  clear c2 z2
  refine (readNumber_any R m r3 _ HL3.out HR3.out).mono ?_
  rintro e w7 ⟨rfl, h3, o3⟩
  have hx3' := (o3.block _ hq).trans HX3.out
  have c3 : w7.cell? ⟨w.heap.size + 1, 3, none⟩ = some (.int .i64 0) := (heapCells hx3').1 3
  have z3 := (heapCells hx3').2 3
  have hs3' : w7.heap.size = w.heap.size + 2 := o3.size.trans hs3
  have HX4 := hide (show (w7.setCell ⟨w.heap.size + 1, 3, none⟩ (.int .i64 (accN 0 r3 8))).heap[w.heap.size + 1]? = some (.cells #[.int .i64 (hd r), .int .i64 (hd r1), .int .i64 (hd r2), .int .i64 (accN 0 r3 8), .string ⟨#[]⟩, .slice none 0 0] 57 (0, 0)) from block_set hx3' _)
  have b3 : Below (w.heap.size + 1) w7 (w7.setCell ⟨w.heap.size + 1, 3, none⟩ (.int .i64 (accN 0 r3 8))) := (Below.refl (w.heap.size + 1) w7).setCell (p := ⟨w.heap.size + 1, 3, none⟩) (Nat.le_refl _) _
  have HR4 : Hid (RS (w7.setCell ⟨w.heap.size + 1, 3, none⟩ (.int .i64 (accN 0 r3 8))) R m r4) := by
    refine hide ?_
    rw [E4.out]
    exact h3.below b3 (by omega)
  have f4 := (f3.trans (.of_only o3)).trans (.of_below b3)
  have hs4 : (w7.setCell ⟨w.heap.size + 1, 3, none⟩ (.int .i64 (accN 0 r3 8))).heap.size = w.heap.size + 2 := by simpa [World.setCell] using hs3'
  clear h3 o3 hx3' b3 hs3' HX3 f3 HR3 hs3
  go_wp2_with fail
  clear c3 z3
  have hin := hd_in HR4.out.in
  obtain ⟨n, hn, hn2⟩ : ∃ n : Nat, hd r4 = n ∧ n ≤ 255 := ⟨(hd r4).toNat, by omega, by omega⟩
  obtain ⟨r6, E6⟩ : ∃ x, Hid (x = r5.drop n) := ⟨_, rfl⟩
  obtain ⟨r7, E7⟩ : ∃ x, Hid (x = r6.drop 1) := ⟨_, rfl⟩
  have HL6 : Hid (r6.length ≤ 1099511627776) := by refine hide ?_; have := HL5.out; rw [E6.out, List.length_drop]; omega
  have HL7 : Hid (r7.length ≤ 1099511627776) := by refine hide ?_; have := HL6.out; rw [E7.out, List.length_drop]; omega
  refine (readByte_any R m r4 _ HL4.out HR4.out).mono ?_
  rintro e w9 ⟨rfl, h4, o4⟩
  rw [hn]
  rw [← E5.out] at h4
  have HX4' := hide ((o4.block _ hq).trans HX4.out)
  have hs4' : w9.heap.size = w.heap.size + 2 := o4.size.trans hs4
  have f4' := f4.trans (.of_only o4)
  have HR5 := hide h4
  have HN := hide hn
  clear h4 o4 HX4 f4 HR4 hs4 hin hn
  go_wp2_with fail
  refine (readText_any R m r5 n _ HL5.out hn2 HR5.out).mono ?_
  rintro e w10 ⟨rfl, h5, o5⟩
  rw [← E6.out] at h5
  have hx5' := (o5.block _ hq).trans HX4'.out
  have c5 : w10.cell? ⟨w.heap.size + 1, 4, none⟩ = some (.string ⟨#[]⟩) := (heapCells hx5').1 4
  have z5 := (heapCells hx5').2 4
  have hs5' : w10.heap.size = w.heap.size + 2 := o5.size.trans hs4'
  obtain ⟨t, ht⟩ : ∃ t, Hid (t = bs (r5.take n)) := ⟨_, rfl⟩
  rw [← ht.out]
  have HX5 := hide (show (w10.setCell ⟨w.heap.size + 1, 4, none⟩ (.string t)).heap[w.heap.size + 1]? = some (.cells #[.int .i64 (hd r), .int .i64 (hd r1), .int .i64 (hd r2), .int .i64 (accN 0 r3 8), .string t, .slice none 0 0] 57 (0, 0)) from block_set hx5' _)
  have b5 : Below (w.heap.size + 1) w10 (w10.setCell ⟨w.heap.size + 1, 4, none⟩ (.string t)) := (Below.refl (w.heap.size + 1) w10).setCell (p := ⟨w.heap.size + 1, 4, none⟩) (Nat.le_refl _) _
  have HR6 := hide (h5.below b5 (by omega))
  have f6 := (f4'.trans (.of_only o5)).trans (.of_below b5)
  have hs6 : (w10.setCell ⟨w.heap.size + 1, 4, none⟩ (.string t)).heap.size = w.heap.size + 2 := by simpa [World.setCell] using hs5'
  clear h5 o5 hx5' b5 hs5' HX4' f4' HR5 hs4'
  have hin := hd_in HR6.out.in
  obtain ⟨q, hq0, hq2⟩ : ∃ q : Nat, hd r6 = q ∧ q ≤ 255 := ⟨(hd r6).toNat, by omega, by omega⟩
  have HQ := hide hq0
  go_wp2_with (go_at_call 56; refine (readByte_any R m r6 _ HL6.out HR6.out).mono ?_; rintro e w12 ⟨rfl, h6, o6⟩; rw [HQ.out])
  clear c5 z5 hin
  rw [← E7.out] at h6
  have HX7 := hide ((o6.block _ hq).trans HX5.out)
  have f7 := f6.trans (.of_only o6)
  have hs7 : w12.heap.size = w.heap.size + 2 := o6.size.trans hs6
  have HR7 := hide h6
  clear h6 o6 HX5 f6 hs6 HR6
  obtain ⟨a0, A0⟩ : ∃ x, Hid (x = hd r) := ⟨_, rfl⟩
  obtain ⟨a1, A1⟩ : ∃ x, Hid (x = hd r1) := ⟨_, rfl⟩
  obtain ⟨a2, A2⟩ : ∃ x, Hid (x = hd r2) := ⟨_, rfl⟩
  obtain ⟨a3, A3⟩ : ∃ x, Hid (x = accN 0 r3 8) := ⟨_, rfl⟩
  rw [← A0.out, ← A1.out, ← A2.out, ← A3.out] at HX7
  go_loopw [4, 24] (fun b i wr => ∃ (k : Nat) (v : Value), i = .int .i64 k ∧ k ≤ q ∧ Hid (wr.heap[w.heap.size + 1]? = some (.cells #[.int .i64 a0, .int .i64 a1, .int .i64 a2, .int .i64 a3, .string t, v] 57 (0, 0))) ∧ Hid (PRow wr (w.heap.size + 2) v (rdPs k r7)) ∧ Hid (RS wr R m (r7.drop k)) ∧ FrB R (w.heap.size + 1) w0 wr ∧ w.heap.size + 2 ≤ wr.heap.size) (fun _ i _ => q - (intOf i).toNat)
  case atStart => exact ⟨0, _, rfl, by omega, HX7, hide (World.ownsRow_nil _ _ _ _), HR7, f7, by omega⟩
  case round =>
    obtain ⟨k, v, rfl, hk, Hx, Hp, Hr, fr, hsz⟩ := hrel
    obtain ⟨va, vn, vc, rfl⟩ := prow_form Hp.out
    by_cases hp : k < q
    · have i1 : (k : Int) < q := by omega
      have hin := hd_in Hr.out.in
      obtain ⟨y, hy⟩ : ∃ y, hd (r7.drop k) = y := ⟨_, rfl⟩
      have HYY := hide hy
      rw [hy] at hin
      obtain ⟨y0, y1⟩ := hin
      have hLk : (r7.drop k).length ≤ 1099511627776 := by have := HL7.out; rw [List.length_drop]; omega
      have HLk := hide hLk
      clear hLk hy
      have hRW : w.heap.size + 1 ≤ wr.heap.size := by omega
      go_wp2_with (first
        | (go_at_call 56
           refine (readByte_any R m _ _ HLk.out Hr.out).mono ?_
           rintro e w1 ⟨rfl, h1, o1⟩
           rw [HYY.out]
           have hx1 := (o1.block _ hq).trans Hx.out
           have c5 : w1.cell? ⟨w.heap.size + 1, 5, none⟩ = some (.slice va vn vc) := (heapCells hx1).1 5
           have z5 := (heapCells hx1).2 5
           have hRW1 : w.heap.size + 2 ≤ w1.heap.size := by rw [o1.size]; exact hsz
           have HX1 := hide hx1
           have H1 := hide h1
           have O1 := hide o1
           have hpa : Hid (PRow (w1.alloc (.cells #[.int .i64 (y % 8), .bool (decide (8 ≤ y))] 70)) (w.heap.size + 2) (.slice va vn vc) (rdPs k r7)) := hide (PRow.on (Hp.out.of_heap fun j hj _ _ => o1.block j (by omega)) ((Below.refl _ _).alloc (Nat.le_refl _) _))
           clear h1 o1 hx1)
        | (at_builtin
           refine wp_append_prm rfl _ _ rfl (w.heap.size + 2) (.slice va vn vc) (rdPs k r7) rfl hpa.out w1.heap.size (y % 8, decide (8 ≤ y)) rfl (prm_new w1 _ _).1 (prm_new w1 _ _).2 (by rw [rdPs_len]; omega) (by simp; omega) ?_
           intro v' w2 hp2 hg2
           obtain ⟨ua, un, uc, rfl⟩ := prow_form hp2
           have X := hide (And.intro hp2 hg2)
           have hx2 := (hg2.block (w.heap.size + 1) (by simp; omega) (own_far hpa.out (by omega))).trans ((Below.heap_alloc _ _ _ (by omega)).trans HX1.out)
           have c52 : w2.cell? ⟨w.heap.size + 1, 5, none⟩ = some (.slice va vn vc) := (heapCells hx2).1 5
           have z52 := (heapCells hx2).2 5
           have HX2 := hide hx2
           clear hp2 hg2 hx2))
      obtain ⟨hp2, hg2⟩ := X.out
      have bA : Below (w.heap.size + 1) w1 (w1.alloc (.cells #[.int .i64 (y % 8), .bool (decide (8 ≤ y))] 70)) := (Below.refl _ _).alloc (by omega) _
      have bB : Below (w.heap.size + 1) w1 w2 := Below.grown bA hg2 (by simp; omega) (fun j hj => by have := (hpa.out.lt j hj).1; omega)
      have bC : Below (w.heap.size + 1) w1 (w2.setCell ⟨w.heap.size + 1, 5, none⟩ (.slice ua un uc)) := bB.setCell (p := ⟨w.heap.size + 1, 5, none⟩) (Nat.le_refl _) _
      have hs2 := bC.size
      have hR1 : RS (w2.setCell ⟨w.heap.size + 1, 5, none⟩ (.slice ua un uc)) R m (r7.drop (k + 1)) := by
        have := H1.out.below bC (by omega)
        rw [List.drop_drop] at this
        exact this
      have hP1 : PRow (w2.setCell ⟨w.heap.size + 1, 5, none⟩ (.slice ua un uc)) (w.heap.size + 2) (.slice ua un uc) (rdPs (k + 1) r7) := by
        rw [rdPs_snoc, HYY.out]
        exact ownsRow_setCell_below hp2 (a := ⟨w.heap.size + 1, 5, none⟩) (by show w.heap.size + 1 < w.heap.size + 2; omega) _
      go_roundw
      case rel => exact ⟨k + 1, _, by go_num, by omega, hide (block_set HX2.out _), hide hP1, hide hR1, (fr.trans (.of_only O1.out)).trans (.of_below bC), by omega⟩
      case measure => simp [intOf]; omega
    · have i1 : ¬ (k : Int) < q := by omega
      obtain rfl : k = q := by omega
      have hx := Hx.out
      have hy : wr.heap[w.heap.size]? = _ := (fr.block _ (by omega) (by omega)).trans HY0.out
      have p0 : wr.cell? ⟨w.heap.size + 1, 0, none⟩ = some (.int .i64 a0) := (heapCells hx).1 0
      have p1 : wr.cell? ⟨w.heap.size + 1, 1, none⟩ = some (.int .i64 a1) := (heapCells hx).1 1
      have p2 : wr.cell? ⟨w.heap.size + 1, 2, none⟩ = some (.int .i64 a2) := (heapCells hx).1 2
      have p3 : wr.cell? ⟨w.heap.size + 1, 3, none⟩ = some (.int .i64 a3) := (heapCells hx).1 3
      have p4 : wr.cell? ⟨w.heap.size + 1, 4, none⟩ = some (.string t) := (heapCells hx).1 4
      have p5 : wr.cell? ⟨w.heap.size + 1, 5, none⟩ = some (.slice va vn vc) := (heapCells hx).1 5
      have q0 : wr.cell? ⟨w.heap.size, 0, none⟩ = some (.int .i64 0) := (heapCells hy).1 0
      have s0 := (heapCells hy).2 0
      have q1 : wr.cell? ⟨w.heap.size, 1, none⟩ = some (.int .i64 0) := (heapCells hy).1 1
      have s1 := (heapCells hy).2 1
      have q2 : wr.cell? ⟨w.heap.size, 2, none⟩ = some (.int .i64 0) := (heapCells hy).1 2
      have s2 := (heapCells hy).2 2
      have q3 : wr.cell? ⟨w.heap.size, 3, none⟩ = some (.int .i64 0) := (heapCells hy).1 3
      have s3 := (heapCells hy).2 3
      have q4 : wr.cell? ⟨w.heap.size, 4, none⟩ = some (.string ⟨#[]⟩) := (heapCells hy).1 4
      have s4 := (heapCells hy).2 4
      have q5 : wr.cell? ⟨w.heap.size, 5, none⟩ = some (.slice none 0 0) := (heapCells hy).1 5
      have s5 := (heapCells hy).2 5
      clear hx hy
      go_wp2
      refine bodyPost_ret (v := .agg #[.int .i64 a0, .int .i64 a1, .int .i64 a2, .int .i64 a3, .string t, .slice va vn vc]) (by simp [results, Tryd.results57, go_sem, q0, q1, q2, q3, q4, q5]) rfl ?_
      have oz := Only.trans (Only.trans (Only.trans (Only.trans (Only.trans (Only.set w.heap.size 0 wr (.int .i64 a0)) (Only.set w.heap.size 1 _ (.int .i64 a1))) (Only.set w.heap.size 2 _ (.int .i64 a2))) (Only.set w.heap.size 3 _ (.int .i64 a3))) (Only.set w.heap.size 4 _ (.string t))) (Only.set w.heap.size 5 _ (.slice va vn vc))
      have bz := oz.below (Nat.le_refl _)
      have e1 := E1.out
      have e2 : r2 = r.drop 2 := by rw [E2.out, e1, List.drop_drop]
      have e3 : r3 = r.drop 3 := by rw [E3.out, e2, List.drop_drop]
      have e4 : r4 = r.drop 11 := by rw [E4.out, e3, List.drop_drop]
      have e5 : r5 = r.drop 12 := by rw [E5.out, e4, List.drop_drop]
      have e6 : r6 = r.drop (12 + n) := by rw [E6.out, e5, List.drop_drop]
      have e7 : r7 = r.drop (13 + n) := by rw [E7.out, e6, List.drop_drop]; congr 1; omega
      have hN : nmL r = n := by unfold nmL; rw [← e4, HN.out]; rfl
      have hP : prL r = k := by unfold prL; rw [hN, ← e6, HQ.out]; rfl
      have hI : rdIt r = ⟨a0, a1, a2, a3, t, rdPs k r7⟩ := by
        unfold rdIt
        rw [hN, hP, ← e7, ← e5, ← e3, ← e2, ← e1, ← ht.out, ← A0.out, ← A1.out, ← A2.out, ← A3.out]
      refine ⟨⟨.slice va vn vc, by rw [hI], ?_⟩, ?_, ?_⟩
      · rw [hI]
        exact (Hp.out.of_heap fun j hj _ _ => oz.block j (by omega)).le (by omega)
      · have := Hr.out.below bz hRw
        rw [e7, List.drop_drop] at this
        rw [show itL r = 13 + n + k from by unfold itL; rw [hN, hP]]
        exact this
      · have F := F00.out.trans (FrB.trans ⟨fr.os, fr.tape, fr.output, fr.size, fun j hj hr => fr.block j (by omega) hr⟩ (FrB.of_below bz))
        exact ⟨F.os, F.tape, F.output, F.size, F.block⟩
end Go.Proofs.YtoomnimbokbadaaDoor
