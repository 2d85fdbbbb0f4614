/- Reading bytes: frames round a reader's block, rows of bytes held against each other, the ways of reading over plain data. No condition. -/
import Derived.Test.YtpaljmhoojpbdaaDoorZBytA
import Derived.Test.YtpaljmhoojpbdaaDoorZReader
import Derived.Test.YtpaljmhoojpbdaaDoorZObjD
import Derived.Laws.BitsLemmas
import Derived.Deep.AppendLies
import Derived.Deep.RegionLaw
import Derived.Laws.Closers25b
namespace Go.Proofs.YtpaljmhoojpbdaaDoor
open Go.ChangeShapes Go.WideShapes Go.ChangeAt Go.RowKit Go.Deep

/-- But for the reader's block all that was there is as it was. -/
structure Fr (R : Nat) (w w' : World) : Prop where
  os : w'.os = w.os
  tape : w'.tape = w.tape
  output : w'.output = w.output
  size : w.heap.size ≤ w'.heap.size
  block : ∀ k, k < w.heap.size → k ≠ R → w'.heap[k]? = w.heap[k]?
theorem Fr.refl (R : Nat) (w : World) : Fr R w w := ⟨rfl, rfl, rfl, Nat.le_refl _, fun _ _ _ => rfl⟩
theorem Fr.trans {R : Nat} {a b c : World} (h : Fr R a b) (k : Fr R b c) : Fr R a c := ⟨k.os.trans h.os, k.tape.trans h.tape, k.output.trans h.output, Nat.le_trans h.size k.size, fun i hi hr => (k.block i (Nat.lt_of_lt_of_le hi h.size) hr).trans (h.block i hi hr)⟩
theorem Fr.of_only {R : Nat} {w w' : World} (h : Only R w w') : Fr R w w' := ⟨h.os, h.tape, h.output, by rw [h.size]; exact Nat.le_refl _, fun k _ hk => h.block k hk⟩
theorem Fr.of_below {R : Nat} {w w' : World} (h : Below w.heap.size w w') : Fr R w w' := ⟨h.os, h.tape, h.output, h.size, fun k hk _ => h.block k hk⟩
/-- Above 'B' whatever may turn, and the reader's block. -/
structure FrB (R B : Nat) (w w' : World) : Prop where
  os : w'.os = w.os
  tape : w'.tape = w.tape
  output : w'.output = w.output
  size : w.heap.size ≤ w'.heap.size
  block : ∀ k, k < B → k ≠ R → w'.heap[k]? = w.heap[k]?
theorem FrB.refl (R B : Nat) (w : World) : FrB R B w w := ⟨rfl, rfl, rfl, Nat.le_refl _, fun _ _ _ => rfl⟩
theorem FrB.trans {R B : Nat} {a b c : World} (h : FrB R B a b) (k : FrB R B b c) : FrB R B a c := ⟨k.os.trans h.os, k.tape.trans h.tape, k.output.trans h.output, Nat.le_trans h.size k.size, fun i hi hr => (k.block i hi hr).trans (h.block i hi hr)⟩
theorem FrB.of_only {R B : Nat} {w w' : World} (h : Only R w w') : FrB R B w w' := ⟨h.os, h.tape, h.output, by rw [h.size]; exact Nat.le_refl _, fun k _ hk => h.block k hk⟩
theorem FrB.of_below {R B : Nat} {w w' : World} (h : Below B w w') : FrB R B w w' := ⟨h.os, h.tape, h.output, h.size, fun k hk _ => h.block k hk⟩
theorem FrB.fr {R : Nat} {w w' : World} (h : FrB R w.heap.size w w') : Fr R w w' := ⟨h.os, h.tape, h.output, h.size, h.block⟩
theorem Fr.frB {R B : Nat} {w w' : World} (h : Fr R w w') (hB : B ≤ w.heap.size) : FrB R B w w' := ⟨h.os, h.tape, h.output, h.size, fun k hk => h.block k (by omega)⟩
/-- The reader goes on where its bytes and its own block have not turned. -/
theorem RS.same {w w' : World} {R : Nat} {m : Md} {r : List Int} (h : RS w R m r) (s : Same m.lo m.hi w w') (hR : w'.heap[R]? = w.heap[R]?) : RS w' R m r := by
  obtain ⟨v, h0, h1, h2, h3, h4⟩ := h
  exact ⟨v, h0, (World.cell?_of_block (w := w) (a := ⟨R, 0, none⟩) hR).trans h1, (World.frozen?_of_block (w := w) (a := ⟨R, 0, none⟩) hR).trans h2, h3.same BAt.stays s, h4⟩
theorem RS.below {w w' : World} {R B : Nat} {m : Md} {r : List Int} (h : RS w R m r) (bel : Below B w w') (hR : R < B) : RS w' R m r := h.same (.of_below bel (by obtain ⟨_, _, _, _, _, h4⟩ := h; omega)) (bel.block R hR)
theorem owns_heap {w w' : World} {B : Nat} {e : TypeId} {sz n : Nat} {v : Value} {xs : List Value} (h : w.ownsRow B e sz v n xs) (hk : ∀ k, B ≤ k → k < w.heap.size → w'.heap[k]? = w.heap[k]?) : w'.ownsRow B e sz v n xs := by
  refine ⟨h.1, ?_⟩
  rcases h.2 with h2 | ⟨g, cap, cur, e, hb, hg, r⟩
  · exact .inl h2
  · exact .inr ⟨g, cap, cur, e, hb, (hk g hb (Array.getElem?_eq_some_iff.1 hg).1).trans hg, r⟩
theorem hd_i64 {r : List Int} (h : ∀ y ∈ r, 0 ≤ y ∧ y ≤ 255) : I64 (hd r) := by have := hd_in h; unfold I64; omega
theorem drop_in {r : List Int} (h : ∀ y ∈ r, 0 ≤ y ∧ y ≤ 255) (k : Nat) : ∀ y ∈ r.drop k, 0 ≤ y ∧ y ≤ 255 := fun y hy => h y (List.mem_of_mem_drop hy)
theorem accN_i64 : ∀ (k : Nat) (n : Int) (r : List Int), I64 n → I64 (accN n r k)
  | 0, _, _, h => h
  | k + 1, _, _, _ => accN_i64 k _ _ (bits_within .or .i64 _ _)
theorem bs_size (l : List Int) : (bs l).size = l.length := by
  show (l.map _).toArray.size = _
  simp
theorem Own.slat {w : World} {B : Nat} {v : Value} {l : List Int} (h : Own w B v l) (hn : ∀ y ∈ l, 0 ≤ y ∧ y ≤ 255) : SlAt BAt 1 w ⟨B, w.heap.size, false⟩ v l := by
  by_cases hl : l.length = 0
  · obtain rfl := List.length_eq_zero_iff.1 hl
    rcases h.2 with ⟨e, -⟩ | ⟨g, cap, cur, e, -⟩
    · subst e; exact SlAt.nil
    · subst e; exact SlAt.nil
  · obtain ⟨g, cap, rfl, hg1, hg2⟩ := World.ownsRow.form h (by omega)
    have hc := World.ownsRow.cells (g := g) h rfl
    have hcap : l.length ≤ cap := by
      rcases h.2 with ⟨e, -⟩ | ⟨g', cap', cur, e, -, -, hcap, -⟩
      · cases e
      · cases e; exact hcap
    refine ⟨_, cap, rfl, fun i hi => ⟨g, 0, rfl, ⟨hg1, hcap⟩, hg2, (fun e => by cases e), ?_⟩⟩
    have c0 := hc i (.int .u8 l[i]) (by unfold bc; simp [hi])
    rw [add_plain] at c0
    exact ⟨by simpa using c0, hn _ (List.getElem_mem _)⟩
theorem u8_toNat {y : Int} (h : 0 ≤ y ∧ y ≤ 255) : ((UInt8.ofNat y.toNat).toNat : Int) = y := by
  have : (UInt8.ofNat y.toNat).toNat = y.toNat := by
    rw [UInt8.toNat_ofNat']
    exact Nat.mod_eq_of_lt (by omega)
  rw [this]
  omega
theorem bs_back {l : List Int} (h : ∀ y ∈ l, 0 ≤ y ∧ y ≤ 255) : (bs l).data.toList.map (fun b => (b.toNat : Int)) = l := by
  unfold bs
  simp only [List.map_map]
  refine (List.map_congr_left fun y hy => ?_).trans (List.map_id _)
  exact u8_toNat (h y hy)
theorem bs_inj {l r : List Int} (hl : ∀ y ∈ l, 0 ≤ y ∧ y ≤ 255) (hr : ∀ y ∈ r, 0 ≤ y ∧ y ≤ 255) : bs l = bs r ↔ l = r := by
  constructor
  · intro h
    rw [← bs_back hl, h, bs_back hr]
  · intro h; rw [h]
theorem toList_beq (s t : ByteArray) : (s.toList == t.toList) = decide (s = t) := by
  have e : s.toList = t.toList ↔ s = t := by
    rw [ByteArray.toList_eq, ByteArray.toList_eq]
    constructor
    · intro h
      have := congrArg List.toArray h
      cases s; cases t
      simpa using this
    · intro h; rw [h]
  by_cases h : s = t
  · rw [decide_eq_true h, h]; simp
  · rw [decide_eq_false h]
    have : s.toList ≠ t.toList := fun k => h (e.1 k)
    simp [this]
theorem bytesEqual_any (w : World) (g1 o1 n1 c1 g2 o2 n2 c2 : Nat) (s t : ByteArray) (h1 : (convert 88 9 (.slice (some ⟨g1, o1, none⟩) n1 c1)).run Tryd.prog w = .ok (.string s) w)
    (h2 : (convert 88 9 (.slice (some ⟨g2, o2, none⟩) n2 c2)).run Tryd.prog w = .ok (.string t) w) :
    Calls Tryd.prog 102 #[.slice (some ⟨g1, o1, none⟩) n1 c1, .slice (some ⟨g2, o2, none⟩) n2 c2] w fun e w' => e = .returned (.bool (decide (s = t))) ∧ w = w' := by
  rw [← toList_beq]
  go_enter Tryd.func102, Tryd.ntmps102
  go_wp2
  go_ret
  exact ⟨rfl, rfl⟩
/-- What is left, or nothing at a fault. -/
abbrev Rs := Option (List Int)
def Sim {α : Type} (f : List Int → Option (α × List Int)) (s s' : Rs) (y : α) : Prop := s.bind f = s'.map fun t => (y, t)
def andT {α β : Type} (f : List Int → Option (α × List Int)) (g : α → List Int → Option (β × List Int)) : List Int → Option (β × List Int) := fun r => (f r).bind fun p => g p.1 p.2
theorem Sim.and {α β : Type} {f : List Int → Option (α × List Int)} {g : α → List Int → Option (β × List Int)} {s s' s'' : Rs} {y : α} {z : β} (h : Sim f s s' y) (k : Sim (g y) s' s'' z) : Sim (andT f g) s s'' z := by
  unfold Sim at *
  have e : s.bind (andT f g) = (s.bind f).bind fun p => g p.1 p.2 := by cases s <;> rfl
  rw [e, h, ← k]
  cases s' <;> rfl
theorem Sim.stay {α : Type} (s : Rs) (y : α) : Sim (fun t => some (y, t)) s s y := by unfold Sim; cases s <;> rfl
theorem Sim.lost {α : Type} (f : List Int → Option (α × List Int)) (y : α) : Sim f none none y := rfl
def rOne : List Int → Option (Int × List Int)
  | [] => none
  | y :: t => some (y, t)
def rNum : Nat → List Int → Option (Int × List Int)
  | 0 => fun t => some (0, t)
  | k + 1 => andT (rNum k) fun n => andT rOne fun y t => some (bits .or .i64 (wrap64 (n * 256)) y, t)
def rCut (n : Int) (t : List Int) : Option (ByteArray × List Int) := if n.toNat ≤ t.length then some (bs (t.take n.toNat), t.drop n.toNat) else none
def rTxt : List Int → Option (ByteArray × List Int) := andT rOne rCut
theorem andT_none {α β : Type} {f : List Int → Option (α × List Int)} {g : α → List Int → Option (β × List Int)} {r : List Int} (h : f r = none) : andT f g r = none := by unfold andT; rw [h]; rfl
theorem andT_some {α β : Type} {f : List Int → Option (α × List Int)} {g : α → List Int → Option (β × List Int)} {r t : List Int} {y : α} (h : f r = some (y, t)) : andT f g r = g y t := by unfold andT; rw [h]; rfl
theorem of_andT {α β : Type} {f : List Int → Option (α × List Int)} {g : α → List Int → Option (β × List Int)} {r : List Int} {q : β × List Int} (h : andT f g r = some q) : ∃ y t, f r = some (y, t) ∧ g y t = some q := by
  cases e : f r with
  | none => rw [andT_none e] at h; cases h
  | some p => exact ⟨p.1, p.2, rfl, by rw [← h]; exact (andT_some (y := p.1) (t := p.2) e).symm⟩
-- what is read is what the program reads
theorem one_rd {r t : List Int} {y : Int} (h : rOne r = some (y, t)) : y = hd r ∧ t = r.drop 1 := by
  match r, h with
  | x :: r, h => cases h; exact ⟨rfl, rfl⟩
theorem accN_snoc : ∀ (k : Nat) (n : Int) (r : List Int), accN n r (k + 1) = bits .or .i64 (wrap64 (accN n r k * 256)) (hd (r.drop k))
  | 0, _, _ => rfl
  | k + 1, n, r => by
    have := accN_snoc k (bits .or .i64 (wrap64 (n * 256)) (hd r)) (r.drop 1)
    rw [List.drop_drop, Nat.add_comm 1 k] at this
    rw [accN, this]
    rfl
theorem num_rd : ∀ (k : Nat) {r t : List Int} {n : Int}, rNum k r = some (n, t) → n = accN 0 r k ∧ t = r.drop k
  | 0, _, _, _, h => by cases h; exact ⟨rfl, rfl⟩
  | k + 1, r, t, n, h => by
    obtain ⟨n1, t1, h1, h⟩ := of_andT h
    obtain ⟨y, t2, h2, h⟩ := of_andT h
    obtain ⟨rfl, rfl⟩ := num_rd k h1
    obtain ⟨rfl, rfl⟩ := one_rd h2
    cases h
    exact ⟨(accN_snoc k 0 r).symm, by rw [List.drop_drop]⟩
theorem txt_rd {r t : List Int} {s : ByteArray} (h : rTxt r = some (s, t)) : s = bs ((r.drop 1).take (hd r).toNat) ∧ t = r.drop (1 + (hd r).toNat) := by
  obtain ⟨y, t1, h1, h⟩ := of_andT h
  obtain ⟨rfl, rfl⟩ := one_rd h1
  unfold rCut at h
  split at h
  · cases h
    exact ⟨rfl, by rw [List.drop_drop]⟩
  · cases h
-- what is written is read back
theorem or_i64 {a b : Int} (h : a % 256 = 0) (a0 : -9223372036854775808 ≤ a) (a1 : a ≤ 9223372036854775807) (b0 : 0 ≤ b) (b1 : b ≤ 255) : bits .or .i64 a b = a + b := by
  have ea : (BitVec.ofInt 64 a).toNat = (a % 18446744073709551616).toNat := by simp [BitVec.toNat_ofInt]
  have eb : (BitVec.ofInt 64 b).toNat = b.toNat := by simp [BitVec.toNat_ofInt]; omega
  obtain ⟨A, hA⟩ : ∃ A : Nat, (a % 18446744073709551616).toNat = A := ⟨_, rfl⟩
  have hd : A = 2 ^ 8 * (A / 2 ^ 8) := by omega
  have hb : b.toNat < 2 ^ 8 := by omega
  have e : (BitVec.ofInt 64 a ||| BitVec.ofInt 64 b).toNat = A + b.toNat := by
    rw [BitVec.toNat_or, ea, eb, hA, hd, ← Nat.two_pow_add_eq_or_of_lt hb (A / 2 ^ 8)]
  show IntKind.i64.wrap ((BitVec.ofInt 64 a ||| BitVec.ofInt 64 b).toNat : Int) = a + b
  rw [e, IntKind.wrap_i64]
  omega
theorem one_back (y : Int) (t : List Int) : rOne (y :: t) = some (y, t) := rfl
theorem num_back (n : Int) (h : I64 n) (t : List Int) : rNum 8 (numB n ++ t) = some (n, t) := by
  unfold I64 at h
  obtain ⟨h0, h1⟩ := h
  have s1 : ∀ (k : Nat) (c b : Int) (r t : List Int), rNum k r = some (c, b :: t) → 0 ≤ c → c < 72057594037927936 → 0 ≤ b → b ≤ 255 → rNum (k + 1) r = some (wrap64 (c * 256) + b, t) := by
    intro k c b r t hk c0 c1 b0 b1
    have e : rNum (k + 1) r = some (bits .or .i64 (wrap64 (c * 256)) b, t) := by
      rw [rNum, andT_some hk, andT_some (one_back b t)]
    rw [e, or_i64 (by unfold wrap64; omega) (by unfold wrap64; omega) (by unfold wrap64; omega) b0 b1]
  have s2 : ∀ (k : Nat) (c b d : Int) (r t : List Int), rNum k r = some (c, b :: t) → 0 ≤ c → c < 281474976710656 → 0 ≤ b → b ≤ 255 → c * 256 + b = d → rNum (k + 1) r = some (d, t) := by
    intro k c b d r t hk c0 c1 b0 b1 e
    rw [s1 k c b r t hk c0 (by omega) b0 b1, ← e]
    congr 2
    unfold wrap64
    omega
  have r0 : rNum 0 (numB n ++ t) = some (0, numB n ++ t) := rfl
  have r1 := s2 0 0 _ (n / 72057594037927936 % 256) _ _ r0 (by omega) (by omega) (by omega) (by omega) (by omega)
  have r2 := s2 1 _ _ (n / 281474976710656 % 65536) _ _ r1 (by omega) (by omega) (by omega) (by omega) (by omega)
  have r3 := s2 2 _ _ (n / 1099511627776 % 16777216) _ _ r2 (by omega) (by omega) (by omega) (by omega) (by omega)
  have r4 := s2 3 _ _ (n / 4294967296 % 4294967296) _ _ r3 (by omega) (by omega) (by omega) (by omega) (by omega)
  have r5 := s2 4 _ _ (n / 16777216 % 1099511627776) _ _ r4 (by omega) (by omega) (by omega) (by omega) (by omega)
  have r6 := s2 5 _ _ (n / 65536 % 281474976710656) _ _ r5 (by omega) (by omega) (by omega) (by omega) (by omega)
  have r7 := s2 6 _ _ (n / 256 % 72057594037927936) _ _ r6 (by omega) (by omega) (by omega) (by omega) (by omega)
  have r8 := s1 7 _ _ _ _ r7 (by omega) (by omega) (by omega) (by omega)
  rw [r8]
  congr 2
  unfold wrap64
  omega
theorem sb_take (s : ByteArray) (t : List Int) : (sb s ++ t).take s.size = sb s := by rw [← sb_len]; simp
theorem sb_drop (s : ByteArray) (t : List Int) : (sb s ++ t).drop s.size = t := by rw [← sb_len]; simp
theorem bs_sb (s : ByteArray) : bs (sb s) = s := by
  unfold bs sb
  have : (s.data.toList.map fun b => (b.toNat : Int)).map (fun n => UInt8.ofNat n.toNat) = s.data.toList := by
    rw [List.map_map]
    conv => rhs; rw [← List.map_id s.data.toList]
    refine List.map_congr_left fun b _ => ?_
    simp
  rw [this]
theorem txt_back (s : ByteArray) (h : s.size ≤ 255) (t : List Int) : rTxt (txtB s ++ t) = some (s, t) := by
  have e : txtB s ++ t = (s.size : Int) :: (sb s ++ t) := by
    unfold txtB
    rw [Int.emod_eq_of_lt (by omega) (by omega)]
    rfl
  rw [e]
  unfold rTxt
  rw [andT_some (one_back _ _)]
  unfold rCut
  have e2 : ((s.size : Int)).toNat = s.size := by omega
  rw [e2, if_pos (by rw [List.length_append, sb_len]; omega), sb_take, sb_drop, bs_sb]
-- what is read, written again
theorem one_wb {r t : List Int} {y : Int} (h : rOne r = some (y, t)) : r = y :: t := by
  match r, h with
  | x :: r, h => cases h; rfl
theorem num_step {k : Nat} {r t : List Int} {n : Int} (h : rNum (k + 1) r = some (n, t)) : ∃ c b, rNum k r = some (c, b :: t) ∧ n = bits .or .i64 (wrap64 (c * 256)) b := by
  rw [rNum] at h
  obtain ⟨c, t1, h1, h⟩ := of_andT h
  obtain ⟨b, t2, h2, h⟩ := of_andT h
  cases h
  exact ⟨c, b, by rw [h1, one_wb h2], rfl⟩
theorem num_wb {r t : List Int} {n : Int} (hr : ∀ y ∈ r, 0 ≤ y ∧ y ≤ 255) (h : rNum 8 r = some (n, t)) : r = numB n ++ t := by
  obtain ⟨c7, b7, h7, e7⟩ := num_step h
  obtain ⟨c6, b6, h6, e6⟩ := num_step h7
  obtain ⟨c5, b5, h5, e5⟩ := num_step h6
  obtain ⟨c4, b4, h4, e4⟩ := num_step h5
  obtain ⟨c3, b3, h3, e3⟩ := num_step h4
  obtain ⟨c2, b2, h2, e2⟩ := num_step h3
  obtain ⟨c1, b1, h1, e1⟩ := num_step h2
  obtain ⟨c0, b0, h0, e0⟩ := num_step h1
  rw [rNum] at h0
  cases h0
  have q0 := hr b0 (by simp)
  have q1 := hr b1 (by simp)
  have q2 := hr b2 (by simp)
  have q3 := hr b3 (by simp)
  have q4 := hr b4 (by simp)
  have q5 := hr b5 (by simp)
  have q6 := hr b6 (by simp)
  have q7 := hr b7 (by simp)
  have st : ∀ (c b : Int), 0 ≤ c → c < 281474976710656 → 0 ≤ b → b ≤ 255 → bits .or .i64 (wrap64 (c * 256)) b = c * 256 + b := by
    intro c b c0 c1 b0 b1
    rw [or_i64 (by unfold wrap64; omega) (by unfold wrap64; omega) (by unfold wrap64; omega) b0 b1]
    unfold wrap64
    omega
  rw [st 0 b0 (by omega) (by omega) q0.1 q0.2] at e0
  rw [st c1 b1 (by omega) (by omega) q1.1 q1.2] at e1
  rw [st c2 b2 (by omega) (by omega) q2.1 q2.2] at e2
  rw [st c3 b3 (by omega) (by omega) q3.1 q3.2] at e3
  rw [st c4 b4 (by omega) (by omega) q4.1 q4.2] at e4
  rw [st c5 b5 (by omega) (by omega) q5.1 q5.2] at e5
  rw [st c6 b6 (by omega) (by omega) q6.1 q6.2] at e6
  rw [or_i64 (by unfold wrap64; omega) (by unfold wrap64; omega) (by unfold wrap64; omega) q7.1 q7.2] at e7
  have w7 : wrap64 (c7 * 256) = (c7 * 256 + 9223372036854775808) % 18446744073709551616 - 9223372036854775808 := by unfold wrap64; omega
  rw [w7] at e7
  unfold numB
  simp only [List.cons_append, List.nil_append]
  congr 1
  · omega
  congr 1
  · omega
  congr 1
  · omega
  congr 1
  · omega
  congr 1
  · omega
  congr 1
  · omega
  congr 1
  · omega
  congr 1
  omega
theorem txt_wb {r t : List Int} {s : ByteArray} (hr : ∀ y ∈ r, 0 ≤ y ∧ y ≤ 255) (h : rTxt r = some (s, t)) : r = txtB s ++ t ∧ s.size ≤ 255 := by
  obtain ⟨y, t1, h1, h9⟩ := of_andT h
  clear h
  have e := one_wb h1
  subst e
  have q := hr y (by simp)
  unfold rCut at h9
  split at h9
  · rename_i hle
    cases h9
    have hs : (bs (t1.take y.toNat)).size = y.toNat := by rw [bs_size, List.length_take]; omega
    refine ⟨?_, by omega⟩
    unfold txtB
    have e1 : sb (bs (t1.take y.toNat)) = t1.take y.toNat := bs_back fun z hz => hr z (List.mem_cons_of_mem _ (List.mem_of_mem_take hz))
    rw [hs, e1, List.cons_append, List.take_append_drop]
    congr 1
    omega
  · cases h9
end Go.Proofs.YtpaljmhoojpbdaaDoor
