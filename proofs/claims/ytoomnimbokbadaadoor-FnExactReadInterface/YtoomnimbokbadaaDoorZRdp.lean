/- The model's reading of bytes, over plain data: what is written is read back, and what is read is what the program reads. No condition. -/
import Derived.Test.YtoomnimbokbadaaDoorZRdMain
import Derived.Laws.BitsLemmas
namespace Go.Proofs.YtoomnimbokbadaaDoor
open Go.RowKit

/-- What is left, or nothing at a fault. -/
abbrev Rs := Option (List Int)
def Sim {α : Type} (f : List Int → Option (α × List Int)) (s s' : Rs) (y : α) : Prop := s.bind f = s'.map fun t => (y, t)
def andT {α β : Type} (f : List Int → Option (α × List Int)) (g : α → List Int → Option (β × List Int)) : List Int → Option (β × List Int) := fun r => (f r).bind fun p => g p.1 p.2
theorem Sim.and {α β : Type} {f : List Int → Option (α × List Int)} {g : α → List Int → Option (β × List Int)} {s s' s'' : Rs} {y : α} {z : β} (h : Sim f s s' y) (k : Sim (g y) s' s'' z) : Sim (andT f g) s s'' z := by
  unfold Sim at *
  have e : s.bind (andT f g) = (s.bind f).bind fun p => g p.1 p.2 := by cases s <;> rfl
  rw [e, h, ← k]
  cases s' <;> rfl
theorem Sim.stay {α : Type} (s : Rs) (y : α) : Sim (fun t => some (y, t)) s s y := by unfold Sim; cases s <;> rfl
theorem Sim.lost {α : Type} (f : List Int → Option (α × List Int)) (y : α) : Sim f none none y := rfl
def rOne : List Int → Option (Int × List Int)
  | [] => none
  | y :: t => some (y, t)
def rNum : Nat → List Int → Option (Int × List Int)
  | 0 => fun t => some (0, t)
  | k + 1 => andT (rNum k) fun n => andT rOne fun y t => some (bits .or .i64 (wrap64 (n * 256)) y, t)
def rCut (n : Int) (t : List Int) : Option (ByteArray × List Int) := if n.toNat ≤ t.length then some (bs (t.take n.toNat), t.drop n.toNat) else none
def rTxt : List Int → Option (ByteArray × List Int) := andT rOne rCut
def rPrs : Nat → List Int → Option (List Prm × List Int)
  | 0 => fun t => some ([], t)
  | k + 1 => andT (rPrs k) fun l => andT rOne fun y t => some (l ++ [(y % 8, decide (8 ≤ y))], t)
def rItm : List Int → Option (Itm × List Int) :=
  andT rOne fun a => andT rOne fun b => andT rOne fun c => andT (rNum 8) fun d => andT rTxt fun e => andT rOne fun m => andT (rPrs m.toNat) fun ps t => some (⟨a, b, c, d, e, ps⟩, t)
def rIts : Nat → List Int → Option (List Itm × List Int)
  | 0 => fun t => some ([], t)
  | k + 1 => andT (rIts k) fun l => andT rItm fun y t => some (l ++ [y], t)
def rFac : List Int → Option (Fac × List Int) := andT rTxt fun md => andT rOne fun n => andT (rIts n.toNat) fun l t => some (⟨md, l⟩, t)
theorem andT_none {α β : Type} {f : List Int → Option (α × List Int)} {g : α → List Int → Option (β × List Int)} {r : List Int} (h : f r = none) : andT f g r = none := by unfold andT; rw [h]; rfl
theorem andT_some {α β : Type} {f : List Int → Option (α × List Int)} {g : α → List Int → Option (β × List Int)} {r t : List Int} {y : α} (h : f r = some (y, t)) : andT f g r = g y t := by unfold andT; rw [h]; rfl
theorem of_andT {α β : Type} {f : List Int → Option (α × List Int)} {g : α → List Int → Option (β × List Int)} {r : List Int} {q : β × List Int} (h : andT f g r = some q) : ∃ y t, f r = some (y, t) ∧ g y t = some q := by
  cases e : f r with
  | none => rw [andT_none e] at h; cases h
  | some p => exact ⟨p.1, p.2, rfl, by rw [← h]; exact (andT_some (y := p.1) (t := p.2) e).symm⟩
theorem Sim.prs_end {k : Nat} {s : Rs} {l : List Prm} (h : Sim (rPrs k) s none l) (d : Nat) (z : List Prm) : Sim (rPrs (k + d)) s none z := by
  induction d with
  | zero => exact h
  | succ d ih =>
    unfold Sim at *
    cases s with
    | none => rfl
    | some r =>
      have ih' : rPrs (k + d) r = Option.none := ih
      show rPrs (k + d + 1) r = Option.none
      rw [rPrs]
      exact andT_none ih'
theorem Sim.its_end {k : Nat} {s : Rs} {l : List Itm} (h : Sim (rIts k) s none l) (d : Nat) (z : List Itm) : Sim (rIts (k + d)) s none z := by
  induction d with
  | zero => exact h
  | succ d ih =>
    unfold Sim at *
    cases s with
    | none => rfl
    | some r =>
      have ih' : rIts (k + d) r = Option.none := ih
      show rIts (k + d + 1) r = Option.none
      rw [rIts]
      exact andT_none ih'
-- what is read is what the program reads
theorem one_rd {r t : List Int} {y : Int} (h : rOne r = some (y, t)) : y = hd r ∧ t = r.drop 1 := by
  match r, h with
  | x :: r, h => cases h; exact ⟨rfl, rfl⟩
theorem accN_snoc : ∀ (k : Nat) (n : Int) (r : List Int), accN n r (k + 1) = bits .or .i64 (wrap64 (accN n r k * 256)) (hd (r.drop k))
  | 0, _, _ => rfl
  | k + 1, n, r => by
    have := accN_snoc k (bits .or .i64 (wrap64 (n * 256)) (hd r)) (r.drop 1)
    rw [List.drop_drop, Nat.add_comm 1 k] at this
    rw [accN, this]
    rfl
theorem num_rd : ∀ (k : Nat) {r t : List Int} {n : Int}, rNum k r = some (n, t) → n = accN 0 r k ∧ t = r.drop k
  | 0, _, _, _, h => by cases h; exact ⟨rfl, rfl⟩
  | k + 1, r, t, n, h => by
    obtain ⟨n1, t1, h1, h⟩ := of_andT h
    obtain ⟨y, t2, h2, h⟩ := of_andT h
    obtain ⟨rfl, rfl⟩ := num_rd k h1
    obtain ⟨rfl, rfl⟩ := one_rd h2
    cases h
    exact ⟨(accN_snoc k 0 r).symm, by rw [List.drop_drop]⟩
theorem txt_rd {r t : List Int} {s : ByteArray} (h : rTxt r = some (s, t)) : s = bs ((r.drop 1).take (hd r).toNat) ∧ t = r.drop (1 + (hd r).toNat) := by
  obtain ⟨y, t1, h1, h⟩ := of_andT h
  obtain ⟨rfl, rfl⟩ := one_rd h1
  unfold rCut at h
  split at h
  · cases h
    exact ⟨rfl, by rw [List.drop_drop]⟩
  · cases h
theorem prs_rd : ∀ (k : Nat) {r t : List Int} {l : List Prm}, rPrs k r = some (l, t) → l = rdPs k r ∧ t = r.drop k
  | 0, _, _, _, h => by cases h; exact ⟨rfl, rfl⟩
  | k + 1, r, t, l, h => by
    obtain ⟨l1, t1, h1, h⟩ := of_andT h
    obtain ⟨y, t2, h2, h⟩ := of_andT h
    obtain ⟨rfl, rfl⟩ := prs_rd k h1
    obtain ⟨rfl, rfl⟩ := one_rd h2
    cases h
    exact ⟨(rdPs_snoc k r).symm, by rw [List.drop_drop]⟩
theorem itm_rd {r t : List Int} {x : Itm} (h : rItm r = some (x, t)) : x = rdIt r ∧ t = r.drop (itL r) := by
  obtain ⟨a, t1, h1, h⟩ := of_andT h
  obtain ⟨b, t2, h2, h⟩ := of_andT h
  obtain ⟨c, t3, h3, h⟩ := of_andT h
  obtain ⟨d, t4, h4, h⟩ := of_andT h
  obtain ⟨e, t5, h5, h⟩ := of_andT h
  obtain ⟨m, t6, h6, h⟩ := of_andT h
  obtain ⟨ps, t7, h7, h⟩ := of_andT h
  obtain ⟨rfl, rfl⟩ := one_rd h1
  obtain ⟨rfl, rfl⟩ := one_rd h2
  obtain ⟨rfl, rfl⟩ := one_rd h3
  obtain ⟨rfl, rfl⟩ := num_rd 8 h4
  obtain ⟨rfl, rfl⟩ := txt_rd h5
  obtain ⟨rfl, rfl⟩ := one_rd h6
  obtain ⟨rfl, rfl⟩ := prs_rd _ h7
  cases h
  simp only [List.drop_drop]
  refine ⟨?_, ?_⟩
  · unfold rdIt prL nmL
    have e1 : ∀ k, 11 + (1 + k) = 12 + k := fun k => by omega
    have e2 : ∀ k, 12 + k + 1 = 13 + k := fun k => by omega
    simp only [Nat.reduceAdd, e1, e2]
  · unfold itL prL nmL
    have e1 : ∀ k, 11 + (1 + k) = 12 + k := fun k => by omega
    simp only [Nat.reduceAdd, e1]
    congr 1
    omega
theorem its_rd : ∀ (k : Nat) {r t : List Int} {l : List Itm}, rIts k r = some (l, t) → l = rdIts k r ∧ t = rdRest k r
  | 0, _, _, _, h => by cases h; exact ⟨rfl, rfl⟩
  | k + 1, r, t, l, h => by
    obtain ⟨l1, t1, h1, h⟩ := of_andT h
    obtain ⟨y, t2, h2, h⟩ := of_andT h
    obtain ⟨rfl, rfl⟩ := its_rd k h1
    obtain ⟨rfl, rfl⟩ := itm_rd h2
    cases h
    exact ⟨(rdIts_snoc k r).symm, (rdRest_snoc k r).symm⟩
theorem fac_rd {l t : List Int} {x : Fac} (h : rFac (l.drop 3) = some (x, t)) : x = rdFac l := by
  obtain ⟨md, t1, h1, h⟩ := of_andT h
  obtain ⟨n, t2, h2, h⟩ := of_andT h
  obtain ⟨its, t3, h3, h⟩ := of_andT h
  obtain ⟨rfl, rfl⟩ := txt_rd h1
  obtain ⟨rfl, rfl⟩ := one_rd h2
  obtain ⟨rfl, rfl⟩ := its_rd _ h3
  cases h
  unfold rdFac itN mdL
  simp only [List.drop_drop]
  have e1 : ∀ k, 3 + (1 + k) = 4 + k := fun k => by omega
  have e2 : ∀ k, 4 + k + 1 = 5 + k := fun k => by omega
  simp only [Nat.reduceAdd, e1, e2]
-- what is written is read back
theorem or_i64 {a b : Int} (h : a % 256 = 0) (a0 : -9223372036854775808 ≤ a) (a1 : a ≤ 9223372036854775807) (b0 : 0 ≤ b) (b1 : b ≤ 255) : bits .or .i64 a b = a + b := by
  have ea : (BitVec.ofInt 64 a).toNat = (a % 18446744073709551616).toNat := by simp [BitVec.toNat_ofInt]
  have eb : (BitVec.ofInt 64 b).toNat = b.toNat := by simp [BitVec.toNat_ofInt]; omega
  obtain ⟨A, hA⟩ : ∃ A : Nat, (a % 18446744073709551616).toNat = A := ⟨_, rfl⟩
  have hd : A = 2 ^ 8 * (A / 2 ^ 8) := by omega
  have hb : b.toNat < 2 ^ 8 := by omega
  have e : (BitVec.ofInt 64 a ||| BitVec.ofInt 64 b).toNat = A + b.toNat := by
    rw [BitVec.toNat_or, ea, eb, hA, hd, ← Nat.two_pow_add_eq_or_of_lt hb (A / 2 ^ 8)]
  show IntKind.i64.wrap ((BitVec.ofInt 64 a ||| BitVec.ofInt 64 b).toNat : Int) = a + b
  rw [e, IntKind.wrap_i64]
  omega
theorem one_back (y : Int) (t : List Int) : rOne (y :: t) = some (y, t) := rfl
theorem num_back (n : Int) (h : I64 n) (t : List Int) : rNum 8 (numB n ++ t) = some (n, t) := by
  unfold I64 at h
  obtain ⟨h0, h1⟩ := h
  have s1 : ∀ (k : Nat) (c b : Int) (r t : List Int), rNum k r = some (c, b :: t) → 0 ≤ c → c < 72057594037927936 → 0 ≤ b → b ≤ 255 → rNum (k + 1) r = some (wrap64 (c * 256) + b, t) := by
    intro k c b r t hk c0 c1 b0 b1
    have e : rNum (k + 1) r = some (bits .or .i64 (wrap64 (c * 256)) b, t) := by
      rw [rNum, andT_some hk, andT_some (one_back b t)]
    rw [e, or_i64 (by unfold wrap64; omega) (by unfold wrap64; omega) (by unfold wrap64; omega) b0 b1]
  have s2 : ∀ (k : Nat) (c b d : Int) (r t : List Int), rNum k r = some (c, b :: t) → 0 ≤ c → c < 281474976710656 → 0 ≤ b → b ≤ 255 → c * 256 + b = d → rNum (k + 1) r = some (d, t) := by
    intro k c b d r t hk c0 c1 b0 b1 e
    rw [s1 k c b r t hk c0 (by omega) b0 b1, ← e]
    congr 2
    unfold wrap64
    omega
  have r0 : rNum 0 (numB n ++ t) = some (0, numB n ++ t) := rfl
  have r1 := s2 0 0 _ (n / 72057594037927936 % 256) _ _ r0 (by omega) (by omega) (by omega) (by omega) (by omega)
  have r2 := s2 1 _ _ (n / 281474976710656 % 65536) _ _ r1 (by omega) (by omega) (by omega) (by omega) (by omega)
  have r3 := s2 2 _ _ (n / 1099511627776 % 16777216) _ _ r2 (by omega) (by omega) (by omega) (by omega) (by omega)
  have r4 := s2 3 _ _ (n / 4294967296 % 4294967296) _ _ r3 (by omega) (by omega) (by omega) (by omega) (by omega)
  have r5 := s2 4 _ _ (n / 16777216 % 1099511627776) _ _ r4 (by omega) (by omega) (by omega) (by omega) (by omega)
  have r6 := s2 5 _ _ (n / 65536 % 281474976710656) _ _ r5 (by omega) (by omega) (by omega) (by omega) (by omega)
  have r7 := s2 6 _ _ (n / 256 % 72057594037927936) _ _ r6 (by omega) (by omega) (by omega) (by omega) (by omega)
  have r8 := s1 7 _ _ _ _ r7 (by omega) (by omega) (by omega) (by omega)
  rw [r8]
  congr 2
  unfold wrap64
  omega
theorem sb_take (s : ByteArray) (t : List Int) : (sb s ++ t).take s.size = sb s := by rw [← sb_len]; simp
theorem sb_drop (s : ByteArray) (t : List Int) : (sb s ++ t).drop s.size = t := by rw [← sb_len]; simp
theorem bs_sb (s : ByteArray) : bs (sb s) = s := by
  unfold bs sb
  have : (s.data.toList.map fun b => (b.toNat : Int)).map (fun n => UInt8.ofNat n.toNat) = s.data.toList := by
    rw [List.map_map]
    conv => rhs; rw [← List.map_id s.data.toList]
    refine List.map_congr_left fun b _ => ?_
    simp
  rw [this]
theorem txt_back (s : ByteArray) (h : s.size ≤ 255) (t : List Int) : rTxt (txtB s ++ t) = some (s, t) := by
  have e : txtB s ++ t = (s.size : Int) :: (sb s ++ t) := by
    unfold txtB
    rw [Int.emod_eq_of_lt (by omega) (by omega)]
    rfl
  rw [e]
  unfold rTxt
  rw [andT_some (one_back _ _)]
  unfold rCut
  have e2 : ((s.size : Int)).toNat = s.size := by omega
  rw [e2, if_pos (by rw [List.length_append, sb_len]; omega), sb_take, sb_drop, bs_sb]
theorem prs_back {l : List Prm} (h : ∀ p ∈ l, 1 ≤ p.1 ∧ p.1 ≤ 3) (t : List Int) : ∀ k, k ≤ l.length → rPrs k (l.map prmB ++ t) = some (l.take k, (l.drop k).map prmB ++ t)
  | 0, _ => by simp [rPrs]
  | k + 1, hk => by
    have hk' : k < l.length := hk
    have ih := prs_back h t k (by omega)
    rw [List.drop_eq_getElem_cons hk', List.map_cons, List.cons_append] at ih
    rw [rPrs, andT_some ih, andT_some (one_back _ _)]
    have hp := h l[k] (List.getElem_mem hk')
    have e1 : prmB l[k] % 8 = l[k].1 ∧ decide (8 ≤ prmB l[k]) = l[k].2 := by
      unfold prmB
      cases h2 : l[k].2 with
      | false => simp; omega
      | true => simp; omega
    rw [e1.1, e1.2, List.take_succ_eq_append_getElem hk']
theorem itm_back {x : Itm} (h : itmB x = true) (hv : I64 x.value) (t : List Int) : rItm (itB x ++ t) = some (x, t) := by
  have h1 := itm_small h
  have h2 := prm_ok h
  have h3 : 0 ≤ x.kind ∧ x.kind ≤ 255 ∧ 0 ≤ x.type ∧ x.type ≤ 255 ∧ 0 ≤ x.length ∧ x.length ≤ 255 := by
    unfold itmB at h
    simp only [Bool.and_eq_true] at h
    have hr := h.2
    unfold restN at hr
    split at hr
    · simp [constB, inB] at hr; omega
    · split at hr
      · simp [inB] at hr; omega
      · split at hr
        · simp [inB] at hr; omega
        · cases hr
  obtain ⟨k0, k1, t0, t1, l0, l1⟩ := h3
  have e : itB x ++ t = x.kind :: x.type :: x.length :: (numB x.value ++ (txtB x.name ++ ((x.params.length : Int) :: (x.params.map prmB ++ t)))) := by
    unfold itB itHead
    rw [Int.emod_eq_of_lt k0 (by omega), Int.emod_eq_of_lt t0 (by omega), Int.emod_eq_of_lt l0 (by omega), Int.emod_eq_of_lt (a := (x.params.length : Int)) (by omega) (by omega)]
    simp only [List.append_assoc, List.cons_append, List.nil_append]
  rw [e]
  unfold rItm
  rw [andT_some (one_back _ _), andT_some (one_back _ _), andT_some (one_back _ _), andT_some (num_back _ hv _), andT_some (txt_back _ (by omega) _), andT_some (one_back _ _)]
  have e2 : ((x.params.length : Int)).toNat = x.params.length := by omega
  rw [e2, andT_some (prs_back h2 t _ (Nat.le_refl _))]
  simp
theorem its_back {l : List Itm} (h : ∀ y ∈ l, itmB y = true ∧ I64 y.value) (t : List Int) : ∀ k, k ≤ l.length → rIts k (l.flatMap itB ++ t) = some (l.take k, (l.drop k).flatMap itB ++ t)
  | 0, _ => by simp [rIts]
  | k + 1, hk => by
    have hk' : k < l.length := hk
    have ih := its_back h t k (by omega)
    rw [List.drop_eq_getElem_cons hk', List.flatMap_cons, List.append_assoc] at ih
    have hp := h l[k] (List.getElem_mem hk')
    rw [rIts, andT_some ih, andT_some (itm_back hp.1 hp.2 _), List.take_succ_eq_append_getElem hk']
theorem fac_back {x : Fac} (h : facB x = true) (hv : ∀ y ∈ x.items, I64 y.value) : rFac ((facBytes x).drop 3) = some (x, []) := by
  obtain ⟨h1, h2, h3⟩ := fac_ok h
  have e : (facBytes x).drop 3 = txtB x.module ++ ((x.items.length : Int) :: (x.items.flatMap itB ++ [])) := by
    unfold facBytes facHead
    rw [Int.emod_eq_of_lt (a := (x.items.length : Int)) (by omega) (by omega)]
    simp only [List.append_assoc, List.cons_append, List.nil_append, List.drop_succ_cons, List.drop_zero, List.append_nil]
  rw [e]
  unfold rFac
  rw [andT_some (txt_back _ (by omega) _), andT_some (one_back _ _)]
  have e2 : ((x.items.length : Int)).toNat = x.items.length := by omega
  rw [e2, andT_some (its_back (fun y hy => ⟨h3 y hy, hv y hy⟩) [] _ (Nat.le_refl _))]
  simp
/-- What the model asks of the bytes, behind their bound. -/
def mdOk (l : List Int) : Bool := decide (l.take 3 = [79, 73, 49]) && (match rFac (l.drop 3) with
  | some (x, []) => facB x && decide (facBytes x = l)
  | _ => false)
theorem rdIts_num {r : List Int} (h : ∀ y ∈ r, 0 ≤ y ∧ y ≤ 255) : ∀ (k : Nat) (r' : List Int), (∀ y ∈ r', 0 ≤ y ∧ y ≤ 255) → ∀ y ∈ rdIts k r', ItNum y
  | 0, _, _, y, hy => by cases hy
  | k + 1, r', h', y, hy => by
    rcases List.mem_cons.1 hy with rfl | hy
    · exact rdIt_num h'
    · exact rdIts_num h k _ (drop_in h' _) y hy
theorem mdOk_eq {l : List Int} (h : ∀ y ∈ l, 0 ≤ y ∧ y ≤ 255) : mdOk l = rdOk l := by
  cases hr : rdOk l with
  | true =>
    unfold rdOk at hr
    simp only [Bool.and_eq_true, decide_eq_true_eq] at hr
    obtain ⟨h1, h2⟩ := hr
    have hv : ∀ y ∈ (rdFac l).items, I64 y.value := fun y hy => (rdIts_num h _ _ (drop_in h _) y hy).2.2.2.1
    have e := fac_back h1 hv
    rw [h2] at e
    unfold mdOk
    rw [e]
    have e3 : l.take 3 = [79, 73, 49] := by rw [← h2]; unfold facBytes facHead; simp
    simp [e3, h1, h2]
  | false =>
    cases hm : mdOk l with
    | false => rfl
    | true =>
      unfold mdOk at hm
      simp only [Bool.and_eq_true] at hm
      obtain ⟨-, hm⟩ := hm
      split at hm
      · rename_i x e
        have := fac_rd e
        subst this
        unfold rdOk at hr
        rw [hm] at hr
        cases hr
      · cases hm
end Go.Proofs.YtoomnimbokbadaaDoor
