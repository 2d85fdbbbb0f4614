/- The model's reading of an object, over plain data: what it reads is what the program reads; read, it is written again as it was; written, it is read again. No condition. -/
import Derived.Test.YtpaljmhoojpbdaaDoorZRdO5
namespace Go.Proofs.YtpaljmhoojpbdaaDoor
open Go.RowKit

def rMany {α : Type} (f : List Int → Option (α × List Int)) : Nat → List Int → Option (List α × List Int)
  | 0 => fun t => some ([], t)
  | k + 1 => andT (rMany f k) fun l => andT f fun y t => some (l ++ [y], t)
def rIns : List Int → Option (InsD × List Int) := andT rOne fun a => andT (rNum 8) fun b => if namedB a = true then andT rOne fun c => andT rTxt fun d => andT rTxt fun e t => some (⟨a, b, c, d, e⟩, t) else fun t => some (⟨a, b, 0, ⟨#[]⟩, ⟨#[]⟩⟩, t)
def rPair : List Int → Option (Int × List Int) := andT rOne fun a => andT rOne fun b t => some (a * 256 + b, t)
def rCode : List Int → Option (CodeD × List Int) := andT rTxt fun nm => andT rOne fun p => andT rPair fun c => andT rOne fun q => andT rPair fun k => andT (rMany rIns k.toNat) fun l t => some (⟨nm, p, c, q, l⟩, t)
def rNeed : List Int → Option (NeedD × List Int) := andT rTxt fun a => andT (rNum 8) fun b t => some (⟨a, b⟩, t)
def rGlob : List Int → Option (GlobalD × List Int) := andT rTxt fun a => andT rOne fun b t => some (⟨a, b⟩, t)
def rObj : List Int → Option (ObjectD × List Int) := andT rTxt fun md => andT (rNum 8) fun p => andT rOne fun n2 => andT (rMany rNeed n2.toNat) fun ns => andT rOne fun n3 => andT (rMany rGlob n3.toNat) fun gs => andT rOne fun n4 => andT (rMany rCode n4.toNat) fun ps t => some (⟨md, p, ns, gs, ps⟩, t)
-- what is read is what the program reads
theorem txt_rd' {r t : List Int} {s : ByteArray} (h : rTxt r = some (s, t)) : s = tT r ∧ t = tR r := txt_rd h
theorem pair_rd {r t : List Int} {n : Int} (h : rPair r = some (n, t)) : n = rdP r ∧ t = r.drop 2 := by
  obtain ⟨a, t1, h1, h0⟩ := of_andT h
  obtain ⟨b, t2, h2, h3⟩ := of_andT h0
  obtain ⟨rfl, rfl⟩ := one_rd h1
  obtain ⟨rfl, rfl⟩ := one_rd h2
  cases h3
  exact ⟨rfl, by rw [List.drop_drop]⟩
theorem ins_rd {r t : List Int} {x : InsD} (h : rIns r = some (x, t)) : x = rdIns r ∧ t = inR r := by
  obtain ⟨a, t1, h1, h0⟩ := of_andT h
  obtain ⟨b, t2, h2, h3⟩ := of_andT h0
  obtain ⟨rfl, rfl⟩ := one_rd h1
  obtain ⟨rfl, rfl⟩ := num_rd 8 h2
  unfold rdIns inR
  by_cases c : namedB (hd r) = true
  · rw [if_pos c] at h3 ⊢
    rw [if_pos c]
    obtain ⟨d, t4, h4, h5⟩ := of_andT h3
    obtain ⟨e, t6, h6, h7⟩ := of_andT h5
    obtain ⟨f, t8, h8, h9⟩ := of_andT h7
    obtain ⟨rfl, rfl⟩ := one_rd h4
    obtain ⟨rfl, rfl⟩ := txt_rd' h6
    obtain ⟨rfl, rfl⟩ := txt_rd' h8
    cases h9
    simp only [List.drop_drop]
    first | exact ⟨rfl, rfl⟩ | exact ⟨trivial, rfl⟩ | exact ⟨trivial, trivial⟩
  · rw [if_neg c] at h3 ⊢
    rw [if_neg c]
    cases h3
    simp only [List.drop_drop]
    first | exact ⟨rfl, rfl⟩ | exact ⟨trivial, rfl⟩ | exact ⟨trivial, trivial⟩
theorem many_rd {α : Type} {f : List Int → Option (α × List Int)} {F : List Int → List Int} {g : List Int → α} (hf : ∀ r x t, f r = some (x, t) → x = g r ∧ t = F r) : ∀ (k : Nat) {r t : List Int} {l : List α}, rMany f k r = some (l, t) → l = itL F g k r ∧ t = itR F k r
  | 0, _, _, _, h => by cases h; exact ⟨rfl, rfl⟩
  | k + 1, r, t, l, h => by
    obtain ⟨l1, t1, h1, h0⟩ := of_andT h
    obtain ⟨y, t2, h2, h3⟩ := of_andT h0
    obtain ⟨rfl, rfl⟩ := many_rd hf k h1
    obtain ⟨rfl, rfl⟩ := hf _ _ _ h2
    cases h3
    exact ⟨rfl, rfl⟩
theorem many_len {α : Type} {f : List Int → Option (α × List Int)} : ∀ (k : Nat) {r t : List Int} {l : List α}, rMany f k r = some (l, t) → l.length = k
  | 0, _, _, _, h => by cases h; rfl
  | k + 1, r, t, l, h => by
    obtain ⟨l1, t1, h1, h0⟩ := of_andT h
    obtain ⟨y, t2, h2, h3⟩ := of_andT h0
    cases h3
    rw [List.length_append, many_len k h1]
    rfl
theorem insL_it : ∀ (k : Nat) (r : List Int), insL k r = itL inR rdIns k r ∧ insRs k r = itR inR k r
  | 0, _ => ⟨rfl, rfl⟩
  | k + 1, r => by
    obtain ⟨h1, h2⟩ := insL_it k r
    rw [insL, itL, insRs, itR, h1, h2]
    exact ⟨rfl, rfl⟩
theorem insRs_front : ∀ (j : Nat) (r : List Int), insRs j (inR r) = insRs (j + 1) r
  | 0, _ => rfl
  | j + 1, r => by
    rw [insRs, insRs_front j r]
    rfl
theorem insN_all : ∀ (k : Nat) (r : List Int), (∀ j, j < k → (insRs j r).length ≠ 0) → insN k r = k
  | 0, _, _ => rfl
  | k + 1, r, h => by
    have h0 : r.length ≠ 0 := h 0 (by omega)
    rw [insN_some h0, insN_all k (inR r) fun j hj => by rw [insRs_front]; exact h (j + 1) (by omega)]
theorem ins_some {r : List Int} (h : r.length = 0) : rIns r = none := by
  obtain rfl := List.length_eq_zero_iff.1 h
  exact andT_none rfl
theorem many_pre {α : Type} {f : List Int → Option (α × List Int)} : ∀ (k : Nat) {r t : List Int} {l : List α}, rMany f k r = some (l, t) → ∀ j, j < k → ∃ l' t' x t2, rMany f j r = some (l', t') ∧ f t' = some (x, t2)
  | 0, _, _, _, _, j, hj => absurd hj (by omega)
  | k + 1, r, t, l, h, j, hj => by
    obtain ⟨l1, t1, h1, h0⟩ := of_andT h
    obtain ⟨y, t2, h2, h3⟩ := of_andT h0
    by_cases e : j < k
    · exact many_pre k h1 j e
    · obtain rfl : j = k := by omega
      exact ⟨l1, t1, y, t2, h1, h2⟩
theorem inss_rd {k : Nat} {r t : List Int} {l : List InsD} (h : rMany rIns k r = some (l, t)) : l = insL (insN k r) r ∧ t = insRs (insN k r) r := by
  have e : insN k r = k := insN_all k r fun j hj e => by
    obtain ⟨l', t', x, t2, h1, h2⟩ := many_pre k h j hj
    have h3 := (many_rd (fun _ _ _ => ins_rd) j h1).2
    rw [← (insL_it j r).2] at h3
    rw [ins_some (by rw [h3]; exact e)] at h2
    cases h2
  rw [e, (insL_it k r).1, (insL_it k r).2]
  exact many_rd (fun _ _ _ => ins_rd) k h
theorem code_rd {r t : List Int} {x : CodeD} (h : rCode r = some (x, t)) : x = rdCode r ∧ t = coR r := by
  obtain ⟨nm, t1, h1, g1⟩ := of_andT h
  obtain ⟨p, t2, h2, g2⟩ := of_andT g1
  obtain ⟨c, t3, h3, g3⟩ := of_andT g2
  obtain ⟨q, t4, h4, g4⟩ := of_andT g3
  obtain ⟨k, t5, h5, g5⟩ := of_andT g4
  obtain ⟨l, t6, h6, g6⟩ := of_andT g5
  obtain ⟨rfl, rfl⟩ := txt_rd' h1
  obtain ⟨rfl, rfl⟩ := one_rd h2
  obtain ⟨rfl, rfl⟩ := pair_rd h3
  obtain ⟨rfl, rfl⟩ := one_rd h4
  obtain ⟨rfl, rfl⟩ := pair_rd h5
  obtain ⟨rfl, rfl⟩ := inss_rd h6
  cases g6
  have e : (((tR r).drop 1).drop 2).drop 1 = ((tR r).drop 1).drop 3 := by rw [List.drop_drop]
  unfold rdCode coR cdMany cdR
  rw [e]
  exact ⟨rfl, rfl⟩
theorem need_rd (r : List Int) (x : NeedD) (t : List Int) (h : rNeed r = some (x, t)) : x = neG r ∧ t = neF r := by
  obtain ⟨a, t1, h1, g1⟩ := of_andT h
  obtain ⟨b, t2, h2, g2⟩ := of_andT g1
  obtain ⟨rfl, rfl⟩ := txt_rd' h1
  obtain ⟨rfl, rfl⟩ := num_rd 8 h2
  cases g2
  exact ⟨rfl, rfl⟩
theorem glob_rd (r : List Int) (x : GlobalD) (t : List Int) (h : rGlob r = some (x, t)) : x = glG r ∧ t = glF r := by
  obtain ⟨a, t1, h1, g1⟩ := of_andT h
  obtain ⟨b, t2, h2, g2⟩ := of_andT g1
  obtain ⟨rfl, rfl⟩ := txt_rd' h1
  obtain ⟨rfl, rfl⟩ := one_rd h2
  cases g2
  exact ⟨rfl, rfl⟩
theorem obj_rd {l t : List Int} {x : ObjectD} (h : rObj (l.drop 3) = some (x, t)) : x = rdObj l := by
  obtain ⟨md, t1, h1, g1⟩ := of_andT h
  obtain ⟨p, t2, h2, g2⟩ := of_andT g1
  obtain ⟨n2, t3, h3, g3⟩ := of_andT g2
  obtain ⟨ns, t4, h4, g4⟩ := of_andT g3
  obtain ⟨n3, t5, h5, g5⟩ := of_andT g4
  obtain ⟨gs, t6, h6, g6⟩ := of_andT g5
  obtain ⟨n4, t7, h7, g7⟩ := of_andT g6
  obtain ⟨ps, t8, h8, g8⟩ := of_andT g7
  obtain ⟨rfl, rfl⟩ := txt_rd' h1
  obtain ⟨rfl, rfl⟩ := num_rd 8 h2
  obtain ⟨rfl, rfl⟩ := one_rd h3
  obtain ⟨rfl, rfl⟩ := many_rd need_rd _ h4
  obtain ⟨rfl, rfl⟩ := one_rd h5
  obtain ⟨rfl, rfl⟩ := many_rd glob_rd _ h6
  obtain ⟨rfl, rfl⟩ := one_rd h7
  obtain ⟨rfl, rfl⟩ := many_rd (fun _ _ _ => code_rd) _ h8
  cases g8
  rfl
-- read, it is written again as it was
theorem byte_mod {y : Int} (h : 0 ≤ y ∧ y ≤ 255) : y % 256 = y := by omega
theorem tail_in {y : Int} {t : List Int} (h : AllB (y :: t)) : AllB t := fun z hz => h z (List.mem_cons_of_mem _ hz)
theorem right_in {a t : List Int} (h : AllB (a ++ t)) : AllB t := fun z hz => h z (List.mem_append_right _ hz)
theorem pair_wb {r t : List Int} {n : Int} (hr : AllB r) (h : rPair r = some (n, t)) : r = pairB n ++ t ∧ 0 ≤ n ∧ n ≤ 65535 := by
  obtain ⟨a, t1, h1, g1⟩ := of_andT h
  obtain ⟨b, t2, h2, g2⟩ := of_andT g1
  have e1 := one_wb h1
  subst e1
  have e2 := one_wb h2
  subst e2
  have qa := hr a (by simp)
  have qb := hr b (by simp)
  cases g2
  refine ⟨?_, by omega, by omega⟩
  unfold pairB
  rw [show (a * 256 + b) / 256 % 256 = a by omega, show (a * 256 + b) % 256 = b by omega]
  rfl
theorem ins_wb (r : List Int) (x : InsD) (t : List Int) (hr : AllB r) (h : rIns r = some (x, t)) : r = insBs x ++ t := by
  obtain ⟨a, t1, h1, g1⟩ := of_andT h
  obtain ⟨b, t2, h2, g2⟩ := of_andT g1
  have e1 := one_wb h1
  subst e1
  have qa := hr a (by simp)
  have r1 := tail_in hr
  have e2 := num_wb r1 h2
  subst e2
  have r2 := right_in r1
  by_cases c : namedB a = true
  · rw [if_pos c] at g2
    obtain ⟨d, t4, h4, g4⟩ := of_andT g2
    obtain ⟨e, t6, h6, g6⟩ := of_andT g4
    obtain ⟨f, t8, h8, g8⟩ := of_andT g6
    have e4 := one_wb h4
    subst e4
    have qd := r2 d (by simp)
    have r4 := tail_in r2
    have e6 := (txt_wb r4 h6).1
    subst e6
    have e8 := (txt_wb (right_in r4) h8).1
    subst e8
    cases g8
    unfold insBs
    rw [if_pos c, byte_mod qa, byte_mod qd]
    simp only [List.append_assoc, List.cons_append, List.nil_append]
  · rw [if_neg c] at g2
    cases g2
    unfold insBs
    rw [if_neg c, byte_mod qa]
    simp only [List.append_assoc, List.cons_append, List.nil_append]
theorem many_wb {α : Type} {f : List Int → Option (α × List Int)} {B : α → List Int} (hf : ∀ r x t, AllB r → f r = some (x, t) → r = B x ++ t) : ∀ (k : Nat) {r t : List Int} {l : List α}, AllB r → rMany f k r = some (l, t) → r = l.flatMap B ++ t
  | 0, _, _, _, _, h => by cases h; rfl
  | k + 1, r, t, l, hr, h => by
    obtain ⟨l1, t1, h1, h0⟩ := of_andT h
    obtain ⟨y, t2, h2, h3⟩ := of_andT h0
    have e1 := many_wb hf k hr h1
    have e2 := hf _ _ _ (by rw [e1] at hr; exact right_in hr) h2
    cases h3
    rw [e1, e2, List.flatMap_append]
    simp
theorem inss_flat : ∀ l : List InsD, inssBs l = l.flatMap insBs
  | [] => rfl
  | x :: r => by rw [inssBs, List.flatMap_cons, inss_flat r]
theorem code_wb (r : List Int) (x : CodeD) (t : List Int) (hr : AllB r) (h : rCode r = some (x, t)) : r = codeBs x ++ t := by
  obtain ⟨nm, t1, h1, g1⟩ := of_andT h
  obtain ⟨p, t2, h2, g2⟩ := of_andT g1
  obtain ⟨c, t3, h3, g3⟩ := of_andT g2
  obtain ⟨q, t4, h4, g4⟩ := of_andT g3
  obtain ⟨k, t5, h5, g5⟩ := of_andT g4
  obtain ⟨l, t6, h6, g6⟩ := of_andT g5
  have e1 := (txt_wb hr h1).1
  subst e1
  have r1 := right_in hr
  have e2 := one_wb h2
  subst e2
  have qp := r1 p (by simp)
  have r2 := tail_in r1
  obtain ⟨e3, c0, c1⟩ := pair_wb r2 h3
  subst e3
  have r3 := right_in r2
  have e4 := one_wb h4
  subst e4
  have qq := r3 q (by simp)
  have r4 := tail_in r3
  obtain ⟨e5, k0, k1⟩ := pair_wb r4 h5
  subst e5
  have r5 := right_in r4
  have hlen := many_len _ h6
  have e6 := many_wb ins_wb _ r5 h6
  subst e6
  cases g6
  unfold codeBs codeHd
  simp only []
  rw [hlen, byte_mod qp, byte_mod qq, inss_flat, show ((k.toNat : Nat) : Int) = k by omega]
  simp only [List.append_assoc, List.cons_append, List.nil_append]
theorem need_wb (r : List Int) (x : NeedD) (t : List Int) (hr : AllB r) (h : rNeed r = some (x, t)) : r = needBs x ++ t := by
  obtain ⟨a, t1, h1, g1⟩ := of_andT h
  obtain ⟨b, t2, h2, g2⟩ := of_andT g1
  have e1 := (txt_wb hr h1).1
  subst e1
  have e2 := num_wb (right_in hr) h2
  subst e2
  cases g2
  unfold needBs
  rw [List.append_assoc]
theorem glob_wb (r : List Int) (x : GlobalD) (t : List Int) (hr : AllB r) (h : rGlob r = some (x, t)) : r = globBs x ++ t := by
  obtain ⟨a, t1, h1, g1⟩ := of_andT h
  obtain ⟨b, t2, h2, g2⟩ := of_andT g1
  have e1 := (txt_wb hr h1).1
  subst e1
  have e2 := one_wb h2
  subst e2
  have qb := (right_in hr) b (by simp)
  cases g2
  unfold globBs
  rw [byte_mod qb, List.append_assoc]
  rfl
theorem obj_wb {l : List Int} {x : ObjectD} (hl : AllB l) (h3 : l.take 3 = [79, 79, 49]) (h : rObj (l.drop 3) = some (x, [])) : objBs x = l := by
  obtain ⟨md, t1, h1, g1⟩ := of_andT h
  obtain ⟨p, t2, h2, g2⟩ := of_andT g1
  obtain ⟨n2, t3, h3', g3⟩ := of_andT g2
  obtain ⟨ns, t4, h4, g4⟩ := of_andT g3
  obtain ⟨n3, t5, h5, g5⟩ := of_andT g4
  obtain ⟨gs, t6, h6, g6⟩ := of_andT g5
  obtain ⟨n4, t7, h7, g7⟩ := of_andT g6
  obtain ⟨ps, t8, h8, g8⟩ := of_andT g7
  have r0 : AllB (l.drop 3) := fun y hy => hl y (List.mem_of_mem_drop hy)
  have e1 := (txt_wb r0 h1).1
  have r1 : AllB t1 := by rw [e1] at r0; exact right_in r0
  have e2 := num_wb r1 h2
  have r2 : AllB t2 := by rw [e2] at r1; exact right_in r1
  have e3 := one_wb h3'
  have q2 := r2 n2 (by rw [e3]; simp)
  have r3 : AllB t3 := by rw [e3] at r2; exact tail_in r2
  have l2 := many_len _ h4
  have e4 := many_wb need_wb _ r3 h4
  have r4 : AllB t4 := by rw [e4] at r3; exact right_in r3
  have e5 := one_wb h5
  have q3 := r4 n3 (by rw [e5]; simp)
  have r5 : AllB t5 := by rw [e5] at r4; exact tail_in r4
  have l3 := many_len _ h6
  have e6 := many_wb glob_wb _ r5 h6
  have r6 : AllB t6 := by rw [e6] at r5; exact right_in r5
  have e7 := one_wb h7
  have q4 := r6 n4 (by rw [e7]; simp)
  have r7 : AllB t7 := by rw [e7] at r6; exact tail_in r6
  have l4 := many_len _ h8
  have e8 := many_wb code_wb _ r7 h8
  cases g8
  conv => rhs; rw [← List.take_append_drop 3 l, h3, e1, e2, e3, e4, e5, e6, e7, e8]
  unfold objBs objHead
  simp only []
  rw [l2, l3, l4, show ((n2.toNat : Nat) : Int) % 256 = n2 by omega, show ((n3.toNat : Nat) : Int) % 256 = n3 by omega, show ((n4.toNat : Nat) : Int) % 256 = n4 by omega]
  simp only [List.append_assoc, List.cons_append, List.nil_append, List.append_nil]
end Go.Proofs.YtpaljmhoojpbdaaDoor
