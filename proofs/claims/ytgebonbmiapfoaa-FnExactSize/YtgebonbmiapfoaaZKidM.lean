/- A map from where lists of kids lie to numbers, in memory of the call's own. No condition. -/
import Derived.Test.YtgebonbmiapfoaaZTrD
import Derived.MapKept
import Derived.LaidEql
import Derived.Laws.StructEq
import Derived.OwnWalk
namespace Go.Proofs.Ytgebonbmiapfoaa
open Go.ChangeShapes Go.WideShapes Go.ChangeAt Go.RowKit Go.Deep Go.MapKept

/-- Cells none of which is frozen. -/
def Still (w : World) (b : Nat) : Prop := (∃ C T fr, w.heap[b]? = some (.cells C T fr)) ∧ ∀ j, w.frozen? ⟨b, j, none⟩ = false
theorem Still.frozen {w : World} {b : Nat} (h : Still w b) (a : Addr) (ha : a.block = b) : w.frozen? a = false := by
  subst ha
  exact h.2 a.off
theorem Still.of_heap {w w' : World} {b : Nat} (h : Still w b) (hb : w'.heap[b]? = w.heap[b]?) : Still w' b := by
  obtain ⟨⟨C, T, fr, h1⟩, h2⟩ := h
  exact ⟨⟨C, T, fr, hb.trans h1⟩, fun j => (World.frozen?_of_block (w := w) hb).trans (h2 j)⟩
theorem run_sameAddr_far {P : Program} {w : World} {a b : Addr} (hne : a ≠ b) (ha : Still w a.block) (hb : Still w b.block) : (sameAddr a b).run P w = .ok false w := by
  by_cases hbl : a.block = b.block
  · simp [sameAddr, hbl, hne]
  · obtain ⟨⟨C, T, fr, h1⟩, -⟩ := id ha
    obtain ⟨⟨C', T', fr', h1'⟩, -⟩ := id hb
    have f1 := ha.frozen a rfl
    have f2 := hb.frozen b rfl
    have f3 : w.frozen? { block := a.block, off := C.size } = false := ha.frozen _ rfl
    have f4 : w.frozen? { block := b.block, off := C'.size } = false := hb.frozen _ rfl
    have s1 : w.shape? a.block = some (T, C.size) := by simp [World.shape?, h1]
    have s2 : w.shape? b.block = some (T', C'.size) := by simp [World.shape?, h1']
    simp [sameAddr, hbl, noView, viewAt, mayBeOne, stringish, f1, f2, f3, f4, s1, s2]
def KK (k : Option Addr × Nat) : Value := .agg #[.pointer k.1, .int .i64 (k.2 : Int)]
def KOk (w : World) (k : Option Addr × Nat) : Prop := ∀ a, k.1 = some a → Still w a.block
theorem eqPtr (p q : Option Addr) (w : World) (d : Nat) (hp : ∀ a, p = some a → Still w a.block) (hq : ∀ a, q = some a → Still w a.block) :
    (Op.equalIn (d + 1) 40 (.pointer p) (.pointer q)).run Try.prog w = .ok (decide (p = q)) w := by
  have hu : Try.prog.underlying 40 = some (.pointer 29) := Try.underlying40
  have hi := Try.sizeOf29
  rcases p with _ | a
  · cases q <;> simp [Op.equalIn, run_underlying hu]
  · rcases q with _ | b
    · simp [Op.equalIn, run_underlying hu]
    · by_cases e : a = b
      · subst e
        simp [Op.equalIn, run_underlying hu, hi, run_sameAddr_same]
      · simp [Op.equalIn, run_underlying hu, hi, run_sameAddr_far e (hp a rfl) (hq b rfl), e]
theorem eqKid (k l : Option Addr × Nat) (w : World) (hk : KOk w k) (hl : KOk w l) : (Op.equal 42 (KK k) (KK l)).run Try.prog w = .ok (decide (k = l)) w := by
  obtain ⟨p, n⟩ := k
  obtain ⟨q, m⟩ := l
  have u3 := Try.underlying3
  have a3 := Try.isAgg3
  have z3 := Try.sizeOf3
  have a4 := Try.isAgg40
  have z4 := Try.sizeOf40
  have hS : Try.prog.underlying 42 = some (.struct (Try.prog.fieldsOf 42)) := by kernel_rfl
  have hp : Try.prog.stoodInHeld 42 = false := by kernel_rfl
  have hq := eqPtr p q w 9998 hk hl
  unfold Op.equal Op.maxDepth KK
  rw [show (10000 : Nat) = 9999 + 1 from rfl, run_equalIn_agg w 9999 42 _ _ hS hp]
  simp only [Program.fieldsOf, Try.underlying42]
  go_simp
  have hnm : ((n : Int) = m) ↔ n = m := by omega
  by_cases h1 : p = q <;> by_cases h2 : n = m <;> first
    | (simp [h1, h2]; done)
    | (simp [h1, h2]; omega)
abbrev KL := List ((Option Addr × Nat) × Int)
def kenc (x : (Option Addr × Nat) × Int) : Value × Value := (KK x.1, .int .i64 x.2)
def mget : KL → (Option Addr × Nat) → Option Int
  | [], _ => none
  | x :: r, k => if k = x.1 then some x.2 else mget r k
def mput : KL → (Option Addr × Nat) → Int → KL
  | [], k, c => [(k, c)]
  | x :: r, k, c => if k = x.1 then (k, c) :: r else x :: mput r k c
def mfind : KL → (Option Addr × Nat) → Nat → Option (Nat × Value)
  | [], _, _ => none
  | x :: r, k, i => if k = x.1 then some (i, .int .i64 x.2) else mfind r k (i + 1)
theorem mget_put : ∀ (M : KL) (k : Option Addr × Nat) (c : Int) (k' : Option Addr × Nat), mget (mput M k c) k' = if k' = k then some c else mget M k'
  | [], k, c, k' => by simp [mget, mput]
  | x :: r, k, c, k' => by
    unfold mput
    by_cases h : k = x.1
    · rw [if_pos h]
      unfold mget
      by_cases h2 : k' = k
      · simp [h2]
      · rw [if_neg h2, if_neg h2, if_neg (by rw [← h]; exact h2)]
    · rw [if_neg h]
      unfold mget
      by_cases h2 : k' = x.1
      · rw [if_pos h2, if_neg (by rw [h2]; exact fun e => h e.symm), if_pos h2]
      · rw [if_neg h2, if_neg h2, mget_put r k c k']
theorem mput_mem {P : (Option Addr × Nat) → Prop} : ∀ {M : KL} {k : Option Addr × Nat} {c : Int}, (∀ x ∈ M, P x.1) → P k → ∀ x ∈ mput M k c, P x.1
  | [], k, c, _, hk, x, hx => by
    simp only [mput, List.mem_singleton] at hx
    subst hx
    exact hk
  | y :: r, k, c, h, hk, x, hx => by
    unfold mput at hx
    by_cases e : k = y.1
    · rw [if_pos e] at hx
      rcases List.mem_cons.1 hx with rfl | hx
      · exact hk
      · exact h x (List.mem_cons_of_mem _ hx)
    · rw [if_neg e] at hx
      rcases List.mem_cons.1 hx with rfl | hx
      · exact h _ (List.mem_cons_self ..)
      · exact mput_mem (fun z hz => h z (List.mem_cons_of_mem _ hz)) hk x hx
theorem mfind_none : ∀ {M : KL} {k : Option Addr × Nat} (i : Nat), mget M k = none → mfind M k i = none
  | [], _, _, _ => rfl
  | x :: r, k, i, h => by
    unfold mget at h
    unfold mfind
    by_cases e : k = x.1
    · rw [if_pos e] at h
      cases h
    · rw [if_neg e] at h ⊢
      exact mfind_none (i + 1) h
theorem mput_none : ∀ {M : KL} {k : Option Addr × Nat} (c : Int), mget M k = none → mput M k c = M ++ [(k, c)]
  | [], _, _, _ => rfl
  | x :: r, k, c, h => by
    unfold mget at h
    unfold mput
    by_cases e : k = x.1
    · rw [if_pos e] at h
      cases h
    · rw [if_neg e] at h ⊢
      rw [mput_none c h]
      rfl
theorem mfind_some : ∀ {M : KL} {k : Option Addr × Nat} {c : Int} (i : Nat), mget M k = some c → ∃ j c', M[j]? = some (k, c) ∧ mfind M k i = some (i + j, .int .i64 c) ∧ c' = c ∧ ∀ d, mput M k d = M.modify j fun _ => (k, d)
  | [], _, _, _, h => by cases h
  | x :: r, k, c, i, h => by
    unfold mget at h
    by_cases e : k = x.1
    · rw [if_pos e] at h
      cases h
      refine ⟨0, _, ?_, ?_, rfl, fun d => ?_⟩
      · rw [e]; rfl
      · unfold mfind; rw [if_pos e]; rfl
      · unfold mput; rw [if_pos e]; rfl
    · rw [if_neg e] at h
      obtain ⟨j, c', h1, h2, h3, h4⟩ := mfind_some (i + 1) h
      refine ⟨j + 1, c', ?_, ?_, h3, fun d => ?_⟩
      · simpa using h1
      · unfold mfind
        rw [if_neg e, h2]
        congr 2
        omega
      · unfold mput
        rw [if_neg e, h4 d]
        rfl
/-- The map in block b. -/
def CM (w : World) (b : Nat) (M : KL) : Prop := ∃ es clock, w.heap[b]? = some (.map es clock) ∧ es.toList.map (fun e => (e.key, e.val)) = M.map kenc ∧ ∀ x ∈ M, KOk w x.1
theorem CM.made (w : World) : CM (w.alloc (.map #[] 0)) w.heap.size [] := ⟨#[], 0, (MapKept.heap_alloc w _).1, rfl, fun x hx => by cases hx⟩
theorem CM.lt {w : World} {b : Nat} {M : KL} (h : CM w b M) : b < w.heap.size := by
  obtain ⟨es, clock, hb, -⟩ := h
  exact (Array.getElem?_eq_some_iff.1 hb).1
theorem CM.on {w w' : World} {b : Nat} {M : KL} (h : CM w b M) (hb : w'.heap[b]? = w.heap[b]?) (hk : ∀ k, (∃ x ∈ M, ∃ a, x.1.1 = some a ∧ a.block = k) → w'.heap[k]? = w.heap[k]?) : CM w' b M := by
  obtain ⟨es, clock, h1, h2, h3⟩ := h
  exact ⟨es, clock, hb.trans h1, h2, fun x hx a ha => (h3 x hx a ha).of_heap (hk _ ⟨x, hx, a, ha, rfl⟩)⟩
theorem run_asking (k : Option Addr × Nat) (w : World) (hk : KOk w k) : ∀ (l : List MapEntry) (M : KL) (i : Nat), l.map (fun e => (e.key, e.val)) = M.map kenc → (∀ x ∈ M, KOk w x.1) →
    (Instr.findAsking 42 (KK k) l i).run Try.prog w = .ok (mfind M k i) w
  | [], M, i, h, _ => by
    cases M with
    | nil => simp [Instr.findAsking, mfind]
    | cons x r => simp at h
  | e :: l, M, i, h, hM => by
    cases M with
    | nil => simp at h
    | cons x r =>
      simp only [List.map_cons, List.cons.injEq] at h
      obtain ⟨h1, h2⟩ := h
      have hk1 : e.key = KK x.1 := congrArg Prod.fst h1
      have hv1 : e.val = .int .i64 x.2 := congrArg Prod.snd h1
      have ih := run_asking k w hk l r (i + 1) h2 fun y hy => hM y (List.mem_cons_of_mem _ hy)
      have he := eqKid k x.1 w hk (hM x (List.mem_cons_self ..))
      unfold Instr.findAsking mfind
      rw [hk1, hv1]
      by_cases c : k = x.1
      · rw [if_pos c]
        rw [decide_eq_true c] at he
        simp [he]
      · rw [if_neg c]
        simp [he, c, ih]
theorem run_find (k : Option Addr × Nat) (w : World) (hk : KOk w k) (l : List MapEntry) (M : KL) (h : l.map (fun e => (e.key, e.val)) = M.map kenc) (hM : ∀ x ∈ M, KOk w x.1) :
    (Instr.findKey 42 (KK k) l).run Try.prog w = .ok (mfind M k 0) w := by
  have hS : Try.prog.underlying 42 = some (.struct (Try.prog.fieldsOf 42)) := by kernel_rfl
  cases l with
  | nil =>
    cases M with
    | nil => simp [Instr.findKey, run_underlying hS, Instr.findNow, mfind]
    | cons x r => simp at h
  | cons e l =>
    have := run_asking k w hk (e :: l) M 0 h hM
    have hn : Instr.findNow (.struct (Try.prog.fieldsOf 42)) (KK k) (e :: l) 0 = none := by simp [Instr.findNow, Instr.sameNow]
    simp [Instr.findKey, run_underlying hS, hn, this]
theorem run_check (e : Bool) (k : Option Addr × Nat) (w : World) : (Instr.checkKey e 10000 42 (KK k)).run Try.prog w = .ok () w := by
  have u3 := Try.underlying3
  have a3 := Try.isAgg3
  have z3 := Try.sizeOf3
  have a4 := Try.isAgg40
  have z4 := Try.sizeOf40
  have u4 := Try.underlying40
  have h1 : (Instr.checkKey e 9999 40 (.pointer k.1)).run Try.prog w = .ok () w := by
    rw [show (9999 : Nat) = 9998 + 1 from rfl]
    unfold Instr.checkKey
    simp [run_underlying u4]
  have h2 : (Instr.checkKey e 9999 3 (.int .i64 (k.2 : Int))).run Try.prog w = .ok () w := by
    rw [show (9999 : Nat) = 9998 + 1 from rfl]
    unfold Instr.checkKey
    simp [run_underlying u3]
  rw [show (10000 : Nat) = 9999 + 1 from rfl]
  unfold Instr.checkKey KK
  simp only [Sem.run_bind, run_underlying Try.underlying42, Result.andThen_ok]
  rw [← Array.forIn_toList]
  simp only [List.forIn_cons, List.forIn_nil]
  go_simp
theorem zeroInt (w : World) : (zeroValue 3).run Try.prog w = .ok (.int .i64 0) w := by kernel_rfl
/-- m[k], and whether it is there. -/
theorem CM.look {w : World} {b : Nat} {M : KL} (h : CM w b M) {k : Option Addr × Nat} (hk : KOk w k) :
    (Instr.lookup 35 (.map (some b)) (KK k) true).run Try.prog w = .ok (.tuple #[.int .i64 ((mget M k).getD 0), .bool (mget M k).isSome]) w := by
  obtain ⟨es, clock, hb, he, hM⟩ := h
  have hf := run_find k w hk es.toList M he hM
  have hz := zeroInt w
  have hm : Try.prog.underlying 35 = some (.map 42 3) := Try.underlying35
  have hc := run_check es.isEmpty k w
  cases g : mget M k with
  | none =>
    rw [mfind_none 0 g] at hf
    simp [Instr.lookup, run_underlying hm, MapKept.run_getObj_map hb, hc, hf, hz, Result.andThen]
  | some c =>
    obtain ⟨j, c', -, h2, -, -⟩ := mfind_some 0 g
    rw [h2] at hf
    simp [Instr.lookup, run_underlying hm, MapKept.run_getObj_map hb, hc, hf, Result.andThen]
/-- m[k] = c. -/
theorem CM.put {w : World} {b : Nat} {M : KL} (h : CM w b M) {k : Option Addr × Nat} (hk : KOk w k) (c : Int) :
    ∃ w', (Instr.mapUpdate 35 (.map (some b)) (KK k) (.int .i64 c)).run Try.prog w = .ok () w' ∧ CM w' b (mput M k c) ∧ w.grownBy w' (some b) ∧ w'.heap.size = w.heap.size := by
  obtain ⟨es, clock, hb, he, hM⟩ := h
  have hf := run_find k w hk es.toList M he hM
  have hm : Try.prog.underlying 35 = some (.map 42 3) := Try.underlying35
  have hc := run_check false k w
  have hgrow : ∀ o : Obj, w.grownBy { w with heap := w.heap.setIfInBounds b o } (some b) := fun o => ⟨rfl, rfl, rfl, by simp, fun i _ hi => (heap_set (o' := o) hb).2 i fun e => hi (by rw [e])⟩
  have hkept : ∀ (o : Obj) (q : Option Addr × Nat), KOk w q → KOk { w with heap := w.heap.setIfInBounds b o } q := fun o q hq a ha => by
    refine (hq a ha).of_heap ((heap_set (o' := o) hb).2 _ fun e => ?_)
    obtain ⟨⟨C, T, fr, hC⟩, -⟩ := hq a ha
    rw [e, hb] at hC
    cases hC
  cases g : mget M k with
  | none =>
    rw [mfind_none 0 g] at hf
    refine ⟨{ w with heap := w.heap.setIfInBounds b (.map (es.push { key := KK k, val := .int .i64 c, born := clock }) (clock + 1)) }, ?_, ?_, hgrow _, by simp⟩
    · simp [Instr.mapUpdate, run_underlying hm, MapKept.run_getObj_map hb, hc, hf, MapKept.run_setObj_map _ hb, Result.andThen]
    · refine ⟨_, _, (heap_set hb).1, ?_, fun x hx => hkept _ _ (mput_mem (P := KOk w) hM hk x hx)⟩
      rw [mput_none c g]
      simp [he, kenc]
  | some d =>
    obtain ⟨j, c', h1, h2, -, h4⟩ := mfind_some 0 g
    rw [h2] at hf
    have hes : (es.toList.map (fun e => (e.key, e.val)))[j]? = some (KK k, .int .i64 d) := by rw [he, List.getElem?_map, h1]; rfl
    rw [List.getElem?_map] at hes
    obtain ⟨e0, he0, hkv⟩ := Option.map_eq_some_iff.1 hes
    have hj : es[j]? = some e0 := by simpa using he0
    have hk0 : e0.key = KK k := congrArg Prod.fst hkv
    have hst : (Instr.keyThatStays (KK k) (KK k)).run Try.prog w = .ok (KK k) w := by
      have : Instr.sameBits 10000 (KK k) (KK k) = true := by simp [KK, Instr.sameBits]
      simp [Instr.keyThatStays, this]
    refine ⟨{ w with heap := w.heap.setIfInBounds b (.map (es.modify j fun e => { e with key := KK k, val := .int .i64 c }) clock) }, ?_, ?_, hgrow _, by simp⟩
    · simp [Instr.mapUpdate, run_underlying hm, MapKept.run_getObj_map hb, hc, hf, hj, hk0, hst, MapKept.run_setObj_map _ hb, Result.andThen]
    · refine ⟨_, _, (heap_set hb).1, ?_, fun x hx => hkept _ _ (mput_mem (P := KOk w) hM hk x hx)⟩
      rw [h4 c]
      apply List.ext_getElem?
      intro i
      have hi : (es.toList.map (fun e => (e.key, e.val)))[i]? = (M.map kenc)[i]? := by rw [he]
      rw [List.getElem?_map, List.getElem?_map] at hi
      rw [List.getElem?_map, List.getElem?_map, Array.toList_modify, List.getElem?_modify, List.getElem?_modify]
      by_cases e : j = i
      · subst e
        rw [he0, h1]
        simp [kenc]
      · simpa [if_neg e] using hi
/-- The two, at the operation, for the walk. -/
theorem wpList_look_kid {w : World} {ops : Array Oper} {rest : List Oper} {o : Oper} {a : Act} {Q : Exit → Act → World → Prop} (hg : o.guard = none) (m x : Operand) (hop : o.op = Op.lookup 35 m x true)
    (b : Nat) (M : KL) (k : Option Addr × Nat) (hm : a.eval m = .map (some b)) (hx : a.eval x = KK k) (h : CM w b M) (hk : KOk w k)
    (hK : wpList Try.prog ops Q rest (a.put o.dst (.tuple #[.int .i64 ((mget M k).getD 0), .bool (mget M k).isSome])) w) : wpList Try.prog ops Q (o :: rest) a w := by
  refine wpList_plain hg fun K' hK' => ?_
  unfold Oper.wp
  simp [execOp, hop, hm, hx, h.look hk, Result.andThen]
  exact hK' _ _ hK
theorem wpList_put_kid {w : World} {ops : Array Oper} {rest : List Oper} {o : Oper} {a : Act} {Q : Exit → Act → World → Prop} (hg : o.guard = none) (m x v : Operand) (hop : o.op = Op.mapUpdate 35 m x v)
    (b : Nat) (M : KL) (k : Option Addr × Nat) (c : Int) (hm : a.eval m = .map (some b)) (hx : a.eval x = KK k) (hv : a.eval v = .int .i64 c) (h : CM w b M) (hk : KOk w k)
    (hK : ∀ w', CM w' b (mput M k c) → w.grownBy w' (some b) → w'.heap.size = w.heap.size → wpList Try.prog ops Q rest (a.put o.dst undef) w') : wpList Try.prog ops Q (o :: rest) a w := by
  refine wpList_plain hg fun K' hK' => ?_
  obtain ⟨w', hrun, r1, r2, r3⟩ := h.put hk c
  unfold Oper.wp
  simp [execOp, hop, hm, hx, hv, hrun, Result.andThen]
  exact hK' _ _ (hK w' r1 r2 r3)
theorem step_put_kid {w : World} {ops : Array Oper} {o : Oper} {a : Act} {K : Act → World → Prop} {Q : Exit → Act → World → Prop} {E : Prop} (hgd : o.guard = none) (m x v : Operand) (hop : o.op = Op.mapUpdate 35 m x v)
    (b : Nat) (M : KL) (k : Option Addr × Nat) (c : Int) (hm : a.eval m = .map (some b)) (hx : a.eval x = KK k) (hv : a.eval v = .int .i64 c) (h : CM w b M) (hk : KOk w k)
    (hK : ∀ w', CM w' b (mput M k c) → w.grownBy w' (some b) → w'.heap.size = w.heap.size → K (a.put o.dst undef) w') :
    if Region.wanted o (yielded ops a.tmps) = true then Oper.wp Try.prog o a w K Q else E := by
  have hw : Region.wanted o (yielded ops a.tmps) = true := by simp [Region.wanted, hgd]
  rw [if_pos hw]
  obtain ⟨w', hrun, r1, r2, r3⟩ := h.put hk c
  unfold Oper.wp
  simp [execOp, hop, hm, hx, hv, hrun, Result.andThen]
  exact hK w' r1 r2 r3
end Go.Proofs.Ytgebonbmiapfoaa
