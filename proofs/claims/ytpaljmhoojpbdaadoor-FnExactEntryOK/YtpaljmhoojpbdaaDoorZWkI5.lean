/- The program's verification of a code. Its table of words is a premise. -/
import Derived.Test.YtpaljmhoojpbdaaDoorZFormI1
import Derived.Test.YtpaljmhoojpbdaaDoorZFormI2
import Derived.Test.YtpaljmhoojpbdaaDoorZFormI3
import Derived.Test.YtpaljmhoojpbdaaDoorZWkI4
/- The program's look at an instruction, whole. Its table of words is a premise. -/
namespace Go.Proofs.YtpaljmhoojpbdaaDoor
open Go.RowKit Go.PlainAid

set_option maxRecDepth 100000 in
set_option maxHeartbeats 4000000 in
theorem formed_out (op a b : Int) (mod name cn : ByteArray) (params cells result : Int) (pa : Option Addr) (n c : Nat) (w : World) (ho : ¬(1 ≤ op ∧ op ≤ 17)) :
    Calls Tryd.prog 53 #[.agg #[.int .i64 op, .int .i64 a, .int .i64 b, .string mod, .string name], .agg #[.string cn, .int .i64 params, .int .i64 cells, .int .i64 result, .slice pa n c], .agg opsCells] w fun e w' => e = .returned (.bool false) ∧ Below w.heap.size w w' := by
  have hmix : Tryd.prog.follows .mixedOrders = true := by kernel_rfl
  by_cases h : op < 1
  · have d1 : decide (op < 1) = true := by simpa using h
    clear ho h
    go_enter Tryd.func53, Tryd.ntmps53
    go_wp2
    go_quiet (fail)
    go_wp2
    go_ret
    exact ⟨rfl, ((((Below.refl _ _).alloc (Nat.le_refl _) _).alloc (by simp) _).alloc (by simp <;> omega) _).trans ⟨rfl, rfl, rfl, Nat.le_refl _, fun _ _ => rfl⟩⟩
  · have d1 : decide (op < 1) = false := by simpa using h
    have d2 : decide (17 < op) = true := by simp; omega
    clear ho h
    go_enter Tryd.func53, Tryd.ntmps53
    go_wp2
    go_quiet (fail)
    go_wp2
    go_ret
    exact ⟨rfl, ((((Below.refl _ _).alloc (Nat.le_refl _) _).alloc (by simp) _).alloc (by simp <;> omega) _).trans ⟨rfl, rfl, rfl, Nat.le_refl _, fun _ _ => rfl⟩⟩
theorem formed_all (op a b : Int) (mod name cn : ByteArray) (params cells result : Int) (pa : Option Addr) (n c : Nat) (w : World) (h0 : 0 ≤ cells) (h1 : cells ≤ 2000) (hm : mod.size ≤ maxLen) (hnm : name.size ≤ maxLen) (t : TypeId) (fr : Nat × Nat) (hg : w.heap[1]? = some (.cells keyRow t fr)) :
    Calls Tryd.prog 53 #[.agg #[.int .i64 op, .int .i64 a, .int .i64 b, .string mod, .string name], .agg #[.string cn, .int .i64 params, .int .i64 cells, .int .i64 result, .slice pa n c], .agg opsCells] w fun e w' => e = .returned (.bool (insB ⟨op, a, b, mod, name⟩ cells n result)) ∧ Below w.heap.size w w' := by
  by_cases ho : 1 ≤ op ∧ op ≤ 17
  · have : op = 1 ∨ op = 2 ∨ op = 3 ∨ op = 4 ∨ op = 5 ∨ op = 6 ∨ op = 7 ∨ op = 8 ∨ op = 9 ∨ op = 10 ∨ op = 11 ∨ op = 12 ∨ op = 13 ∨ op = 14 ∨ op = 15 ∨ op = 16 ∨ op = 17 := by omega
    clear ho
    rcases this with rfl | rfl | rfl | rfl | rfl | rfl | rfl | rfl | rfl | rfl | rfl | rfl | rfl | rfl | rfl | rfl | rfl
    · refine (formed_any 1 (by omega) _ a b mod name cn params cells result pa n c w hm hnm t fr hg (fun w' => fit_anyNumber 1 a b mod name cn params cells result pa n c w')).mono ?_
      rintro e w' ⟨rfl, hb⟩
      exact ⟨ret_bool (by rw [ins_form h0 h1]; simp [formB, fitB, namedB]), hb⟩
    · refine (formed_cell 2 (by omega) _ a b mod name cn params cells result pa n c w hm hnm t fr hg (fun w' => fit_cellNumber 2 a b mod name cn params cells result pa n c w')).mono ?_
      rintro e w' ⟨rfl, hb⟩
      exact ⟨ret_bool (by rw [ins_form h0 h1]; simp [formB, fitB, namedB]), hb⟩
    · refine (formed_glob _ a b mod name cn params cells result pa n c w hm hnm t fr hg (fun w' => fit_noNumber 3 a b mod name cn params cells result pa n c w')).mono ?_
      rintro e w' ⟨rfl, hb⟩
      exact ⟨ret_bool (by rw [ins_form h0 h1]; simp [formB, fitB, namedB]), hb⟩
    · refine (formed_no 4 (by omega) _ a b mod name cn params cells result pa n c w hm hnm t fr hg (fun w' => fit_noNumber 4 a b mod name cn params cells result pa n c w')).mono ?_
      rintro e w' ⟨rfl, hb⟩
      exact ⟨ret_bool (by rw [ins_form h0 h1]; simp [formB, fitB, namedB]), hb⟩
    · refine (formed_no 5 (by omega) _ a b mod name cn params cells result pa n c w hm hnm t fr hg (fun w' => fit_noNumber 5 a b mod name cn params cells result pa n c w')).mono ?_
      rintro e w' ⟨rfl, hb⟩
      exact ⟨ret_bool (by rw [ins_form h0 h1]; simp [formB, fitB, namedB]), hb⟩
    · refine (formed_arr 6 (by omega) _ a b mod name cn params cells result pa n c w hm hnm t fr hg (fun w' => fit_arrayLength 6 a b mod name cn params cells result pa n c w')).mono ?_
      rintro e w' ⟨rfl, hb⟩
      exact ⟨ret_bool (by rw [ins_form h0 h1]; simp [formB, fitB, namedB]), hb⟩
    · refine (formed_sign 7 (by omega) _ a b mod name cn params cells result pa n c w hm hnm t fr hg (fun w' => fit_signNumber 7 a b mod name cn params cells result pa n c w')).mono ?_
      rintro e w' ⟨rfl, hb⟩
      exact ⟨ret_bool (by rw [ins_form h0 h1]; simp [formB, fitB, namedB]), hb⟩
    · refine (formed_no 8 (by omega) _ a b mod name cn params cells result pa n c w hm hnm t fr hg (fun w' => fit_noNumber 8 a b mod name cn params cells result pa n c w')).mono ?_
      rintro e w' ⟨rfl, hb⟩
      exact ⟨ret_bool (by rw [ins_form h0 h1]; simp [formB, fitB, namedB]), hb⟩
    · refine (formed_no 9 (by omega) _ a b mod name cn params cells result pa n c w hm hnm t fr hg (fun w' => fit_noNumber 9 a b mod name cn params cells result pa n c w')).mono ?_
      rintro e w' ⟨rfl, hb⟩
      exact ⟨ret_bool (by rw [ins_form h0 h1]; simp [formB, fitB, namedB]), hb⟩
    · refine (formed_no 10 (by omega) _ a b mod name cn params cells result pa n c w hm hnm t fr hg (fun w' => fit_noNumber 10 a b mod name cn params cells result pa n c w')).mono ?_
      rintro e w' ⟨rfl, hb⟩
      exact ⟨ret_bool (by rw [ins_form h0 h1]; simp [formB, fitB, namedB]), hb⟩
    · refine (formed_target 11 (by omega) _ a b mod name cn params cells result pa n c w hm hnm t fr hg (fun w' => fit_target 11 a b mod name cn params cells result pa n c w')).mono ?_
      rintro e w' ⟨rfl, hb⟩
      exact ⟨ret_bool (by rw [ins_form h0 h1]; simp [formB, fitB, namedB]), hb⟩
    · refine (formed_target 12 (by omega) _ a b mod name cn params cells result pa n c w hm hnm t fr hg (fun w' => fit_target 12 a b mod name cn params cells result pa n c w')).mono ?_
      rintro e w' ⟨rfl, hb⟩
      exact ⟨ret_bool (by rw [ins_form h0 h1]; simp [formB, fitB, namedB]), hb⟩
    · refine (formed_call _ a b mod name cn params cells result pa n c w hm hnm t fr hg (fun w' => fit_argumentCount 13 a b mod name cn params cells result pa n c w')).mono ?_
      rintro e w' ⟨rfl, hb⟩
      exact ⟨ret_bool (by rw [ins_form h0 h1]; simp [formB, fitB, namedB]), hb⟩
    · refine (formed_due 14 (by omega) _ a b mod name cn params cells result pa n c w hm hnm t fr hg (fun w' => fit_dueResult 14 a b mod name cn params cells result pa n c w')).mono ?_
      rintro e w' ⟨rfl, hb⟩
      exact ⟨ret_bool (by rw [ins_form h0 h1]; simp [formB, fitB, namedB]), hb⟩
    · refine (formed_val 15 (by omega) _ a b mod name cn params cells result pa n c w hm hnm t fr hg (fun w' => fit_valueTyped 15 a b mod name cn params cells result pa n c w')).mono ?_
      rintro e w' ⟨rfl, hb⟩
      exact ⟨ret_bool (by rw [ins_form h0 h1]; simp [formB, fitB, namedB]), hb⟩
    · refine (formed_read 16 (by omega) _ a b mod name cn params cells result pa n c w hm hnm t fr hg (fun w' => fit_readTyped 16 a b mod name cn params cells result pa n c w')).mono ?_
      rintro e w' ⟨rfl, hb⟩
      exact ⟨ret_bool (by rw [ins_form h0 h1]; simp [formB, fitB, namedB]), hb⟩
    · refine (formed_trap 17 (by omega) _ a b mod name cn params cells result pa n c w hm hnm t fr hg (fun w' => fit_trapNumber 17 a b mod name cn params cells result pa n c w')).mono ?_
      rintro e w' ⟨rfl, hb⟩
      exact ⟨ret_bool (by rw [ins_form h0 h1]; simp [formB, fitB, namedB]), hb⟩
  · refine (formed_out op a b mod name cn params cells result pa n c w ho).mono ?_
    rintro e w' ⟨rfl, hb⟩
    refine ⟨ret_bool ?_, hb⟩
    rw [ins_form h0 h1]
    unfold formB
    have : (decide (1 ≤ (InsD.mk op a b mod name).op) && decide ((InsD.mk op a b mod name).op ≤ 17)) = false := by simp; omega
    rw [this]
    rfl
end Go.Proofs.YtpaljmhoojpbdaaDoor

namespace Go.Proofs.YtpaljmhoojpbdaaDoor
open Go.ChangeShapes Go.WideShapes Go.ChangeAt Go.RowKit Go.Deep

theorem wpList_load_row {P : Program} {w : World} {ops : Array Oper} {rest : List Oper} {op : Oper} {a : Act} {Q : Exit → Act → World → Prop} (hgd : op.guard = none) (ty : TypeId) (x : Operand) (ho : op.op = .load ty x) (g : Nat) (cs : Array Value) (t : TypeId) (fr : Nat × Nat) (d : TypeDesc) (hg : w.heap[g]? = some (.cells cs t fr))
    (hx : a.eval x = .pointer (some ⟨g, 0, none⟩)) (hu : P.underlying ty = some d) (hd : (match d with | .struct _ | .array _ _ => true | _ => false) = true) (hi : (P.info? ty).map (·.size) = some cs.size)
    (h : wpList P ops Q rest (a.put op.dst (.agg cs)) w) : wpList P ops Q (op :: rest) a w :=
  wpList_plain hgd fun _ hK => by
    unfold Oper.wp execOp
    simp only [ho, hx, Instr.loadAt, Instr.sureAddr, Sem.run_bind, Sem.run_pure, Result.andThen_ok, run_loadVar_row w g t ty cs fr d hg hu hd hi]
    exact hK _ _ h
theorem setAll_list : ∀ (l : List Value) (s off : Nat) (C : Array Value) (k : Nat), ((l.zipIdx s).foldl (fun (cs : Array Value) (x : Value × Nat) => cs.setIfInBounds (off + x.2) x.1) C)[k]? = if off + s ≤ k ∧ k < off + s + l.length ∧ k < C.size then l[k - off - s]? else C[k]?
  | [], s, off, C, k => by
    rw [if_neg (by simp; omega)]
    rfl
  | v :: l, s, off, C, k => by
    rw [List.zipIdx_cons, List.foldl_cons, setAll_list l (s + 1) off _ k]
    simp only [Array.size_setIfInBounds, List.length_cons]
    by_cases h : off + (s + 1) ≤ k ∧ k < off + (s + 1) + l.length ∧ k < C.size
    · rw [if_pos h, if_pos (by omega), show k - off - s = (k - off - (s + 1)) + 1 by omega, List.getElem?_cons_succ]
    · rw [if_neg h]
      by_cases e : k = off + s
      · subst e
        by_cases hk : off + s < C.size
        · rw [if_pos ⟨by omega, by omega, hk⟩, Array.getElem?_setIfInBounds_self_of_lt hk, show off + s - off - s = 0 by omega]
          rfl
        · rw [if_neg (by omega), Array.getElem?_eq_none (by simp; omega), Array.getElem?_eq_none (by omega)]
      · rw [Array.getElem?_setIfInBounds_ne (by omega), if_neg (by omega)]
theorem setAll_at (vs C : Array Value) (k : Nat) : (Array.foldl (fun (cs : Array Value) (x : Value × Nat) => cs.setIfInBounds (1 + x.snd) x.fst) C vs.zipIdx 0 vs.size)[k]? = if 1 ≤ k ∧ k < 1 + vs.size ∧ k < C.size then vs[k - 1]? else C[k]? := by
  have := setAll_list vs.toList 0 1 C k
  rw [show vs.size = vs.zipIdx.size by simp, ← Array.foldl_toList, Array.toList_zipIdx]
  simpa using this
theorem setAll_size (vs C : Array Value) : (Array.foldl (fun (cs : Array Value) (x : Value × Nat) => cs.setIfInBounds (1 + x.snd) x.fst) C vs.zipIdx 0 vs.size).size = C.size := by
  have key : ∀ (l : List (Value × Nat)) (C : Array Value), (l.foldl (fun (cs : Array Value) (x : Value × Nat) => cs.setIfInBounds (1 + x.2) x.1) C).size = C.size := by
    intro l
    induction l with
    | nil => intro C; rfl
    | cons x l ih => intro C; rw [List.foldl_cons, ih]; simp
  rw [show vs.size = vs.zipIdx.size by simp, ← Array.foldl_toList]
  exact key _ C
theorem zW_size : Tryd.zeroCells113.size = 6091 := by kernel_rfl
theorem zW_bools : (Tryd.zeroCells113.toList.drop 2091).all (fun v => match v with | .bool false => true | _ => false) = true := by kernel_rfl
theorem zW_ints : ((Tryd.zeroCells113.toList.drop 91).take 2000).all (fun v => match v with | .int .i64 0 => true | _ => false) = true := by kernel_rfl
theorem zW_bool (k : Nat) (h1 : 2091 ≤ k) (h2 : k < 6091) : Tryd.zeroCells113[k]? = some (.bool false) := by
  have hk : k < Tryd.zeroCells113.size := by rw [zW_size]; exact h2
  rw [Array.getElem?_eq_getElem hk]
  have hm : Tryd.zeroCells113[k] ∈ Tryd.zeroCells113.toList.drop 2091 := by
    refine List.mem_iff_getElem?.2 ⟨k - 2091, ?_⟩
    rw [List.getElem?_drop, show 2091 + (k - 2091) = k by omega, Array.getElem?_toList, Array.getElem?_eq_getElem hk]
  have := List.all_eq_true.1 zW_bools _ hm
  split at this
  · rename_i e
    rw [e]
  · cases this
theorem zW_int (k : Nat) (h1 : 91 ≤ k) (h2 : k < 2091) : Tryd.zeroCells113[k]? = some (.int .i64 0) := by
  have hk : k < Tryd.zeroCells113.size := by rw [zW_size]; omega
  rw [Array.getElem?_eq_getElem hk]
  have hm : Tryd.zeroCells113[k] ∈ (Tryd.zeroCells113.toList.drop 91).take 2000 := by
    refine List.mem_iff_getElem?.2 ⟨k - 91, ?_⟩
    rw [List.getElem?_take_of_lt (by omega), List.getElem?_drop, show 91 + (k - 91) = k by omega, Array.getElem?_toList, Array.getElem?_eq_getElem hk]
  have := List.all_eq_true.1 zW_ints _ hm
  split at this
  · rename_i e
    rw [e]
  · cases this
theorem walk_new (a : Option Addr) (n c : Nat) (hn : n ≤ 2000) : WkNew (Array.foldl (fun (cs : Array Value) (x : Value × Nat) => cs.setIfInBounds (1 + x.snd) x.fst) (Tryd.zeroCells113.setIfInBounds 0 (.slice a n c)) opsCells.zipIdx 0 opsCells.size) (.slice a n c) n := by
  have hs : (Tryd.zeroCells113.setIfInBounds 0 (.slice a n c)).size = 6091 := by rw [Array.size_setIfInBounds, zW_size]
  have at1 : ∀ k, 1 ≤ k → (Tryd.zeroCells113.setIfInBounds 0 (.slice a n c))[k]? = Tryd.zeroCells113[k]? := fun k hk => Array.getElem?_setIfInBounds_ne (by omega)
  refine ⟨by rw [setAll_size, hs], ?_, fun j hj => ?_, hn, fun j hj => ⟨?_, ?_, ?_⟩⟩
  · rw [setAll_at, if_neg (by omega), Array.getElem?_setIfInBounds_self_of_lt (by rw [zW_size]; omega)]
  · rw [setAll_at, if_pos ⟨by omega, by rw [ops_size]; omega, by rw [hs]; omega⟩, show 1 + j - 1 = j by omega]
  · rw [setAll_at, if_neg (by rw [ops_size]; omega), at1 _ (by omega), zW_bool _ (by omega) (by omega)]
  · rw [setAll_at, if_neg (by rw [ops_size]; omega), at1 _ (by omega), zW_int _ (by omega) (by omega)]
  · rw [setAll_at, if_neg (by rw [ops_size]; omega), at1 _ (by omega), zW_bool _ (by omega) (by omega)]
theorem ErrR.mono {T : Int × Int} {g g' : Nat} {w w1 w' : World} {e : Ending} (h : ErrR T g w1 e w') (b : Below g' w w1) (hg : g' ≤ g) : ErrR T g' w e w' := ⟨b.trans (h.1.mono hg), h.2⟩
set_option maxRecDepth 100000 in
set_option maxHeartbeats 4000000 in
theorem codeFault_any (cn : ByteArray) (params cells result : Int) (l : List InsD) (v : Value) (m : Md) (w : World) (hv : CodeVal w m v ⟨cn, params, cells, result, l⟩) (hm : m.hi ≤ w.heap.size) (t : TypeId) (fr : Nat × Nat) (hg : w.heap[1]? = some (.cells keyRow t fr)) :
    Calls Tryd.prog 24 #[v] w (ErrR (verC ⟨cn, params, cells, result, l⟩) w.heap.size w) := by
  obtain ⟨u4, rfl, ⟨hcn, -, -, -, -⟩, a, c, rfl, H⟩ := hv
  simp only [] at hcn H
  obtain ⟨n, hn⟩ : ∃ n, l.length = n := ⟨_, rfl⟩
  have HN := hide hn
  obtain ⟨W, hW⟩ : ∃ W, W = w.alloc (.cells #[.string cn, .int .i64 params, .int .i64 cells, .int .i64 result, .slice a n c] 30) := ⟨_, rfl⟩
  have bW : Below w.heap.size w W := by rw [hW]; exact (Below.refl _ _).alloc (Nat.le_refl _) _
  have x0 : W.heap[w.heap.size]? = some (.cells #[.string cn, .int .i64 params, .int .i64 cells, .int .i64 result, .slice a n c] 30 (0, 0)) := by rw [hW]; exact Deep.blk_alloc_new w _
  have zWW : w.heap.size < W.heap.size := (Array.getElem?_eq_some_iff.1 x0).1
  have HHd := hide (headFits_any cn params cells result l a c W hcn t fr ((bW.block 1 (Array.getElem?_eq_some_iff.1 hg).1).trans hg))
  have HG := hide hg
  have HM := hide hm
  have HR := hide H
  have HB := hide bW
  have C0 := (heapCells x0).1 0
  have C1 := (heapCells x0).1 1
  have C2 := (heapCells x0).1 2
  have C3 := (heapCells x0).1 3
  have C4 := (heapCells x0).1 4
  simp only [List.getElem?_toArray, List.getElem?_cons_zero, List.getElem?_cons_succ] at C0 C1 C2 C3 C4
  have HX0 := hide x0
  rw [hn] at HHd ⊢
  clear hg hm H bW x0 hcn
  cases hh : headB ⟨cn, params, cells, result, l⟩ with
  | false =>
    rw [hh] at HHd
    have HV := hide (head_no hh)
    clear hh hn
    go_enter Tryd.func24, Tryd.ntmps24
    go_upto_region 1 with fail
    rw [← hW]
    clear hW
    go_wp2_with (go_at_call 51; refine HHd.out.mono ?_; rintro e w1 ⟨rfl, b1⟩)
    go_ret
    exact ErrR.bad HV.out (by decide) (HB.out.trans (b1.mono HB.out.size))
  | true =>
    rw [hh] at HHd
    obtain ⟨g1, g2, p1, p2, p3, -, -⟩ := head_all hh
    simp only [] at g1 g2 p1 p2 p3
    rw [hn] at g1 g2
    have HHH := hide hh
    have P3 := hide p3
    have P2 : Hid (0 ≤ cells ∧ cells ≤ 2000) := hide (by unfold inB at p1 p2; simp at p1 p2; omega)
    have hz := (zero_of_info ops_info).1
    clear hh hn p1 p2 p3
    go_enter Tryd.func24, Tryd.ntmps24
    go_upto_region 1 with fail
    rw [← hW]
    clear hW
    go_wp2_with (first
      | (go_at_call 51; refine HHd.out.mono ?_; rintro e w1 ⟨rfl, b1⟩; have D4 := (b1.cell (p := ⟨w.heap.size, 4, none⟩) zWW).trans C4; have hz1 : w.heap.size < w1.heap.size := Nat.lt_of_lt_of_le zWW b1.size)
      | (go_at_call 52; refine (operations_any _).mono ?_; rintro e w2 ⟨rfl, rfl⟩)
      | (refine wpList_store_new rfl 106 _ _ rfl (w1.alloc (.cells opsCells 106)) zeroCells opsCells rfl (by simp [go_sem]) rfl ops_size' (by kernel_rfl) (by kernel_rfl) ?_))
    have hb2 : Below w1.heap.size w1 ((w1.alloc (.cells opsCells 106)).alloc (.cells opsCells 106)) := ((Below.refl _ _).alloc (Nat.le_refl _) _).alloc (by simp) _
    obtain ⟨W2, hW2⟩ : ∃ W2, W2 = (w1.alloc (.cells opsCells 106)).alloc (.cells opsCells 106) := ⟨_, rfl⟩
    have y1 : W2.heap[w1.heap.size + 1]? = some (.cells opsCells 106 (0, 0)) := by
      rw [hW2]
      have := Deep.blk_alloc_new (w1.alloc (.cells opsCells 106)) (.cells opsCells 106)
      rwa [World.size_alloc] at this
    rw [← hW2] at hb2 ⊢
    have HB2 := hide ((HB.out.trans (b1.mono HB.out.size)).trans (hb2.mono (HB.out.trans (b1.mono HB.out.size)).size))
    have HY1 := hide y1
    have x02 := (hb2.block w.heap.size hz1).trans ((b1.block w.heap.size zWW).trans HX0.out)
    have HX2 := hide x02
    have z2 : w1.heap.size + 1 < W2.heap.size := (Array.getElem?_eq_some_iff.1 y1).1
    clear hW2 hb2 b1 y1 x02 C0 C1 C2 C3 C4 D4 hz
    go_loopg [16] n (fun q iv wr => ∃ k : Nat, iv = .int .i64 k ∧ k ≤ n ∧ q = n - k ∧ Hid (FormUp l cells n result k) ∧ Hid (Below W2.heap.size W2 wr))
    case atStart => exact ⟨0, rfl, by omega, rfl, hide (fun j _ h => absurd h (by omega)), hide (Below.refl _ _)⟩
    case round =>
      obtain ⟨k, rfl, hk, hq, HU, HBr⟩ := hrel
      have HQ := hide hq
      clear hq
      have hx := (HBr.out.block w.heap.size (by omega)).trans HX2.out
      have hy := (HBr.out.block (w1.heap.size + 1) z2).trans HY1.out
      have C0 := (heapCells hx).1 0
      have C1 := (heapCells hx).1 1
      have C2 := (heapCells hx).1 2
      have C3 := (heapCells hx).1 3
      have C4 := (heapCells hx).1 4
      simp only [List.getElem?_toArray, List.getElem?_cons_zero, List.getElem?_cons_succ] at C0 C1 C2 C3 C4
      have hball : Below w.heap.size w wr := HB2.out.trans (HBr.out.mono HB2.out.size)
      have hzr : w1.heap.size + 1 < wr.heap.size := Nat.lt_of_lt_of_le z2 HBr.out.size
      have hzr0 : w.heap.size < wr.heap.size := by omega
      have HY := hide hy
      by_cases hp : k < n
      · have i1 : (k : Int) < n := by omega
        have hkl : k < l.length := by rw [HN.out]; exact hp
        have HT : Hid (insB l[k] cells n result = false → verC ⟨cn, params, cells, result, l⟩ = (3, (k : Int))) := hide fun e => verC_form HHH.out (by
          have := formAt_snoc (cells := cells) (len := n) (result := result) l 0 k hkl (fun j hj => HU.out j (by omega) hj) e
          rw [Nat.zero_add] at this
          show formAt cells (l.length : Nat) result 0 l = some k
          rw [HN.out]
          exact this)
        have HS : Hid (insB l[k] cells n result = true → FormUp l cells n result (k + 1)) := hide fun e j hj hlt => by
          by_cases q : j < k
          · exact HU.out j hj q
          · obtain rfl : j = k := by omega
            exact e
        obtain ⟨b, o, rfl, hb1, hb2, -, he⟩ := rows_on InsAt.stays HR.out (hball.mono HM.out) k hkl
        have hcap : k ≤ c := by have := hb1.2; omega
        obtain ⟨x, hx⟩ : ∃ x, l[k] = x := ⟨_, rfl⟩
        rw [hx] at he HT HS
        clear hx hb1
        obtain ⟨op, ia, ib, im, iname⟩ := x
        obtain ⟨⟨c0, c1, c2, c3, c4⟩, ⟨-, -, -, r3, r4⟩⟩ := he
        simp only [Nat.add_zero] at c0 c1 c2 c3 c4 r3 r4
        have HFm : Hid (∀ w', Below wr.heap.size wr w' → Calls Tryd.prog 53 #[.agg #[.int .i64 op, .int .i64 ia, .int .i64 ib, .string im, .string iname], .agg #[.string cn, .int .i64 params, .int .i64 cells, .int .i64 result, .slice (some ⟨b, o, none⟩) n c], .agg opsCells] w' fun e w2 => e = .returned (.bool (insB ⟨op, ia, ib, im, iname⟩ cells n result)) ∧ Below w'.heap.size w' w2) := hide fun w' bel =>
          formed_all op ia ib im iname cn params cells result _ n c w' P2.out.1 P2.out.2 r3 r4 t fr (((hball.trans (bel.mono hball.size)).block 1 (Array.getElem?_eq_some_iff.1 HG.out).1).trans HG.out)
        have HBa := hide hball
        clear hball r3 r4
        generalize insB ⟨op, ia, ib, im, iname⟩ cells n result = ok at *
        cases ok with
        | false =>
          go_wp2_with (first
            | (refine wpList_load_row rfl 106 _ rfl (w1.heap.size + 1) opsCells 106 (0, 0) _ ((Below.heap_alloc _ _ _ (by omega)).trans HY.out) rfl ops_type rfl ops_size' ?_)
            | (go_at_call 53; refine (HFm.out _ ((Below.refl _ _).alloc (Nat.le_refl _) _)).mono ?_; rintro e w5 ⟨rfl, b5⟩))
          go_ret
          exact ErrR.bad (HT.out trivial) (by decide) (HBa.out.trans ((((Below.refl _ _).alloc (Nat.le_refl _) _).trans (b5.mono (by simp))).mono HBa.out.size))
        | true =>
          go_wp2_with (first
            | (refine wpList_load_row rfl 106 _ rfl (w1.heap.size + 1) opsCells 106 (0, 0) _ ((Below.heap_alloc _ _ _ (by omega)).trans HY.out) rfl ops_type rfl ops_size' ?_)
            | (go_at_call 53; refine (HFm.out _ ((Below.refl _ _).alloc (Nat.le_refl _) _)).mono ?_; rintro e w5 ⟨rfl, b5⟩))
          go_roundg (n - (k + 1))
          case measure => rw [HQ.out]; omega
          case rel => exact ⟨k + 1, by go_num, by omega, rfl, hide (HS.out trivial), hide (HBr.out.trans ((((Below.refl _ wr).alloc (Nat.le_refl _) _).trans (b5.mono (by simp))).mono HBr.out.size))⟩
      · have i1 : ¬ (k : Int) < n := by omega
        obtain rfl : k = n := by omega
        have hfn : formAt cells (l.length : Nat) result 0 l = none := by
          rw [HN.out]
          refine formAt_all l 0 fun x hx => ?_
          obtain ⟨j, hj, rfl⟩ := List.getElem_of_mem hx
          exact HU.out j hj (by rw [← HN.out]; exact hj)
        have HV := hide (verC_go HHH.out hfn)
        have hIn := form_all l 0 hfn
        rw [HN.out] at hIn
        have HIn := hide hIn
        have HBa := hide hball
        clear hfn hIn hball HU
        have HTh := hide (through_any wr.heap.size a c k l m cells result _ (wr.alloc (.cells (Array.foldl (fun (cs : Array Value) (x : Value × Nat) => cs.setIfInBounds (1 + x.snd) x.fst) (Tryd.zeroCells113.setIfInBounds 0 (.slice a k c)) opsCells.zipIdx 0 opsCells.size) 113)) (Deep.blk_alloc_new wr _) (walk_new a k c g2) HN.out (by omega) ⟨a, c, by rw [HN.out], rows_on InsAt.stays HR.out ((HBa.out.trans (((Below.refl _ wr).alloc (Nat.le_refl _) _).mono HBa.out.size)).mono HM.out)⟩ (Nat.le_trans HM.out HBa.out.size) HIn.out P3.out)
        go_wp2_with (first
          | (refine wpList_load_row rfl 106 _ rfl (w1.heap.size + 1) opsCells 106 (0, 0) _ HY.out rfl ops_type rfl ops_size' ?_)
          | (go_at_call 54; refine HTh.out.mono ?_; rintro e w9 ⟨b9, he⟩; obtain ⟨vv, hvv⟩ : ∃ vv, (if (roundsV l (l.length + 1) ((List.replicate l.length (-1)).set 0 0)).1 = 0 then Value.nilIface else fvI (roundsV l (l.length + 1) ((List.replicate l.length (-1)).set 0 0)).1 (roundsV l (l.length + 1) ((List.replicate l.length (-1)).set 0 0)).2) = vv := ⟨_, rfl⟩; rw [hvv] at he; subst he; have HVV := hide hvv; clear hvv))
        go_ret
        exact ⟨HBa.out.trans ((((Below.refl _ wr).alloc (Nat.le_refl _) _).trans b9).mono HBa.out.size), by rw [HV.out]; exact congrArg Ending.returned HVV.out.symm⟩
end Go.Proofs.YtpaljmhoojpbdaaDoor
