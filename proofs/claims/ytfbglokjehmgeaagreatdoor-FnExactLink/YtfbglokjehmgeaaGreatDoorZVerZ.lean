/- What a code that verifies gives over plain data; the model's verification. No condition. -/
import Derived.Test.YtfbglokjehmgeaaGreatDoorZFormI1
import Derived.Test.YtfbglokjehmgeaaGreatDoorZFormI2
import Derived.Test.YtfbglokjehmgeaaGreatDoorZFormI3
import Derived.Test.YtfbglokjehmgeaaGreatDoorZIFit
import Derived.Test.YtfbglokjehmgeaaGreatDoorZTchL
import Derived.Lib.AppendStr
import Derived.OwnWalk
import Derived.PlainAid
/- The program's look at an instruction, whole. Its table of words is a premise. -/
namespace Go.Proofs.YtfbglokjehmgeaaGreatDoor
open Go.RowKit Go.PlainAid

set_option maxRecDepth 100000 in
set_option maxHeartbeats 4000000 in
theorem formed_out (op a b : Int) (mod name cn : ByteArray) (params cells result : Int) (pa : Option Addr) (n c : Nat) (w : World) (ho : ¬(1 ≤ op ∧ op ≤ 17)) :
    Calls Tryz.prog 108 #[.agg #[.int .i64 op, .int .i64 a, .int .i64 b, .string mod, .string name], .agg #[.string cn, .int .i64 params, .int .i64 cells, .int .i64 result, .slice pa n c], .agg opsCells] w fun e w' => e = .returned (.bool false) ∧ Below w.heap.size w w' := by
  have hmix : Tryz.prog.follows .mixedOrders = true := by kernel_rfl
  by_cases h : op < 1
  · have d1 : decide (op < 1) = true := by simpa using h
    clear ho h
    go_enter Tryz.func108, Tryz.ntmps108
    go_wp2
    go_quiet (fail)
    go_wp2
    go_ret
    exact ⟨rfl, ((((Below.refl _ _).alloc (Nat.le_refl _) _).alloc (by simp) _).alloc (by simp <;> omega) _).trans ⟨rfl, rfl, rfl, Nat.le_refl _, fun _ _ => rfl⟩⟩
  · have d1 : decide (op < 1) = false := by simpa using h
    have d2 : decide (17 < op) = true := by simp; omega
    clear ho h
    go_enter Tryz.func108, Tryz.ntmps108
    go_wp2
    go_quiet (fail)
    go_wp2
    go_ret
    exact ⟨rfl, ((((Below.refl _ _).alloc (Nat.le_refl _) _).alloc (by simp) _).alloc (by simp <;> omega) _).trans ⟨rfl, rfl, rfl, Nat.le_refl _, fun _ _ => rfl⟩⟩
theorem formed_all (op a b : Int) (mod name cn : ByteArray) (params cells result : Int) (pa : Option Addr) (n c : Nat) (w : World) (h0 : 0 ≤ cells) (h1 : cells ≤ 2000) (hm : mod.size ≤ maxLen) (hnm : name.size ≤ maxLen) (t : TypeId) (fr : Nat × Nat) (hg : w.heap[1]? = some (.cells keyRow t fr)) :
    Calls Tryz.prog 108 #[.agg #[.int .i64 op, .int .i64 a, .int .i64 b, .string mod, .string name], .agg #[.string cn, .int .i64 params, .int .i64 cells, .int .i64 result, .slice pa n c], .agg opsCells] w fun e w' => e = .returned (.bool (insB ⟨op, a, b, mod, name⟩ cells n result)) ∧ Below w.heap.size w w' := by
  by_cases ho : 1 ≤ op ∧ op ≤ 17
  · have : op = 1 ∨ op = 2 ∨ op = 3 ∨ op = 4 ∨ op = 5 ∨ op = 6 ∨ op = 7 ∨ op = 8 ∨ op = 9 ∨ op = 10 ∨ op = 11 ∨ op = 12 ∨ op = 13 ∨ op = 14 ∨ op = 15 ∨ op = 16 ∨ op = 17 := by omega
    clear ho
    rcases this with rfl | rfl | rfl | rfl | rfl | rfl | rfl | rfl | rfl | rfl | rfl | rfl | rfl | rfl | rfl | rfl | rfl
    · refine (formed_any 1 (by omega) _ a b mod name cn params cells result pa n c w hm hnm t fr hg (fun w' => fit_anyNumber 1 a b mod name cn params cells result pa n c w')).mono ?_
      rintro e w' ⟨rfl, hb⟩
      exact ⟨ret_bool (by rw [ins_form h0 h1]; simp [formB, fitB, namedB]), hb⟩
    · refine (formed_cell 2 (by omega) _ a b mod name cn params cells result pa n c w hm hnm t fr hg (fun w' => fit_cellNumber 2 a b mod name cn params cells result pa n c w')).mono ?_
      rintro e w' ⟨rfl, hb⟩
      exact ⟨ret_bool (by rw [ins_form h0 h1]; simp [formB, fitB, namedB]), hb⟩
    · refine (formed_glob _ a b mod name cn params cells result pa n c w hm hnm t fr hg (fun w' => fit_noNumber 3 a b mod name cn params cells result pa n c w')).mono ?_
      rintro e w' ⟨rfl, hb⟩
      exact ⟨ret_bool (by rw [ins_form h0 h1]; simp [formB, fitB, namedB]), hb⟩
    · refine (formed_no 4 (by omega) _ a b mod name cn params cells result pa n c w hm hnm t fr hg (fun w' => fit_noNumber 4 a b mod name cn params cells result pa n c w')).mono ?_
      rintro e w' ⟨rfl, hb⟩
      exact ⟨ret_bool (by rw [ins_form h0 h1]; simp [formB, fitB, namedB]), hb⟩
    · refine (formed_no 5 (by omega) _ a b mod name cn params cells result pa n c w hm hnm t fr hg (fun w' => fit_noNumber 5 a b mod name cn params cells result pa n c w')).mono ?_
      rintro e w' ⟨rfl, hb⟩
      exact ⟨ret_bool (by rw [ins_form h0 h1]; simp [formB, fitB, namedB]), hb⟩
    · refine (formed_arr 6 (by omega) _ a b mod name cn params cells result pa n c w hm hnm t fr hg (fun w' => fit_arrayLength 6 a b mod name cn params cells result pa n c w')).mono ?_
      rintro e w' ⟨rfl, hb⟩
      exact ⟨ret_bool (by rw [ins_form h0 h1]; simp [formB, fitB, namedB]), hb⟩
    · refine (formed_sign 7 (by omega) _ a b mod name cn params cells result pa n c w hm hnm t fr hg (fun w' => fit_signNumber 7 a b mod name cn params cells result pa n c w')).mono ?_
      rintro e w' ⟨rfl, hb⟩
      exact ⟨ret_bool (by rw [ins_form h0 h1]; simp [formB, fitB, namedB]), hb⟩
    · refine (formed_no 8 (by omega) _ a b mod name cn params cells result pa n c w hm hnm t fr hg (fun w' => fit_noNumber 8 a b mod name cn params cells result pa n c w')).mono ?_
      rintro e w' ⟨rfl, hb⟩
      exact ⟨ret_bool (by rw [ins_form h0 h1]; simp [formB, fitB, namedB]), hb⟩
    · refine (formed_no 9 (by omega) _ a b mod name cn params cells result pa n c w hm hnm t fr hg (fun w' => fit_noNumber 9 a b mod name cn params cells result pa n c w')).mono ?_
      rintro e w' ⟨rfl, hb⟩
      exact ⟨ret_bool (by rw [ins_form h0 h1]; simp [formB, fitB, namedB]), hb⟩
    · refine (formed_no 10 (by omega) _ a b mod name cn params cells result pa n c w hm hnm t fr hg (fun w' => fit_noNumber 10 a b mod name cn params cells result pa n c w')).mono ?_
      rintro e w' ⟨rfl, hb⟩
      exact ⟨ret_bool (by rw [ins_form h0 h1]; simp [formB, fitB, namedB]), hb⟩
    · refine (formed_target 11 (by omega) _ a b mod name cn params cells result pa n c w hm hnm t fr hg (fun w' => fit_target 11 a b mod name cn params cells result pa n c w')).mono ?_
      rintro e w' ⟨rfl, hb⟩
      exact ⟨ret_bool (by rw [ins_form h0 h1]; simp [formB, fitB, namedB]), hb⟩
    · refine (formed_target 12 (by omega) _ a b mod name cn params cells result pa n c w hm hnm t fr hg (fun w' => fit_target 12 a b mod name cn params cells result pa n c w')).mono ?_
      rintro e w' ⟨rfl, hb⟩
      exact ⟨ret_bool (by rw [ins_form h0 h1]; simp [formB, fitB, namedB]), hb⟩
    · refine (formed_call _ a b mod name cn params cells result pa n c w hm hnm t fr hg (fun w' => fit_argumentCount 13 a b mod name cn params cells result pa n c w')).mono ?_
      rintro e w' ⟨rfl, hb⟩
      exact ⟨ret_bool (by rw [ins_form h0 h1]; simp [formB, fitB, namedB]), hb⟩
    · refine (formed_due 14 (by omega) _ a b mod name cn params cells result pa n c w hm hnm t fr hg (fun w' => fit_dueResult 14 a b mod name cn params cells result pa n c w')).mono ?_
      rintro e w' ⟨rfl, hb⟩
      exact ⟨ret_bool (by rw [ins_form h0 h1]; simp [formB, fitB, namedB]), hb⟩
    · refine (formed_val 15 (by omega) _ a b mod name cn params cells result pa n c w hm hnm t fr hg (fun w' => fit_valueTyped 15 a b mod name cn params cells result pa n c w')).mono ?_
      rintro e w' ⟨rfl, hb⟩
      exact ⟨ret_bool (by rw [ins_form h0 h1]; simp [formB, fitB, namedB]), hb⟩
    · refine (formed_read 16 (by omega) _ a b mod name cn params cells result pa n c w hm hnm t fr hg (fun w' => fit_readTyped 16 a b mod name cn params cells result pa n c w')).mono ?_
      rintro e w' ⟨rfl, hb⟩
      exact ⟨ret_bool (by rw [ins_form h0 h1]; simp [formB, fitB, namedB]), hb⟩
    · refine (formed_trap 17 (by omega) _ a b mod name cn params cells result pa n c w hm hnm t fr hg (fun w' => fit_trapNumber 17 a b mod name cn params cells result pa n c w')).mono ?_
      rintro e w' ⟨rfl, hb⟩
      exact ⟨ret_bool (by rw [ins_form h0 h1]; simp [formB, fitB, namedB]), hb⟩
  · refine (formed_out op a b mod name cn params cells result pa n c w ho).mono ?_
    rintro e w' ⟨rfl, hb⟩
    refine ⟨ret_bool ?_, hb⟩
    rw [ins_form h0 h1]
    unfold formB
    have : (decide (1 ≤ (InsD.mk op a b mod name).op) && decide ((InsD.mk op a b mod name).op ≤ 17)) = false := by simp; omega
    rw [this]
    rfl
end Go.Proofs.YtfbglokjehmgeaaGreatDoor

/- The program's verification of a code. Its table of words is a premise. -/
namespace Go.Proofs.YtfbglokjehmgeaaGreatDoor
open Go.ChangeShapes Go.WideShapes Go.ChangeAt Go.RowKit Go.Deep

theorem wpList_load_row {P : Program} {w : World} {ops : Array Oper} {rest : List Oper} {op : Oper} {a : Act} {Q : Exit → Act → World → Prop} (hgd : op.guard = none) (ty : TypeId) (x : Operand) (ho : op.op = .load ty x) (g : Nat) (cs : Array Value) (t : TypeId) (fr : Nat × Nat) (d : TypeDesc) (hg : w.heap[g]? = some (.cells cs t fr))
    (hx : a.eval x = .pointer (some ⟨g, 0, none⟩)) (hu : P.underlying ty = some d) (hd : (match d with | .struct _ | .array _ _ => true | _ => false) = true) (hi : (P.info? ty).map (·.size) = some cs.size)
    (h : wpList P ops Q rest (a.put op.dst (.agg cs)) w) : wpList P ops Q (op :: rest) a w :=
  wpList_plain hgd fun _ hK => by
    unfold Oper.wp execOp
    simp only [ho, hx, Instr.loadAt, Instr.sureAddr, Sem.run_bind, Sem.run_pure, Result.andThen_ok, run_loadVar_row w g t ty cs fr d hg hu hd hi]
    exact hK _ _ h
theorem setAll_list : ∀ (l : List Value) (s off : Nat) (C : Array Value) (k : Nat), ((l.zipIdx s).foldl (fun (cs : Array Value) (x : Value × Nat) => cs.setIfInBounds (off + x.2) x.1) C)[k]? = if off + s ≤ k ∧ k < off + s + l.length ∧ k < C.size then l[k - off - s]? else C[k]?
  | [], s, off, C, k => by
    rw [if_neg (by simp; omega)]
    rfl
  | v :: l, s, off, C, k => by
    rw [List.zipIdx_cons, List.foldl_cons, setAll_list l (s + 1) off _ k]
    simp only [Array.size_setIfInBounds, List.length_cons]
    by_cases h : off + (s + 1) ≤ k ∧ k < off + (s + 1) + l.length ∧ k < C.size
    · rw [if_pos h, if_pos (by omega), show k - off - s = (k - off - (s + 1)) + 1 by omega, List.getElem?_cons_succ]
    · rw [if_neg h]
      by_cases e : k = off + s
      · subst e
        by_cases hk : off + s < C.size
        · rw [if_pos ⟨by omega, by omega, hk⟩, Array.getElem?_setIfInBounds_self_of_lt hk, show off + s - off - s = 0 by omega]
          rfl
        · rw [if_neg (by omega), Array.getElem?_eq_none (by simp; omega), Array.getElem?_eq_none (by omega)]
      · rw [Array.getElem?_setIfInBounds_ne (by omega), if_neg (by omega)]
theorem setAll_at (vs C : Array Value) (k : Nat) : (Array.foldl (fun (cs : Array Value) (x : Value × Nat) => cs.setIfInBounds (1 + x.snd) x.fst) C vs.zipIdx 0 vs.size)[k]? = if 1 ≤ k ∧ k < 1 + vs.size ∧ k < C.size then vs[k - 1]? else C[k]? := by
  have := setAll_list vs.toList 0 1 C k
  rw [show vs.size = vs.zipIdx.size by simp, ← Array.foldl_toList, Array.toList_zipIdx]
  simpa using this
theorem setAll_size (vs C : Array Value) : (Array.foldl (fun (cs : Array Value) (x : Value × Nat) => cs.setIfInBounds (1 + x.snd) x.fst) C vs.zipIdx 0 vs.size).size = C.size := by
  have key : ∀ (l : List (Value × Nat)) (C : Array Value), (l.foldl (fun (cs : Array Value) (x : Value × Nat) => cs.setIfInBounds (1 + x.2) x.1) C).size = C.size := by
    intro l
    induction l with
    | nil => intro C; rfl
    | cons x l ih => intro C; rw [List.foldl_cons, ih]; simp
  rw [show vs.size = vs.zipIdx.size by simp, ← Array.foldl_toList]
  exact key _ C
theorem zW_size : Tryz.zeroCells189.size = 6091 := by kernel_rfl
theorem zW_bools : (Tryz.zeroCells189.toList.drop 2091).all (fun v => match v with | .bool false => true | _ => false) = true := by kernel_rfl
theorem zW_ints : ((Tryz.zeroCells189.toList.drop 91).take 2000).all (fun v => match v with | .int .i64 0 => true | _ => false) = true := by kernel_rfl
theorem zW_bool (k : Nat) (h1 : 2091 ≤ k) (h2 : k < 6091) : Tryz.zeroCells189[k]? = some (.bool false) := by
  have hk : k < Tryz.zeroCells189.size := by rw [zW_size]; exact h2
  rw [Array.getElem?_eq_getElem hk]
  have hm : Tryz.zeroCells189[k] ∈ Tryz.zeroCells189.toList.drop 2091 := by
    refine List.mem_iff_getElem?.2 ⟨k - 2091, ?_⟩
    rw [List.getElem?_drop, show 2091 + (k - 2091) = k by omega, Array.getElem?_toList, Array.getElem?_eq_getElem hk]
  have := List.all_eq_true.1 zW_bools _ hm
  split at this
  · rename_i e
    rw [e]
  · cases this
theorem zW_int (k : Nat) (h1 : 91 ≤ k) (h2 : k < 2091) : Tryz.zeroCells189[k]? = some (.int .i64 0) := by
  have hk : k < Tryz.zeroCells189.size := by rw [zW_size]; omega
  rw [Array.getElem?_eq_getElem hk]
  have hm : Tryz.zeroCells189[k] ∈ (Tryz.zeroCells189.toList.drop 91).take 2000 := by
    refine List.mem_iff_getElem?.2 ⟨k - 91, ?_⟩
    rw [List.getElem?_take_of_lt (by omega), List.getElem?_drop, show 91 + (k - 91) = k by omega, Array.getElem?_toList, Array.getElem?_eq_getElem hk]
  have := List.all_eq_true.1 zW_ints _ hm
  split at this
  · rename_i e
    rw [e]
  · cases this
theorem walk_new (a : Option Addr) (n c : Nat) (hn : n ≤ 2000) : WkNew (Array.foldl (fun (cs : Array Value) (x : Value × Nat) => cs.setIfInBounds (1 + x.snd) x.fst) (Tryz.zeroCells189.setIfInBounds 0 (.slice a n c)) opsCells.zipIdx 0 opsCells.size) (.slice a n c) n := by
  have hs : (Tryz.zeroCells189.setIfInBounds 0 (.slice a n c)).size = 6091 := by rw [Array.size_setIfInBounds, zW_size]
  have at1 : ∀ k, 1 ≤ k → (Tryz.zeroCells189.setIfInBounds 0 (.slice a n c))[k]? = Tryz.zeroCells189[k]? := fun k hk => Array.getElem?_setIfInBounds_ne (by omega)
  refine ⟨by rw [setAll_size, hs], ?_, fun j hj => ?_, hn, fun j hj => ⟨?_, ?_, ?_⟩⟩
  · rw [setAll_at, if_neg (by omega), Array.getElem?_setIfInBounds_self_of_lt (by rw [zW_size]; omega)]
  · rw [setAll_at, if_pos ⟨by omega, by rw [ops_size]; omega, by rw [hs]; omega⟩, show 1 + j - 1 = j by omega]
  · rw [setAll_at, if_neg (by rw [ops_size]; omega), at1 _ (by omega), zW_bool _ (by omega) (by omega)]
  · rw [setAll_at, if_neg (by rw [ops_size]; omega), at1 _ (by omega), zW_int _ (by omega) (by omega)]
  · rw [setAll_at, if_neg (by rw [ops_size]; omega), at1 _ (by omega), zW_bool _ (by omega) (by omega)]
theorem ErrR.mono {T : Int × Int} {g g' : Nat} {w w1 w' : World} {e : Ending} (h : ErrR T g w1 e w') (b : Below g' w w1) (hg : g' ≤ g) : ErrR T g' w e w' := ⟨b.trans (h.1.mono hg), h.2⟩
set_option maxRecDepth 100000 in
set_option maxHeartbeats 4000000 in
theorem codeFault_any (cn : ByteArray) (params cells result : Int) (l : List InsD) (v : Value) (m : Md) (w : World) (hv : CodeVal w m v ⟨cn, params, cells, result, l⟩) (hm : m.hi ≤ w.heap.size) (t : TypeId) (fr : Nat × Nat) (hg : w.heap[1]? = some (.cells keyRow t fr)) :
    Calls Tryz.prog 88 #[v] w (ErrR (verC ⟨cn, params, cells, result, l⟩) w.heap.size w) := by
  obtain ⟨u4, rfl, ⟨hcn, -, -, -, -⟩, a, c, rfl, H⟩ := hv
  simp only [] at hcn H
  obtain ⟨n, hn⟩ : ∃ n, l.length = n := ⟨_, rfl⟩
  have HN := hide hn
  obtain ⟨W, hW⟩ : ∃ W, W = w.alloc (.cells #[.string cn, .int .i64 params, .int .i64 cells, .int .i64 result, .slice a n c] 86) := ⟨_, rfl⟩
  have bW : Below w.heap.size w W := by rw [hW]; exact (Below.refl _ _).alloc (Nat.le_refl _) _
  have x0 : W.heap[w.heap.size]? = some (.cells #[.string cn, .int .i64 params, .int .i64 cells, .int .i64 result, .slice a n c] 86 (0, 0)) := by rw [hW]; exact Deep.blk_alloc_new w _
  have zWW : w.heap.size < W.heap.size := (Array.getElem?_eq_some_iff.1 x0).1
  have HHd := hide (headFits_any cn params cells result l a c W hcn t fr ((bW.block 1 (Array.getElem?_eq_some_iff.1 hg).1).trans hg))
  have HG := hide hg
  have HM := hide hm
  have HR := hide H
  have HB := hide bW
  have C0 := (heapCells x0).1 0
  have C1 := (heapCells x0).1 1
  have C2 := (heapCells x0).1 2
  have C3 := (heapCells x0).1 3
  have C4 := (heapCells x0).1 4
  simp only [List.getElem?_toArray, List.getElem?_cons_zero, List.getElem?_cons_succ] at C0 C1 C2 C3 C4
  have HX0 := hide x0
  rw [hn] at HHd ⊢
  clear hg hm H bW x0 hcn
  cases hh : headB ⟨cn, params, cells, result, l⟩ with
  | false =>
    rw [hh] at HHd
    have HV := hide (head_no hh)
    clear hh hn
    go_enter Tryz.func88, Tryz.ntmps88
    go_upto_region 1 with fail
    rw [← hW]
    clear hW
    go_wp2_with (go_at_call 106; refine HHd.out.mono ?_; rintro e w1 ⟨rfl, b1⟩)
    go_ret
    exact ErrR.bad HV.out (by decide) (HB.out.trans (b1.mono HB.out.size))
  | true =>
    rw [hh] at HHd
    obtain ⟨g1, g2, p1, p2, p3, -, -⟩ := head_all hh
    simp only [] at g1 g2 p1 p2 p3
    rw [hn] at g1 g2
    have HHH := hide hh
    have P3 := hide p3
    have P2 : Hid (0 ≤ cells ∧ cells ≤ 2000) := hide (by unfold inB at p1 p2; simp at p1 p2; omega)
    have hz := (zero_of_info ops_info).1
    clear hh hn p1 p2 p3
    go_enter Tryz.func88, Tryz.ntmps88
    go_upto_region 1 with fail
    rw [← hW]
    clear hW
    go_wp2_with (first
      | (go_at_call 106; refine HHd.out.mono ?_; rintro e w1 ⟨rfl, b1⟩; have D4 := (b1.cell (p := ⟨w.heap.size, 4, none⟩) zWW).trans C4; have hz1 : w.heap.size < w1.heap.size := Nat.lt_of_lt_of_le zWW b1.size)
      | (go_at_call 107; refine (operations_any _).mono ?_; rintro e w2 ⟨rfl, rfl⟩)
      | (refine wpList_store_new rfl 182 _ _ rfl (w1.alloc (.cells opsCells 182)) zeroCells opsCells rfl (by simp [go_sem]) rfl ops_size' (by kernel_rfl) (by kernel_rfl) ?_))
    have hb2 : Below w1.heap.size w1 ((w1.alloc (.cells opsCells 182)).alloc (.cells opsCells 182)) := ((Below.refl _ _).alloc (Nat.le_refl _) _).alloc (by simp) _
    obtain ⟨W2, hW2⟩ : ∃ W2, W2 = (w1.alloc (.cells opsCells 182)).alloc (.cells opsCells 182) := ⟨_, rfl⟩
    have y1 : W2.heap[w1.heap.size + 1]? = some (.cells opsCells 182 (0, 0)) := by
      rw [hW2]
      have := Deep.blk_alloc_new (w1.alloc (.cells opsCells 182)) (.cells opsCells 182)
      rwa [World.size_alloc] at this
    rw [← hW2] at hb2 ⊢
    have HB2 := hide ((HB.out.trans (b1.mono HB.out.size)).trans (hb2.mono (HB.out.trans (b1.mono HB.out.size)).size))
    have HY1 := hide y1
    have x02 := (hb2.block w.heap.size hz1).trans ((b1.block w.heap.size zWW).trans HX0.out)
    have HX2 := hide x02
    have z2 : w1.heap.size + 1 < W2.heap.size := (Array.getElem?_eq_some_iff.1 y1).1
    clear hW2 hb2 b1 y1 x02 C0 C1 C2 C3 C4 D4 hz
    go_loopg [16] n (fun q iv wr => ∃ k : Nat, iv = .int .i64 k ∧ k ≤ n ∧ q = n - k ∧ Hid (FormUp l cells n result k) ∧ Hid (Below W2.heap.size W2 wr))
    case atStart => exact ⟨0, rfl, by omega, rfl, hide (fun j _ h => absurd h (by omega)), hide (Below.refl _ _)⟩
    case round =>
      obtain ⟨k, rfl, hk, hq, HU, HBr⟩ := hrel
      have HQ := hide hq
      clear hq
      have hx := (HBr.out.block w.heap.size (by omega)).trans HX2.out
      have hy := (HBr.out.block (w1.heap.size + 1) z2).trans HY1.out
      have C0 := (heapCells hx).1 0
      have C1 := (heapCells hx).1 1
      have C2 := (heapCells hx).1 2
      have C3 := (heapCells hx).1 3
      have C4 := (heapCells hx).1 4
      simp only [List.getElem?_toArray, List.getElem?_cons_zero, List.getElem?_cons_succ] at C0 C1 C2 C3 C4
      have hball : Below w.heap.size w wr := HB2.out.trans (HBr.out.mono HB2.out.size)
      have hzr : w1.heap.size + 1 < wr.heap.size := Nat.lt_of_lt_of_le z2 HBr.out.size
      have hzr0 : w.heap.size < wr.heap.size := by omega
      have HY := hide hy
      by_cases hp : k < n
      · have i1 : (k : Int) < n := by omega
        have hkl : k < l.length := by rw [HN.out]; exact hp
        have HT : Hid (insB l[k] cells n result = false → verC ⟨cn, params, cells, result, l⟩ = (3, (k : Int))) := hide fun e => verC_form HHH.out (by
          have := formAt_snoc (cells := cells) (len := n) (result := result) l 0 k hkl (fun j hj => HU.out j (by omega) hj) e
          rw [Nat.zero_add] at this
          show formAt cells (l.length : Nat) result 0 l = some k
          rw [HN.out]
          exact this)
        have HS : Hid (insB l[k] cells n result = true → FormUp l cells n result (k + 1)) := hide fun e j hj hlt => by
          by_cases q : j < k
          · exact HU.out j hj q
          · obtain rfl : j = k := by omega
            exact e
        obtain ⟨b, o, rfl, hb1, hb2, -, he⟩ := rows_on InsAt.stays HR.out (hball.mono HM.out) k hkl
        have hcap : k ≤ c := by have := hb1.2; omega
        obtain ⟨x, hx⟩ : ∃ x, l[k] = x := ⟨_, rfl⟩
        rw [hx] at he HT HS
        clear hx hb1
        obtain ⟨op, ia, ib, im, iname⟩ := x
        obtain ⟨⟨c0, c1, c2, c3, c4⟩, ⟨-, -, -, r3, r4⟩⟩ := he
        simp only [Nat.add_zero] at c0 c1 c2 c3 c4 r3 r4
        have HFm : Hid (∀ w', Below wr.heap.size wr w' → Calls Tryz.prog 108 #[.agg #[.int .i64 op, .int .i64 ia, .int .i64 ib, .string im, .string iname], .agg #[.string cn, .int .i64 params, .int .i64 cells, .int .i64 result, .slice (some ⟨b, o, none⟩) n c], .agg opsCells] w' fun e w2 => e = .returned (.bool (insB ⟨op, ia, ib, im, iname⟩ cells n result)) ∧ Below w'.heap.size w' w2) := hide fun w' bel =>
          formed_all op ia ib im iname cn params cells result _ n c w' P2.out.1 P2.out.2 r3 r4 t fr (((hball.trans (bel.mono hball.size)).block 1 (Array.getElem?_eq_some_iff.1 HG.out).1).trans HG.out)
        have HBa := hide hball
        clear hball r3 r4
        generalize insB ⟨op, ia, ib, im, iname⟩ cells n result = ok at *
        cases ok with
        | false =>
          go_wp2_with (first
            | (refine wpList_load_row rfl 182 _ rfl (w1.heap.size + 1) opsCells 182 (0, 0) _ ((Below.heap_alloc _ _ _ (by omega)).trans HY.out) rfl ops_type rfl ops_size' ?_)
            | (go_at_call 108; refine (HFm.out _ ((Below.refl _ _).alloc (Nat.le_refl _) _)).mono ?_; rintro e w5 ⟨rfl, b5⟩))
          go_ret
          exact ErrR.bad (HT.out trivial) (by decide) (HBa.out.trans ((((Below.refl _ _).alloc (Nat.le_refl _) _).trans (b5.mono (by simp))).mono HBa.out.size))
        | true =>
          go_wp2_with (first
            | (refine wpList_load_row rfl 182 _ rfl (w1.heap.size + 1) opsCells 182 (0, 0) _ ((Below.heap_alloc _ _ _ (by omega)).trans HY.out) rfl ops_type rfl ops_size' ?_)
            | (go_at_call 108; refine (HFm.out _ ((Below.refl _ _).alloc (Nat.le_refl _) _)).mono ?_; rintro e w5 ⟨rfl, b5⟩))
          go_roundg (n - (k + 1))
          case measure => rw [HQ.out]; omega
          case rel => exact ⟨k + 1, by go_num, by omega, rfl, hide (HS.out trivial), hide (HBr.out.trans ((((Below.refl _ wr).alloc (Nat.le_refl _) _).trans (b5.mono (by simp))).mono HBr.out.size))⟩
      · have i1 : ¬ (k : Int) < n := by omega
        obtain rfl : k = n := by omega
        have hfn : formAt cells (l.length : Nat) result 0 l = none := by
          rw [HN.out]
          refine formAt_all l 0 fun x hx => ?_
          obtain ⟨j, hj, rfl⟩ := List.getElem_of_mem hx
          exact HU.out j hj (by rw [← HN.out]; exact hj)
        have HV := hide (verC_go HHH.out hfn)
        have hIn := form_all l 0 hfn
        rw [HN.out] at hIn
        have HIn := hide hIn
        have HBa := hide hball
        clear hfn hIn hball HU
        have HTh := hide (through_any wr.heap.size a c k l m cells result _ (wr.alloc (.cells (Array.foldl (fun (cs : Array Value) (x : Value × Nat) => cs.setIfInBounds (1 + x.snd) x.fst) (Tryz.zeroCells189.setIfInBounds 0 (.slice a k c)) opsCells.zipIdx 0 opsCells.size) 189)) (Deep.blk_alloc_new wr _) (walk_new a k c g2) HN.out (by omega) ⟨a, c, by rw [HN.out], rows_on InsAt.stays HR.out ((HBa.out.trans (((Below.refl _ wr).alloc (Nat.le_refl _) _).mono HBa.out.size)).mono HM.out)⟩ (Nat.le_trans HM.out HBa.out.size) HIn.out P3.out)
        go_wp2_with (first
          | (refine wpList_load_row rfl 182 _ rfl (w1.heap.size + 1) opsCells 182 (0, 0) _ HY.out rfl ops_type rfl ops_size' ?_)
          | (go_at_call 109; refine HTh.out.mono ?_; rintro e w9 ⟨b9, he⟩; obtain ⟨vv, hvv⟩ : ∃ vv, (if (roundsV l (l.length + 1) ((List.replicate l.length (-1)).set 0 0)).1 = 0 then Value.nilIface else fvI (roundsV l (l.length + 1) ((List.replicate l.length (-1)).set 0 0)).1 (roundsV l (l.length + 1) ((List.replicate l.length (-1)).set 0 0)).2) = vv := ⟨_, rfl⟩; rw [hvv] at he; subst he; have HVV := hide hvv; clear hvv))
        go_ret
        exact ⟨HBa.out.trans ((((Below.refl _ wr).alloc (Nat.le_refl _) _).trans b9).mono HBa.out.size), by rw [HV.out]; exact congrArg Ending.returned HVV.out.symm⟩
end Go.Proofs.YtfbglokjehmgeaaGreatDoor

/- When an object is right, told once over plain data; the program's look at its needs. Its table of words is a premise. -/
namespace Go.Proofs.YtfbglokjehmgeaaGreatDoor
open Go.ChangeShapes Go.WideShapes Go.ChangeAt Go.RowKit Go.PlainAid Go.Deep

def seenB (seen : List ByteArray) (s : ByteArray) : Bool := seen.any fun z => z.toList == s.toList
def needB (x : NeedD) : Bool := ownB x.module && inB x.print 0 4294967295
def globB (x : GlobalD) : Bool := ownB x.name && inB x.length 0 100
def globsB : List ByteArray → List GlobalD → Bool
  | _, [] => true
  | seen, x :: r => !(seenB seen x.name) && globB x && globsB (seen ++ [x.name]) r
def procB (x : CodeD) (last : Bool) : Bool := decide ((verC x).1 = 0) && (emB x.name == last)
def procsB : List ByteArray → List CodeD → Bool
  | _, [] => true
  | seen, x :: r => !(seenB seen x.name) && procB x r.isEmpty && procsB (seen ++ [x.name]) r
def objB (o : ObjectD) : Bool :=
  ownB o.module && inB o.print 0 4294967295 && (decide (o.needs.length ≤ 20) && o.needs.all needB) && (decide (o.globals.length ≤ 100) && globsB [] o.globals) && (decide (1 ≤ o.procs.length) && decide (o.procs.length ≤ 60) && procsB (o.globals.map fun x => x.name) o.procs)
theorem seen_snoc (seen : List ByteArray) (t s : ByteArray) : seenB (seen ++ [t]) s = (seenB seen s || (t.toList == s.toList)) := by unfold seenB; rw [List.any_append]; simp
theorem globs_at {l : List GlobalD} {k : Nat} (h : k < l.length) (seen : List ByteArray) : globsB seen (l.drop k) = (!(seenB seen l[k].name) && globB l[k] && globsB (seen ++ [l[k].name]) (l.drop (k + 1))) := by
  rw [List.drop_eq_getElem_cons h, globsB]
theorem procs_at {l : List CodeD} {k : Nat} (h : k < l.length) (seen : List ByteArray) : procsB seen (l.drop k) = (!(seenB seen l[k].name) && procB l[k] (decide (k + 1 = l.length)) && procsB (seen ++ [l[k].name]) (l.drop (k + 1))) := by
  rw [List.drop_eq_getElem_cons h, procsB]
  have : (l.drop (k + 1)).isEmpty = decide (k + 1 = l.length) := by
    rw [Bool.eq_iff_iff]
    simp
    omega
  rw [this]
theorem needs_at {l : List NeedD} {k : Nat} (h : k < l.length) : (l.drop k).all needB = (needB l[k] && (l.drop (k + 1)).all needB) := by
  rw [List.drop_eq_getElem_cons h, List.all_cons]
theorem printFits_any (p : Int) (w : World) : Calls Tryz.prog 54 #[.int .i64 p] w fun e w' => e = .returned (.bool (inB p 0 4294967295)) ∧ w' = w := by
  by_cases h : 0 ≤ p
  · by_cases k : p ≤ 4294967295
    · rw [in_yes h k]
      go_enter Tryz.func54, Tryz.ntmps54
      go_wp2
      go_ret
      exact ⟨rfl, rfl⟩
    · rw [in_no (fun q => k q.2)]
      go_enter Tryz.func54, Tryz.ntmps54
      go_wp2
      go_ret
      exact ⟨rfl, rfl⟩
  · rw [in_no (fun q => h q.1)]
    go_enter Tryz.func54, Tryz.ntmps54
    go_wp2
    go_ret
    exact ⟨rfl, rfl⟩
set_option maxRecDepth 100000 in
set_option maxHeartbeats 4000000 in
theorem needsOK_any (v : Value) (m : Md) (l : List NeedD) (w : World) (H : SlAt NeedAt 2 w m v l) (hm : m.hi ≤ w.heap.size) (t : TypeId) (fr : Nat × Nat) (hg : w.heap[1]? = some (.cells keyRow t fr)) :
    Calls Tryz.prog 55 #[v] w fun e w' => e = .returned (.bool (decide (l.length ≤ 20) && l.all needB)) ∧ Below w.heap.size w w' := by
  have HO : Hid (∀ s : ByteArray, s.size ≤ maxLen → ∀ w1, Below w.heap.size w w1 → Calls Tryz.prog 53 #[.string s] w1 fun e w' => e = .returned (.bool (ownB s)) ∧ Below w1.heap.size w1 w') := hide fun s hs w1 bel =>
    ownName_any s w1 hs t fr ((bel.block 1 (Array.getElem?_eq_some_iff.1 hg).1).trans hg)
  obtain ⟨a, c, rfl, hr⟩ := H
  have HR := hide hr
  have HM := hide hm
  obtain ⟨F, hF⟩ : ∃ F, l.all needB = F := ⟨_, rfl⟩
  have HF := hide hF
  obtain ⟨n, hn⟩ : ∃ n, l.length = n := ⟨_, rfl⟩
  have HN := hide hn
  rw [hF, hn]
  clear hr hm hF hn hg
  by_cases h20 : 20 < n
  · have i20 : (20 : Int) < n := by omega
    rw [decide_eq_false (show ¬ n ≤ 20 by omega)]
    go_enter Tryz.func55, Tryz.ntmps55
    go_wp2
    go_ret
    exact ⟨rfl, Below.refl _ _⟩
  · have i20 : ¬ (20 : Int) < n := by omega
    rw [decide_eq_true (show n ≤ 20 by omega)]
    go_enter Tryz.func55, Tryz.ntmps55
    go_wp2_with fail
    go_loopg [10] n (fun q iv wr => ∃ k : Nat, iv = .int .i64 k ∧ k ≤ n ∧ q = n - k ∧ Hid ((l.drop k).all needB = F) ∧ Hid (Below w.heap.size w wr))
    case atStart => exact ⟨0, rfl, by omega, rfl, hide (by rw [List.drop_zero]; exact HF.out), hide (Below.refl _ _)⟩
    case round =>
      obtain ⟨k, rfl, hk, hq, HK, HB⟩ := hrel
      have HQ := hide hq
      clear hq
      by_cases hp : k < n
      · have i1 : (k : Int) < n := by omega
        have hkl : k < l.length := by rw [HN.out]; exact hp
        have hk1 := HK.out
        rw [needs_at hkl] at hk1
        obtain ⟨b, o, rfl, hb1, hb2, -, he⟩ := rows_on NeedAt.stays HR.out (HB.out.mono HM.out) k hkl
        have hcap : k ≤ c := by have := hb1.2; omega
        obtain ⟨x, hx⟩ : ∃ x, l[k] = x := ⟨_, rfl⟩
        rw [hx] at he hk1
        clear hx hb1
        obtain ⟨s, p⟩ := x
        obtain ⟨⟨c0, c1⟩, ⟨r0, -⟩⟩ := he
        simp only [Nat.add_zero] at c0 c1 r0
        have HS := hide r0
        have HE : Hid (needB ⟨s, p⟩ = (ownB s && inB p 0 4294967295)) := hide rfl
        have HK1 := hide hk1
        have hbw : Below w.heap.size w (wr.alloc (.cells #[.string s, .int .i64 p] 80)) := HB.out.alloc HB.out.size _
        have HBW := hide hbw
        have hsz := HB.out.size
        clear hk1 r0 hbw
        cases ho : ownB s with
        | false =>
          go_wp2_with (go_at_call 53; refine (HO.out s HS.out _ HBW.out).mono ?_; rintro e w5 ⟨rfl, b5⟩; rw [ho]; obtain ⟨hcc, hff⟩ := bcell b5)
          go_ret
          exact ⟨ret_bool (by rw [← HK1.out, HE.out, ho]; rfl), HBW.out.trans (b5.mono HBW.out.size)⟩
        | true =>
          cases hp2 : inB p 0 4294967295 with
          | false =>
            go_wp2_with (first
              | (go_at_call 53; refine (HO.out s HS.out _ HBW.out).mono ?_; rintro e w5 ⟨rfl, b5⟩; rw [ho]; obtain ⟨hcc, hff⟩ := bcell b5)
              | (go_at_call 54; refine (printFits_any p _).mono ?_; rintro e w6 ⟨rfl, rfl⟩; rw [hp2]))
            go_ret
            exact ⟨ret_bool (by rw [← HK1.out, HE.out, ho, hp2]; rfl), HBW.out.trans (b5.mono HBW.out.size)⟩
          | true =>
            go_wp2_with (first
              | (go_at_call 53; refine (HO.out s HS.out _ HBW.out).mono ?_; rintro e w5 ⟨rfl, b5⟩; rw [ho]; obtain ⟨hcc, hff⟩ := bcell b5)
              | (go_at_call 54; refine (printFits_any p _).mono ?_; rintro e w6 ⟨rfl, rfl⟩; rw [hp2]))
            go_roundg (n - (k + 1))
            case measure => rw [HQ.out]; omega
            case rel => exact ⟨k + 1, by go_num, by omega, rfl, hide (by rw [← HK1.out, HE.out, ho, hp2]; simp), hide (HBW.out.trans (b5.mono HBW.out.size))⟩
      · have i1 : ¬ (k : Int) < n := by omega
        have HT : Hid (F = true) := hide (by
          rw [← HK.out, List.drop_of_length_le (by rw [HN.out]; omega)]
          simp)
        go_wp2
        go_ret
        exact ⟨ret_bool (by rw [HT.out]), HB.out⟩
end Go.Proofs.YtfbglokjehmgeaaGreatDoor

/- A row of texts that the call has made: appending to it, reading one. No condition. -/
namespace Go.Proofs.YtfbglokjehmgeaaGreatDoor
open Go.ChangeShapes Go.WideShapes Go.ChangeAt Go.RowKit Go.Deep

def sc (l : List ByteArray) : List Value := l.map fun n => Value.string n
theorem sc_app (l r : List ByteArray) : sc (l ++ r) = sc l ++ sc r := by unfold sc; simp
theorem sc_one (l : List ByteArray) : ∀ u ∈ sc l, u.oneCell' = true := by
  intro u hu
  unfold sc at hu
  obtain ⟨n, _, rfl⟩ := List.mem_map.1 hu
  rfl
/-- The value is a slice of the numbers l, in a row of the call's own from 'B' on. -/
def SRow (w : World) (B : Nat) (v : Value) (l : List ByteArray) : Prop := w.ownsRow B 9 1 v l.length (sc l)
theorem SRow.of_heap {w w' : World} {B : Nat} {v : Value} {l : List ByteArray} (h : SRow w B v l) (hk : ∀ k, B ≤ k → k < w.heap.size → w'.heap[k]? = w.heap[k]?) : SRow w' B v l := by
  refine ⟨h.1, ?_⟩
  rcases h.2 with h2 | ⟨g, cap, cur, e, hb, hg, r⟩
  · exact .inl h2
  · exact .inr ⟨g, cap, cur, e, hb, (hk g hb (Array.getElem?_eq_some_iff.1 hg).1).trans hg, r⟩
theorem SRow.on {w w' : World} {B : Nat} {v : Value} {l : List ByteArray} (h : SRow w B v l) (bel : Below w.heap.size w w') : SRow w' B v l := h.of_heap fun k _ hk => bel.block k hk
theorem SRow.le {w : World} {B C : Nat} {v : Value} {l : List ByteArray} (h : SRow w B v l) (hc : C ≤ B) : SRow w C v l := ⟨h.1, h.2.imp id fun ⟨g, cap, cur, e, hb, r⟩ => ⟨g, cap, cur, e, by omega, r⟩⟩
theorem SRow.nil (w : World) (B : Nat) : SRow w B (.slice none 0 0) [] := World.ownsRow_nil _ _ _ _
theorem srow_form {w : World} {B : Nat} {v : Value} {l : List ByteArray} (h : SRow w B v l) : ∃ a c, v = .slice a l.length c := by
  rcases h.2 with ⟨e, e2⟩ | ⟨g, cap, _, e, -⟩
  · exact ⟨none, 0, by rw [e, e2]⟩
  · exact ⟨_, _, e⟩
theorem SRow.at {w : World} {B : Nat} {v : Value} {l : List ByteArray} (h : SRow w B v l) (hl : 0 < l.length) : ∃ g c, v = .slice (some ⟨g, 0, none⟩) l.length c ∧ B ≤ g ∧ g < w.heap.size ∧ (∀ k (hk : k < l.length), w.cell? ⟨g, k, none⟩ = some (.string l[k])) ∧ ∀ k, w.frozen? ⟨g, k, none⟩ = false := by
  rcases h.2 with ⟨-, e2⟩ | ⟨g, cap, cur, rfl, hb, hg, -⟩
  · omega
  · refine ⟨g, cap, rfl, hb, (Array.getElem?_eq_some_iff.1 hg).1, fun k hk => ?_, (heapCells hg).2⟩
    have := World.ownsRow.cells (g := g) h rfl k (.string l[k]) (by unfold sc; simp [hk])
    rwa [add_plain, Nat.zero_add] at this
theorem SRow.set {w : World} {B g n c : Nat} {l : List ByteArray} (h : SRow w B (.slice (some ⟨g, 0, none⟩) n c) l) (k : Nat) (y : ByteArray) : SRow (w.setCell ⟨g, k, none⟩ (.string y)) B (.slice (some ⟨g, 0, none⟩) n c) (l.set k y) := by
  have hn : n = l.length := by
    rcases h.2 with ⟨e, -⟩ | ⟨_, _, _, e, -⟩
    · cases e
    · cases e; rfl
  subst hn
  have := (World.ownsRow.stored h k (.string y)).1
  unfold SRow
  rw [List.length_set, show sc (l.set k y) = (sc l).set k (.string y) from by unfold sc; rw [List.map_set]]
  exact this
theorem strInfo : (Tryz.prog.info? 9).map (fun i => (i.zero, i.size, i.bytes)) = some (some (.string ⟨#[]⟩), 1, 16) := by kernel_rfl
theorem str_new (w : World) (y : ByteArray) {b : Nat} (hb : b = w.heap.size) : ∀ j c, (sc [y])[j]? = some c → (w.alloc (.cells #[.string y] 9)).cell? ((⟨b, 0, none⟩ : Addr).add j) = some c := by
  subst hb
  intro j c hj
  match j, hj with
  | 0, hj => simp [sc] at hj; subst hj; simp [Addr.add, go_sem]
  | j + 1, hj => simp [sc] at hj
theorem wp_append_str {w : World} {ops : Array Oper} {rest : List Oper} {o : Oper} {a : Act} {Q : Exit → Act → World → Prop} (hgd : o.guard = none) (s x : Operand)
    (ho : o.op = .call { callee := .builtin .append, args := #[s, x], argTypes := #[25, 25] }) (B : Nat) (v : Value) (l : List ByteArray) (hs : a.eval s = v) (hown : SRow w B v l)
    (b : Nat) (y : ByteArray) (hx : a.eval x = .slice (some ⟨b, 0, none⟩) 1 1) (hnews : ∀ j c, (sc [y])[j]? = some c → w.cell? ((⟨b, 0, none⟩ : Addr).add j) = some c) (hb : l.length ≤ 1000000) (hbase : B ≤ w.heap.size)
    (h : ∀ v' w', SRow w' B v' (l ++ [y]) → w.grownBy w' v.ownBlock → wpList Tryz.prog ops Q rest (a.put o.dst v') w') : wpList Tryz.prog ops Q (o :: rest) a w := by
  obtain ⟨i, hi, hz0, hz1, hz2⟩ := info_parts strInfo
  refine wpList_append_own w hgd s x _ ho B 9 i (.string ⟨#[]⟩) 1 16 Tryz.underlying25 hi hz0 hz1 hz2 rfl (by decide) v l.length (sc l) hs hown ⟨b, 0, none⟩ 1 1 (sc [y]) hx rfl hnews (sc_one _) (by unfold maxLen; omega) (by omega) hbase fun v' w' h2 h3 _ => ?_
  refine h v' w' ?_ h3
  unfold SRow
  rw [List.length_append, sc_app]
  exact h2
end Go.Proofs.YtfbglokjehmgeaaGreatDoor

/- The model's search of a name among those that it has met. No condition. -/
namespace Go.Proofs.YtfbglokjehmgeaaGreatDoor
open Go.ChangeShapes Go.WideShapes Go.ChangeAt Go.RowKit Go.PlainAid Go.Deep

/-- Where a name stands among the list: below 0 just if nowhere. -/
def metAt (l : List ByteArray) (s : ByteArray) : Bool := l.any fun z => z.toList == s.toList
set_option maxHeartbeats 4000000 in
theorem l01Place_any (v : Value) (l : List ByteArray) (s : ByteArray) (B : Nat) (w : World) (h : SRow w B v l) (hl : l.length ≤ 100000) :
    Calls Tryz.prog 44 #[v, .string s] w fun e w' => (∃ k : Int, e = .returned (.int .i64 k) ∧ decide (0 ≤ k) = metAt l s) ∧ w' = w := by
  obtain ⟨a, c, rfl⟩ := srow_form h
  obtain ⟨n, hn⟩ : ∃ n, l.length = n := ⟨_, rfl⟩
  have HN := hide hn
  have H := hide h
  rw [hn]
  rw [hn] at hl
  have key : ∀ k : Int, decide (0 ≤ k) = metAt l s → (∃ k' : Int, Ending.returned (.int .i64 k) = .returned (.int .i64 k') ∧ decide (0 ≤ k') = metAt l s) := fun k e => ⟨k, rfl, e⟩
  have HKey := hide key
  clear h hn key
  go_enter Tryz.func44, Tryz.ntmps44
  go_wp2
  go_loop [5] (fun i => ∃ k : Nat, i = .int .i64 k ∧ k ≤ n ∧ Hid (∀ j (h : j < l.length), j < k → (l[j].toList == s.toList) = false)) (fun i => n - (intOf i).toNat)
  case atStart => exact ⟨0, rfl, by omega, hide (fun j _ h => absurd h (by omega))⟩
  case round =>
    obtain ⟨k, rfl, hk, Hk⟩ := hrel
    by_cases hp : k < n
    · have i1 : (k : Int) < n := by omega
      have hkl : k < l.length := by rw [HN.out]; exact hp
      obtain ⟨g, c', ev, -, -, hcell, -⟩ := H.out.at (by omega)
      rw [HN.out] at ev
      cases ev
      have c0 := hcell k hkl
      obtain ⟨t, ht⟩ : ∃ t, l[k] = t := ⟨_, rfl⟩
      rw [ht] at c0
      have HT := hide ht
      clear ht hcell
      cases hs : (t.toList == s.toList) with
      | true =>
        have HF := hide (HKey.out k (by
          rw [decide_eq_true (by omega)]
          exact (List.any_eq_true.2 ⟨l[k], List.getElem_mem hkl, by rw [HT.out]; exact hs⟩).symm))
        go_wp2
        go_ret
        exact ⟨HF.out, rfl⟩
      | false =>
        go_wp2
        go_round
        case rel =>
          refine ⟨k + 1, by go_num, by omega, hide fun j h hj => ?_⟩
          by_cases e : j < k
          · exact Hk.out j h e
          · obtain rfl : j = k := by omega
            rw [HT.out]
            exact hs
        case measure => simp [intOf]; omega
    · have i1 : ¬ (k : Int) < n := by omega
      obtain rfl : k = n := by omega
      have HF := hide (HKey.out (-1) (by
        rw [decide_eq_false (by omega)]
        refine Eq.symm (List.any_eq_false.2 fun z hz hq => ?_)
        obtain ⟨j, hj, rfl⟩ := List.getElem_of_mem hz
        rw [Hk.out j hj (by rw [← HN.out]; exact hj)] at hq
        cases hq))
      go_wp2
      go_ret
      exact ⟨HF.out, rfl⟩
end Go.Proofs.YtfbglokjehmgeaaGreatDoor

namespace Go.Proofs.YtfbglokjehmgeaaGreatDoor
open Go.ChangeShapes Go.WideShapes Go.ChangeAt Go.RowKit Go.PlainAid Go.Deep
theorem l04Verify_any (v : Value) (m : Md) (x : CodeD) (w : World) (hv : CodeVal w m v x) (hm : m.hi ≤ w.heap.size) : Calls Tryz.prog 45 #[v] w fun e w' => VPost x w e w' := by
  obtain ⟨cn, params, cells, result, l⟩ := x
  obtain ⟨u4, rfl, hb, a, c, rfl, H⟩ := hv
  cases hh : headB ⟨cn, params, cells, result, l⟩ with
  | false => exact verify_head cn params cells result l a l.length c w rfl hb.1 hh
  | true => exact verify_form cn params cells result l a c m w hb.1 hh ⟨a, c, rfl, H⟩ hm
end Go.Proofs.YtfbglokjehmgeaaGreatDoor
