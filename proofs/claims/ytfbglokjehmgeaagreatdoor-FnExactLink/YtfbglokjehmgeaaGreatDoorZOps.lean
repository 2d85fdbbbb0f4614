/- The program's table of operations, as a value: what 'operations' hands back. No condition. -/
import Derived.Test.YtfbglokjehmgeaaGreatDoorZWkD
import Derived.Test.YtfbglokjehmgeaaGreatDoorZHelQ
import Derived.Deep.WholeRow
import Derived.Deep.MidRow
import Derived.Deep.CutRange
namespace Go.Proofs.YtfbglokjehmgeaaGreatDoor
open Go.ChangeShapes Go.WideShapes Go.ChangeAt Go.RowKit Go.Deep

def opRow (wd : List UInt8) (t l : Int) (tail fits : Nat) : List Value := [.string ⟨wd.toArray⟩, .int .i64 t, .int .i64 l, .func (.func tail) #[] #[], .func (.func fits) #[] #[]]
def opRow0 : List Value := [.string ⟨#[]⟩, .int .i64 0, .int .i64 0, .nilFunc, .nilFunc]
def opsList : List Value := opRow0
  ++ opRow [112, 117, 115, 104] 0 1 116 117
  ++ opRow [108, 111, 99, 97, 108] 0 1 116 118
  ++ opRow [103, 108, 111, 98, 97, 108] 0 1 119 120
  ++ opRow [108, 111, 97, 100] 1 1 121 120
  ++ opRow [115, 116, 111, 114, 101] 2 0 121 120
  ++ opRow [105, 110, 100, 101, 120] 2 1 116 122
  ++ opRow [119, 111, 114, 107] 2 1 123 124
  ++ opRow [110, 101, 103] 1 1 121 120
  ++ opRow [110, 111, 116] 1 1 121 120
  ++ opRow [99, 104, 114] 1 1 121 120
  ++ opRow [106, 117, 109, 112] 0 0 116 125
  ++ opRow [106, 117, 109, 112, 102, 97, 108, 115, 101] 1 0 116 125
  ++ opRow [99, 97, 108, 108] 0 0 126 127
  ++ opRow [114, 101, 116, 117, 114, 110] 0 0 121 128
  ++ opRow [119, 114, 105, 116, 101] 1 0 116 129
  ++ opRow [114, 101, 97, 100] 1 0 116 130
  ++ opRow [116, 114, 97, 112] 0 0 116 131
def opsCells : Array Value := opsList.toArray
def zeroCells : Array Value := (opRow0 ++ opRow0 ++ opRow0 ++ opRow0 ++ opRow0 ++ opRow0 ++ opRow0 ++ opRow0 ++ opRow0 ++ opRow0 ++ opRow0 ++ opRow0 ++ opRow0 ++ opRow0 ++ opRow0 ++ opRow0 ++ opRow0 ++ opRow0).toArray
theorem ops_size : opsCells.size = 90 := rfl
theorem ops_info : (Tryz.prog.info? 182).map (fun i => (i.zero, i.size)) = some (some (.agg zeroCells), 90) := by kernel_rfl
theorem ops_type : Tryz.prog.underlying 182 = some (.array 18 181) := by kernel_rfl
theorem wpList_store_new {P : Program} {w : World} {ops : Array Oper} {rest : List Oper} {op : Oper} {a : Act} {Q : Exit → Act → World → Prop} (hgd : op.guard = none) (ty : TypeId) (x y : Operand) (ho : op.op = .store ty x y) (w0 : World) (c c' : Array Value) (hw : w = w0.alloc (.cells c ty))
    (hx : a.eval x = .pointer (some ⟨w0.heap.size, 0, none⟩)) (hy : a.eval y = .agg c') (hi : (P.info? ty).map (·.size) = some c'.size) (hs : c.size = c'.size) (h1 : c'.all (·.oneCell') = true)
    (h : wpList P ops Q rest (a.put op.dst undef) (w0.alloc (.cells c' ty))) : wpList P ops Q (op :: rest) a w :=
  wpList_plain hgd fun _ hK => by
    subst hw
    unfold Oper.wp execOp
    simp only [ho, hx, hy, Instr.storeAt, Instr.sureAddr, Sem.run_bind, Sem.run_pure, Result.andThen_ok, run_storeVar_new w0 ty c c' hi hs h1]
    exact hK _ _ h
theorem results_cell {P : Program} {fn : Func} {tmps : Array Value} {w : World} {v : Value} {a : Nat} {t : TypeId} {b : Addr} (hr : fn.results = #[.cell a t]) (hb : tmps.getD a undef = .pointer (some b)) (hl : (loadVar t b).run P w = .ok v w) : (results fn tmps).run P w = .ok v w := by
  simp only [Array.getD_eq_getD_getElem?] at hb
  simp [results, hr, hb, asAddr, hl]
theorem ops_size' : (Tryz.prog.info? 182).map (·.size) = some opsCells.size := by kernel_rfl
set_option maxRecDepth 100000 in
set_option maxHeartbeats 4000000 in
theorem operations_any (w : World) : Calls Tryz.prog 107 #[] w fun e w' => e = .returned (.agg opsCells) ∧ w' = w.alloc (.cells opsCells 182) := by
  have hz := (zero_of_info ops_info).1
  go_enter Tryz.func107, Tryz.ntmps107
  go_wp2_with (refine wpList_store_new rfl 182 _ _ rfl w zeroCells opsCells rfl rfl (by kernel_rfl) ops_size' (by kernel_rfl) (by kernel_rfl) ?_)
  have hl : (loadVar 182 ⟨w.heap.size, 0, none⟩).run Tryz.prog (w.alloc (.cells opsCells 182)) = .ok (.agg opsCells) (w.alloc (.cells opsCells 182)) := run_loadVar_new w _ opsCells 18 _ ops_type ops_size'
  refine bodyPost_ret (v := .agg opsCells) (results_cell Tryz.results107 rfl hl) rfl ?_
  exact ⟨rfl, rfl⟩
end Go.Proofs.YtfbglokjehmgeaaGreatDoor
