/- The model's words and signs; a row of bytes as a text. No condition. -/
import Derived.Test.YtjficafpkdeibaaGreatDoorListP
import Derived.Test.YtjficafpkdeibaaGreatDoorNames
import Derived.Deep.RegionLaw
namespace Go.Proofs.YtjficafpkdeibaaGreatDoor
open Go.ChangeShapes Go.WideShapes Go.ChangeAt Go.RowKit Go.PlainAid Go.Deep

set_option maxRecDepth 100000 in
theorem conv_none (w : World) : (convert 22 9 (.slice none 0 0)).run Tryz.prog w = .ok (.string ⟨#[]⟩) w := by
  rw [run_convert_bytes_string _ 22 9 5 _ _ _ Tryz.underlying22 Tryz.underlying5 Tryz.underlying9]
  rfl
theorem conv_own {w : World} {B : Nat} {v : Value} {l : List Int} (h : Own w B v l) : (convert 22 9 v).run Tryz.prog w = .ok (.string ⟨(l.map fun n => UInt8.ofNat n.toNat).toArray⟩) w := by
  have h2 := h.2
  rcases h2 with ⟨rfl, e⟩ | ⟨g, cap, cur, rfl, -⟩
  · obtain rfl : l = [] := List.length_eq_zero_iff.1 e
    exact conv_none w
  · have hc : ∀ j (hj : j < l.length), w.cell? ⟨g, 0 + j, none⟩ = some (.int .u8 l[j]) := fun j hj => by
      have := h.cells j (.int .u8 l[j]) (by unfold bc; rw [List.getElem?_map, List.getElem?_eq_getElem hj]; rfl)
      rwa [add_plain] at this
    exact run_convert_cells 22 9 5 Tryz.underlying22 Tryz.underlying5 Tryz.underlying9 g 0 l cap w hc
theorem row_cell (zs : List (List UInt8)) (t : TypeId) (w' : World) (b : Nat) (hb : w'.heap[b]? = some (.cells ((zs.map fun z => Value.string ⟨z.toArray⟩).toArray) t (0, 0))) (k : Nat) (hk : k < zs.length) : w'.cell? ⟨b, k, none⟩ = some (.string ⟨(zs.getD k []).toArray⟩) := by
  have := (heapCells hb).1 k
  rw [this, List.getElem?_toArray, List.getElem?_map, List.getD_eq_getElem?_getD, List.getElem?_eq_getElem hk]
  rfl
set_option maxRecDepth 100000 in
set_option maxHeartbeats 2000000 in
theorem words_any (w : World) : Calls Tryz.prog 37 #[] w fun e w' => (∃ g, e = .returned (.slice (some ⟨g, 0, none⟩) 18 18) ∧ g < w'.heap.size ∧ ∀ k, k < 18 → w'.cell? ⟨g, k, none⟩ = some (.string ⟨(wordU k).toArray⟩)) ∧ Gw w w' := by
  go_enter Tryz.func37, Tryz.ntmps37
  go_wp2
  go_ret
  refine ⟨⟨w.heap.size, rfl, by simp, fun k hk => row_cell opWords 9 _ w.heap.size (Deep.blk_alloc_new w _) k hk⟩, Gw.one _ _⟩
set_option maxRecDepth 100000 in
set_option maxHeartbeats 2000000 in
theorem signs_at (w : World) : Calls Tryz.prog 38 #[] w fun e w' => (∃ g, e = .returned (.slice (some ⟨g, 0, none⟩) 11 11) ∧ g < w'.heap.size ∧ ∀ k, k < 11 → w'.cell? ⟨g, k, none⟩ = some (.string ⟨(signU k).toArray⟩)) ∧ Gw w w' := by
  go_enter Tryz.func38, Tryz.ntmps38
  go_wp2
  go_ret
  refine ⟨⟨w.heap.size, rfl, by simp, fun k hk => row_cell opSigns 9 _ w.heap.size (Deep.blk_alloc_new w _) k hk⟩, Gw.one _ _⟩
/-- The answer, where verification says T1. -/
def listB (T1 : Int) (l : List InsD) : ByteArray × Int := if T1 = 0 then (⟨(rowsU 0 l).toArray⟩, 0) else (⟨#[]⟩, 1)
/-- An instruction's cells. -/
structure InsC (b : Nat) (x : InsD) (w : World) : Prop where
  c0 : w.cell? ⟨b, 0, none⟩ = some (.int .i64 x.op)
  c1 : w.cell? ⟨b, 1, none⟩ = some (.int .i64 x.a)
  c2 : w.cell? ⟨b, 2, none⟩ = some (.int .i64 x.b)
  c3 : w.cell? ⟨b, 3, none⟩ = some (.string x.mod)
  c4 : w.cell? ⟨b, 4, none⟩ = some (.string x.name)
  lt : b < w.heap.size
theorem InsC.new (x : InsD) (w : World) : InsC w.heap.size x (w.alloc (.cells #[.int .i64 x.op, .int .i64 x.a, .int .i64 x.b, .string x.mod, .string x.name] 75)) := by
  have h := Deep.blk_alloc_new w (.cells #[.int .i64 x.op, .int .i64 x.a, .int .i64 x.b, .string x.mod, .string x.name] 75)
  exact ⟨(heapCells h).1 0, (heapCells h).1 1, (heapCells h).1 2, (heapCells h).1 3, (heapCells h).1 4, (Array.getElem?_eq_some_iff.1 h).1⟩
theorem InsC.on {b : Nat} {x : InsD} {w w' : World} (h : InsC b x w) (bel : Below w.heap.size w w') : InsC b x w' :=
  ⟨(bel.cell (p := ⟨b, 0, none⟩) h.lt).trans h.c0, (bel.cell (p := ⟨b, 1, none⟩) h.lt).trans h.c1, (bel.cell (p := ⟨b, 2, none⟩) h.lt).trans h.c2, (bel.cell (p := ⟨b, 3, none⟩) h.lt).trans h.c3, (bel.cell (p := ⟨b, 4, none⟩) h.lt).trans h.c4, Nat.lt_of_lt_of_le h.lt bel.size⟩
end Go.Proofs.YtjficafpkdeibaaGreatDoor
