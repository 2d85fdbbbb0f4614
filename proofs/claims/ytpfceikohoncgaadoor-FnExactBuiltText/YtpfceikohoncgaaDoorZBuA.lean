/- Appending a slice of texts, whatever it is, to a row of texts that the call has made. Within a bound on how many. -/
import Derived.Test.YtpfceikohoncgaaDoorZStrs
import Derived.Test.YtpfceikohoncgaaDoorZStrI
import Derived.Laws.OwnMore
import Derived.Deep.AppendLies
namespace Go.Proofs.YtpfceikohoncgaaDoor
open Go.ChangeShapes Go.WideShapes Go.ChangeAt Go.RowKit Go.Deep

theorem run_append_made {w : World} (B : Nat) (ty : TypeId) (v u : Value) (l made : List ByteArray) (m : Md) (hown : SRow w B v l) (hl0 : 0 < l.length) (hu : SlAt StringAt 1 w m u made) (hb : l.length + made.length ≤ 1000000) (hbase : B ≤ w.heap.size) :
    ∃ g cap w', (Builtin.append_ #[23, 23] ty #[v, u]).run Tryd.prog w = .ok (.slice (some ⟨g, 0, none⟩) (l.length + made.length) cap) w' ∧ SRow w' B (.slice (some ⟨g, 0, none⟩) (l.length + made.length) cap) (l ++ made) ∧ w.grownBy w' v.ownBlock := by
  obtain ⟨i, hi, hz0, hz1, hz2⟩ := info_parts strInfo
  obtain ⟨a, c, rfl, hr⟩ := hu
  by_cases hz : made.length = 0
  · obtain rfl : made = [] := List.eq_nil_of_length_eq_zero hz
    obtain ⟨g, cap, rfl, hg1, hg2⟩ := World.ownsRow.form hown hl0
    refine ⟨g, cap, w, ?_, ?_, ?_⟩
    · have ht : Tryd.prog.underlying 23 = some (.slice 9) := Tryd.underlying23
      rcases hown.2 with ⟨h, -⟩ | ⟨g', cap', cur, e, _, _, hnc, _⟩
      · cases h
      · cases e
        cases a <;> simp [Builtin.append_, run_underlying ht, sizeOf, typeInfo, hi, Builtin.lenOf, Builtin.firstCells, hnc, storeCells, loadCells, loadCellsFrom]
    · rw [List.append_nil]
      exact hown
    · exact ⟨rfl, rfl, rfl, Nat.le_refl _, fun _ _ _ => rfl⟩
  · obtain ⟨b, o, rfl, -⟩ := hr 0 (by omega)
    have hnews : ∀ j u, (sc made)[j]? = some u → w.cell? ((⟨b, o, none⟩ : Addr).add j) = some u := fun j u hj => by
      have hjl : j < made.length := by
        have := (List.getElem?_eq_some_iff.1 hj).1
        rwa [sc_len] at this
      obtain ⟨b', o', e, -, -, -, he, -⟩ := hr j hjl
      cases e
      simp only [Nat.mul_one, Nat.add_zero] at he
      have e2 : u = .string made[j] := by
        unfold sc at hj
        rw [List.getElem?_map, List.getElem?_eq_getElem hjl] at hj
        exact (Option.some.inj hj).symm
      rw [e2, add_plain]
      exact he
    obtain ⟨g, cap, w', h1, h2, h3, -, -⟩ := run_append_lies (P := Tryd.prog) w 23 ty B 9 i (.string ⟨#[]⟩) 1 16 Tryd.underlying23 hi hz0 hz1 hz2 rfl (by decide) v l.length (sc l) hown ⟨b, o, none⟩ made.length c (sc made) (by rw [sc_len, Nat.mul_one]) hnews (sc_one _) (by omega) (by unfold maxLen; omega) (by omega) hbase _ rfl
    exact ⟨g, cap, w', h1, by unfold SRow; rw [List.length_append, sc_app]; exact h2, h3⟩
theorem step_append_made {w : World} {ops : Array Oper} {o : Oper} {a : Act} {K : Act → World → Prop} {Q : Exit → Act → World → Prop} {E : Prop} (hgd : o.guard = none) (s x : Operand)
    (ho : o.op = .call { callee := .builtin .append, args := #[s, x], argTypes := #[23, 23] }) (B : Nat) (v u : Value) (l made : List ByteArray) (m : Md) (hs : a.eval s = v) (hx : a.eval x = u) (hown : SRow w B v l) (hl0 : 0 < l.length) (hu : SlAt StringAt 1 w m u made) (hb : l.length + made.length ≤ 1000000) (hbase : B ≤ w.heap.size)
    (h : ∀ g cap w', SRow w' B (.slice (some ⟨g, 0, none⟩) (l.length + made.length) cap) (l ++ made) → w.grownBy w' v.ownBlock → K (a.put o.dst (.slice (some ⟨g, 0, none⟩) (l.length + made.length) cap)) w') :
    if Region.wanted o (yielded ops a.tmps) = true then Oper.wp Tryd.prog o a w K Q else E := by
  have hw : Region.wanted o (yielded ops a.tmps) = true := by simp [Region.wanted, hgd]
  rw [if_pos hw]
  obtain ⟨g, cap, w', hr, h2, h3⟩ := run_append_made B o.type v u l made m hown hl0 hu hb hbase
  unfold Oper.wp execOp
  simp only [ho, resolve, invoke, builtin, Sem.run_bind, Sem.run_pure, Result.andThen_ok, List.map_toArray, List.map_cons, List.map_nil, hs, hx, hr]
  exact h g cap w' h2 h3
theorem grown_far {B : Nat} {w w' : World} {v : Value} {l : List ByteArray} (h : SRow w B v l) (gr : w.grownBy w' v.ownBlock) (hB : B ≤ w.heap.size) : Below B w w' :=
  ⟨gr.os, gr.tape, gr.output, gr.size, fun k hk => gr.block k (by omega) (fun e => by have := (World.ownsRow.lt h k e.symm).1; omega)⟩
theorem two_row (w : World) (a b : ByteArray) : SRow (w.alloc (.cells #[.string a, .string b] 9)) w.heap.size (.slice (some ⟨w.heap.size, 0, none⟩) 2 2) [a, b] := World.ownsRow_lit w #[.string a, .string b] 2 (Nat.le_refl _) (by decide) rfl
end Go.Proofs.YtpfceikohoncgaaDoor
