/- A row of numbers that the call has made: appending to it, reading and turning one. No condition. -/
import Derived.Test.YtfbglokjehmgeaaGreatDoorZVerC
import Derived.Test.YtfbglokjehmgeaaGreatDoorZVerG
import Derived.Test.YtfbglokjehmgeaaGreatDoorZTchL
import Derived.Lib.AppendStr
import Derived.OwnWalk
/- The model's look at one instruction. No condition. -/
namespace Go.Proofs.YtfbglokjehmgeaaGreatDoor
open Go.RowKit

theorem l04Ins_any (op a b : Int) (mod name cn : ByteArray) (params cells result : Int) (pa : Option Addr) (n c : Nat) (w : World) (hm : mod.size ≤ maxLen) (hn : name.size ≤ maxLen) (hl : n ≤ 1099511627776) :
    Calls Tryz.prog 79 #[.agg #[.int .i64 op, .int .i64 a, .int .i64 b, .string mod, .string name], .agg #[.string cn, .int .i64 params, .int .i64 cells, .int .i64 result, .slice pa n c]] w fun e w' => (e = .returned (.bool (insB ⟨op, a, b, mod, name⟩ cells n result)) ∧ Gw w w') := by
  by_cases h3 : op = 3
  · subst h3
    exact l04Ins_global a b mod name cn params cells result pa n c w hm hn
  · by_cases h13 : op = 13
    · subst h13
      exact l04Ins_call a b mod name cn params cells result pa n c w hm hn
    · exact l04Ins_no op a b mod name cn params cells result pa n c w hl h3 h13
end Go.Proofs.YtfbglokjehmgeaaGreatDoor

namespace Go.Proofs.YtfbglokjehmgeaaGreatDoor
open Go.ChangeShapes Go.WideShapes Go.ChangeAt Go.RowKit Go.Deep

def nc (l : List Int) : List Value := l.map fun n => Value.int .i64 n
theorem nc_app (l r : List Int) : nc (l ++ r) = nc l ++ nc r := by unfold nc; simp
theorem nc_one (l : List Int) : ∀ u ∈ nc l, u.oneCell' = true := by
  intro u hu
  unfold nc at hu
  obtain ⟨n, _, rfl⟩ := List.mem_map.1 hu
  rfl
/-- The value is a slice of the numbers l, in a row of the call's own from 'B' on. -/
def NRow (w : World) (B : Nat) (v : Value) (l : List Int) : Prop := w.ownsRow B 3 1 v l.length (nc l)
theorem NRow.of_heap {w w' : World} {B : Nat} {v : Value} {l : List Int} (h : NRow w B v l) (hk : ∀ k, B ≤ k → k < w.heap.size → w'.heap[k]? = w.heap[k]?) : NRow w' B v l := by
  refine ⟨h.1, ?_⟩
  rcases h.2 with h2 | ⟨g, cap, cur, e, hb, hg, r⟩
  · exact .inl h2
  · exact .inr ⟨g, cap, cur, e, hb, (hk g hb (Array.getElem?_eq_some_iff.1 hg).1).trans hg, r⟩
theorem NRow.on {w w' : World} {B : Nat} {v : Value} {l : List Int} (h : NRow w B v l) (bel : Below w.heap.size w w') : NRow w' B v l := h.of_heap fun k _ hk => bel.block k hk
theorem NRow.le {w : World} {B C : Nat} {v : Value} {l : List Int} (h : NRow w B v l) (hc : C ≤ B) : NRow w C v l := ⟨h.1, h.2.imp id fun ⟨g, cap, cur, e, hb, r⟩ => ⟨g, cap, cur, e, by omega, r⟩⟩
theorem NRow.nil (w : World) (B : Nat) : NRow w B (.slice none 0 0) [] := World.ownsRow_nil _ _ _ _
theorem nrow_form {w : World} {B : Nat} {v : Value} {l : List Int} (h : NRow w B v l) : ∃ a c, v = .slice a l.length c := by
  rcases h.2 with ⟨e, e2⟩ | ⟨g, cap, _, e, -⟩
  · exact ⟨none, 0, by rw [e, e2]⟩
  · exact ⟨_, _, e⟩
theorem NRow.at {w : World} {B : Nat} {v : Value} {l : List Int} (h : NRow w B v l) (hl : 0 < l.length) : ∃ g c, v = .slice (some ⟨g, 0, none⟩) l.length c ∧ B ≤ g ∧ g < w.heap.size ∧ (∀ k (hk : k < l.length), w.cell? ⟨g, k, none⟩ = some (.int .i64 l[k])) ∧ ∀ k, w.frozen? ⟨g, k, none⟩ = false := by
  rcases h.2 with ⟨-, e2⟩ | ⟨g, cap, cur, rfl, hb, hg, -⟩
  · omega
  · refine ⟨g, cap, rfl, hb, (Array.getElem?_eq_some_iff.1 hg).1, fun k hk => ?_, (heapCells hg).2⟩
    have := World.ownsRow.cells (g := g) h rfl k (.int .i64 l[k]) (by unfold nc; simp [hk])
    rwa [add_plain, Nat.zero_add] at this
theorem NRow.set {w : World} {B g n c : Nat} {l : List Int} (h : NRow w B (.slice (some ⟨g, 0, none⟩) n c) l) (k : Nat) (y : Int) : NRow (w.setCell ⟨g, k, none⟩ (.int .i64 y)) B (.slice (some ⟨g, 0, none⟩) n c) (l.set k y) := by
  have hn : n = l.length := by
    rcases h.2 with ⟨e, -⟩ | ⟨_, _, _, e, -⟩
    · cases e
    · cases e; rfl
  subst hn
  have := (World.ownsRow.stored h k (.int .i64 y)).1
  unfold NRow
  rw [List.length_set, show nc (l.set k y) = (nc l).set k (.int .i64 y) from by unfold nc; rw [List.map_set]]
  exact this
theorem numInfo : (Tryz.prog.info? 3).map (fun i => (i.zero, i.size, i.bytes)) = some (some (.int .i64 0), 1, 8) := by kernel_rfl
theorem num_new (w : World) (y : Int) {b : Nat} (hb : b = w.heap.size) : ∀ j c, (nc [y])[j]? = some c → (w.alloc (.cells #[.int .i64 y] 3)).cell? ((⟨b, 0, none⟩ : Addr).add j) = some c := by
  subst hb
  intro j c hj
  match j, hj with
  | 0, hj => simp [nc] at hj; subst hj; simp [Addr.add, go_sem]
  | j + 1, hj => simp [nc] at hj
theorem wp_append_num {w : World} {ops : Array Oper} {rest : List Oper} {o : Oper} {a : Act} {Q : Exit → Act → World → Prop} (hgd : o.guard = none) (s x : Operand)
    (ho : o.op = .call { callee := .builtin .append, args := #[s, x], argTypes := #[26, 26] }) (B : Nat) (v : Value) (l : List Int) (hs : a.eval s = v) (hown : NRow w B v l)
    (b : Nat) (y : Int) (hx : a.eval x = .slice (some ⟨b, 0, none⟩) 1 1) (hnews : ∀ j c, (nc [y])[j]? = some c → w.cell? ((⟨b, 0, none⟩ : Addr).add j) = some c) (hb : l.length ≤ 1000000) (hbase : B ≤ w.heap.size)
    (h : ∀ v' w', NRow w' B v' (l ++ [y]) → w.grownBy w' v.ownBlock → wpList Tryz.prog ops Q rest (a.put o.dst v') w') : wpList Tryz.prog ops Q (o :: rest) a w := by
  obtain ⟨i, hi, hz0, hz1, hz2⟩ := info_parts numInfo
  refine wpList_append_own w hgd s x _ ho B 3 i (.int .i64 0) 1 8 Tryz.underlying26 hi hz0 hz1 hz2 rfl (by decide) v l.length (nc l) hs hown ⟨b, 0, none⟩ 1 1 (nc [y]) hx rfl hnews (nc_one _) (by unfold maxLen; omega) (by omega) hbase fun v' w' h2 h3 _ => ?_
  refine h v' w' ?_ h3
  unfold NRow
  rw [List.length_append, nc_app]
  exact h2
end Go.Proofs.YtfbglokjehmgeaaGreatDoor
