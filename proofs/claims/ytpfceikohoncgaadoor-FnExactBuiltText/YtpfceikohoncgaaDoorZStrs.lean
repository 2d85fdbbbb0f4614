/- A row of texts that the call has made: appending to it, reading one. No condition. -/
import Derived.Test.YtpfceikohoncgaaDoorZRd
import Derived.Lib.AppendStr
import Derived.OwnWalk
namespace Go.Proofs.YtpfceikohoncgaaDoor
open Go.ChangeShapes Go.WideShapes Go.ChangeAt Go.RowKit Go.Deep

def sc (l : List ByteArray) : List Value := l.map fun n => Value.string n
theorem sc_len (l : List ByteArray) : (sc l).length = l.length := by unfold sc; simp
theorem sc_app (l r : List ByteArray) : sc (l ++ r) = sc l ++ sc r := by unfold sc; simp
theorem sc_one (l : List ByteArray) : ∀ u ∈ sc l, u.oneCell' = true := by
  intro u hu
  unfold sc at hu
  obtain ⟨n, _, rfl⟩ := List.mem_map.1 hu
  rfl
/-- The value is a slice of the numbers l, in a row of the call's own from 'B' on. -/
def SRow (w : World) (B : Nat) (v : Value) (l : List ByteArray) : Prop := w.ownsRow B 9 1 v l.length (sc l)
theorem SRow.of_heap {w w' : World} {B : Nat} {v : Value} {l : List ByteArray} (h : SRow w B v l) (hk : ∀ k, B ≤ k → k < w.heap.size → w'.heap[k]? = w.heap[k]?) : SRow w' B v l := by
  refine ⟨h.1, ?_⟩
  rcases h.2 with h2 | ⟨g, cap, cur, e, hb, hg, r⟩
  · exact .inl h2
  · exact .inr ⟨g, cap, cur, e, hb, (hk g hb (Array.getElem?_eq_some_iff.1 hg).1).trans hg, r⟩
theorem SRow.on {w w' : World} {B : Nat} {v : Value} {l : List ByteArray} (h : SRow w B v l) (bel : Below w.heap.size w w') : SRow w' B v l := h.of_heap fun k _ hk => bel.block k hk
theorem SRow.le {w : World} {B C : Nat} {v : Value} {l : List ByteArray} (h : SRow w B v l) (hc : C ≤ B) : SRow w C v l := ⟨h.1, h.2.imp id fun ⟨g, cap, cur, e, hb, r⟩ => ⟨g, cap, cur, e, by omega, r⟩⟩
theorem SRow.nil (w : World) (B : Nat) : SRow w B (.slice none 0 0) [] := World.ownsRow_nil _ _ _ _
theorem srow_form {w : World} {B : Nat} {v : Value} {l : List ByteArray} (h : SRow w B v l) : ∃ a c, v = .slice a l.length c := by
  rcases h.2 with ⟨e, e2⟩ | ⟨g, cap, _, e, -⟩
  · exact ⟨none, 0, by rw [e, e2]⟩
  · exact ⟨_, _, e⟩
theorem SRow.at {w : World} {B : Nat} {v : Value} {l : List ByteArray} (h : SRow w B v l) (hl : 0 < l.length) : ∃ g c, v = .slice (some ⟨g, 0, none⟩) l.length c ∧ B ≤ g ∧ g < w.heap.size ∧ (∀ k (hk : k < l.length), w.cell? ⟨g, k, none⟩ = some (.string l[k])) ∧ ∀ k, w.frozen? ⟨g, k, none⟩ = false := by
  rcases h.2 with ⟨-, e2⟩ | ⟨g, cap, cur, rfl, hb, hg, -⟩
  · omega
  · refine ⟨g, cap, rfl, hb, (Array.getElem?_eq_some_iff.1 hg).1, fun k hk => ?_, (heapCells hg).2⟩
    have := World.ownsRow.cells (g := g) h rfl k (.string l[k]) (by unfold sc; simp [hk])
    rwa [add_plain, Nat.zero_add] at this
theorem SRow.set {w : World} {B g n c : Nat} {l : List ByteArray} (h : SRow w B (.slice (some ⟨g, 0, none⟩) n c) l) (k : Nat) (y : ByteArray) : SRow (w.setCell ⟨g, k, none⟩ (.string y)) B (.slice (some ⟨g, 0, none⟩) n c) (l.set k y) := by
  have hn : n = l.length := by
    rcases h.2 with ⟨e, -⟩ | ⟨_, _, _, e, -⟩
    · cases e
    · cases e; rfl
  subst hn
  have := (World.ownsRow.stored h k (.string y)).1
  unfold SRow
  rw [List.length_set, show sc (l.set k y) = (sc l).set k (.string y) from by unfold sc; rw [List.map_set]]
  exact this
theorem strInfo : (Tryd.prog.info? 9).map (fun i => (i.zero, i.size, i.bytes)) = some (some (.string ⟨#[]⟩), 1, 16) := by kernel_rfl
theorem str_new (w : World) (y : ByteArray) {b : Nat} (hb : b = w.heap.size) : ∀ j c, (sc [y])[j]? = some c → (w.alloc (.cells #[.string y] 9)).cell? ((⟨b, 0, none⟩ : Addr).add j) = some c := by
  subst hb
  intro j c hj
  match j, hj with
  | 0, hj => simp [sc] at hj; subst hj; simp [Addr.add, go_sem]
  | j + 1, hj => simp [sc] at hj
theorem wp_append_str {w : World} {ops : Array Oper} {rest : List Oper} {o : Oper} {a : Act} {Q : Exit → Act → World → Prop} (hgd : o.guard = none) (s x : Operand)
    (ho : o.op = .call { callee := .builtin .append, args := #[s, x], argTypes := #[23, 23] }) (B : Nat) (v : Value) (l : List ByteArray) (hs : a.eval s = v) (hown : SRow w B v l)
    (b : Nat) (y : ByteArray) (hx : a.eval x = .slice (some ⟨b, 0, none⟩) 1 1) (hnews : ∀ j c, (sc [y])[j]? = some c → w.cell? ((⟨b, 0, none⟩ : Addr).add j) = some c) (hb : l.length ≤ 1000000) (hbase : B ≤ w.heap.size)
    (h : ∀ v' w', SRow w' B v' (l ++ [y]) → w.grownBy w' v.ownBlock → wpList Tryd.prog ops Q rest (a.put o.dst v') w') : wpList Tryd.prog ops Q (o :: rest) a w := by
  obtain ⟨i, hi, hz0, hz1, hz2⟩ := info_parts strInfo
  refine wpList_append_own w hgd s x _ ho B 9 i (.string ⟨#[]⟩) 1 16 Tryd.underlying23 hi hz0 hz1 hz2 rfl (by decide) v l.length (sc l) hs hown ⟨b, 0, none⟩ 1 1 (sc [y]) hx rfl hnews (sc_one _) (by unfold maxLen; omega) (by omega) hbase fun v' w' h2 h3 _ => ?_
  refine h v' w' ?_ h3
  unfold SRow
  rw [List.length_append, sc_app]
  exact h2
end Go.Proofs.YtpfceikohoncgaaDoor
