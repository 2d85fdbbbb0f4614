/- Rows of structs in memory of the call's own, once for whatever struct: told by a list, grown by append, read again. No condition. -/
import Derived.Test.YtgebonbmiapfoaaZRd
import Derived.OwnWalk
import Derived.Deep.AppendLies
namespace Go.Proofs.Ytgebonbmiapfoaa
open Go.ChangeShapes Go.WideShapes Go.ChangeAt Go.RowKit Go.Deep

/-- A struct's make: its type, its slice's type, how many cells and bytes, its zero, its cells. -/
structure FlatK (D : Type) where
  ty : TypeId
  sl : TypeId
  sz : Nat
  bytes : Nat
  zero : Value
  cs : D → List Value
structure FlatK.Ok {D : Type} (F : FlatK D) : Prop where
  info : (Try.prog.info? F.ty).map (fun i => (i.zero, i.size, i.bytes)) = some (some F.zero, F.sz, F.bytes)
  under : Try.prog.underlying F.sl = some (.slice F.ty)
  pos : 0 < F.sz
  zsz : F.zero.cells.size = F.sz
  len : ∀ x, (F.cs x).length = F.sz
  by_ : F.bytes ≤ 1024
def FlatK.all {D : Type} (F : FlatK D) (l : List D) : List Value := l.flatMap F.cs
theorem FlatK.all_len {D : Type} {F : FlatK D} (hF : F.Ok) : ∀ l : List D, (F.all l).length = l.length * F.sz
  | [] => by simp [FlatK.all]
  | x :: r => by
    have := FlatK.all_len hF r
    unfold FlatK.all at this ⊢
    rw [List.flatMap_cons, List.length_append, this, hF.len, List.length_cons, Nat.add_mul]
    omega
theorem FlatK.all_app {D : Type} (F : FlatK D) (l r : List D) : F.all (l ++ r) = F.all l ++ F.all r := by unfold FlatK.all; rw [List.flatMap_append]
theorem FlatK.all_at {D : Type} {F : FlatK D} (hF : F.Ok) : ∀ (l : List D) (i : Nat) (h : i < l.length) (j : Nat), j < F.sz → (F.all l)[i * F.sz + j]? = (F.cs l[i])[j]?
  | [], i, h, _, _ => absurd h (by simp)
  | x :: r, 0, _, j, hj => by
    unfold FlatK.all
    rw [List.flatMap_cons, Nat.zero_mul, Nat.zero_add, List.getElem?_append_left (by rw [hF.len]; exact hj)]
    rfl
  | x :: r, i + 1, h, j, hj => by
    have := FlatK.all_at hF r i (by simpa using h) j hj
    unfold FlatK.all at this ⊢
    rw [List.flatMap_cons, List.getElem?_append_right (by rw [hF.len, Nat.add_mul]; omega), hF.len]
    rw [show (i + 1) * F.sz + j - F.sz = i * F.sz + j by rw [Nat.add_mul]; omega, this]
    rfl
def FRow {D : Type} (F : FlatK D) (w : World) (B : Nat) (v : Value) (l : List D) : Prop := w.ownsRow B F.ty F.sz v l.length (F.all l)
theorem FRow.nil {D : Type} (F : FlatK D) (w : World) (B : Nat) : FRow F w B (.slice none 0 0) [] := World.ownsRow_nil _ _ _ _
/-- It goes on where the rows of its own type have not turned. -/
theorem FRow.of_heap {D : Type} {F : FlatK D} {w w' : World} {B : Nat} {v : Value} {l : List D} (h : FRow F w B v l) (hk : ∀ k, B ≤ k → k < w.heap.size → (∃ C, w.heap[k]? = some (.cells C F.ty (0, 0))) → w'.heap[k]? = w.heap[k]?) : FRow F w' B v l := by
  refine ⟨h.1, ?_⟩
  rcases h.2 with h2 | ⟨g, cap, cur, e, hb, hg, r⟩
  · exact .inl h2
  · exact .inr ⟨g, cap, cur, e, hb, (hk g hb (Array.getElem?_eq_some_iff.1 hg).1 ⟨_, hg⟩).trans hg, r⟩
theorem FRow.on {D : Type} {F : FlatK D} {w w' : World} {B : Nat} {v : Value} {l : List D} (h : FRow F w B v l) (bel : Below w.heap.size w w') : FRow F w' B v l := h.of_heap fun k _ hk _ => bel.block k hk
theorem FRow.le {D : Type} {F : FlatK D} {w : World} {B C : Nat} {v : Value} {l : List D} (h : FRow F w B v l) (hc : C ≤ B) : FRow F w C v l := ⟨h.1, h.2.imp id fun ⟨g, cap, cur, e, hb, r⟩ => ⟨g, cap, cur, e, by omega, r⟩⟩
theorem FRow.form {D : Type} {F : FlatK D} {w : World} {B : Nat} {v : Value} {l : List D} (h : FRow F w B v l) : ∃ a c, v = .slice a l.length c := by
  rcases h.2 with ⟨e, e2⟩ | ⟨g, cap, _, e, -⟩
  · exact ⟨none, 0, by rw [e, e2]⟩
  · exact ⟨_, _, e⟩
theorem FRow.one {D : Type} {F : FlatK D} {w : World} {B : Nat} {v : Value} {l : List D} (h : FRow F w B v l) : v.oneCell' = true := by
  obtain ⟨a, c, rfl⟩ := h.form
  rfl
theorem FRow.far {D : Type} {F : FlatK D} {w : World} {B k : Nat} {v : Value} {l : List D} (h : FRow F w B v l) (hk : k < B) : some k ≠ v.ownBlock := fun e => by have := (World.ownsRow.lt h k e.symm).1; omega
theorem FRow.lt {D : Type} {F : FlatK D} {w : World} {B k : Nat} {v : Value} {l : List D} (h : FRow F w B v l) (e : v.ownBlock = some k) : B ≤ k ∧ k < w.heap.size := World.ownsRow.lt h k e
/-- The block that it lies in is of its type. -/
theorem FRow.ty {D : Type} {F : FlatK D} {w : World} {B k : Nat} {v : Value} {l : List D} (h : FRow F w B v l) (e : v.ownBlock = some k) : ∃ C, w.heap[k]? = some (.cells C F.ty (0, 0)) := by
  rcases h.2 with ⟨rfl, -⟩ | ⟨g, cap, cur, rfl, -, hg, -⟩
  · cases e
  · cases e; exact ⟨_, hg⟩
theorem wp_append_flat {D : Type} {F : FlatK D} (hF : F.Ok) {w : World} {ops : Array Oper} {rest : List Oper} {o : Oper} {a : Act} {Q : Exit → Act → World → Prop} (hgd : o.guard = none) (s x : Operand)
    (ho : o.op = .call { callee := .builtin .append, args := #[s, x], argTypes := #[F.sl, F.sl] }) (B : Nat) (v : Value) (l : List D) (hs : a.eval s = v) (hown : FRow F w B v l)
    (b : Nat) (p : D) (hx : a.eval x = .slice (some ⟨b, 0, none⟩) 1 1) (hnews : ∀ j c, (F.cs p)[j]? = some c → w.cell? ((⟨b, 0, none⟩ : Addr).add j) = some c) (hp : ∀ u ∈ F.cs p, u.oneCell' = true) (hb : l.length ≤ 100000000) (hbase : B ≤ w.heap.size)
    (h : ∀ v' w', FRow F w' B v' (l ++ [p]) → w.grownBy w' v.ownBlock → wpList Try.prog ops Q rest (a.put o.dst v') w') : wpList Try.prog ops Q (o :: rest) a w := by
  obtain ⟨i, hi, hz0, hz1, hz2⟩ := info_parts hF.info
  have hbb := hF.by_
  refine wpList_append_own w hgd s x _ ho B F.ty i F.zero F.sz F.bytes hF.under hi hz0 hz1 hz2 hF.zsz hF.pos v l.length (F.all l) hs hown ⟨b, 0, none⟩ 1 1 (F.cs p) hx (by rw [hF.len, Nat.one_mul]) hnews hp (by unfold maxLen; omega) ?_ hbase fun v' w' h2 h3 _ => ?_
  · have : (l.length + 1) * F.bytes ≤ 100000001 * 1024 := Nat.mul_le_mul (by omega) hbb
    omega
  · refine h v' w' ?_ h3
    unfold FRow
    rw [FlatK.all_app, List.length_append]
    have e : F.all [p] = F.cs p := by unfold FlatK.all; simp
    rw [e]
    exact h2
theorem step_flat {D : Type} {F : FlatK D} (hF : F.Ok) {w : World} {ops : Array Oper} {o : Oper} {a : Act} {K : Act → World → Prop} {Q : Exit → Act → World → Prop} {E : Prop} (hgd : o.guard = none) (s x : Operand)
    (ho : o.op = .call { callee := .builtin .append, args := #[s, x], argTypes := #[F.sl, F.sl] }) (B : Nat) (v : Value) (l : List D) (hs : a.eval s = v) (hown : FRow F w B v l)
    (b : Nat) (p : D) (hx : a.eval x = .slice (some ⟨b, 0, none⟩) 1 1) (hnews : ∀ j c, (F.cs p)[j]? = some c → w.cell? ((⟨b, 0, none⟩ : Addr).add j) = some c) (hp : ∀ u ∈ F.cs p, u.oneCell' = true) (hb : l.length ≤ 100000000) (hbase : B ≤ w.heap.size)
    (h : ∀ g cap w', FRow F w' B (.slice (some ⟨g, 0, none⟩) (l.length + 1) cap) (l ++ [p]) → w.grownBy w' v.ownBlock → K (a.put o.dst (.slice (some ⟨g, 0, none⟩) (l.length + 1) cap)) w') :
    if Region.wanted o (yielded ops a.tmps) = true then Oper.wp Try.prog o a w K Q else E := by
  obtain ⟨i, hi, hz0, hz1, hz2⟩ := info_parts hF.info
  have hbb := hF.by_
  refine step_append_lies w hgd s x _ ho B F.ty i F.zero F.sz F.bytes hF.under hi hz0 hz1 hz2 hF.zsz hF.pos v l.length (F.all l) hs hown ⟨b, 0, none⟩ 1 1 (F.cs p) hx (by rw [hF.len, Nat.one_mul]) hnews hp (by decide) (by unfold maxLen; omega) ?_ hbase _ rfl fun g cap w' h2 h3 _ _ => ?_
  · have : (l.length + 1) * F.bytes ≤ 100000001 * 1024 := Nat.mul_le_mul (by omega) hbb
    omega
  · refine h g cap w' ?_ h3
    unfold FRow
    rw [FlatK.all_app, List.length_append]
    have e : F.all [p] = F.cs p := by unfold FlatK.all; simp
    rw [e]
    exact h2
/-- The cells of a struct that has just been laid. -/
theorem flat_new {D : Type} (F : FlatK D) (w : World) (p : D) (C : Array Value) (T : TypeId) (hC : C.toList = F.cs p) {b : Nat} (hb : b = w.heap.size) : ∀ j c, (F.cs p)[j]? = some c → (w.alloc (.cells C T)).cell? ((⟨b, 0, none⟩ : Addr).add j) = some c := by
  subst hb
  intro j c hj
  have h := (heapCells (Deep.blk_alloc_new w (.cells C T))).1 j
  rw [add_plain, Nat.zero_add, h, ← hj, ← hC, Array.getElem?_toList]
/-- Such a row, as the readings of arguments have it. -/
theorem FRow.slat {D : Type} {F : FlatK D} (hF : F.Ok) {E : Elem D} {w : World} {B : Nat} {v : Value} {l : List D} (h : FRow F w B v l) (hE : ∀ x ∈ l, ∀ cf m, (∀ j, j < F.sz → cf j = (F.cs x)[j]?) → E cf w m x) : SlAt E F.sz w ⟨B, w.heap.size, false⟩ v l := by
  by_cases hl : l.length = 0
  · obtain rfl := List.length_eq_zero_iff.1 hl
    rcases h.2 with ⟨e, -⟩ | ⟨g, cap, cur, e, -⟩
    · subst e; exact SlAt.nil
    · subst e; exact SlAt.nil
  · obtain ⟨g, cap, rfl, hg1, hg2⟩ := World.ownsRow.form h (by omega)
    have hc := World.ownsRow.cells (g := g) h rfl
    have hcap : l.length ≤ cap := by
      rcases h.2 with ⟨e, -⟩ | ⟨g', cap', cur, e, -, -, hcap, -⟩
      · cases e
      · cases e; exact hcap
    refine ⟨_, cap, rfl, fun i hi => ⟨g, 0, rfl, ⟨hg1, hcap⟩, hg2, (fun e => by cases e), hE _ (List.getElem_mem hi) _ _ fun j hj => ?_⟩⟩
    have e := FlatK.all_at hF l i hi j hj
    have hjl : j < (F.cs l[i]).length := by have := hF.len (l[i]); omega
    obtain ⟨c, hcj⟩ : ∃ c, (F.cs l[i])[j]? = some c := ⟨(F.cs l[i])[j], List.getElem?_eq_getElem hjl⟩
    have := hc _ c (e.trans hcj)
    rw [add_plain, Nat.zero_add] at this
    rw [Nat.zero_add, hcj]
    exact this
end Go.Proofs.Ytgebonbmiapfoaa
