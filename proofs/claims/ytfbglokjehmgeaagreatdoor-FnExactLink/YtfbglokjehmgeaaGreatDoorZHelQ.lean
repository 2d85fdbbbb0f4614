/- The law's marks in an image's codes. No condition. -/
import Derived.Test.YtfbglokjehmgeaaGreatDoorZTchL
import Derived.OwnWalk
import Derived.Deep.AppendLies
import Derived.Test.YtfbglokjehmgeaaGreatDoorZHelK
/- Rows of structs in memory of the call's own, once for whatever struct: told by a list, grown by append, read again. No condition. -/
namespace Go.Proofs.YtfbglokjehmgeaaGreatDoor
open Go.ChangeShapes Go.WideShapes Go.ChangeAt Go.RowKit Go.Deep

/-- A struct's make: its type, its slice's type, how many cells and bytes, its zero, its cells. -/
structure FlatK (D : Type) where
  ty : TypeId
  sl : TypeId
  sz : Nat
  bytes : Nat
  zero : Value
  cs : D → List Value
structure FlatK.Ok {D : Type} (F : FlatK D) : Prop where
  info : (Tryz.prog.info? F.ty).map (fun i => (i.zero, i.size, i.bytes)) = some (some F.zero, F.sz, F.bytes)
  under : Tryz.prog.underlying F.sl = some (.slice F.ty)
  pos : 0 < F.sz
  zsz : F.zero.cells.size = F.sz
  len : ∀ x, (F.cs x).length = F.sz
  by_ : F.bytes ≤ 1024
def FlatK.all {D : Type} (F : FlatK D) (l : List D) : List Value := l.flatMap F.cs
theorem FlatK.all_len {D : Type} {F : FlatK D} (hF : F.Ok) : ∀ l : List D, (F.all l).length = l.length * F.sz
  | [] => by simp [FlatK.all]
  | x :: r => by
    have := FlatK.all_len hF r
    unfold FlatK.all at this ⊢
    rw [List.flatMap_cons, List.length_append, this, hF.len, List.length_cons, Nat.add_mul]
    omega
theorem FlatK.all_app {D : Type} (F : FlatK D) (l r : List D) : F.all (l ++ r) = F.all l ++ F.all r := by unfold FlatK.all; rw [List.flatMap_append]
theorem FlatK.all_at {D : Type} {F : FlatK D} (hF : F.Ok) : ∀ (l : List D) (i : Nat) (h : i < l.length) (j : Nat), j < F.sz → (F.all l)[i * F.sz + j]? = (F.cs l[i])[j]?
  | [], i, h, _, _ => absurd h (by simp)
  | x :: r, 0, _, j, hj => by
    unfold FlatK.all
    rw [List.flatMap_cons, Nat.zero_mul, Nat.zero_add, List.getElem?_append_left (by rw [hF.len]; exact hj)]
    rfl
  | x :: r, i + 1, h, j, hj => by
    have := FlatK.all_at hF r i (by simpa using h) j hj
    unfold FlatK.all at this ⊢
    rw [List.flatMap_cons, List.getElem?_append_right (by rw [hF.len, Nat.add_mul]; omega), hF.len]
    rw [show (i + 1) * F.sz + j - F.sz = i * F.sz + j by rw [Nat.add_mul]; omega, this]
    rfl
def FRow {D : Type} (F : FlatK D) (w : World) (B : Nat) (v : Value) (l : List D) : Prop := w.ownsRow B F.ty F.sz v l.length (F.all l)
theorem FRow.nil {D : Type} (F : FlatK D) (w : World) (B : Nat) : FRow F w B (.slice none 0 0) [] := World.ownsRow_nil _ _ _ _
/-- It goes on where the rows of its own type have not turned. -/
theorem FRow.of_heap {D : Type} {F : FlatK D} {w w' : World} {B : Nat} {v : Value} {l : List D} (h : FRow F w B v l) (hk : ∀ k, B ≤ k → k < w.heap.size → (∃ C, w.heap[k]? = some (.cells C F.ty (0, 0))) → w'.heap[k]? = w.heap[k]?) : FRow F w' B v l := by
  refine ⟨h.1, ?_⟩
  rcases h.2 with h2 | ⟨g, cap, cur, e, hb, hg, r⟩
  · exact .inl h2
  · exact .inr ⟨g, cap, cur, e, hb, (hk g hb (Array.getElem?_eq_some_iff.1 hg).1 ⟨_, hg⟩).trans hg, r⟩
theorem FRow.on {D : Type} {F : FlatK D} {w w' : World} {B : Nat} {v : Value} {l : List D} (h : FRow F w B v l) (bel : Below w.heap.size w w') : FRow F w' B v l := h.of_heap fun k _ hk _ => bel.block k hk
theorem FRow.le {D : Type} {F : FlatK D} {w : World} {B C : Nat} {v : Value} {l : List D} (h : FRow F w B v l) (hc : C ≤ B) : FRow F w C v l := ⟨h.1, h.2.imp id fun ⟨g, cap, cur, e, hb, r⟩ => ⟨g, cap, cur, e, by omega, r⟩⟩
theorem FRow.form {D : Type} {F : FlatK D} {w : World} {B : Nat} {v : Value} {l : List D} (h : FRow F w B v l) : ∃ a c, v = .slice a l.length c := by
  rcases h.2 with ⟨e, e2⟩ | ⟨g, cap, _, e, -⟩
  · exact ⟨none, 0, by rw [e, e2]⟩
  · exact ⟨_, _, e⟩
theorem FRow.one {D : Type} {F : FlatK D} {w : World} {B : Nat} {v : Value} {l : List D} (h : FRow F w B v l) : v.oneCell' = true := by
  obtain ⟨a, c, rfl⟩ := h.form
  rfl
theorem FRow.far {D : Type} {F : FlatK D} {w : World} {B k : Nat} {v : Value} {l : List D} (h : FRow F w B v l) (hk : k < B) : some k ≠ v.ownBlock := fun e => by have := (World.ownsRow.lt h k e.symm).1; omega
theorem FRow.lt {D : Type} {F : FlatK D} {w : World} {B k : Nat} {v : Value} {l : List D} (h : FRow F w B v l) (e : v.ownBlock = some k) : B ≤ k ∧ k < w.heap.size := World.ownsRow.lt h k e
/-- The block that it lies in is of its type. -/
theorem FRow.ty {D : Type} {F : FlatK D} {w : World} {B k : Nat} {v : Value} {l : List D} (h : FRow F w B v l) (e : v.ownBlock = some k) : ∃ C, w.heap[k]? = some (.cells C F.ty (0, 0)) := by
  rcases h.2 with ⟨rfl, -⟩ | ⟨g, cap, cur, rfl, -, hg, -⟩
  · cases e
  · cases e; exact ⟨_, hg⟩
theorem wp_append_flat {D : Type} {F : FlatK D} (hF : F.Ok) {w : World} {ops : Array Oper} {rest : List Oper} {o : Oper} {a : Act} {Q : Exit → Act → World → Prop} (hgd : o.guard = none) (s x : Operand)
    (ho : o.op = .call { callee := .builtin .append, args := #[s, x], argTypes := #[F.sl, F.sl] }) (B : Nat) (v : Value) (l : List D) (hs : a.eval s = v) (hown : FRow F w B v l)
    (b : Nat) (p : D) (hx : a.eval x = .slice (some ⟨b, 0, none⟩) 1 1) (hnews : ∀ j c, (F.cs p)[j]? = some c → w.cell? ((⟨b, 0, none⟩ : Addr).add j) = some c) (hp : ∀ u ∈ F.cs p, u.oneCell' = true) (hb : l.length ≤ 100000000) (hbase : B ≤ w.heap.size)
    (h : ∀ v' w', FRow F w' B v' (l ++ [p]) → w.grownBy w' v.ownBlock → wpList Tryz.prog ops Q rest (a.put o.dst v') w') : wpList Tryz.prog ops Q (o :: rest) a w := by
  obtain ⟨i, hi, hz0, hz1, hz2⟩ := info_parts hF.info
  have hbb := hF.by_
  refine wpList_append_own w hgd s x _ ho B F.ty i F.zero F.sz F.bytes hF.under hi hz0 hz1 hz2 hF.zsz hF.pos v l.length (F.all l) hs hown ⟨b, 0, none⟩ 1 1 (F.cs p) hx (by rw [hF.len, Nat.one_mul]) hnews hp (by unfold maxLen; omega) ?_ hbase fun v' w' h2 h3 _ => ?_
  · have : (l.length + 1) * F.bytes ≤ 100000001 * 1024 := Nat.mul_le_mul (by omega) hbb
    omega
  · refine h v' w' ?_ h3
    unfold FRow
    rw [FlatK.all_app, List.length_append]
    have e : F.all [p] = F.cs p := by unfold FlatK.all; simp
    rw [e]
    exact h2
theorem step_flat {D : Type} {F : FlatK D} (hF : F.Ok) {w : World} {ops : Array Oper} {o : Oper} {a : Act} {K : Act → World → Prop} {Q : Exit → Act → World → Prop} {E : Prop} (hgd : o.guard = none) (s x : Operand)
    (ho : o.op = .call { callee := .builtin .append, args := #[s, x], argTypes := #[F.sl, F.sl] }) (B : Nat) (v : Value) (l : List D) (hs : a.eval s = v) (hown : FRow F w B v l)
    (b : Nat) (p : D) (hx : a.eval x = .slice (some ⟨b, 0, none⟩) 1 1) (hnews : ∀ j c, (F.cs p)[j]? = some c → w.cell? ((⟨b, 0, none⟩ : Addr).add j) = some c) (hp : ∀ u ∈ F.cs p, u.oneCell' = true) (hb : l.length ≤ 100000000) (hbase : B ≤ w.heap.size)
    (h : ∀ g cap w', FRow F w' B (.slice (some ⟨g, 0, none⟩) (l.length + 1) cap) (l ++ [p]) → w.grownBy w' v.ownBlock → K (a.put o.dst (.slice (some ⟨g, 0, none⟩) (l.length + 1) cap)) w') :
    if Region.wanted o (yielded ops a.tmps) = true then Oper.wp Tryz.prog o a w K Q else E := by
  obtain ⟨i, hi, hz0, hz1, hz2⟩ := info_parts hF.info
  have hbb := hF.by_
  refine step_append_lies w hgd s x _ ho B F.ty i F.zero F.sz F.bytes hF.under hi hz0 hz1 hz2 hF.zsz hF.pos v l.length (F.all l) hs hown ⟨b, 0, none⟩ 1 1 (F.cs p) hx (by rw [hF.len, Nat.one_mul]) hnews hp (by decide) (by unfold maxLen; omega) ?_ hbase _ rfl fun g cap w' h2 h3 _ _ => ?_
  · have : (l.length + 1) * F.bytes ≤ 100000001 * 1024 := Nat.mul_le_mul (by omega) hbb
    omega
  · refine h g cap w' ?_ h3
    unfold FRow
    rw [FlatK.all_app, List.length_append]
    have e : F.all [p] = F.cs p := by unfold FlatK.all; simp
    rw [e]
    exact h2
/-- The cells of a struct that has just been laid. -/
theorem flat_new {D : Type} (F : FlatK D) (w : World) (p : D) (C : Array Value) (T : TypeId) (hC : C.toList = F.cs p) {b : Nat} (hb : b = w.heap.size) : ∀ j c, (F.cs p)[j]? = some c → (w.alloc (.cells C T)).cell? ((⟨b, 0, none⟩ : Addr).add j) = some c := by
  subst hb
  intro j c hj
  have h := (heapCells (Deep.blk_alloc_new w (.cells C T))).1 j
  rw [add_plain, Nat.zero_add, h, ← hj, ← hC, Array.getElem?_toList]
/-- Such a row, as the readings of arguments have it. -/
theorem FRow.slat {D : Type} {F : FlatK D} (hF : F.Ok) {E : Elem D} {w : World} {B : Nat} {v : Value} {l : List D} (h : FRow F w B v l) (hE : ∀ x ∈ l, ∀ cf m, (∀ j, j < F.sz → cf j = (F.cs x)[j]?) → E cf w m x) : SlAt E F.sz w ⟨B, w.heap.size, false⟩ v l := by
  by_cases hl : l.length = 0
  · obtain rfl := List.length_eq_zero_iff.1 hl
    rcases h.2 with ⟨e, -⟩ | ⟨g, cap, cur, e, -⟩
    · subst e; exact SlAt.nil
    · subst e; exact SlAt.nil
  · obtain ⟨g, cap, rfl, hg1, hg2⟩ := World.ownsRow.form h (by omega)
    have hc := World.ownsRow.cells (g := g) h rfl
    have hcap : l.length ≤ cap := by
      rcases h.2 with ⟨e, -⟩ | ⟨g', cap', cur, e, -, -, hcap, -⟩
      · cases e
      · cases e; exact hcap
    refine ⟨_, cap, rfl, fun i hi => ⟨g, 0, rfl, ⟨hg1, hcap⟩, hg2, (fun e => by cases e), hE _ (List.getElem_mem hi) _ _ fun j hj => ?_⟩⟩
    have e := FlatK.all_at hF l i hi j hj
    have hjl : j < (F.cs l[i]).length := by have := hF.len (l[i]); omega
    obtain ⟨c, hcj⟩ : ∃ c, (F.cs l[i])[j]? = some c := ⟨(F.cs l[i])[j], List.getElem?_eq_getElem hjl⟩
    have := hc _ c (e.trans hcj)
    rw [add_plain, Nat.zero_add] at this
    rw [Nat.zero_add, hcj]
    exact this
/-- A row whose cell is set. -/
theorem FRow.set {D : Type} {F : FlatK D} {w : World} {B g n c : Nat} {l l' : List D} (h : FRow F w B (.slice (some ⟨g, 0, none⟩) n c) l) (o : Nat) (v : Value) (hl : l'.length = l.length) (ha : F.all l' = (F.all l).set o v) : FRow F (w.setCell ⟨g, o, none⟩ v) B (.slice (some ⟨g, 0, none⟩) n c) l' := by
  obtain ⟨h1, h2⟩ := h
  rcases h2 with ⟨e, -⟩ | ⟨g', cap, cur, e, hb, hg, h3, h4, h5, h6⟩
  · cases e
  · cases e
    refine ⟨by rw [ha, List.length_set, hl]; exact h1, .inr ⟨g, c, cur.setIfInBounds o v, by rw [hl], hb, block_set hg v, by rw [hl]; exact h3, h4, by simpa using h5, ?_⟩⟩
    rw [hl, ha, ← h6, Array.toList_setIfInBounds, List.take_set]
/-- The last is dropped. -/
theorem FRow.pop {D : Type} {F : FlatK D} (hF : F.Ok) {w : World} {B g n c : Nat} {l : List D} {x : D} (h : FRow F w B (.slice (some ⟨g, 0, none⟩) (n + 1) c) (l ++ [x])) : FRow F w B (.slice (some ⟨g, 0, none⟩) n c) l := by
  obtain ⟨h1, h2⟩ := h
  rcases h2 with ⟨e, -⟩ | ⟨g', cap, cur, e, hb, hg, h3, h4, h5, h6⟩
  · cases e
  · have hlen : (l ++ [x]).length = l.length + 1 := by simp
    rw [hlen] at e h3 h6
    cases e
    refine ⟨FlatK.all_len hF l, .inr ⟨g, c, cur, rfl, hb, hg, by omega, h4, h5, ?_⟩⟩
    have := congrArg (List.take (l.length * F.sz)) h6
    have hm : min (l.length * F.sz) ((l.length + 1) * F.sz) = l.length * F.sz := Nat.min_eq_left (by rw [Nat.add_mul]; omega)
    rw [List.take_take, hm, FlatK.all_app, List.take_append_of_le_length (by rw [FlatK.all_len hF]; exact Nat.le_refl _), List.take_of_length_le (l := F.all l) (by rw [FlatK.all_len hF]; exact Nat.le_refl _)] at this
    exact this
end Go.Proofs.YtfbglokjehmgeaaGreatDoor

/- Structs as plain data, and how they lie in memory; how the row's own reading of an argument gives it. No condition. -/
namespace Go.Proofs.YtfbglokjehmgeaaGreatDoor
open Go.ChangeShapes Go.WideShapes Go.ChangeAt Go.RowKit Go.Deep

def I64 (n : Int) : Prop := -9223372036854775808 ≤ n ∧ n ≤ 9223372036854775807
theorem I64.of_wf {n : Int} (h : (Lit.int .i64 n).wf = true) : I64 n := by
  simp only [Lit.wf, Bool.and_eq_true, decide_eq_true_eq] at h
  exact h
structure InsD where
  op : Int
  a : Int
  b : Int
  mod : ByteArray
  name : ByteArray
def InsAt : Elem InsD := fun cf _ _ x => (cf 0 = some (.int .i64 (x.op)) ∧ cf 1 = some (.int .i64 (x.a)) ∧ cf 2 = some (.int .i64 (x.b)) ∧ cf 3 = some (.string (x.mod)) ∧ cf 4 = some (.string (x.name))) ∧ (I64 x.op ∧ I64 x.a ∧ I64 x.b ∧ x.mod.size ≤ maxLen ∧ x.name.size ≤ maxLen)
theorem InsAt.stays : Stays InsAt := fun _ _ _ _ _ h _ => h
theorem InsAt.widens : Widens InsAt := fun _ _ _ _ _ h _ _ _ => h
theorem InsAt.loc : Loc InsAt 5 := fun _ _ _ _ _ e ⟨⟨c0, c1, c2, c3, c4⟩, hr⟩ => ⟨⟨(e 0 (by omega)).trans c0, (e 1 (by omega)).trans c1, (e 2 (by omega)).trans c2, (e 3 (by omega)).trans c3, (e 4 (by omega)).trans c4⟩, hr⟩
structure CodeD where
  name : ByteArray
  params : Int
  cells : Int
  result : Int
  list : List InsD
def CodeAt : Elem CodeD := fun cf w m x => (cf 0 = some (.string (x.name)) ∧ cf 1 = some (.int .i64 (x.params)) ∧ cf 2 = some (.int .i64 (x.cells)) ∧ cf 3 = some (.int .i64 (x.result))) ∧ (x.name.size ≤ maxLen ∧ I64 x.params ∧ I64 x.cells ∧ I64 x.result ∧ x.list.length ≤ maxLen) ∧ ∃ u4, (cf 4 = some u4) ∧ SlAt InsAt 5 w m u4 x.list
theorem CodeAt.stays : Stays CodeAt := fun _ _ _ _ _ ⟨h, hr, u4, hc, h4⟩ s => ⟨h, hr, u4, hc, h4.same InsAt.stays s⟩
theorem CodeAt.widens : Widens CodeAt := fun _ _ _ _ _ ⟨h, hr, u4, hc, h4⟩ a b c => ⟨h, hr, u4, hc, h4.wid InsAt.widens a b c⟩
theorem CodeAt.loc : Loc CodeAt 5 := fun _ _ _ _ _ e ⟨⟨c0, c1, c2, c3⟩, hr, u4, k4, hs⟩ => ⟨⟨(e 0 (by omega)).trans c0, (e 1 (by omega)).trans c1, (e 2 (by omega)).trans c2, (e 3 (by omega)).trans c3⟩, hr, u4, (e 4 (by omega)).trans k4, hs⟩
structure NeedD where
  module : ByteArray
  print : Int
def NeedAt : Elem NeedD := fun cf _ _ x => (cf 0 = some (.string (x.module)) ∧ cf 1 = some (.int .i64 (x.print))) ∧ (x.module.size ≤ maxLen ∧ I64 x.print)
theorem NeedAt.stays : Stays NeedAt := fun _ _ _ _ _ h _ => h
theorem NeedAt.widens : Widens NeedAt := fun _ _ _ _ _ h _ _ _ => h
theorem NeedAt.loc : Loc NeedAt 2 := fun _ _ _ _ _ e ⟨⟨c0, c1⟩, hr⟩ => ⟨⟨(e 0 (by omega)).trans c0, (e 1 (by omega)).trans c1⟩, hr⟩
structure GlobalD where
  name : ByteArray
  length : Int
def GlobalAt : Elem GlobalD := fun cf _ _ x => (cf 0 = some (.string (x.name)) ∧ cf 1 = some (.int .i64 (x.length))) ∧ (x.name.size ≤ maxLen ∧ I64 x.length)
theorem GlobalAt.stays : Stays GlobalAt := fun _ _ _ _ _ h _ => h
theorem GlobalAt.widens : Widens GlobalAt := fun _ _ _ _ _ h _ _ _ => h
theorem GlobalAt.loc : Loc GlobalAt 2 := fun _ _ _ _ _ e ⟨⟨c0, c1⟩, hr⟩ => ⟨⟨(e 0 (by omega)).trans c0, (e 1 (by omega)).trans c1⟩, hr⟩
structure ObjectD where
  module : ByteArray
  print : Int
  needs : List NeedD
  globals : List GlobalD
  procs : List CodeD
def ObjectAt : Elem ObjectD := fun cf w m x => (cf 0 = some (.string (x.module)) ∧ cf 1 = some (.int .i64 (x.print))) ∧ (x.module.size ≤ maxLen ∧ I64 x.print ∧ x.needs.length ≤ maxLen ∧ x.globals.length ≤ maxLen ∧ x.procs.length ≤ maxLen) ∧ ∃ u2 u3 u4, (cf 2 = some u2 ∧ cf 3 = some u3 ∧ cf 4 = some u4) ∧ SlAt NeedAt 2 w m u2 x.needs ∧ SlAt GlobalAt 2 w m u3 x.globals ∧ SlAt CodeAt 5 w m u4 x.procs
theorem ObjectAt.stays : Stays ObjectAt := fun _ _ _ _ _ ⟨h, hr, u2, u3, u4, hc, h2, h3, h4⟩ s => ⟨h, hr, u2, u3, u4, hc, h2.same NeedAt.stays s, h3.same GlobalAt.stays s, h4.same CodeAt.stays s⟩
theorem ObjectAt.widens : Widens ObjectAt := fun _ _ _ _ _ ⟨h, hr, u2, u3, u4, hc, h2, h3, h4⟩ a b c => ⟨h, hr, u2, u3, u4, hc, h2.wid NeedAt.widens a b c, h3.wid GlobalAt.widens a b c, h4.wid CodeAt.widens a b c⟩
theorem ObjectAt.loc : Loc ObjectAt 5 := fun _ _ _ _ _ e ⟨⟨c0, c1⟩, hr, u2, u3, u4, ⟨k2, k3, k4⟩, hs⟩ => ⟨⟨(e 0 (by omega)).trans c0, (e 1 (by omega)).trans c1⟩, hr, u2, u3, u4, ⟨(e 2 (by omega)).trans k2, (e 3 (by omega)).trans k3, (e 4 (by omega)).trans k4⟩, hs⟩
section
variable {H : Type} {enc : TypeId × Value → H} {w : World}
theorem opens_Ins : Opens enc Tryz.prog w 193 InsAt := by
  intro fuel cs y h
  obtain ⟨hl, hf⟩ := open_fields Tryz.underlying193 (hone_of (by kernel_rfl)) (by kernel_rfl) h
  obtain ⟨v0, n0, z0, c0, t0⟩ := hf 0 _ rfl
  obtain ⟨v1, n1, z1, c1, t1⟩ := hf 1 _ rfl
  obtain ⟨v2, n2, z2, c2, t2⟩ := hf 2 _ rfl
  obtain ⟨v3, n3, z3, c3, t3⟩ := hf 3 _ rfl
  obtain ⟨v4, n4, z4, c4, t4⟩ := hf 4 _ rfl
  obtain ⟨a0, e0, _, w0⟩ := DataW.trod_int Tryz.underlying3 t0
  obtain ⟨a1, e1, _, w1⟩ := DataW.trod_int Tryz.underlying3 t1
  obtain ⟨a2, e2, _, w2⟩ := DataW.trod_int Tryz.underlying3 t2
  obtain ⟨a3, e3, _, w3⟩ := DataW.trod_string Tryz.underlying9 t3
  obtain ⟨a4, e4, _, w4⟩ := DataW.trod_string Tryz.underlying9 t4
  simp only [List.cons.injEq, and_true] at e0 e1 e2 e3 e4
  subst e0 e1 e2 e3 e4
  have hc : Tryz.prog.cellsOf 193 = 5 := by kernel_rfl
  refine ⟨⟨a0, a1, a2, a3, a4⟩, fun cf hcell => ⟨⟨?_, ?_, ?_, ?_, ?_⟩, ⟨I64.of_wf w0, I64.of_wf w1, I64.of_wf w2, w3, w4⟩⟩⟩
  · have := hcell 0 (by omega); rwa [c0] at this
  · have := hcell 1 (by omega); rwa [c1] at this
  · have := hcell 2 (by omega); rwa [c2] at this
  · have := hcell 3 (by omega); rwa [c3] at this
  · have := hcell 4 (by omega); rwa [c4] at this
theorem opens_Code : Opens enc Tryz.prog w 136 CodeAt := by
  intro fuel cs y h
  obtain ⟨hl, hf⟩ := open_fields Tryz.underlying136 (hone_of (by kernel_rfl)) (by kernel_rfl) h
  obtain ⟨v0, n0, z0, c0, t0⟩ := hf 0 _ rfl
  obtain ⟨v1, n1, z1, c1, t1⟩ := hf 1 _ rfl
  obtain ⟨v2, n2, z2, c2, t2⟩ := hf 2 _ rfl
  obtain ⟨v3, n3, z3, c3, t3⟩ := hf 3 _ rfl
  obtain ⟨v4, n4, z4, c4, t4⟩ := hf 4 _ rfl
  obtain ⟨a0, e0, _, w0⟩ := DataW.trod_string Tryz.underlying9 t0
  obtain ⟨a1, e1, _, w1⟩ := DataW.trod_int Tryz.underlying3 t1
  obtain ⟨a2, e2, _, w2⟩ := DataW.trod_int Tryz.underlying3 t2
  obtain ⟨a3, e3, _, w3⟩ := DataW.trod_int Tryz.underlying3 t3
  obtain ⟨b4, a4, e4, s4, w4⟩ := opens_slice Tryz.underlying134 (of_decide_eq_true (by kernel_rfl)) opens_Ins t4
  simp only [List.cons.injEq, and_true] at e0 e1 e2 e3 e4
  subst e0 e1 e2 e3 e4
  have hc : Tryz.prog.cellsOf 136 = 5 := by kernel_rfl
  have hp4 : Tryz.prog.cellsOf 193 = 5 := by kernel_rfl
  rw [hp4] at s4
  refine ⟨⟨a0, a1, a2, a3, a4⟩, fun cf hcell => ⟨⟨?_, ?_, ?_, ?_⟩, ⟨w0, I64.of_wf w1, I64.of_wf w2, I64.of_wf w3, w4⟩, _, ?_, s4⟩⟩
  · have := hcell 0 (by omega); rwa [c0] at this
  · have := hcell 1 (by omega); rwa [c1] at this
  · have := hcell 2 (by omega); rwa [c2] at this
  · have := hcell 3 (by omega); rwa [c3] at this
  · have := hcell 4 (by omega); rwa [c4] at this
theorem opens_Need : Opens enc Tryz.prog w 130 NeedAt := by
  intro fuel cs y h
  obtain ⟨hl, hf⟩ := open_fields Tryz.underlying130 (hone_of (by kernel_rfl)) (by kernel_rfl) h
  obtain ⟨v0, n0, z0, c0, t0⟩ := hf 0 _ rfl
  obtain ⟨v1, n1, z1, c1, t1⟩ := hf 1 _ rfl
  obtain ⟨a0, e0, _, w0⟩ := DataW.trod_string Tryz.underlying9 t0
  obtain ⟨a1, e1, _, w1⟩ := DataW.trod_int Tryz.underlying3 t1
  simp only [List.cons.injEq, and_true] at e0 e1
  subst e0 e1
  have hc : Tryz.prog.cellsOf 130 = 2 := by kernel_rfl
  refine ⟨⟨a0, a1⟩, fun cf hcell => ⟨⟨?_, ?_⟩, ⟨w0, I64.of_wf w1⟩⟩⟩
  · have := hcell 0 (by omega); rwa [c0] at this
  · have := hcell 1 (by omega); rwa [c1] at this
theorem opens_Global : Opens enc Tryz.prog w 132 GlobalAt := by
  intro fuel cs y h
  obtain ⟨hl, hf⟩ := open_fields Tryz.underlying132 (hone_of (by kernel_rfl)) (by kernel_rfl) h
  obtain ⟨v0, n0, z0, c0, t0⟩ := hf 0 _ rfl
  obtain ⟨v1, n1, z1, c1, t1⟩ := hf 1 _ rfl
  obtain ⟨a0, e0, _, w0⟩ := DataW.trod_string Tryz.underlying9 t0
  obtain ⟨a1, e1, _, w1⟩ := DataW.trod_int Tryz.underlying3 t1
  simp only [List.cons.injEq, and_true] at e0 e1
  subst e0 e1
  have hc : Tryz.prog.cellsOf 132 = 2 := by kernel_rfl
  refine ⟨⟨a0, a1⟩, fun cf hcell => ⟨⟨?_, ?_⟩, ⟨w0, I64.of_wf w1⟩⟩⟩
  · have := hcell 0 (by omega); rwa [c0] at this
  · have := hcell 1 (by omega); rwa [c1] at this
theorem opens_Object : Opens enc Tryz.prog w 43 ObjectAt := by
  intro fuel cs y h
  obtain ⟨hl, hf⟩ := open_fields Tryz.underlying43 (hone_of (by kernel_rfl)) (by kernel_rfl) h
  obtain ⟨v0, n0, z0, c0, t0⟩ := hf 0 _ rfl
  obtain ⟨v1, n1, z1, c1, t1⟩ := hf 1 _ rfl
  obtain ⟨v2, n2, z2, c2, t2⟩ := hf 2 _ rfl
  obtain ⟨v3, n3, z3, c3, t3⟩ := hf 3 _ rfl
  obtain ⟨v4, n4, z4, c4, t4⟩ := hf 4 _ rfl
  obtain ⟨a0, e0, _, w0⟩ := DataW.trod_string Tryz.underlying9 t0
  obtain ⟨a1, e1, _, w1⟩ := DataW.trod_int Tryz.underlying3 t1
  obtain ⟨b2, a2, e2, s2, w2⟩ := opens_slice Tryz.underlying39 (of_decide_eq_true (by kernel_rfl)) opens_Need t2
  obtain ⟨b3, a3, e3, s3, w3⟩ := opens_slice Tryz.underlying40 (of_decide_eq_true (by kernel_rfl)) opens_Global t3
  obtain ⟨b4, a4, e4, s4, w4⟩ := opens_slice Tryz.underlying41 (of_decide_eq_true (by kernel_rfl)) opens_Code t4
  simp only [List.cons.injEq, and_true] at e0 e1 e2 e3 e4
  subst e0 e1 e2 e3 e4
  have hc : Tryz.prog.cellsOf 43 = 5 := by kernel_rfl
  have hp2 : Tryz.prog.cellsOf 130 = 2 := by kernel_rfl
  rw [hp2] at s2
  have hp3 : Tryz.prog.cellsOf 132 = 2 := by kernel_rfl
  rw [hp3] at s3
  have hp4 : Tryz.prog.cellsOf 136 = 5 := by kernel_rfl
  rw [hp4] at s4
  refine ⟨⟨a0, a1, a2, a3, a4⟩, fun cf hcell => ⟨⟨?_, ?_⟩, ⟨w0, I64.of_wf w1, w2, w3, w4⟩, _, _, _, ⟨?_, ?_, ?_⟩, s2, s3, s4⟩⟩
  · have := hcell 0 (by omega); rwa [c0] at this
  · have := hcell 1 (by omega); rwa [c1] at this
  · have := hcell 2 (by omega); rwa [c2] at this
  · have := hcell 3 (by omega); rwa [c3] at this
  · have := hcell 4 (by omega); rwa [c4] at this
end
def InsVal (_ : World) (_ : Md) (v : Value) (x : InsD) : Prop := v = .agg #[.int .i64 (x.op), .int .i64 (x.a), .int .i64 (x.b), .string (x.mod), .string (x.name)] ∧ (I64 x.op ∧ I64 x.a ∧ I64 x.b ∧ x.mod.size ≤ maxLen ∧ x.name.size ≤ maxLen)
theorem InsVal.same {w w' : World} {m : Md} {v : Value} {x : InsD} (h : InsVal w m v x) (_ : Same m.lo m.hi w w') : InsVal w' m v x := h
theorem InsVal.wid {w : World} {m m' : Md} {v : Value} {x : InsD} (h : InsVal w m v x) (_ : m'.lo ≤ m.lo) (_ : m.hi ≤ m'.hi) (_ : m'.made = m.made) : InsVal w m' v x := h
theorem InsVal.on {w w' : World} {m : Md} {v : Value} {x : InsD} (h : InsVal w m v x) (bel : Below m.hi w w') : InsVal w' m v x := h.same (.of_below bel (Nat.le_refl _))
/-- A struct's value that is the data. -/
def CodeVal (w : World) (m : Md) (v : Value) (x : CodeD) : Prop := ∃ u4, v = .agg #[.string (x.name), .int .i64 (x.params), .int .i64 (x.cells), .int .i64 (x.result), u4] ∧ (x.name.size ≤ maxLen ∧ I64 x.params ∧ I64 x.cells ∧ I64 x.result ∧ x.list.length ≤ maxLen) ∧ SlAt InsAt 5 w m u4 x.list
theorem CodeVal.same {w w' : World} {m : Md} {v : Value} {x : CodeD} (h : CodeVal w m v x) (s : Same m.lo m.hi w w') : CodeVal w' m v x := by
  obtain ⟨u4, e, hb, h4⟩ := h
  exact ⟨u4, e, hb, h4.same InsAt.stays s⟩
theorem CodeVal.wid {w : World} {m m' : Md} {v : Value} {x : CodeD} (h : CodeVal w m v x) (a : m'.lo ≤ m.lo) (b : m.hi ≤ m'.hi) (c : m'.made = m.made) : CodeVal w m' v x := by
  obtain ⟨u4, e, hb, h4⟩ := h
  exact ⟨u4, e, hb, h4.wid InsAt.widens a b c⟩
theorem CodeVal.on {w w' : World} {m : Md} {v : Value} {x : CodeD} (h : CodeVal w m v x) (bel : Below m.hi w w') : CodeVal w' m v x := h.same (.of_below bel (Nat.le_refl _))
def NeedVal (_ : World) (_ : Md) (v : Value) (x : NeedD) : Prop := v = .agg #[.string (x.module), .int .i64 (x.print)] ∧ (x.module.size ≤ maxLen ∧ I64 x.print)
theorem NeedVal.same {w w' : World} {m : Md} {v : Value} {x : NeedD} (h : NeedVal w m v x) (_ : Same m.lo m.hi w w') : NeedVal w' m v x := h
theorem NeedVal.wid {w : World} {m m' : Md} {v : Value} {x : NeedD} (h : NeedVal w m v x) (_ : m'.lo ≤ m.lo) (_ : m.hi ≤ m'.hi) (_ : m'.made = m.made) : NeedVal w m' v x := h
theorem NeedVal.on {w w' : World} {m : Md} {v : Value} {x : NeedD} (h : NeedVal w m v x) (bel : Below m.hi w w') : NeedVal w' m v x := h.same (.of_below bel (Nat.le_refl _))
def GlobalVal (_ : World) (_ : Md) (v : Value) (x : GlobalD) : Prop := v = .agg #[.string (x.name), .int .i64 (x.length)] ∧ (x.name.size ≤ maxLen ∧ I64 x.length)
theorem GlobalVal.same {w w' : World} {m : Md} {v : Value} {x : GlobalD} (h : GlobalVal w m v x) (_ : Same m.lo m.hi w w') : GlobalVal w' m v x := h
theorem GlobalVal.wid {w : World} {m m' : Md} {v : Value} {x : GlobalD} (h : GlobalVal w m v x) (_ : m'.lo ≤ m.lo) (_ : m.hi ≤ m'.hi) (_ : m'.made = m.made) : GlobalVal w m' v x := h
theorem GlobalVal.on {w w' : World} {m : Md} {v : Value} {x : GlobalD} (h : GlobalVal w m v x) (bel : Below m.hi w w') : GlobalVal w' m v x := h.same (.of_below bel (Nat.le_refl _))
/-- A struct's value that is the data. -/
def ObjectVal (w : World) (m : Md) (v : Value) (x : ObjectD) : Prop := ∃ u2 u3 u4, v = .agg #[.string (x.module), .int .i64 (x.print), u2, u3, u4] ∧ (x.module.size ≤ maxLen ∧ I64 x.print ∧ x.needs.length ≤ maxLen ∧ x.globals.length ≤ maxLen ∧ x.procs.length ≤ maxLen) ∧ SlAt NeedAt 2 w m u2 x.needs ∧ SlAt GlobalAt 2 w m u3 x.globals ∧ SlAt CodeAt 5 w m u4 x.procs
theorem ObjectVal.same {w w' : World} {m : Md} {v : Value} {x : ObjectD} (h : ObjectVal w m v x) (s : Same m.lo m.hi w w') : ObjectVal w' m v x := by
  obtain ⟨u2, u3, u4, e, hb, h2, h3, h4⟩ := h
  exact ⟨u2, u3, u4, e, hb, h2.same NeedAt.stays s, h3.same GlobalAt.stays s, h4.same CodeAt.stays s⟩
theorem ObjectVal.wid {w : World} {m m' : Md} {v : Value} {x : ObjectD} (h : ObjectVal w m v x) (a : m'.lo ≤ m.lo) (b : m.hi ≤ m'.hi) (c : m'.made = m.made) : ObjectVal w m' v x := by
  obtain ⟨u2, u3, u4, e, hb, h2, h3, h4⟩ := h
  exact ⟨u2, u3, u4, e, hb, h2.wid NeedAt.widens a b c, h3.wid GlobalAt.widens a b c, h4.wid CodeAt.widens a b c⟩
theorem ObjectVal.on {w w' : World} {m : Md} {v : Value} {x : ObjectD} (h : ObjectVal w m v x) (bel : Below m.hi w w') : ObjectVal w' m v x := h.same (.of_below bel (Nat.le_refl _))
end Go.Proofs.YtfbglokjehmgeaaGreatDoor

/- Rows of instructions, of needs, of globals, of codes, in memory of the call's own. No condition. -/
namespace Go.Proofs.YtfbglokjehmgeaaGreatDoor
open Go.ChangeShapes Go.WideShapes Go.ChangeAt Go.RowKit Go.Deep

def insK : FlatK InsD := ⟨139, 84, 5, 56, .agg #[.int .i64 0, .int .i64 0, .int .i64 0, .string ⟨#[]⟩, .string ⟨#[]⟩], fun x => [.int .i64 x.op, .int .i64 x.a, .int .i64 x.b, .string x.mod, .string x.name]⟩
theorem insOk : insK.Ok := ⟨by kernel_rfl, Tryz.underlying84, by decide, rfl, fun _ => rfl, by decide⟩
theorem ins_one (x : InsD) : ∀ u ∈ insK.cs x, u.oneCell' = true := by
  intro u hu
  simp only [insK, List.mem_cons, List.not_mem_nil, or_false] at hu
  rcases hu with rfl | rfl | rfl | rfl | rfl <;> rfl
abbrev CV := CodeD × Value
def codeK : FlatK CV := ⟨86, 24, 5, 64, .agg #[.string ⟨#[]⟩, .int .i64 0, .int .i64 0, .int .i64 0, .slice none 0 0], fun p => [.string p.1.name, .int .i64 p.1.params, .int .i64 p.1.cells, .int .i64 p.1.result, p.2]⟩
theorem codeOk : codeK.Ok := ⟨by kernel_rfl, Tryz.underlying24, by decide, rfl, fun _ => rfl, by decide⟩
theorem code_one (p : CV) (h : p.2.oneCell' = true) : ∀ u ∈ codeK.cs p, u.oneCell' = true := by
  intro u hu
  simp only [codeK, List.mem_cons, List.not_mem_nil, or_false] at hu
  rcases hu with rfl | rfl | rfl | rfl | rfl
  · rfl
  · rfl
  · rfl
  · rfl
  · exact h
def INum (y : InsD) : Prop := I64 y.op ∧ I64 y.a ∧ I64 y.b ∧ y.mod.size ≤ 255 ∧ y.name.size ≤ 255
def CNum (x : CodeD) : Prop := x.name.size ≤ 255 ∧ I64 x.params ∧ I64 x.cells ∧ I64 x.result ∧ x.list.length ≤ 65535 ∧ ∀ y ∈ x.list, INum y
/-- A slice of codes in a row of the call's own, each code's list in a row of its own. -/
def CRow (w : World) (B : Nat) (v : Value) (L : List CV) : Prop := FRow codeK w B v L ∧ (∀ p ∈ L, FRow insK w B p.2 p.1.list ∧ CNum p.1) ∧ L.Pairwise fun a b => ∀ k, a.2.ownBlock = some k → b.2.ownBlock ≠ some k
theorem CRow.nil (w : World) (B : Nat) : CRow w B (.slice none 0 0) [] := ⟨FRow.nil _ _ _, (fun p h => absurd h (by simp)), List.Pairwise.nil⟩
theorem CRow.of_heap {w w' : World} {B : Nat} {v : Value} {L : List CV} (h : CRow w B v L) (hk : ∀ k, B ≤ k → k < w.heap.size → w'.heap[k]? = w.heap[k]?) : CRow w' B v L :=
  ⟨h.1.of_heap fun k a b _ => hk k a b, fun p hp => ⟨(h.2.1 p hp).1.of_heap fun k a b _ => hk k a b, (h.2.1 p hp).2⟩, h.2.2⟩
theorem CRow.on {w w' : World} {B : Nat} {v : Value} {L : List CV} (h : CRow w B v L) (bel : Below w.heap.size w w') : CRow w' B v L := h.of_heap fun k _ hk => bel.block k hk
theorem CRow.le {w : World} {B C : Nat} {v : Value} {L : List CV} (h : CRow w B v L) (hc : C ≤ B) : CRow w C v L := ⟨h.1.le hc, fun p hp => ⟨(h.2.1 p hp).1.le hc, (h.2.1 p hp).2⟩, h.2.2⟩
theorem CRow.push {w wa w2 : World} {B : Nat} {v v' : Value} {L : List CV} {y : CodeD} {u : Value} (h : CRow w B v L) (ha : ∀ k, B ≤ k → k < w.heap.size → wa.heap[k]? = w.heap[k]?) (hu : FRow insK wa w.heap.size u y.list) (hy : CNum y) (hB : B ≤ w.heap.size)
    (hg : wa.grownBy w2 v.ownBlock) (ho : FRow codeK w2 B v' (L ++ [(y, u)])) : CRow w2 B v' (L ++ [(y, u)]) := by
  have hA := h.of_heap ha
  have key : ∀ k, k < wa.heap.size → (∃ C, wa.heap[k]? = some (.cells C 139 (0, 0))) → w2.heap[k]? = wa.heap[k]? := fun k hk ⟨C, hC⟩ => hg.block k hk fun e => by
    obtain ⟨C', hC'⟩ := hA.1.ty e.symm
    rw [hC'] at hC
    have := congrArg (fun o : Option Obj => match o with | some (.cells _ T _) => T | _ => 0) hC
    simp [codeK] at this
  refine ⟨ho, fun p hp => ?_, ?_⟩
  · rcases List.mem_append.1 hp with hp | hp
    · exact ⟨(hA.2.1 p hp).1.of_heap fun k _ hk hc => key k hk hc, (hA.2.1 p hp).2⟩
    · rw [List.mem_singleton] at hp
      subst hp
      exact ⟨(hu.of_heap fun k _ hk hc => key k hk hc).le hB, hy⟩
  · rw [List.pairwise_append]
    refine ⟨h.2.2, List.pairwise_singleton _ _, fun a ha b hb k hk => ?_⟩
    rw [List.mem_singleton] at hb
    subst hb
    intro e
    have h1 := ((h.2.1 a ha).1.lt hk).2
    have h2 := (hu.lt e).1
    omega
end Go.Proofs.YtfbglokjehmgeaaGreatDoor

namespace Go.Proofs.YtfbglokjehmgeaaGreatDoor
open Go.ChangeShapes Go.WideShapes Go.ChangeAt Go.RowKit Go.Deep

/-- How far the marks have counted ahead of code i. -/
def cAt (L : List CV) (K : Int) : Nat → Int
  | 0 => K
  | i + 1 => match L[i]? with
    | some p => cAt L K i + 1 + 1 + 1 + 1 + 5 * (p.1.list.length : Int)
    | none => cAt L K i
theorem cAt_succ {L : List CV} {K : Int} {i : Nat} (h : i < L.length) : cAt L K (i + 1) = cAt L K i + 1 + 1 + 1 + 1 + 5 * (L[i].1.list.length : Int) := by
  rw [cAt, List.getElem?_eq_getElem h]
theorem cAt_bound {L : List CV} {K : Int} (h : ∀ p ∈ L, p.1.list.length ≤ 65535) : ∀ i, i ≤ L.length → K ≤ cAt L K i ∧ cAt L K i ≤ K + 400000 * (i : Int)
  | 0, _ => by simp [cAt]
  | i + 1, hi => by
    have := cAt_bound (K := K) h i (by omega)
    have hp := h _ (List.getElem_mem (show i < L.length by omega))
    rw [cAt_succ (by omega)]
    omega
/-- Code i, there to be marked. -/
def CdA (w : World) (B G i : Nat) (p : CV) : Prop := (∀ j, j < 5 → Al w G (i * 5 + j)) ∧ w.cell? ⟨G, i * 5 + 4, none⟩ = some p.2 ∧ FAl w B p.2 p.1.list.length 5 ∧ ∀ g, p.2.ownBlock = some g → g ≠ G
/-- .. marked. -/
def CdM (w : World) (G i : Nat) (p : CV) (K : Int) : Prop := (w.cell? ⟨G, i * 5, none⟩ = some (.string (mt K)) ∧ w.cell? ⟨G, i * 5 + 1, none⟩ = some (.int .i64 (K + 1)) ∧ w.cell? ⟨G, i * 5 + 2, none⟩ = some (.int .i64 (K + 1 + 1)) ∧ w.cell? ⟨G, i * 5 + 3, none⟩ = some (.int .i64 (K + 1 + 1 + 1))) ∧
  w.cell? ⟨G, i * 5 + 4, none⟩ = some p.2 ∧ FMk w p.2 p.1.list.length 5 insMs (K + 1 + 1 + 1 + 1) ∧ ∀ g, p.2.ownBlock = some g → g ≠ G
theorem CdA.set {w : World} {B G i : Nat} {p : CV} (h : CdA w B G i p) {o : Nat} (ho : o ≠ i * 5 + 4) (v : Value) : CdA (w.setCell ⟨G, o, none⟩ v) B G i p :=
  ⟨fun j hj => (h.1 j hj).set _ _, set_off h.2.1 ho v, h.2.2.1.on ((Tch.refl (fun k => k = G) w).set rfl o v), h.2.2.2⟩
theorem CdA.tch {S : Nat → Prop} {w w' : World} {B G i : Nat} {p : CV} (h : CdA w B G i p) (t : Tch S w w') (hG : ¬ S G) : CdA w' B G i p :=
  ⟨fun j hj => t.al _ _ (h.1 j hj), t.cell hG h.2.1, h.2.2.1.on t, h.2.2.2⟩
theorem CdM.set {w : World} {G i : Nat} {p : CV} {K : Int} (h : CdM w G i p K) {o : Nat} (ho : i * 5 + 5 ≤ o) (v : Value) : CdM (w.setCell ⟨G, o, none⟩ v) G i p K := by
  obtain ⟨⟨h0, h1, h2, h3⟩, h5, h6, h7⟩ := h
  exact ⟨⟨set_off h0 (by omega) v, set_off h1 (by omega) v, set_off h2 (by omega) v, set_off h3 (by omega) v⟩, set_off h5 (by omega) v, h6.on ((Tch.refl (fun k => k = G) w).set rfl o v) fun g hg e => h7 g hg e, h7⟩
theorem CdM.tch {S : Nat → Prop} {w w' : World} {G i : Nat} {p : CV} {K : Int} (h : CdM w G i p K) (t : Tch S w w') (hG : ¬ S G) (hs : ∀ g, p.2.ownBlock = some g → ¬ S g) : CdM w' G i p K := by
  obtain ⟨⟨h0, h1, h2, h3⟩, h5, h6, h7⟩ := h
  exact ⟨⟨t.cell hG h0, t.cell hG h1, t.cell hG h2, t.cell hG h3⟩, t.cell hG h5, h6.on t hs, h7⟩
/-- The blocks that a row of codes lies in. -/
def CS (v : Value) (L : List CV) (k : Nat) : Prop := v.ownBlock = some k ∨ ∃ p ∈ L, p.2.ownBlock = some k
def CAl (w : World) (B : Nat) (v : Value) (L : List CV) : Prop := ∃ a c, v = .slice a L.length c ∧ ∀ i (hi : i < L.length), ∃ G, a = some ⟨G, 0, none⟩ ∧ CdA w B G i L[i]
theorem CAl.tch {S : Nat → Prop} {w w' : World} {B : Nat} {v : Value} {L : List CV} (h : CAl w B v L) (t : Tch S w w') (hs : ∀ k, v.ownBlock = some k → ¬ S k) : CAl w' B v L := by
  obtain ⟨a, c, rfl, h⟩ := h
  refine ⟨a, c, rfl, fun i hi => ?_⟩
  obtain ⟨G, rfl, h1⟩ := h i hi
  exact ⟨G, rfl, h1.tch t (hs G rfl)⟩
def MkC (w : World) (v : Value) (L : List CV) (K : Int) : Prop := ∃ a c, v = .slice a L.length c ∧ ∀ i (hi : i < L.length), ∃ G, a = some ⟨G, 0, none⟩ ∧ CdM w G i L[i] (cAt L K i)
theorem MkC.tch {S : Nat → Prop} {w w' : World} {v : Value} {L : List CV} {K : Int} (h : MkC w v L K) (t : Tch S w w') (hs : ∀ k, CS v L k → ¬ S k) : MkC w' v L K := by
  obtain ⟨a, c, rfl, h⟩ := h
  refine ⟨a, c, rfl, fun i hi => ?_⟩
  obtain ⟨G, rfl, h1⟩ := h i hi
  exact ⟨G, rfl, h1.tch t (hs G (.inl rfl)) fun g hg => hs g (.inr ⟨_, List.getElem_mem hi, hg⟩)⟩
theorem MkC.on {w w' : World} {v : Value} {L : List CV} {K : Int} (h : MkC w v L K) (bel : Below w.heap.size w w') : MkC w' v L K := h.tch (S := fun _ => False) (Tch.of_below bel) fun _ _ e => e
theorem capart {L : List CV} (h : L.Pairwise fun a b => ∀ k, a.2.ownBlock = some k → b.2.ownBlock ≠ some k) {i j : Nat} (hij : i < j) (hj : j < L.length) {g : Nat} (hi : (L[i]'(by omega)).2.ownBlock = some g) : L[j].2.ownBlock ≠ some g :=
  (List.pairwise_iff_getElem.1 h) i j (by omega) hj hij g hi
set_option maxHeartbeats 8000000 in
theorem markCodeS_mk (v : Value) (B : Nat) (L : List CV) (K0 : Int) (w : World) (hl : L.length ≤ 2000) (hpl : ∀ p ∈ L, p.1.list.length ≤ 65535) (k0 : 0 ≤ K0) (k1 : K0 ≤ 1000000) (h : CAl w B v L) (hap : L.Pairwise fun a b => ∀ k, a.2.ownBlock = some k → b.2.ownBlock ≠ some k) :
    Calls Tryz.prog 33 #[v, .int .i64 K0] w fun e w' => e = .returned (.int .i64 (cAt L K0 L.length)) ∧ MkC w' v L K0 ∧ Tch (CS v L) w w' := by
  have HAp := hide hap
  have HP := hide hpl
  obtain ⟨a, c, rfl, hA⟩ := h
  have HA := hide hA
  clear hA hap hpl
  obtain ⟨n, hn⟩ : ∃ n, L.length = n := ⟨_, rfl⟩
  have HN := hide hn
  rw [hn] at hl ⊢
  clear hn
  go_enter Tryz.func33, Tryz.ntmps33
  go_wp2
  go_loopw [1, 5] (fun q i wr => ∃ k : Nat, i = .int .i64 k ∧ q = .int .i64 (cAt L K0 k) ∧ k ≤ n ∧ Hid (∀ i (hi : i < L.length), i < k → ∃ G, a = some ⟨G, 0, none⟩ ∧ CdM wr G i L[i] (cAt L K0 i)) ∧ Hid (∀ i (hi : i < L.length), ∃ G, a = some ⟨G, 0, none⟩ ∧ CdA wr B G i L[i]) ∧ Tch (CS (.slice a n c) L) w wr) (fun _ i _ => n - (intOf i).toNat)
  case atStart => exact ⟨0, rfl, rfl, by omega, hide (fun i _ hi => absurd hi (by omega)), HA, Tch.refl _ _⟩
  case round =>
    obtain ⟨k, rfl, rfl, hk, HM, HA', hbw⟩ := hrel
    by_cases hp : k < n
    · have i1 : (k : Int) < n := by omega
      have hkl : k < L.length := by rw [HN.out]; exact hp
      obtain ⟨G, rfl, hit⟩ := HA'.out k hkl
      have hb := cAt_bound (K := K0) HP.out k (by omega)
      have hpl := HP.out _ (List.getElem_mem hkl)
      obtain ⟨J, hJ⟩ : ∃ J, cAt L K0 k = J := ⟨_, rfl⟩
      have HK := hide hJ
      have hKs := cAt_succ (K := K0) hkl
      have hap : ∀ i (hi : i < L.length), i < k → ∀ g, L[i].2.ownBlock = some g → L[k].2.ownBlock ≠ some g := fun i hi hik g hg => capart HAp.out hik hkl hg
      obtain ⟨⟨it, uu⟩, hLk⟩ : ∃ p, L[k] = p := ⟨_, rfl⟩
      have HLk := hide hLk
      rw [hJ] at hb hKs ⊢
      rw [hLk] at hKs hpl hit hap
      obtain ⟨hal, h4, ⟨a2, c2, e2, -⟩, hob⟩ := id hit
      simp only [] at e2 hpl hKs hap hob
      subst e2
      obtain ⟨q, hq⟩ : ∃ q, it.list.length = q := ⟨_, rfl⟩
      have HQ := hide hq
      rw [hq] at hpl hKs
      have HIT := hide hit
      have HKS := hide hKs
      have HOB := hide hob
      have HAPk := hide hap
      have HB := hide hb
      have hJ0 : 0 ≤ J ∧ J ≤ 1000000000 := by omega
      have HW := hide hbw
      clear hal h4 hit hKs hJ hLk hap hob hq hb hbw
      go_wp2_with fail
      refine (markText_any _ _ (by omega)).mono ?_
      rintro e w5 ⟨rfl, b5⟩
      have t5 := Tch.of_below (S := fun _ => False) b5
      have HT5 := hide t5
      have hit5 := HIT.out.tch t5 (fun e => e)
      obtain ⟨⟨y0, c0⟩, f0⟩ := hit5.1 0 (by omega)
      obtain ⟨⟨y1, c1⟩, f1⟩ := hit5.1 1 (by omega)
      obtain ⟨⟨y2, c2'⟩, f2⟩ := hit5.1 2 (by omega)
      obtain ⟨⟨y3, c3⟩, f3⟩ := hit5.1 3 (by omega)
      simp only [Nat.add_zero] at c0 f0
      have c4 : w5.cell? ⟨G, k * 5 + 4, none⟩ = some (.slice a2 q c2) := by rw [← HQ.out]; exact hit5.2.1
      have HC4 := hide c4
      have HIT5 := hide hit5
      clear hit5 t5 b5
      go_wp2_with fail
      have t9 : Tch (fun b => b = G) w5 ((((w5.setCell ⟨G, k * 5, none⟩ (.string (mt J))).setCell ⟨G, k * 5 + 1, none⟩ (.int .i64 (J + 1))).setCell ⟨G, k * 5 + 2, none⟩ (.int .i64 (J + 1 + 1))).setCell ⟨G, k * 5 + 3, none⟩ (.int .i64 (J + 1 + 1 + 1))) := ((((Tch.refl (fun b => b = G) w5).set rfl (k * 5) (.string (mt J))).set rfl (k * 5 + 1) (.int .i64 (J + 1))).set rfl (k * 5 + 2) (.int .i64 (J + 1 + 1))).set rfl (k * 5 + 3) (.int .i64 (J + 1 + 1 + 1))
      have HPA := hide (HIT5.out.2.2.1.on t9)
      have hpk := markInsS_mk B _ q (J + 1 + 1 + 1 + 1) _ (by omega) (by omega) (by omega) (by have := HPA.out; rw [HQ.out] at this; exact this)
      refine hpk.mono ?_
      rintro e w7 ⟨rfl, hpm, t7⟩
      have hGS : ¬ ((Value.slice a2 q c2).ownBlock = some G) := fun e => (HOB.out G (by rw [HQ.out]; exact e)) rfl
      have HM7 : Hid (∀ i (hi : i < L.length), i < k + 1 → ∃ G', some (⟨G, 0, none⟩ : Addr) = some ⟨G', 0, none⟩ ∧ CdM w7 G' i L[i] (cAt L K0 i)) := by
        refine hide fun i hi hik => ⟨G, rfl, ?_⟩
        by_cases hlt : i < k
        · obtain ⟨G', e, h⟩ := HM.out i hi hlt
          cases e
          exact (((((h.tch HT5.out (fun e => e) fun _ _ e => e).set (o := k * 5) (by omega) (.string (mt J))).set (o := k * 5 + 1) (by omega) (.int .i64 (J + 1))).set (o := k * 5 + 2) (by omega) (.int .i64 (J + 1 + 1))).set (o := k * 5 + 3) (by omega) (.int .i64 (J + 1 + 1 + 1))).tch t7 hGS (fun g hg e => HAPk.out i hi hlt g hg (by rw [HQ.out]; exact e))
        · obtain rfl : i = k := by omega
          rw [HLk.out, HK.out]
          refine ⟨⟨t7.cell hGS ?_, t7.cell hGS ?_, t7.cell hGS ?_, t7.cell hGS ?_⟩, t7.cell hGS ?_, ?_, fun g hg => HOB.out g hg⟩
          · exact set_off (set_off (set_off (set_at (HIT5.out.1 0 (by omega)) _) (by omega) _) (by omega) _) (by omega) _
          · exact set_off (set_off (set_at ((HIT5.out.1 1 (by omega)).set _ _) _) (by omega) _) (by omega) _
          · exact set_off (set_at (((HIT5.out.1 2 (by omega)).set _ _).set _ _) _) (by omega) _
          · exact set_at ((((HIT5.out.1 3 (by omega)).set _ _).set _ _).set _ _) _
          · exact set_off (set_off (set_off (set_off HIT5.out.2.1 (by omega) _) (by omega) _) (by omega) _) (by omega) _
          · rw [← HQ.out] at hpm
            exact hpm
      have HA7 : Hid (∀ i (hi : i < L.length), ∃ G', some (⟨G, 0, none⟩ : Addr) = some ⟨G', 0, none⟩ ∧ CdA w7 B G' i L[i]) := by
        refine hide fun i hi => ⟨G, rfl, ?_⟩
        obtain ⟨G', e, h⟩ := HA'.out i hi
        cases e
        exact (((((h.tch HT5.out (fun e => e)).set (o := k * 5) (by omega) (.string (mt J))).set (o := k * 5 + 1) (by omega) (.int .i64 (J + 1))).set (o := k * 5 + 2) (by omega) (.int .i64 (J + 1 + 1))).set (o := k * 5 + 3) (by omega) (.int .i64 (J + 1 + 1 + 1))).tch t7 hGS
      have hb7 : Tch (CS (.slice (some ⟨G, 0, none⟩) n c) L) w w7 :=
        HW.out.trans ((HT5.out.wid (fun _ e => e.elim)).trans ((t9.wid (fun j e => .inl (by subst e; rfl))).trans (t7.wid (fun j e => .inr ⟨_, List.getElem_mem hkl, by rw [HLk.out]; show (Value.slice a2 it.list.length c2).ownBlock = some j; rw [HQ.out]; exact e⟩))))
      clear c0 c1 c2' c3 c4 f0 f1 f2 f3 y0 y1 y2 y3 hpm t7 t9
      go_wp2
      go_roundw
      case rel => exact ⟨k + 1, by go_num, by rw [HKS.out], by omega, HM7, HA7, hb7⟩
      case measure => simp [intOf]; omega
    · have i1 : ¬ (k : Int) < n := by omega
      obtain rfl : k = n := by omega
      go_wp2
      go_ret
      exact ⟨rfl, ⟨a, c, by rw [HN.out], fun i hi => HM.out i hi (by rw [← HN.out]; exact hi)⟩, hbw⟩
set_option maxHeartbeats 8000000 in
theorem heldCodeS_mk (v : Value) (L : List CV) (K0 : Int) (w : World) (hl : L.length ≤ 2000) (hpl : ∀ p ∈ L, p.1.list.length ≤ 65535) (k0 : 0 ≤ K0) (k1 : K0 ≤ 1000000) (h : MkC w v L K0) :
    Calls Tryz.prog 36 #[v, .int .i64 K0] w fun e w' => e = .returned (.int .i64 (cAt L K0 L.length)) ∧ Below w.heap.size w w' := by
  have HP := hide hpl
  have HM := hide h
  obtain ⟨a, c, rfl, -⟩ := h
  clear hpl
  obtain ⟨n, hn⟩ : ∃ n, L.length = n := ⟨_, rfl⟩
  have HN := hide hn
  rw [hn] at hl ⊢
  rw [hn] at HM
  clear hn
  go_enter Tryz.func36, Tryz.ntmps36
  go_wp2
  go_loopw [1, 5] (fun q i wr => ∃ k : Nat, i = .int .i64 k ∧ q = .int .i64 (cAt L K0 k) ∧ k ≤ n ∧ Below w.heap.size w wr) (fun _ i _ => n - (intOf i).toNat)
  case atStart => exact ⟨0, rfl, rfl, by omega, Below.refl _ _⟩
  case round =>
    obtain ⟨k, rfl, rfl, hk, hbw⟩ := hrel
    by_cases hp : k < n
    · have i1 : (k : Int) < n := by omega
      have hkl : k < L.length := by rw [HN.out]; exact hp
      obtain ⟨a', c', e, hM⟩ := HM.out.on hbw
      cases e
      obtain ⟨G, rfl, hit⟩ := hM k hkl
      have hb := cAt_bound (K := K0) HP.out k (by omega)
      have hpl := HP.out _ (List.getElem_mem hkl)
      have hKs := cAt_succ (K := K0) hkl
      obtain ⟨J, hJ⟩ : ∃ J, cAt L K0 k = J := ⟨_, rfl⟩
      rw [hJ] at hb hKs hit ⊢
      obtain ⟨⟨it, uu⟩, hLk⟩ : ∃ p, L[k] = p := ⟨_, rfl⟩
      rw [hLk] at hKs hpl hit
      obtain ⟨q, hq⟩ : ∃ q, it.list.length = q := ⟨_, rfl⟩
      simp only [] at hKs hpl
      rw [hq] at hKs hpl
      obtain ⟨⟨c0, c1, c2, c3⟩, c4, hpm, -⟩ := hit
      simp only [] at c4 hpm
      rw [hq] at hpm
      have HPM := hide hpm
      obtain ⟨a2, c2'', rfl, -⟩ := hpm
      have HKS := hide hKs
      have hJ0 : 0 ≤ J ∧ J ≤ 1000000000 := by omega
      have HMT : Hid (∀ w', Calls Tryz.prog 30 #[.int .i64 J] w' fun e w2 => e = .returned (.string (mt J)) ∧ Below w'.heap.size w' w2) := hide fun w' => markText_any _ w' (by omega)
      have hKp : ¬ (J + 1 + 1 + 1 + 1 + 5 * (q : Int)) < 0 := by omega
      have hK0 : q ≤ 1000000 ∧ 0 ≤ J + 1 + 1 + 1 + 1 ∧ J + 1 + 1 + 1 + 1 ≤ 1000000000000000 := by omega
      have HK0 := hide hK0
      generalize hmt : mt J = s at *
      clear hKs hJ hLk hq hM hmt hK0 hb
      go_wp2_with fail
      go_region_with (go_at_call 30; refine (HMT.out _).mono ?_; rintro e w5 ⟨rfl, b5⟩; have d0 := ((Below.trans (Below.refl _ _).drew b5).cell (p := ⟨G, k * 5, none⟩) (block_lt c0)).trans c0; have d1 := ((Below.trans (Below.refl _ _).drew b5).cell (p := ⟨G, k * 5 + 1, none⟩) (block_lt c1)).trans c1; have d2 := ((Below.trans (Below.refl _ _).drew b5).cell (p := ⟨G, k * 5 + 2, none⟩) (block_lt c2)).trans c2; have d3 := ((Below.trans (Below.refl _ _).drew b5).cell (p := ⟨G, k * 5 + 3, none⟩) (block_lt c3)).trans c3; have d4 := ((Below.trans (Below.refl _ _).drew b5).cell (p := ⟨G, k * 5 + 4, none⟩) (block_lt c4)).trans c4; have HPM5 := hide (HPM.out.on (S := fun _ => False) (Tch.of_below (Below.trans (Below.refl _ _).drew b5)) (fun _ _ e => e)))
      all_goals
        have hb5 := hbw.trans ((Below.trans (Below.refl _ _).drew b5).mono hbw.size)
        clear b5 c0 c1 c2 c3 c4
        go_wp2_with fail
        refine (heldInsS_mk _ q _ _ HK0.out.1 HK0.out.2.1 HK0.out.2.2 HPM5.out).mono ?_
        rintro e w7 ⟨rfl, b7⟩
        have hb7 := hb5.trans (b7.mono hb5.size)
        clear b7 d0 d1 d2 d3 d4
        go_wp2
        go_roundw
        case rel => exact ⟨k + 1, by go_num, by rw [HKS.out], by omega, hb7⟩
        case measure => simp [intOf]; omega
    · have i1 : ¬ (k : Int) < n := by omega
      obtain rfl : k = n := by omega
      go_wp2
      go_ret
      exact ⟨rfl, hbw⟩
end Go.Proofs.YtfbglokjehmgeaaGreatDoor
