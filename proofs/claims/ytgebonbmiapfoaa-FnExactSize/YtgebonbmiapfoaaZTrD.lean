/- Trees of nodes as plain data, and how they lie in memory, by their height; how the row's own reading of an argument gives it. No condition. -/
import Derived.Test.YtgebonbmiapfoaaZRd
namespace Go.Proofs.Ytgebonbmiapfoaa
open Go.ChangeShapes Go.WideShapes Go.ChangeAt Go.RowKit Go.Deep

def J64 (n : Int) : Prop := -9223372036854775808 ≤ n ∧ n ≤ 9223372036854775807
theorem J64.of_wf {n : Int} (h : (Lit.int .i64 n).wf = true) : J64 n := by
  simp only [Lit.wf, Bool.and_eq_true, decide_eq_true_eq] at h
  exact h
inductive NodeD where
  | mk (kind n : Int) (name of : ByteArray) (kids : List NodeD)
def NodeD.kind : NodeD → Int
  | .mk k _ _ _ _ => k
def NodeD.n : NodeD → Int
  | .mk _ n _ _ _ => n
def NodeD.name : NodeD → ByteArray
  | .mk _ _ s _ _ => s
def NodeD.of : NodeD → ByteArray
  | .mk _ _ _ s _ => s
def NodeD.kids : NodeD → List NodeD
  | .mk _ _ _ _ l => l
/-- How many nodes a list of trees has .. -/
noncomputable def kidsSz (l : List NodeD) : Nat := NodeD.rec_1 (motive_1 := fun _ => Nat) (motive_2 := fun _ => Nat) (fun _ _ _ _ _ ih => ih + 1) 0 (fun _ _ a b => a + b) l
/-- .. and a tree. -/
noncomputable def nodeSz (x : NodeD) : Nat := NodeD.rec (motive_1 := fun _ => Nat) (motive_2 := fun _ => Nat) (fun _ _ _ _ _ ih => ih + 1) 0 (fun _ _ a b => a + b) x
theorem nodeSz_eq (x : NodeD) : nodeSz x = kidsSz x.kids + 1 := by
  cases x
  rfl
theorem kidsSz_nil : kidsSz [] = 0 := rfl
theorem kidsSz_cons (x : NodeD) (r : List NodeD) : kidsSz (x :: r) = nodeSz x + kidsSz r := rfl
theorem kidsSz_app : ∀ a b : List NodeD, kidsSz (a ++ b) = kidsSz a + kidsSz b
  | [], b => by rw [List.nil_append, kidsSz_nil]; omega
  | x :: r, b => by rw [List.cons_append, kidsSz_cons, kidsSz_cons, kidsSz_app r b]; omega
theorem kidsSz_len : ∀ l : List NodeD, l.length ≤ kidsSz l
  | [] => Nat.zero_le _
  | x :: r => by
    have := kidsSz_len r
    rw [kidsSz_cons, nodeSz_eq, List.length_cons]
    omega
theorem kidsSz_mem {x : NodeD} : ∀ {l : List NodeD}, x ∈ l → nodeSz x ≤ kidsSz l
  | [], h => by cases h
  | y :: r, h => by
    rw [kidsSz_cons]
    rcases List.mem_cons.1 h with rfl | h
    · omega
    · have := kidsSz_mem h
      omega
theorem kidsSz_take (l : List NodeD) {k : Nat} (h : k < l.length) : kidsSz (l.take (k + 1)) = kidsSz (l.take k) + nodeSz l[k] := by
  rw [List.take_succ_eq_append_getElem h, kidsSz_app, kidsSz_cons, kidsSz_nil]
  omega
theorem SlAt.imp {α : Type} {E E' : Elem α} {sz : Nat} {w : World} {m : Md} {v : Value} {l : List α} (h : SlAt E sz w m v l) (hE : ∀ cf m x, E cf w m x → E' cf w m x) : SlAt E' sz w m v l := by
  obtain ⟨a, c, e, hr⟩ := h
  refine ⟨a, c, e, fun i hi => ?_⟩
  obtain ⟨b, o, e, g1, g2, g3, g4⟩ := hr i hi
  exact ⟨b, o, e, g1, g2, g3, hE _ _ _ g4⟩
def NodeBd (x : NodeD) : Prop := J64 x.kind ∧ J64 x.n ∧ x.name.size ≤ maxLen ∧ x.of.size ≤ maxLen ∧ x.kids.length ≤ maxLen
/-- A node in five cells, its tree no higher than the number. -/
def NodeAt : Nat → Elem NodeD
  | 0 => fun _ _ _ _ => False
  | h + 1 => fun cf w m x => (cf 0 = some (.int .i64 x.kind) ∧ cf 1 = some (.int .i64 x.n) ∧ cf 2 = some (.string x.name) ∧ cf 3 = some (.string x.of)) ∧ NodeBd x ∧ ∃ u4, cf 4 = some u4 ∧ SlAt (NodeAt h) 5 w m u4 x.kids
theorem NodeAt.stays : ∀ h, Stays (NodeAt h)
  | 0 => fun _ _ _ _ _ e _ => e.elim
  | h + 1 => fun _ _ _ _ _ ⟨h1, hr, u4, hc, h4⟩ s => ⟨h1, hr, u4, hc, h4.same (NodeAt.stays h) s⟩
theorem NodeAt.widens : ∀ h, Widens (NodeAt h)
  | 0 => fun _ _ _ _ _ e _ _ _ => e.elim
  | h + 1 => fun _ _ _ _ _ ⟨h1, hr, u4, hc, h4⟩ a b c => ⟨h1, hr, u4, hc, h4.wid (NodeAt.widens h) a b c⟩
theorem NodeAt.loc : ∀ h, Loc (NodeAt h) 5
  | 0 => fun _ _ _ _ _ _ e => e.elim
  | _ + 1 => fun _ _ _ _ _ e ⟨⟨c0, c1, c2, c3⟩, hr, u4, k4, hs⟩ => ⟨⟨(e 0 (by omega)).trans c0, (e 1 (by omega)).trans c1, (e 2 (by omega)).trans c2, (e 3 (by omega)).trans c3⟩, hr, u4, (e 4 (by omega)).trans k4, hs⟩
theorem NodeAt.up : ∀ h {cf : Nat → Option Value} {w : World} {m : Md} {x : NodeD}, NodeAt h cf w m x → NodeAt (h + 1) cf w m x
  | 0, _, _, _, _, e => e.elim
  | h + 1, _, _, _, _, ⟨h1, hr, u4, hc, h4⟩ => ⟨h1, hr, u4, hc, h4.imp fun _ _ _ e => NodeAt.up h e⟩
section
variable {H : Type} {enc : TypeId × Value → H} {w : World}
/-- What the row's reading of an element gives, with the fuel said. -/
def OpensN {α : Type} (enc : TypeId × Value → H) (P : Program) (w : World) (n : Nat) (e : TypeId) (E : Elem α) : Prop :=
  ∀ cs y, DataW.trod enc P w 0 (fun _ => true) true n e cs = some y → ∃ x : α, ∀ cf : Nat → Option Value, (∀ j, j < P.cellsOf e → cf j = cs[j]?) → E cf w ⟨0, w.heap.size, false⟩ x
theorem opens_kids {P : Program} {n : Nat} {t e : TypeId} {v : Value} {y : DataW H × List MemPlace} (ht : P.underlying t = some (.slice e)) (hpos : P.cellsOf e = 5) (ih : ∀ k, k < n → OpensN enc P w k e (NodeAt k))
    (h : DataW.trod enc P w 0 (fun _ => true) true n t [v] = some y) : ∃ l : List NodeD, SlAt (NodeAt n) 5 w ⟨0, w.heap.size, false⟩ v l ∧ l.length ≤ maxLen := by
  rcases DataW.trod_slice ht h with ⟨hv, _⟩ | ⟨a, len, cap, elems, rest, k, rfl, hv, _, _, hl, hm, hlen, hx, _⟩
  · simp only [List.cons.injEq, and_true] at hv
    subst hv
    exact ⟨[], SlAt.nil, Nat.zero_le _⟩
  · simp only [List.cons.injEq, and_true] at hv
    subst hv
    by_cases z : len = 0
    · subst z
      exact ⟨[], SlAt.nil, Nat.zero_le _⟩
    have hx' : ∀ i, i < len → ∃ cs' y', w.cells? 0 (a.add (i * P.cellsOf e)) (P.cellsOf e) = some cs' ∧ DataW.trod enc P w 0 (fun _ => true) true k e cs' = some y' := fun i hi => by
      have := hx i hi
      rw [List.getElem?_eq_getElem (by omega)] at this
      obtain ⟨cs', h1, h2⟩ := Option.bind_eq_some_iff.1 this
      exact ⟨cs', _, h1, h2⟩
    obtain ⟨b, o, spot⟩ := a
    have hspot : spot = none := by
      obtain ⟨cs', _, h1, _⟩ := hx' 0 (by omega)
      obtain ⟨_, hlen, hcell⟩ := World.cells?_some h1
      have h0 := hcell 0 (by omega)
      rw [List.getElem?_eq_getElem (by omega)] at h0
      simpa [Addr.add] using World.cell?_spot h0
    subst hspot
    have each : ∀ i, i < len → ∃ x : NodeD, b < w.heap.size ∧ NodeAt k (fun j => w.cell? ⟨b, o + i * 5 + j, none⟩) w ⟨0, w.heap.size, false⟩ x := fun i hi => by
      obtain ⟨cs', _, h1, h2⟩ := hx' i hi
      obtain ⟨_, hlen, hcell⟩ := World.cells?_some h1
      obtain ⟨x, hxx⟩ := ih k (by omega) _ _ h2
      have h0 := hcell 0 (by omega)
      rw [List.getElem?_eq_getElem (by omega)] at h0
      rw [add_plain, add_plain] at h0
      have hb := block_lt h0
      refine ⟨x, hb, hxx _ (fun j hj => ?_)⟩
      have := hcell j hj
      rwa [add_plain, add_plain, hpos] at this
    obtain ⟨x0, _⟩ := each 0 (by omega)
    have inh : Inhabited NodeD := ⟨x0⟩
    obtain ⟨f, hf⟩ := choose_lt each
    refine ⟨(List.range len).map f, ⟨some ⟨b, o, none⟩, cap, by simp, fun i hi => ?_⟩, by simp; omega⟩
    have hi' : i < len := by simpa using hi
    obtain ⟨hb, he⟩ := hf i hi'
    exact ⟨b, o, rfl, ⟨Nat.zero_le _, by simp; omega⟩, hb, (fun h => by cases h), by simpa [Md.inner] using NodeAt.up k he⟩
theorem open_fieldsN {P : Program} {t : TypeId} {fs : Array Field} {fuel : Nat} {cs : List Value} {y : DataW H × List MemPlace} (hs : P.underlying t = some (.struct fs))
    (hone : ∀ (i : Nat) (f : Field), fs[i]? = some f → f.offset = i ∧ P.cellsOf f.type = 1) (hC : P.cellsOf t = fs.size) (h : DataW.trod enc P w 0 (fun _ => true) true fuel t cs = some y) :
    ∃ n, fuel = n + 1 ∧ cs.length = fs.size ∧ ∀ (i : Nat) (f : Field), fs[i]? = some f → ∃ v z, cs[i]? = some v ∧ DataW.trod enc P w 0 (fun _ => true) true n f.type [v] = some z := by
  obtain ⟨xs, n, hn, _, hl, hxl, hf⟩ := DataW.trod_struct hs h
  refine ⟨n, hn, by omega, fun i f hi => ?_⟩
  have hlt : i < fs.size := (Array.getElem?_eq_some_iff.1 hi).1
  obtain ⟨ho, hc1⟩ := hone i f hi
  have g := hf i f hi
  rw [ho, hc1, take1_drop cs i undef (by omega), List.getElem?_eq_getElem (by omega)] at g
  refine ⟨cs.getD i undef, _, ?_, g⟩
  simp [List.getD, List.getElem?_eq_getElem (show i < cs.length by omega)]
theorem opens_Node : ∀ fuel, OpensN enc Try.prog w fuel 24 (NodeAt fuel) := by
  intro fuel
  induction fuel using Nat.strongRecOn with
  | _ fuel ih =>
    intro cs y h
    obtain ⟨n, rfl, hl, hf⟩ := open_fieldsN Try.underlying24 (hone_of (by kernel_rfl)) (by kernel_rfl) h
    obtain ⟨v0, z0, c0, t0⟩ := hf 0 _ rfl
    obtain ⟨v1, z1, c1, t1⟩ := hf 1 _ rfl
    obtain ⟨v2, z2, c2, t2⟩ := hf 2 _ rfl
    obtain ⟨v3, z3, c3, t3⟩ := hf 3 _ rfl
    obtain ⟨v4, z4, c4, t4⟩ := hf 4 _ rfl
    obtain ⟨a0, e0, _, w0⟩ := DataW.trod_int Try.underlying3 t0
    obtain ⟨a1, e1, _, w1⟩ := DataW.trod_int Try.underlying3 t1
    obtain ⟨a2, e2, _, w2⟩ := DataW.trod_string Try.underlying9 t2
    obtain ⟨a3, e3, _, w3⟩ := DataW.trod_string Try.underlying9 t3
    obtain ⟨a4, s4, w4⟩ := opens_kids Try.underlying22 (by kernel_rfl) (fun k hk => ih k (by omega)) t4
    simp only [List.cons.injEq, and_true] at e0 e1 e2 e3
    subst e0 e1 e2 e3
    have hc : Try.prog.cellsOf 24 = 5 := by kernel_rfl
    refine ⟨.mk a0 a1 a2 a3 a4, fun cf hcell => ⟨⟨?_, ?_, ?_, ?_⟩, ⟨J64.of_wf w0, J64.of_wf w1, w2, w3, w4⟩, v4, ?_, s4⟩⟩
    · have := hcell 0 (by omega); rwa [c0] at this
    · have := hcell 1 (by omega); rwa [c1] at this
    · have := hcell 2 (by omega); rwa [c2] at this
    · have := hcell 3 (by omega); rwa [c3] at this
    · have := hcell 4 (by omega); rwa [c4] at this
end
/-- A node's value that is the tree. -/
def NodeVal (h : Nat) (w : World) (m : Md) (v : Value) (x : NodeD) : Prop := ∃ u4, v = .agg #[.int .i64 x.kind, .int .i64 x.n, .string x.name, .string x.of, u4] ∧ NodeBd x ∧ SlAt (NodeAt h) 5 w m u4 x.kids
theorem NodeVal.same {h : Nat} {w w' : World} {m : Md} {v : Value} {x : NodeD} (k : NodeVal h w m v x) (s : Same m.lo m.hi w w') : NodeVal h w' m v x := by
  obtain ⟨u4, e, hb, h4⟩ := k
  exact ⟨u4, e, hb, h4.same (NodeAt.stays h) s⟩
theorem NodeVal.wid {h : Nat} {w : World} {m m' : Md} {v : Value} {x : NodeD} (k : NodeVal h w m v x) (a : m'.lo ≤ m.lo) (b : m.hi ≤ m'.hi) (c : m'.made = m.made) : NodeVal h w m' v x := by
  obtain ⟨u4, e, hb, h4⟩ := k
  exact ⟨u4, e, hb, h4.wid (NodeAt.widens h) a b c⟩
theorem NodeVal.on {h : Nat} {w w' : World} {m : Md} {v : Value} {x : NodeD} (k : NodeVal h w m v x) (bel : Below m.hi w w') : NodeVal h w' m v x := k.same (.of_below bel (Nat.le_refl _))
end Go.Proofs.Ytgebonbmiapfoaa
