/- How a slice of whatever elements lies in memory, said of a list of plain data: one word for arguments, copies and answers; and how the row's own reading of an argument gives it. Of whatever program. No condition. -/
import Derived.Test.YtpfceikohoncgaaDoorZBase
import Derived.Deep.Slices
import Derived.Deep.OwnRows
import Derived.Deep.Fields
namespace Go.Proofs.YtpfceikohoncgaaDoor
open Go.ChangeShapes Go.WideShapes Go.ChangeAt Go.RowKit Go.Deep

theorem hide {p : Prop} (h : p) : Hid p := h
/-- Where a reading may lie: in blocks from 'lo' on, below 'hi'; 'made': of a copy that a law makes: not frozen, and what an element leads to lies behind the row itself. -/
structure Md where
  lo : Nat
  hi : Nat
  made : Bool
def Md.inner (m : Md) (b : Nat) : Md := if m.made then { m with lo := b + 1 } else m
theorem Md.inner_hi (m : Md) (b : Nat) : (m.inner b).hi = m.hi := by unfold Md.inner; split <;> rfl
theorem Md.inner_made (m : Md) (b : Nat) : (m.inner b).made = m.made := by unfold Md.inner; split <;> rfl
theorem Md.inner_lo {m : Md} {b : Nat} (h : m.lo ≤ b) : m.lo ≤ (m.inner b).lo := by
  unfold Md.inner
  split
  · exact Nat.le_succ_of_le h
  · exact Nat.le_refl _
/-- From 'lo' on, below 'hi', the two worlds hold the same. -/
def Same (lo hi : Nat) (w w' : World) : Prop := ∀ k, lo ≤ k → k < hi → w'.heap[k]? = w.heap[k]?
theorem Same.of_below {lo hi B : Nat} {w w' : World} (h : Below B w w') (hB : hi ≤ B) : Same lo hi w w' := fun k _ hk => h.block k (by omega)
theorem Same.cell {lo hi : Nat} {w w' : World} (h : Same lo hi w w') {b o : Nat} (h1 : lo ≤ b) (h2 : b < hi) : w'.cell? ⟨b, o, none⟩ = w.cell? ⟨b, o, none⟩ := World.cell?_of_block (w := w) (h b h1 h2)
theorem Same.frozen {lo hi : Nat} {w w' : World} (h : Same lo hi w w') {b o : Nat} (h1 : lo ≤ b) (h2 : b < hi) : w'.frozen? ⟨b, o, none⟩ = w.frozen? ⟨b, o, none⟩ := World.frozen?_of_block (w := w) (h b h1 h2)
theorem Same.refl (lo hi : Nat) (w : World) : Same lo hi w w := fun _ _ _ => rfl
theorem Same.trans {lo hi : Nat} {a b c : World} (h : Same lo hi a b) (k : Same lo hi b c) : Same lo hi a c := fun i x y => (k i x y).trans (h i x y)
theorem Same.setCell {lo hi : Nat} {a w : World} (h : Same lo hi a w) {p : Addr} (hp : p.block < lo) (v : Value) : Same lo hi a (w.setCell p v) := fun k x y => (Below.heap_setCell _ _ _ _ (by omega)).trans (h k x y)
theorem Same.alloc {lo hi : Nat} {a w : World} (h : Same lo hi a w) (hh : hi ≤ w.heap.size) (o : Obj) : Same lo hi a (w.alloc o) := fun k x y => (Below.heap_alloc _ _ _ (by omega)).trans (h k x y)
theorem Same.sub {lo hi lo' hi' : Nat} {w w' : World} (h : Same lo hi w w') (h1 : lo ≤ lo') (h2 : hi' ≤ hi) : Same lo' hi' w w' := fun k a b => h k (by omega) (by omega)
/-- An element's reading: its cells, by their number; the world; where what it leads to lies. -/
abbrev Elem (α : Type) := (Nat → Option Value) → World → Md → α → Prop
/-- A slice that holds the list. -/
def SlAt {α : Type} (E : Elem α) (sz : Nat) (w : World) (m : Md) (v : Value) (l : List α) : Prop :=
  ∃ a c, v = .slice a l.length c ∧ ∀ i (h : i < l.length), ∃ b o, a = some ⟨b, o, none⟩ ∧ (m.lo ≤ b ∧ l.length ≤ c) ∧ b < m.hi ∧ (m.made = true → ∀ j, w.frozen? ⟨b, j, none⟩ = false) ∧ E (fun j => w.cell? ⟨b, o + i * sz + j, none⟩) w (m.inner b) l[i]
/-- The element goes on in a world that holds the same where it leads to. -/
def Stays {α : Type} (E : Elem α) : Prop := ∀ cf w w' m x, E cf w m x → Same m.lo m.hi w w' → E cf w' m x
/-- .. and in wider bounds. -/
def Widens {α : Type} (E : Elem α) : Prop := ∀ cf w m m' x, E cf w m x → m'.lo ≤ m.lo → m.hi ≤ m'.hi → m'.made = m.made → E cf w m' x
theorem SlAt.same {α : Type} {E : Elem α} {sz : Nat} {w w' : World} {m : Md} {v : Value} {l : List α} (hE : Stays E) (h : SlAt E sz w m v l) (s : Same m.lo m.hi w w') : SlAt E sz w' m v l := by
  obtain ⟨a, c, rfl, h⟩ := h
  refine ⟨a, c, rfl, fun i hi => ?_⟩
  obtain ⟨b, o, e, h1, h2, h3, h4⟩ := h i hi
  refine ⟨b, o, e, h1, h2, fun hm j => (s.frozen h1.1 h2).trans (h3 hm j), ?_⟩
  have : (fun j => w'.cell? ⟨b, o + i * sz + j, none⟩) = fun j => w.cell? ⟨b, o + i * sz + j, none⟩ := funext fun j => s.cell h1.1 h2
  rw [this]
  exact hE _ _ _ _ _ h4 (s.sub (Md.inner_lo h1.1) (by rw [Md.inner_hi]; exact Nat.le_refl _))
theorem rows_on {α : Type} {E : Elem α} {sz : Nat} {w w' : World} {m : Md} {a : Option Addr} {c : Nat} {l : List α} (hE : Stays E) (h : ∀ i (h : i < l.length), ∃ b o, a = some ⟨b, o, none⟩ ∧ (m.lo ≤ b ∧ l.length ≤ c) ∧ b < m.hi ∧ (m.made = true → ∀ j, w.frozen? ⟨b, j, none⟩ = false) ∧ E (fun j => w.cell? ⟨b, o + i * sz + j, none⟩) w (m.inner b) l[i]) (bel : Below m.hi w w') :
    ∀ i (h : i < l.length), ∃ b o, a = some ⟨b, o, none⟩ ∧ (m.lo ≤ b ∧ l.length ≤ c) ∧ b < m.hi ∧ (m.made = true → ∀ j, w'.frozen? ⟨b, j, none⟩ = false) ∧ E (fun j => w'.cell? ⟨b, o + i * sz + j, none⟩) w' (m.inner b) l[i] := by
  obtain ⟨a', c', e, r⟩ := SlAt.same (w' := w') hE ⟨a, c, rfl, h⟩ (.of_below bel (Nat.le_refl _))
  cases e
  exact r
theorem SlAt.on {α : Type} {E : Elem α} {sz : Nat} {w w' : World} {m : Md} {v : Value} {l : List α} (hE : Stays E) (h : SlAt E sz w m v l) (bel : Below m.hi w w') : SlAt E sz w' m v l := h.same hE (.of_below bel (Nat.le_refl _))
theorem Md.inner_wid {m m' : Md} {b : Nat} (h1 : m'.lo ≤ m.lo) (h3 : m'.made = m.made) : (m'.inner b).lo ≤ (m.inner b).lo := by
  unfold Md.inner
  rw [h3]
  split
  · exact Nat.le_refl _
  · exact h1
theorem SlAt.wid {α : Type} {E : Elem α} {sz : Nat} {w : World} {m m' : Md} {v : Value} {l : List α} (hE : Widens E) (h : SlAt E sz w m v l) (h1 : m'.lo ≤ m.lo) (h2 : m.hi ≤ m'.hi) (h3 : m'.made = m.made) : SlAt E sz w m' v l := by
  obtain ⟨a, c, rfl, h⟩ := h
  refine ⟨a, c, rfl, fun i hi => ?_⟩
  obtain ⟨b, o, e, g1, g2, g3, g4⟩ := h i hi
  exact ⟨b, o, e, ⟨by omega, g1.2⟩, by omega, fun hm j => g3 (by rw [← h3]; exact hm) j, hE _ _ _ _ _ g4 (Md.inner_wid h1 h3) (by rw [Md.inner_hi, Md.inner_hi]; exact h2) (by rw [Md.inner_made, Md.inner_made]; exact h3)⟩
theorem SlAt.nil {α : Type} {E : Elem α} {sz : Nat} {w : World} {m : Md} {a : Option Addr} {c : Nat} : SlAt E sz w m (.slice a 0 c) ([] : List α) := ⟨a, c, rfl, fun i hi => absurd hi (by simp)⟩
theorem heapCells {w : World} {b : Nat} {C : Array Value} {T : TypeId} (h : w.heap[b]? = some (.cells C T (0, 0))) : (∀ j, w.cell? ⟨b, j, none⟩ = C[j]?) ∧ ∀ j, w.frozen? ⟨b, j, none⟩ = false := by
  constructor
  · intro j; simp [World.cell?, h]
  · intro j; simp [World.frozen?, h]
/-- A row of the call's own that holds the elements. -/
theorem SlAt.of_row {α : Type} {E : Elem α} {sz : Nat} {w : World} {m : Md} {g c : Nat} {C : Array Value} {T : TypeId} {l : List α} (h : w.heap[g]? = some (.cells C T (0, 0))) (h1 : m.lo ≤ g) (h2 : g < m.hi) (hcap : l.length ≤ c)
    (hE : ∀ i (h : i < l.length), E (fun j => C[i * sz + j]?) w (m.inner g) l[i]) : SlAt E sz w m (.slice (some ⟨g, 0, none⟩) l.length c) l := by
  refine ⟨_, c, rfl, fun i hi => ⟨g, 0, rfl, ⟨h1, hcap⟩, h2, fun _ => (heapCells h).2, ?_⟩⟩
  have : (fun j => w.cell? ⟨g, 0 + i * sz + j, none⟩) = fun j => C[i * sz + j]? := funext fun j => by rw [(heapCells h).1, Nat.zero_add]
  rw [this]
  exact hE i hi
/-- 'make' with a length that is a variable, elements of whatever size. -/
theorem run_make_many {P : Program} (t e : TypeId) (z : Value) (size bytes : Nat) (ht : P.underlying t = some (.slice e)) (hinfo : (P.info? e).map (fun i => (i.zero, i.size, i.bytes)) = some (some z, size, bytes)) (n : Nat) (hb : bytes * n ≤ 281474976710656) (h63 : n ≤ 9223372036854775807) (w : World) :
    (Instr.makeSlice t (.int .i64 (n : Int)) (.int .i64 (n : Int))).run P w = .ok (.slice (some ⟨w.heap.size, 0, none⟩) n n) (w.alloc (.cells (madeCells z.cells (n * size)) e)) := by
  obtain ⟨i, hi, hzz⟩ := Option.map_eq_some_iff.1 hinfo
  simp only [Prod.mk.injEq] at hzz
  obtain ⟨hz, hs, hbb⟩ := hzz
  have hb' : (i.bytes : Int) * (n : Int) ≤ 281474976710656 := by
    have h : ((i.bytes * n : Nat) : Int) ≤ 281474976710656 := by rw [hbb]; omega
    rwa [Int.natCast_mul] at h
  have hr := run_make (P := P) w t e i z ht hi hz .i64 .i64 n n (by omega) (Int.le_refl _) hb' (by omega)
  simp only [Int.toNat_natCast, hs] at hr
  exact hr

/-- The element's reading asks for its own cells alone. -/
def Loc {α : Type} (E : Elem α) (sz : Nat) : Prop := ∀ cf cf' w m x, (∀ j, j < sz → cf' j = cf j) → E cf w m x → E cf' w m x
/-- Values laid into a row, one behind the other. -/
def setRow (w : World) (g : Nat) : Nat → List Value → World
  | _, [] => w
  | o, v :: vs => setRow (w.setCell ⟨g, o, none⟩ v) g (o + 1) vs
def putRow (C : Array Value) : Nat → List Value → Array Value
  | _, [] => C
  | o, v :: vs => putRow (C.setIfInBounds o v) (o + 1) vs
theorem putRow_size : ∀ (vs : List Value) (C : Array Value) (o : Nat), (putRow C o vs).size = C.size
  | [], _, _ => rfl
  | v :: vs, C, o => by rw [putRow, putRow_size vs]; simp
theorem putRow_out : ∀ (vs : List Value) (C : Array Value) (o i : Nat), i < o ∨ o + vs.length ≤ i → (putRow C o vs)[i]? = C[i]?
  | [], _, _, _, _ => rfl
  | v :: vs, C, o, i, h => by
    rw [putRow, putRow_out vs _ _ _ (by simp at h; omega), Array.getElem?_setIfInBounds_ne (by simp at h; omega)]
theorem putRow_at : ∀ (vs : List Value) (C : Array Value) (o j : Nat), j < vs.length → o + vs.length ≤ C.size → (putRow C o vs)[o + j]? = vs[j]?
  | [], _, _, _, h, _ => by simp at h
  | v :: vs, C, o, 0, _, h2 => by
    rw [putRow, putRow_out vs _ _ _ (by omega), Nat.add_zero, Array.getElem?_setIfInBounds_self_of_lt (by simp at h2; omega)]
    rfl
  | v :: vs, C, o, j + 1, h1, h2 => by
    rw [putRow, show o + (j + 1) = o + 1 + j by omega, putRow_at vs _ _ _ (by simpa using h1) (by simp at h2 ⊢; omega)]
    rfl
theorem block_set {w : World} {g o : Nat} {C : Array Value} {T : TypeId} (h : w.heap[g]? = some (.cells C T (0, 0))) (v : Value) : (w.setCell ⟨g, o, none⟩ v).heap[g]? = some (.cells (C.setIfInBounds o v) T (0, 0)) := by
  simp only [World.setCell, Array.getElem?_modify]
  rw [h]
  rfl
theorem setRow_heap : ∀ (vs : List Value) {w : World} {g o : Nat} {C : Array Value} {T : TypeId}, w.heap[g]? = some (.cells C T (0, 0)) → (setRow w g o vs).heap[g]? = some (.cells (putRow C o vs) T (0, 0))
  | [], _, _, _, _, _, h => h
  | v :: vs, _, _, _, _, _, h => setRow_heap vs (block_set h v)
theorem setRow_other : ∀ (vs : List Value) (w : World) (g o k : Nat), k ≠ g → (setRow w g o vs).heap[k]? = w.heap[k]?
  | [], _, _, _, _, _ => rfl
  | v :: vs, w, g, o, k, h => by rw [setRow, setRow_other vs _ _ _ _ h, Below.heap_setCell _ _ _ _ h]
theorem setRow_size : ∀ (vs : List Value) (w : World) (g o : Nat), (setRow w g o vs).heap.size = w.heap.size
  | [], _, _, _ => rfl
  | v :: vs, w, g, o => by rw [setRow, setRow_size vs]; simp [World.setCell]
theorem setRow_below {B : Nat} : ∀ (vs : List Value) {a w : World} {g o : Nat}, Below B a w → B ≤ g → Below B a (setRow w g o vs)
  | [], _, _, _, _, h, _ => h
  | v :: vs, _, _, _, _, h, hb => setRow_below vs (h.setCell (p := ⟨_, _, none⟩) hb v) hb
/-- One element more. -/
theorem rows_step {α : Type} {E : Elem α} {sz : Nat} (hL : Loc E sz) (hS : Stays E) (hW : Widens E) {w w1 : World} {g k : Nat} {C : Array Value} {l : List α} {vs : List Value} {x : α} (hlen : vs.length = sz) (hk : k < l.length) (hx : l[k] = x) (hsz : l.length * sz ≤ C.size)
    (old : ∀ i (h : i < l.length), i < k → E (fun j => C[i * sz + j]?) w ⟨g + 1, w.heap.size, true⟩ l[i]) (bel : Below w.heap.size w w1) (new : E (fun j => vs[j]?) w1 ⟨g + 1, w1.heap.size, true⟩ x) :
    ∀ i (h : i < l.length), i < k + 1 → E (fun j => (putRow C (k * sz) vs)[i * sz + j]?) (setRow w1 g (k * sz) vs) ⟨g + 1, (setRow w1 g (k * sz) vs).heap.size, true⟩ l[i] := by
  intro i hi hk1
  have hs : Same (g + 1) (setRow w1 g (k * sz) vs).heap.size w1 (setRow w1 g (k * sz) vs) := fun b h _ => setRow_other _ _ _ _ _ (by omega)
  have hle : (k + 1) * sz ≤ l.length * sz := Nat.mul_le_mul_right _ hk
  rw [Nat.succ_mul] at hle
  by_cases e : i < k
  · have h1 := hW _ _ _ ⟨g + 1, (setRow w1 g (k * sz) vs).heap.size, true⟩ _ (hS _ _ w1 _ _ (old i hi e) (.of_below bel (Nat.le_refl _))) (Nat.le_refl _) (by rw [setRow_size]; exact bel.size) rfl
    refine hL _ _ _ _ _ (fun j hj => ?_) (hS _ _ _ _ _ h1 hs)
    have : (i + 1) * sz ≤ k * sz := Nat.mul_le_mul_right _ e
    rw [Nat.succ_mul] at this
    exact putRow_out _ _ _ _ (by omega)
  · obtain rfl : i = k := by omega
    rw [hx]
    have h1 := hW _ _ _ ⟨g + 1, (setRow w1 g (i * sz) vs).heap.size, true⟩ _ new (Nat.le_refl _) (by rw [setRow_size]; exact Nat.le_refl _) rfl
    refine hL _ _ _ _ _ (fun j hj => ?_) (hS _ _ _ _ _ h1 hs)
    exact putRow_at _ _ _ _ (by omega) (by omega)
theorem bcell {W w1 : World} (hb : Below W.heap.size W w1) : (∀ b o, b < W.heap.size → w1.cell? ⟨b, o, none⟩ = W.cell? ⟨b, o, none⟩) ∧ (∀ b o, b < W.heap.size → w1.frozen? ⟨b, o, none⟩ = W.frozen? ⟨b, o, none⟩) :=
  ⟨fun _ _ h => hb.cell (p := ⟨_, _, none⟩) h, fun _ _ h => hb.frozen (p := ⟨_, _, none⟩) h⟩
section
variable {H : Type} {enc : TypeId × Value → H} {P : Program} {w : World}
/-- What the row's reading of an element gives, wherever its cells lie. -/
def Opens {α : Type} (enc : TypeId × Value → H) (P : Program) (w : World) (e : TypeId) (E : Elem α) : Prop :=
  ∀ fuel cs y, DataW.trod enc P w 0 (fun _ => true) true fuel e cs = some y → ∃ x : α, ∀ cf : Nat → Option Value, (∀ j, j < P.cellsOf e → cf j = cs[j]?) → E cf w ⟨0, w.heap.size, false⟩ x
theorem opens_slice {α : Type} {E : Elem α} {t e : TypeId} {fuel : Nat} {cs : List Value} {y : DataW H × List MemPlace} (ht : P.underlying t = some (.slice e)) (hpos : 0 < P.cellsOf e) (hE : Opens enc P w e E)
    (h : DataW.trod enc P w 0 (fun _ => true) true fuel t cs = some y) : ∃ (v : Value) (l : List α), cs = [v] ∧ SlAt E (P.cellsOf e) w ⟨0, w.heap.size, false⟩ v l ∧ l.length ≤ maxLen := by
  rcases open_slice ht h with ⟨rfl, _⟩ | ⟨a, len, cap, m, n, D, Pl, rfl, _, hl, hm, hmm, _, hx⟩
  · exact ⟨_, [], rfl, SlAt.nil, Nat.zero_le _⟩
  · have hm' : m = cap := by rw [hmm]; exact if_pos rfl
    subst hm'
    by_cases z : len = 0
    · subst z
      exact ⟨_, [], rfl, SlAt.nil, Nat.zero_le _⟩
    obtain ⟨b, o, spot⟩ := a
    have hspot : spot = none := by
      obtain ⟨cs', h1, _⟩ := hx 0 (by omega)
      obtain ⟨_, hlen, hcell⟩ := World.cells?_some h1
      have h0 := hcell 0 (by omega)
      rw [List.getElem?_eq_getElem (by omega)] at h0
      simpa [Addr.add] using World.cell?_spot h0
    subst hspot
    have each : ∀ i, i < len → ∃ x : α, b < w.heap.size ∧ E (fun j => w.cell? ⟨b, o + i * P.cellsOf e + j, none⟩) w ⟨0, w.heap.size, false⟩ x := fun i hi => by
      obtain ⟨cs', h1, h2⟩ := hx i (by omega)
      obtain ⟨_, hlen, hcell⟩ := World.cells?_some h1
      obtain ⟨x, hxx⟩ := hE _ _ _ h2
      have h0 := hcell 0 (by omega)
      rw [List.getElem?_eq_getElem (by omega)] at h0
      rw [add_plain, add_plain] at h0
      have hb := block_lt h0
      refine ⟨x, hb, hxx _ (fun j hj => ?_)⟩
      have := hcell j hj
      rwa [add_plain, add_plain] at this
    obtain ⟨x0, _⟩ := each 0 (by omega)
    have inh : Inhabited α := ⟨x0⟩
    obtain ⟨f, hf⟩ := choose_lt each
    refine ⟨_, (List.range len).map f, rfl, ⟨some ⟨b, o, none⟩, m, by simp, fun i hi => ?_⟩, by simp; omega⟩
    have hi' : i < len := by simpa using hi
    obtain ⟨hb, he⟩ := hf i hi'
    exact ⟨b, o, rfl, ⟨Nat.zero_le _, by simp; omega⟩, hb, (fun h => by cases h), by simpa [Md.inner] using he⟩
/-- A struct of one-cell fields: each field's own reading. -/
theorem open_fields {t : TypeId} {fs : Array Field} {fuel : Nat} {cs : List Value} {y : DataW H × List MemPlace} (hs : P.underlying t = some (.struct fs))
    (hone : ∀ (i : Nat) (f : Field), fs[i]? = some f → f.offset = i ∧ P.cellsOf f.type = 1) (hC : P.cellsOf t = fs.size) (h : DataW.trod enc P w 0 (fun _ => true) true fuel t cs = some y) :
    cs.length = fs.size ∧ ∀ (i : Nat) (f : Field), fs[i]? = some f → ∃ v n z, cs[i]? = some v ∧ DataW.trod enc P w 0 (fun _ => true) true n f.type [v] = some z := by
  obtain ⟨xs, n, _, _, hl, hxl, hf⟩ := DataW.trod_struct hs h
  refine ⟨by omega, fun i f hi => ?_⟩
  have hlt : i < fs.size := (Array.getElem?_eq_some_iff.1 hi).1
  obtain ⟨ho, hc1⟩ := hone i f hi
  have g := hf i f hi
  rw [ho, hc1, take1_drop cs i undef (by omega), List.getElem?_eq_getElem (by omega)] at g
  refine ⟨cs.getD i undef, n, _, ?_, g⟩
  simp [List.getD, List.getElem?_eq_getElem (show i < cs.length by omega)]
end
end Go.Proofs.YtpfceikohoncgaaDoor
