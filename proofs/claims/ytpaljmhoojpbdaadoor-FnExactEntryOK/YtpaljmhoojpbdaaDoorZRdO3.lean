/- The program reads an object: rows of codes; what is read, over plain data. No condition. -/
import Derived.Test.YtpaljmhoojpbdaaDoorZRdO2
namespace Go.Proofs.YtpaljmhoojpbdaaDoor
open Go.ChangeShapes Go.WideShapes Go.ChangeAt Go.RowKit Go.Deep

abbrev CV := CodeD × Value
def codeK : FlatK CV := ⟨30, 43, 5, 64, .agg #[.string ⟨#[]⟩, .int .i64 0, .int .i64 0, .int .i64 0, .slice none 0 0], fun p => [.string p.1.name, .int .i64 p.1.params, .int .i64 p.1.cells, .int .i64 p.1.result, p.2]⟩
theorem codeOk : codeK.Ok := ⟨by kernel_rfl, Tryd.underlying43, by decide, rfl, fun _ => rfl, by decide⟩
theorem code_one (p : CV) (h : p.2.oneCell' = true) : ∀ u ∈ codeK.cs p, u.oneCell' = true := by
  intro u hu
  simp only [codeK, List.mem_cons, List.not_mem_nil, or_false] at hu
  rcases hu with rfl | rfl | rfl | rfl | rfl
  · rfl
  · rfl
  · rfl
  · rfl
  · exact h
def INum (y : InsD) : Prop := I64 y.op ∧ I64 y.a ∧ I64 y.b ∧ y.mod.size ≤ 255 ∧ y.name.size ≤ 255
def CNum (x : CodeD) : Prop := x.name.size ≤ 255 ∧ I64 x.params ∧ I64 x.cells ∧ I64 x.result ∧ x.list.length ≤ 65535 ∧ ∀ y ∈ x.list, INum y
/-- A slice of codes in a row of the call's own, each code's list in a row of its own. -/
def CRow (w : World) (B : Nat) (v : Value) (L : List CV) : Prop := FRow codeK w B v L ∧ (∀ p ∈ L, FRow insK w B p.2 p.1.list ∧ CNum p.1) ∧ L.Pairwise fun a b => ∀ k, a.2.ownBlock = some k → b.2.ownBlock ≠ some k
theorem CRow.nil (w : World) (B : Nat) : CRow w B (.slice none 0 0) [] := ⟨FRow.nil _ _ _, (fun p h => absurd h (by simp)), List.Pairwise.nil⟩
theorem CRow.of_heap {w w' : World} {B : Nat} {v : Value} {L : List CV} (h : CRow w B v L) (hk : ∀ k, B ≤ k → k < w.heap.size → w'.heap[k]? = w.heap[k]?) : CRow w' B v L :=
  ⟨h.1.of_heap fun k a b _ => hk k a b, fun p hp => ⟨(h.2.1 p hp).1.of_heap fun k a b _ => hk k a b, (h.2.1 p hp).2⟩, h.2.2⟩
theorem CRow.on {w w' : World} {B : Nat} {v : Value} {L : List CV} (h : CRow w B v L) (bel : Below w.heap.size w w') : CRow w' B v L := h.of_heap fun k _ hk => bel.block k hk
theorem CRow.le {w : World} {B C : Nat} {v : Value} {L : List CV} (h : CRow w B v L) (hc : C ≤ B) : CRow w C v L := ⟨h.1.le hc, fun p hp => ⟨(h.2.1 p hp).1.le hc, (h.2.1 p hp).2⟩, h.2.2⟩
theorem CRow.push {w wa w2 : World} {B : Nat} {v v' : Value} {L : List CV} {y : CodeD} {u : Value} (h : CRow w B v L) (ha : ∀ k, B ≤ k → k < w.heap.size → wa.heap[k]? = w.heap[k]?) (hu : FRow insK wa w.heap.size u y.list) (hy : CNum y) (hB : B ≤ w.heap.size)
    (hg : wa.grownBy w2 v.ownBlock) (ho : FRow codeK w2 B v' (L ++ [(y, u)])) : CRow w2 B v' (L ++ [(y, u)]) := by
  have hA := h.of_heap ha
  have key : ∀ k, k < wa.heap.size → (∃ C, wa.heap[k]? = some (.cells C 94 (0, 0))) → w2.heap[k]? = wa.heap[k]? := fun k hk ⟨C, hC⟩ => hg.block k hk fun e => by
    obtain ⟨C', hC'⟩ := hA.1.ty e.symm
    rw [hC'] at hC
    have := congrArg (fun o : Option Obj => match o with | some (.cells _ T _) => T | _ => 0) hC
    simp [codeK] at this
  refine ⟨ho, fun p hp => ?_, ?_⟩
  · rcases List.mem_append.1 hp with hp | hp
    · exact ⟨(hA.2.1 p hp).1.of_heap fun k _ hk hc => key k hk hc, (hA.2.1 p hp).2⟩
    · rw [List.mem_singleton] at hp
      subst hp
      exact ⟨(hu.of_heap fun k _ hk hc => key k hk hc).le hB, hy⟩
  · rw [List.pairwise_append]
    refine ⟨h.2.2, List.pairwise_singleton _ _, fun a ha b hb k hk => ?_⟩
    rw [List.mem_singleton] at hb
    subst hb
    intro e
    have h1 := ((h.2.1 a ha).1.lt hk).2
    have h2 := (hu.lt e).1
    omega
-- what is read, one behind the other
def itR (f : List Int → List Int) : Nat → List Int → List Int
  | 0, r => r
  | k + 1, r => f (itR f k r)
def itL {D : Type} (f : List Int → List Int) (g : List Int → D) : Nat → List Int → List D
  | 0, _ => []
  | k + 1, r => itL f g k r ++ [g (itR f k r)]
theorem itL_len {D : Type} (f : List Int → List Int) (g : List Int → D) : ∀ (k : Nat) (r : List Int), (itL f g k r).length = k
  | 0, _ => rfl
  | k + 1, r => by rw [itL, List.length_append, itL_len f g k r]; rfl
theorem itR_in {f : List Int → List Int} (hf : ∀ r, (∀ y ∈ r, 0 ≤ y ∧ y ≤ 255) → ∀ y ∈ f r, 0 ≤ y ∧ y ≤ 255) : ∀ (k : Nat) {r : List Int}, (∀ y ∈ r, 0 ≤ y ∧ y ≤ 255) → ∀ y ∈ itR f k r, 0 ≤ y ∧ y ≤ 255
  | 0, _, h => h
  | k + 1, _, h => hf _ (itR_in hf k h)
theorem itR_len {f : List Int → List Int} (hf : ∀ r, (f r).length ≤ r.length) : ∀ (k : Nat) (r : List Int), (itR f k r).length ≤ r.length
  | 0, _ => Nat.le_refl _
  | k + 1, r => Nat.le_trans (hf _) (itR_len hf k r)
theorem itL_all {D : Type} {f : List Int → List Int} {g : List Int → D} {P : D → Prop} (hf : ∀ r, (∀ y ∈ r, 0 ≤ y ∧ y ≤ 255) → ∀ y ∈ f r, 0 ≤ y ∧ y ≤ 255) (hg : ∀ r, (∀ y ∈ r, 0 ≤ y ∧ y ≤ 255) → P (g r)) : ∀ (k : Nat) {r : List Int}, (∀ y ∈ r, 0 ≤ y ∧ y ≤ 255) → ∀ x ∈ itL f g k r, P x
  | 0, _, _, x, hx => by cases hx
  | k + 1, r, h, x, hx => by
    rw [itL] at hx
    rcases List.mem_append.1 hx with hx | hx
    · exact itL_all hf hg k h x hx
    · rw [List.mem_singleton] at hx
      subst hx
      exact hg _ (itR_in hf k h)
def neF (r : List Int) : List Int := (tR r).drop 8
def neG (r : List Int) : NeedD := ⟨tT r, accN 0 (tR r) 8⟩
def glF (r : List Int) : List Int := (tR r).drop 1
def glG (r : List Int) : GlobalD := ⟨tT r, hd (tR r)⟩
theorem neF_in (r : List Int) (h : ∀ y ∈ r, 0 ≤ y ∧ y ≤ 255) : ∀ y ∈ neF r, 0 ≤ y ∧ y ≤ 255 := drop_in (tR_in h) _
theorem glF_in (r : List Int) (h : ∀ y ∈ r, 0 ≤ y ∧ y ≤ 255) : ∀ y ∈ glF r, 0 ≤ y ∧ y ≤ 255 := drop_in (tR_in h) _
theorem neF_len (r : List Int) : (neF r).length ≤ r.length := by have := tR_len r; unfold neF; rw [List.length_drop]; omega
theorem glF_len (r : List Int) : (glF r).length ≤ r.length := by have := tR_len r; unfold glF; rw [List.length_drop]; omega
def NNum (x : NeedD) : Prop := x.module.size ≤ 255 ∧ I64 x.print
def GNum (x : GlobalD) : Prop := x.name.size ≤ 255 ∧ I64 x.length
theorem neG_num (r : List Int) (h : ∀ y ∈ r, 0 ≤ y ∧ y ≤ 255) : NNum (neG r) := ⟨tT_size h, accN_i64 8 0 _ (by unfold I64; omega)⟩
theorem glG_num (r : List Int) (h : ∀ y ∈ r, 0 ≤ y ∧ y ≤ 255) : GNum (glG r) := ⟨tT_size h, hd_i64 (tR_in h)⟩
theorem rdIns_num (r : List Int) (h : ∀ y ∈ r, 0 ≤ y ∧ y ≤ 255) : INum (rdIns r) := by
  unfold rdIns
  split
  · exact ⟨hd_i64 h, accN_i64 8 0 _ (by unfold I64; omega), hd_i64 (drop_in h _), tT_size (drop_in h _), tT_size (tR_in (drop_in h _))⟩
  · exact ⟨hd_i64 h, accN_i64 8 0 _ (by unfold I64; omega), by show I64 0; unfold I64; omega, by show (0 : Nat) ≤ 255; omega, by show (0 : Nat) ≤ 255; omega⟩
theorem insL_num : ∀ (k : Nat) {r : List Int}, (∀ y ∈ r, 0 ≤ y ∧ y ≤ 255) → ∀ x ∈ insL k r, INum x
  | 0, _, _, x, hx => by cases hx
  | k + 1, r, h, x, hx => by
    rw [insL] at hx
    rcases List.mem_append.1 hx with hx | hx
    · exact insL_num k h x hx
    · rw [List.mem_singleton] at hx
      subst hx
      exact rdIns_num _ (insRs_in k h)
theorem rdP_i64 {r : List Int} (h : ∀ y ∈ r, 0 ≤ y ∧ y ≤ 255) : I64 (rdP r) := by have := rdP_in h; unfold I64; omega
theorem rdCode_num (r : List Int) (h : ∀ y ∈ r, 0 ≤ y ∧ y ≤ 255) : CNum (rdCode r) := by
  refine ⟨tT_size h, hd_i64 (tR_in h), rdP_i64 (drop_in (tR_in h) _), hd_i64 (drop_in (drop_in (tR_in h) _) _), ?_, insL_num _ (cdR_in h)⟩
  show (insL _ _).length ≤ 65535
  rw [insL_len]
  have h1 := insN_le (cdMany r) (cdR r)
  have h2 := rdP_in (r := ((tR r).drop 1).drop 3) (drop_in (drop_in (tR_in h) _) _)
  have h3 : cdMany r ≤ 65535 := by unfold cdMany; omega
  omega
def ob1 (r : List Int) : List Int := tR (r.drop 3)
def ob3 (r : List Int) : List Int := ((ob1 r).drop 8).drop 1
def ob4 (r : List Int) : List Int := itR neF (tN ((ob1 r).drop 8)) (ob3 r)
def ob5 (r : List Int) : List Int := (ob4 r).drop 1
def ob6 (r : List Int) : List Int := itR glF (tN (ob4 r)) (ob5 r)
def ob7 (r : List Int) : List Int := (ob6 r).drop 1
def rdObj (r : List Int) : ObjectD := ⟨tT (r.drop 3), accN 0 (ob1 r) 8, itL neF neG (tN ((ob1 r).drop 8)) (ob3 r), itL glF glG (tN (ob4 r)) (ob5 r), itL coR rdCode (tN (ob6 r)) (ob7 r)⟩
theorem obj_cells {w : World} {b : Nat} {x0 : ByteArray} {x1 : Int} {x2 x3 x4 : Value} (h : w.heap[b]? = some (.cells #[.string x0, .int .i64 x1, x2, x3, x4] 45 (0, 0))) :
    (w.cell? ⟨b, 0, none⟩ = some (.string x0) ∧ w.cell? ⟨b, 1, none⟩ = some (.int .i64 x1) ∧ w.cell? ⟨b, 2, none⟩ = some x2 ∧ w.cell? ⟨b, 3, none⟩ = some x3 ∧ w.cell? ⟨b, 4, none⟩ = some x4) ∧ ∀ j, w.frozen? ⟨b, j, none⟩ = false :=
  ⟨⟨(heapCells h).1 0, (heapCells h).1 1, (heapCells h).1 2, (heapCells h).1 3, (heapCells h).1 4⟩, (heapCells h).2⟩
end Go.Proofs.YtpaljmhoojpbdaaDoor
