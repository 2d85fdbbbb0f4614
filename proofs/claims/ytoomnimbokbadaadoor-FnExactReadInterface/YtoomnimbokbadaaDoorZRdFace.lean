/- The program reads an interface off its bytes. No condition. -/
import Derived.Test.YtoomnimbokbadaaDoorZRdItem
import Derived.Deep.AppendLies
import Derived.Deep.RegionLaw
import Derived.Laws.Closers25b
namespace Go.Proofs.YtoomnimbokbadaaDoor
open Go.ChangeShapes Go.WideShapes Go.ChangeAt Go.RowKit Go.Deep

abbrev IV := Itm × Value
def ic : List IV → List Value
  | [] => []
  | p :: r => .int .i64 p.1.kind :: .int .i64 p.1.type :: .int .i64 p.1.length :: .int .i64 p.1.value :: .string p.1.name :: p.2 :: ic r
theorem ic_len : ∀ l : List IV, (ic l).length = l.length * 6
  | [] => rfl
  | p :: r => by simp [ic, ic_len r]; omega
theorem ic_app : ∀ l r : List IV, ic (l ++ r) = ic l ++ ic r
  | [], _ => rfl
  | p :: l, r => by simp [ic, ic_app l r]
theorem ic_one : ∀ l : List IV, (∀ p ∈ l, p.2.oneCell' = true) → ∀ u ∈ ic l, u.oneCell' = true
  | [], _, u, h => by cases h
  | p :: r, hp, u, h => by
    simp only [ic, List.mem_cons] at h
    rcases h with rfl | rfl | rfl | rfl | rfl | rfl | h
    · rfl
    · rfl
    · rfl
    · rfl
    · rfl
    · exact hp p (by simp)
    · exact ic_one r (fun q hq => hp q (by simp [hq])) u h
theorem ic_at : ∀ (l : List IV) (i : Nat) (h : i < l.length), (ic l)[i * 6]? = some (.int .i64 l[i].1.kind) ∧ (ic l)[i * 6 + 1]? = some (.int .i64 l[i].1.type) ∧ (ic l)[i * 6 + 2]? = some (.int .i64 l[i].1.length) ∧
    (ic l)[i * 6 + 3]? = some (.int .i64 l[i].1.value) ∧ (ic l)[i * 6 + 4]? = some (.string l[i].1.name) ∧ (ic l)[i * 6 + 5]? = some l[i].2
  | [], i, h => absurd h (by simp)
  | p :: r, 0, _ => ⟨rfl, rfl, rfl, rfl, rfl, rfl⟩
  | p :: r, i + 1, h => by
    have := ic_at r i (by simpa using h)
    rw [show (i + 1) * 6 = i * 6 + 1 + 1 + 1 + 1 + 1 + 1 by omega]
    exact this
/-- What a read item's numbers are. -/
def ItNum (x : Itm) : Prop := I64 x.kind ∧ I64 x.type ∧ I64 x.length ∧ I64 x.value ∧ x.name.size ≤ 255 ∧ x.params.length ≤ 255 ∧ ∀ p ∈ x.params, I64 p.1
/-- A slice of items in a row of the call's own, each item's parameters in a row of their own. -/
def IRow (w : World) (B : Nat) (v : Value) (L : List IV) : Prop := w.ownsRow B 57 6 v L.length (ic L) ∧ (∀ p ∈ L, PRow w B p.2 p.1.params ∧ ItNum p.1) ∧ L.Pairwise fun a b => ∀ k, a.2.ownBlock = some k → b.2.ownBlock ≠ some k
theorem IRow.nil (w : World) (B : Nat) : IRow w B (.slice none 0 0) [] := ⟨World.ownsRow_nil _ _ _ _, (fun p h => absurd h (by simp)), List.Pairwise.nil⟩
theorem owns_heap {w w' : World} {B : Nat} {e : TypeId} {sz n : Nat} {v : Value} {xs : List Value} (h : w.ownsRow B e sz v n xs) (hk : ∀ k, B ≤ k → k < w.heap.size → w'.heap[k]? = w.heap[k]?) : w'.ownsRow B e sz v n xs := by
  refine ⟨h.1, ?_⟩
  rcases h.2 with h2 | ⟨g, cap, cur, e, hb, hg, r⟩
  · exact .inl h2
  · exact .inr ⟨g, cap, cur, e, hb, (hk g hb (Array.getElem?_eq_some_iff.1 hg).1).trans hg, r⟩
theorem IRow.of_heap {w w' : World} {B : Nat} {v : Value} {L : List IV} (h : IRow w B v L) (hk : ∀ k, B ≤ k → k < w.heap.size → w'.heap[k]? = w.heap[k]?) : IRow w' B v L :=
  ⟨owns_heap h.1 hk, fun p hp => ⟨(h.2.1 p hp).1.of_heap fun k a b _ => hk k a b, (h.2.1 p hp).2⟩, h.2.2⟩
theorem IRow.on {w w' : World} {B : Nat} {v : Value} {L : List IV} (h : IRow w B v L) (bel : Below w.heap.size w w') : IRow w' B v L := h.of_heap fun k _ hk => bel.block k hk
theorem IRow.push {w wa w2 : World} {B : Nat} {v v' : Value} {L : List IV} {y : Itm} {u : Value} (h : IRow w B v L) (ha : ∀ k, B ≤ k → k < w.heap.size → wa.heap[k]? = w.heap[k]?) (hu : PRow wa w.heap.size u y.params) (hy : ItNum y) (hB : B ≤ w.heap.size)
    (hg : wa.grownBy w2 v.ownBlock) (ho : w2.ownsRow B 57 6 v' (L ++ [(y, u)]).length (ic (L ++ [(y, u)]))) : IRow w2 B v' (L ++ [(y, u)]) := by
  have hA := h.of_heap ha
  have key : ∀ k, k < wa.heap.size → (∃ C, wa.heap[k]? = some (.cells C 70 (0, 0))) → w2.heap[k]? = wa.heap[k]? := fun k hk ⟨C, hC⟩ => hg.block k hk fun e => by
    rcases hA.1.2 with ⟨e1, -⟩ | ⟨g, cap, cur, e1, -, hg1, -⟩
    · rw [e1] at e; cases e
    · rw [e1] at e
      cases e
      rw [hg1] at hC
      have := congrArg (fun o : Option Obj => match o with | some (.cells _ T _) => T | _ => 0) hC
      simp at this
  refine ⟨ho, fun p hp => ?_, ?_⟩
  · rcases List.mem_append.1 hp with hp | hp
    · exact ⟨(hA.2.1 p hp).1.of_heap fun k _ hk hc => key k hk hc, (hA.2.1 p hp).2⟩
    · rw [List.mem_singleton] at hp
      subst hp
      exact ⟨(hu.of_heap fun k _ hk hc => key k hk hc).le hB, hy⟩
  · rw [List.pairwise_append]
    refine ⟨h.2.2, List.pairwise_singleton _ _, fun a ha b hb k hk => ?_⟩
    rw [List.mem_singleton] at hb
    subst hb
    intro e
    have h1 := (World.ownsRow.lt (h.2.1 a ha).1 k hk).2
    have h2 := (World.ownsRow.lt hu k e).1
    omega
theorem itmInfo : (Tryd.prog.info? 57).map (fun i => (i.zero, i.size, i.bytes)) = some (some (.agg #[.int .i64 0, .int .i64 0, .int .i64 0, .int .i64 0, .string ⟨#[]⟩, .slice none 0 0]), 6, 72) := by kernel_rfl
theorem itm_new (w : World) (y0 y1 y2 y3 : Int) (t : ByteArray) (ps : List Prm) (u : Value) {b : Nat} (hb : b = w.heap.size) : ∀ j c, (ic [(⟨y0, y1, y2, y3, t, ps⟩, u)])[j]? = some c → (w.alloc (.cells #[.int .i64 y0, .int .i64 y1, .int .i64 y2, .int .i64 y3, .string t, u] 57)).cell? ((⟨b, 0, none⟩ : Addr).add j) = some c := by
  subst hb
  intro j c hj
  have h := (heapCells (Deep.blk_alloc_new w (.cells #[.int .i64 y0, .int .i64 y1, .int .i64 y2, .int .i64 y3, .string t, u] 57))).1 j
  rw [add_plain, Nat.zero_add, h]
  simpa [ic] using hj
theorem step_item {w : World} {ops : Array Oper} {o : Oper} {a : Act} {K : Act → World → Prop} {Q : Exit → Act → World → Prop} {E : Prop} (hgd : o.guard = none) (s x : Operand)
    (ho : o.op = .call { callee := .builtin .append, args := #[s, x], argTypes := #[23, 23] }) (B : Nat) (v : Value) (L : List IV) (hs : a.eval s = v) (hown : w.ownsRow B 57 6 v L.length (ic L))
    (b : Nat) (p : IV) (hx : a.eval x = .slice (some ⟨b, 0, none⟩) 1 1) (hnews : ∀ j c, (ic [p])[j]? = some c → w.cell? ((⟨b, 0, none⟩ : Addr).add j) = some c) (hp : p.2.oneCell' = true) (hb : L.length ≤ 1000) (hbase : B ≤ w.heap.size)
    (h : ∀ g cap w', w'.ownsRow B 57 6 (.slice (some ⟨g, 0, none⟩) (L.length + 1) cap) (L ++ [p]).length (ic (L ++ [p])) → w.grownBy w' v.ownBlock → K (a.put o.dst (.slice (some ⟨g, 0, none⟩) (L.length + 1) cap)) w') :
    if Region.wanted o (yielded ops a.tmps) = true then Oper.wp Tryd.prog o a w K Q else E := by
  obtain ⟨i, hi, hz0, hz1, hz2⟩ := info_parts itmInfo
  refine step_append_lies w hgd s x _ ho B 57 i (.agg #[.int .i64 0, .int .i64 0, .int .i64 0, .int .i64 0, .string ⟨#[]⟩, .slice none 0 0]) 6 72 Tryd.underlying23 hi hz0 hz1 hz2 rfl (by decide) v L.length (ic L) hs hown ⟨b, 0, none⟩ 1 1 (ic [p]) hx (by rw [ic_len]; rfl) hnews (ic_one _ (fun q hq => by rw [List.mem_singleton] at hq; rw [hq]; exact hp)) (by decide) (by unfold maxLen; omega) (by omega) hbase _ rfl fun g cap w' h2 h3 _ _ => ?_
  refine h g cap w' ?_ h3
  rw [ic_app, List.length_append]
  exact h2
/-- What the reader takes off. -/
def rdRest : Nat → List Int → List Int
  | 0, r => r
  | k + 1, r => rdRest k (r.drop (itL r))
def rdIts : Nat → List Int → List Itm
  | 0, _ => []
  | k + 1, r => rdIt r :: rdIts k (r.drop (itL r))
theorem rdIts_len : ∀ (k : Nat) (r : List Int), (rdIts k r).length = k
  | 0, _ => rfl
  | k + 1, r => by simp [rdIts, rdIts_len k]
theorem rdIts_snoc : ∀ (k : Nat) (r : List Int), rdIts (k + 1) r = rdIts k r ++ [rdIt (rdRest k r)]
  | 0, r => rfl
  | k + 1, r => by
    have := rdIts_snoc k (r.drop (itL r))
    rw [rdIts, this]
    rfl
theorem rdRest_snoc : ∀ (k : Nat) (r : List Int), rdRest (k + 1) r = (rdRest k r).drop (itL (rdRest k r))
  | 0, r => rfl
  | k + 1, r => by
    rw [rdRest, rdRest_snoc k (r.drop (itL r))]
    rfl
theorem rdRest_len : ∀ (k : Nat) (r : List Int), (rdRest k r).length ≤ r.length
  | 0, r => Nat.le_refl _
  | k + 1, r => by
    rw [rdRest]
    have := rdRest_len k (r.drop (itL r))
    rw [List.length_drop] at this
    omega
def mdL (r : List Int) : Nat := (hd (r.drop 3)).toNat
def itN (r : List Int) : Nat := (hd (r.drop (4 + mdL r))).toNat
def rdFac (r : List Int) : Fac := ⟨bs ((r.drop 4).take (mdL r)), rdIts (itN r) (r.drop (5 + mdL r))⟩
theorem hd_i64 {r : List Int} (h : ∀ y ∈ r, 0 ≤ y ∧ y ≤ 255) : I64 (hd r) := by have := hd_in h; unfold I64; omega
theorem drop_in {r : List Int} (h : ∀ y ∈ r, 0 ≤ y ∧ y ≤ 255) (k : Nat) : ∀ y ∈ r.drop k, 0 ≤ y ∧ y ≤ 255 := fun y hy => h y (List.mem_of_mem_drop hy)
theorem accN_i64 : ∀ (k : Nat) (n : Int) (r : List Int), I64 n → I64 (accN n r k)
  | 0, _, _, h => h
  | k + 1, _, _, _ => accN_i64 k _ _ (bits_within .or .i64 _ _)
theorem bs_size (l : List Int) : (bs l).size = l.length := by
  show (l.map _).toArray.size = _
  simp
theorem rdPs_i64 : ∀ (k : Nat) (r : List Int), (∀ y ∈ r, 0 ≤ y ∧ y ≤ 255) → ∀ p ∈ rdPs k r, I64 p.1
  | 0, _, _, p, hp => by cases hp
  | k + 1, r, h, p, hp => by
    rw [rdPs] at hp
    rcases List.mem_cons.1 hp with rfl | hp
    · have := hd_in h
      unfold I64
      simp only
      omega
    · exact rdPs_i64 k _ (drop_in h 1) p hp
theorem rdIt_num {r : List Int} (h : ∀ y ∈ r, 0 ≤ y ∧ y ≤ 255) : ItNum (rdIt r) := by
  have h1 := hd_in (drop_in h 11)
  have h2 := hd_in (drop_in h (12 + nmL r))
  refine ⟨hd_i64 h, hd_i64 (drop_in h 1), hd_i64 (drop_in h 2), accN_i64 8 0 _ (by unfold I64; omega), ?_, ?_, rdPs_i64 _ _ (drop_in h _)⟩
  · show (bs _).size ≤ 255
    rw [bs_size, List.length_take]
    have : nmL r ≤ 255 := by unfold nmL; omega
    omega
  · show (rdPs _ _).length ≤ 255
    rw [rdPs_len]
    unfold prL
    omega
/-- What such a row holds, as the readings of arguments have it. -/
theorem PRow.slat {w : World} {B : Nat} {v : Value} {l : List Prm} (h : PRow w B v l) (hn : ∀ p ∈ l, I64 p.1) : SlAt PrmAt 2 w ⟨B, w.heap.size, false⟩ v l := by
  by_cases hl : l.length = 0
  · obtain rfl := List.length_eq_zero_iff.1 hl
    obtain ⟨a, n, c, rfl⟩ := prow_form h
    rcases h.2 with ⟨e, -⟩ | ⟨g, cap, cur, e, -⟩
    · cases e; exact SlAt.nil
    · cases e; exact SlAt.nil
  · obtain ⟨g, cap, rfl, hg1, hg2⟩ := World.ownsRow.form h (by omega)
    have hc := World.ownsRow.cells (g := g) h rfl
    have hcap : l.length ≤ cap := by
      rcases h.2 with ⟨e, -⟩ | ⟨g', cap', cur, e, -, -, hcap, -⟩
      · cases e
      · cases e; exact hcap
    refine ⟨_, cap, rfl, fun i hi => ⟨g, 0, rfl, ⟨hg1, hcap⟩, hg2, (fun e => by cases e), ?_⟩⟩
    have := pc_at l i hi
    have c0 := hc _ _ this.1
    have c1 := hc _ _ this.2
    rw [add_plain] at c0 c1
    exact ⟨by simpa using c0, by simpa [Nat.add_assoc] using c1, hn _ (List.getElem_mem _)⟩
theorem IRow.slat {w : World} {B : Nat} {v : Value} {L : List IV} (h : IRow w B v L) : SlAt ItmAt 6 w ⟨B, w.heap.size, false⟩ v (L.map Prod.fst) := by
  by_cases hl : L.length = 0
  · obtain rfl := List.length_eq_zero_iff.1 hl
    rcases h.1.2 with ⟨e, -⟩ | ⟨g, cap, cur, e, -⟩
    · subst e; exact SlAt.nil
    · subst e; exact SlAt.nil
  · obtain ⟨g, cap, rfl, hg1, hg2⟩ := World.ownsRow.form h.1 (by omega)
    have hc := World.ownsRow.cells (g := g) h.1 rfl
    have hcap : L.length ≤ cap := by
      rcases h.1.2 with ⟨e, -⟩ | ⟨g', cap', cur, e, -, -, hcap, -⟩
      · cases e
      · cases e; exact hcap
    have e : (L.map Prod.fst).length = L.length := by simp
    refine ⟨_, cap, by rw [e], fun i hi => ⟨g, 0, rfl, ⟨hg1, by rw [e]; exact hcap⟩, hg2, (fun e => by cases e), ?_⟩⟩
    have hi' : i < L.length := by rw [e] at hi; exact hi
    obtain ⟨c0, c1, c2, c3, c4, c5⟩ := ic_at L i hi'
    obtain ⟨hp, n0, n1, n2, n3, n4, n5, n6⟩ := h.2.1 L[i] (List.getElem_mem _)
    have d0 := hc _ _ c0
    have d1 := hc _ _ c1
    have d2 := hc _ _ c2
    have d3 := hc _ _ c3
    have d4 := hc _ _ c4
    have d5 := hc _ _ c5
    rw [add_plain] at d0 d1 d2 d3 d4 d5
    rw [List.getElem_map]
    refine ⟨⟨by simpa using d0, by simpa [Nat.add_assoc] using d1, by simpa [Nat.add_assoc] using d2, by simpa [Nat.add_assoc] using d3, by simpa [Nat.add_assoc] using d4⟩, ⟨n0, n1, n2, n3, by unfold maxLen; omega, by unfold maxLen; omega⟩, L[i].2, by simpa [Nat.add_assoc] using d5, ?_⟩
    exact hp.slat n6
theorem irow_form {w : World} {B : Nat} {v : Value} {L : List IV} (h : IRow w B v L) : ∃ a n c, v = .slice a n c := by
  rcases h.1.2 with ⟨e, -⟩ | ⟨g, cap, _, e, -⟩
  · exact ⟨_, _, _, e⟩
  · exact ⟨_, _, _, e⟩
theorem irow_far {w : World} {B k : Nat} {v : Value} {L : List IV} (h : IRow w B v L) (hk : k < B) : some k ≠ v.ownBlock := fun e => by have := (h.1.lt k e.symm).1; omega
theorem IRow.le {w : World} {B C : Nat} {v : Value} {L : List IV} (h : IRow w B v L) (hc : C ≤ B) : IRow w C v L :=
  ⟨⟨h.1.1, h.1.2.imp id fun ⟨g, cap, cur, e, hb, r⟩ => ⟨g, cap, cur, e, by omega, r⟩⟩, fun p hp => ⟨(h.2.1 p hp).1.le hc, (h.2.1 p hp).2⟩, h.2.2⟩
end Go.Proofs.YtoomnimbokbadaaDoor
