/- How the program's Size goes through a tree: its stack of lists, its map of what is counted, over plain data. No condition. -/
import Derived.Test.YtgebonbmiapfoaaZTrSp
import Derived.Test.YtgebonbmiapfoaaZFlat
namespace Go.Proofs.Ytgebonbmiapfoaa
open Go.ChangeShapes Go.WideShapes Go.ChangeAt Go.RowKit Go.Deep

/-- A list of kids in rows of S that are not frozen: of a node its kids alone. -/
def TL (S : Nat → Prop) (w : World) : Nat → Value → List NodeD → Prop
  | 0, v, l => l = [] ∧ ∃ a c, v = .slice a 0 c
  | h + 1, v, l => ∃ a c, v = .slice a l.length c ∧ ∀ i (hi : i < l.length), ∃ b o u, a = some ⟨b, o, none⟩ ∧ S b ∧ Still w b ∧ l.length ≤ c ∧ w.cell? ⟨b, o + i * 5 + 4, none⟩ = some u ∧ TL S w h u l[i].kids
theorem TL.form {S : Nat → Prop} {w : World} : ∀ {h : Nat} {v : Value} {l : List NodeD}, TL S w h v l → ∃ a c, v = .slice a l.length c
  | 0, _, _, ⟨e, a, c, h⟩ => ⟨a, c, by rw [e]; exact h⟩
  | _ + 1, _, _, ⟨a, c, e, _⟩ => ⟨a, c, e⟩
theorem TL.on {S : Nat → Prop} {w w' : World} (k : ∀ b, S b → w'.heap[b]? = w.heap[b]?) : ∀ {h : Nat} {v : Value} {l : List NodeD}, TL S w h v l → TL S w' h v l
  | 0, _, _, h => h
  | h + 1, v, l, ⟨a, c, e, hr⟩ => ⟨a, c, e, fun i hi => by
      obtain ⟨b, o, u, g1, g2, g3, g4, g5, g6⟩ := hr i hi
      exact ⟨b, o, u, g1, g2, g3.of_heap (k b g2), g4, (World.cell?_of_block (w := w) (a := ⟨b, o + i * 5 + 4, none⟩) (k b g2)).trans g5, g6.on k⟩⟩
theorem TL.sub {S S' : Nat → Prop} {w : World} (k : ∀ b, S b → S' b) : ∀ {h : Nat} {v : Value} {l : List NodeD}, TL S w h v l → TL S' w h v l
  | 0, _, _, h => h
  | h + 1, v, l, ⟨a, c, e, hr⟩ => ⟨a, c, e, fun i hi => by
      obtain ⟨b, o, u, g1, g2, g3, g4, g5, g6⟩ := hr i hi
      exact ⟨b, o, u, g1, k b g2, g3, g4, g5, g6.sub k⟩⟩
theorem cells_of_cell {w : World} {b o : Nat} {u : Value} (h : w.cell? ⟨b, o, none⟩ = some u) : ∃ C T fr, w.heap[b]? = some (.cells C T fr) := by
  simp only [World.cell?] at h
  cases hh : w.heap[b]? with
  | none => rw [hh] at h; cases h
  | some x =>
    rw [hh] at h
    cases x with
    | cells C T fr => exact ⟨C, T, fr, rfl⟩
    | _ => cases h
/-- A copy that a law has made is such a list. -/
theorem TL.of_made {w : World} {B : Nat} (h : Nat) : ∀ {m : Md} {v : Value} {l : List NodeD}, m.made = true → m.hi ≤ B → SlAt (NodeAt h) 5 w m v l → TL (fun b => b < B) w (h + 1) v l := by
  induction h with
  | zero =>
    intro m v l hm hB hv
    obtain ⟨a, c, e, hr⟩ := hv
    refine ⟨a, c, e, fun i hi => ?_⟩
    obtain ⟨b, o, g1, g2, g3, g4, g5⟩ := hr i hi
    exact g5.elim
  | succ h ih =>
    intro m v l hm hB hv
    obtain ⟨a, c, e, hr⟩ := hv
    refine ⟨a, c, e, fun i hi => ?_⟩
    obtain ⟨b, o, g1, g2, g3, g4, -, -, u, h4, h5⟩ := hr i hi
    exact ⟨b, o, u, g1, by omega, ⟨cells_of_cell h4, g4 hm⟩, g2.2, h4, ih (by rw [Md.inner_made]; exact hm) (by rw [Md.inner_hi]; exact hB) h5⟩
theorem kidKey_zero {a : Option Addr} {c : Nat} : kidKey (.slice a 0 c) = (none, 0) := rfl
theorem kidKey_succ {a : Option Addr} {n c : Nat} : kidKey (.slice a (n + 1) c) = (a, n + 1) := rfl
theorem kidsSz_same : ∀ {l r : List NodeD}, l.length = r.length → (∀ i (h : i < l.length) (h' : i < r.length), nodeSz l[i] = nodeSz r[i]) → kidsSz l = kidsSz r
  | [], [], _, _ => rfl
  | [], _ :: _, h, _ => by simp at h
  | _ :: _, [], h, _ => by simp at h
  | x :: l, y :: r, h, k => by
    rw [kidsSz_cons, kidsSz_cons, kidsSz_same (l := l) (r := r) (by simpa using h) fun i h1 h2 => k (i + 1) (by simp; omega) (by simp; omega)]
    have := k 0 (by simp) (by simp)
    simp only [List.getElem_cons_zero] at this
    rw [this]
theorem kidKey_len {a a' : Option Addr} {n n' c c' : Nat} (e : kidKey (.slice a n c) = kidKey (.slice a' n' c')) : n = n' ∧ (0 < n → a = a') := by
  cases n with
  | zero =>
    cases n' with
    | zero => exact ⟨rfl, fun h => absurd h (by omega)⟩
    | succ n => rw [kidKey_zero, kidKey_succ] at e; cases e
  | succ n =>
    cases n' with
    | zero => rw [kidKey_zero, kidKey_succ] at e; cases e
    | succ n' =>
      rw [kidKey_succ, kidKey_succ] at e
      exact ⟨congrArg Prod.snd e, fun _ => congrArg Prod.fst e⟩
/-- Lists that lie at the same place are of the same size. -/
theorem TL.same_key {S S' : Nat → Prop} {w : World} (h : Nat) : ∀ {h' : Nat} {v v' : Value} {l l' : List NodeD}, TL S w h v l → TL S' w h' v' l' → kidKey v = kidKey v' → kidsSz l = kidsSz l' := by
  induction h with
  | zero =>
    intro h' v v' l l' k k' e
    obtain ⟨rfl, a, c, rfl⟩ := k
    obtain ⟨a', c', rfl⟩ := k'.form
    have := (kidKey_len e).1
    rw [List.length_eq_zero_iff.1 this.symm]
  | succ h ih =>
    intro h' v v' l l' k k' e
    obtain ⟨a, c, rfl, hr⟩ := k
    obtain ⟨a', c', rfl⟩ := k'.form
    obtain ⟨hlen, haa⟩ := kidKey_len e
    refine kidsSz_same hlen fun i hi hi' => ?_
    rcases h' with _ | h'
    · rw [k'.1] at hi'; simp at hi'
    obtain ⟨a2, c2, e2, hr'⟩ := k'
    cases e2
    obtain ⟨b, o, u, q1, -, -, -, q5, q6⟩ := hr i hi
    obtain ⟨b', o', u', q1', -, -, -, q5', q6'⟩ := hr' i hi'
    rw [haa (by omega), q1'] at q1
    cases q1
    rw [q5'] at q5
    cases q5
    rw [nodeSz_eq, nodeSz_eq, ih q6 q6' rfl]
theorem TL.kok {S : Nat → Prop} {w : World} : ∀ {h : Nat} {v : Value} {l : List NodeD}, TL S w h v l → ∀ a, (kidKey v).1 = some a → S a.block ∧ Still w a.block
  | 0, v, l, ⟨_, a, c, e⟩, x, hx => by
    rw [e, kidKey_zero] at hx
    cases hx
  | h + 1, v, l, ⟨a, c, e, hr⟩, x, hx => by
    cases hl : l.length with
    | zero => rw [e, hl, kidKey_zero] at hx; cases hx
    | succ n =>
      rw [e, hl, kidKey_succ] at hx
      obtain ⟨b, o, u, g1, g2, g3, -⟩ := hr 0 (by omega)
      simp only [] at hx
      rw [hx] at g1
      cases g1
      exact ⟨g2, g3⟩
/-- A list that is being counted. -/
structure Fr where
  v : Value
  l : List NodeD
  at_ : Nat
  sum : Nat
def cK : FlatK Fr := ⟨37, 38, 3, 40, .agg #[.slice none 0 0, .int .i64 0, .int .i64 0], fun f => [f.v, .int .i64 (f.at_ : Int), .int .i64 (f.sum : Int)]⟩
theorem cOk : cK.Ok := ⟨by kernel_rfl, Try.underlying38, by decide, rfl, fun _ => rfl, by decide⟩
/-- A row whose cell is set. -/
theorem FRow.set {D : Type} {F : FlatK D} {w : World} {B g n c : Nat} {l l' : List D} (h : FRow F w B (.slice (some ⟨g, 0, none⟩) n c) l) (o : Nat) (v : Value) (hl : l'.length = l.length) (ha : F.all l' = (F.all l).set o v) : FRow F (w.setCell ⟨g, o, none⟩ v) B (.slice (some ⟨g, 0, none⟩) n c) l' := by
  obtain ⟨h1, h2⟩ := h
  rcases h2 with ⟨e, -⟩ | ⟨g', cap, cur, e, hb, hg, h3, h4, h5, h6⟩
  · cases e
  · cases e
    refine ⟨by rw [ha, List.length_set, hl]; exact h1, .inr ⟨g, c, cur.setIfInBounds o v, by rw [hl], hb, block_set hg v, by rw [hl]; exact h3, h4, by simpa using h5, ?_⟩⟩
    rw [hl, ha, ← h6, Array.toList_setIfInBounds, List.take_set]
/-- The last is dropped. -/
theorem FRow.pop {D : Type} {F : FlatK D} (hF : F.Ok) {w : World} {B g n c : Nat} {l : List D} {x : D} (h : FRow F w B (.slice (some ⟨g, 0, none⟩) (n + 1) c) (l ++ [x])) : FRow F w B (.slice (some ⟨g, 0, none⟩) n c) l := by
  obtain ⟨h1, h2⟩ := h
  rcases h2 with ⟨e, -⟩ | ⟨g', cap, cur, e, hb, hg, h3, h4, h5, h6⟩
  · cases e
  · have hlen : (l ++ [x]).length = l.length + 1 := by simp
    rw [hlen] at e h3 h6
    cases e
    refine ⟨FlatK.all_len hF l, .inr ⟨g, c, cur, rfl, hb, hg, by omega, h4, h5, ?_⟩⟩
    have := congrArg (List.take (l.length * F.sz)) h6
    have hm : min (l.length * F.sz) ((l.length + 1) * F.sz) = l.length * F.sz := Nat.min_eq_left (by rw [Nat.add_mul]; omega)
    rw [List.take_take, hm, FlatK.all_app, List.take_append_of_le_length (by rw [FlatK.all_len hF]; exact Nat.le_refl _), List.take_of_length_le (l := F.all l) (by rw [FlatK.all_len hF]; exact Nat.le_refl _)] at this
    exact this
def OkF (S : Nat → Prop) (w : World) (f : Fr) : Prop := (∃ h, TL S w h f.v f.l) ∧ f.at_ ≤ f.l.length ∧ f.sum = kidsSz (f.l.take f.at_)
/-- u is the list of the kid that p is at. -/
def Link (w : World) (p : Fr) (u : Value) : Prop := p.at_ < p.l.length ∧ ∃ b o n c, p.v = .slice (some ⟨b, o, none⟩) n c ∧ w.cell? ⟨b, o + p.at_ * 5 + 4, none⟩ = some u
/-- The stack, its top first. -/
def Ch (S : Nat → Prop) (w : World) (x : NodeD) : Fr → List Fr → Prop
  | f, [] => OkF S w f ∧ kidsSz f.l ≤ 1048577 ∧ f.l = [x]
  | f, p :: r => OkF S w f ∧ kidsSz f.l + (r.length + 1) ≤ 1048577 ∧ Link w p f.v ∧ kidsSz f.l < kidsSz p.l ∧ Ch S w x p r
theorem Ch.ok {S : Nat → Prop} {w : World} {x : NodeD} : ∀ {f : Fr} {r : List Fr}, Ch S w x f r → OkF S w f
  | _, [], h => h.1
  | _, _ :: _, h => h.1
theorem Ch.bd {S : Nat → Prop} {w : World} {x : NodeD} : ∀ {f : Fr} {r : List Fr}, Ch S w x f r → kidsSz f.l + r.length ≤ 1048577
  | _, [], h => h.2.1
  | _, _ :: _, h => h.2.1
theorem Ch.low {S : Nat → Prop} {w : World} {x : NodeD} : ∀ {f : Fr} {r : List Fr}, Ch S w x f r → ∀ a ∈ f :: r, kidsSz f.l ≤ kidsSz a.l
  | f, [], _, a, ha => by
    rw [List.mem_singleton] at ha
    rw [ha]
    exact Nat.le_refl _
  | f, p :: r, h, a, ha => by
    rcases List.mem_cons.1 ha with rfl | ha
    · exact Nat.le_refl _
    · have := h.2.2.2.2.low a ha
      have := h.2.2.2.1
      omega
theorem Ch.oks {S : Nat → Prop} {w : World} {x : NodeD} : ∀ {f : Fr} {r : List Fr}, Ch S w x f r → ∀ a ∈ f :: r, OkF S w a
  | f, [], h, a, ha => by
    rw [List.mem_singleton] at ha
    rw [ha]
    exact h.1
  | f, p :: r, h, a, ha => by
    rcases List.mem_cons.1 ha with rfl | ha
    · exact h.1
    · exact h.2.2.2.2.oks a ha
theorem Ch.turn {S : Nat → Prop} {w : World} {x : NodeD} {f f' : Fr} (hv : f'.v = f.v) (hl : f'.l = f.l) (ho : OkF S w f') : ∀ {r : List Fr}, Ch S w x f r → Ch S w x f' r
  | [], h => ⟨ho, by rw [hl]; exact h.2.1, by rw [hl]; exact h.2.2⟩
  | p :: r, h => ⟨ho, by rw [hl]; exact h.2.1, by rw [hv]; exact h.2.2.1, by rw [hl]; exact h.2.2.2.1, h.2.2.2.2⟩
/-- What the map tells: a list's size; or the list is on the stack. -/
def MI (S : Nat → Prop) (w : World) (M : KL) (st : List Fr) : Prop := ∀ k c, mget M k = some c → (∃ h v l, TL S w h v l ∧ kidKey v = k ∧ c = (kidsSz l : Int)) ∨ ∃ a ∈ st, kidKey a.v = k
/-- How many rounds are to come: of what lies below the top .. -/
noncomputable def low : List Fr → Nat
  | [] => 0
  | p :: r => 2 + 3 * kidsSz (p.l.drop (p.at_ + 1)) + low r
/-- .. and of the top. -/
def Top (w : World) (M : KL) (f : Fr) (T : Nat) : Prop := T = 3 * kidsSz (f.l.drop f.at_) + 1 ∨ (T = 2 + 3 * kidsSz (f.l.drop (f.at_ + 1)) ∧ ∃ u, Link w f u ∧ (mget M (kidKey u)).isSome = true)
theorem kidsSz_drop (l : List NodeD) {k : Nat} (h : k < l.length) : kidsSz (l.drop k) = nodeSz l[k] + kidsSz (l.drop (k + 1)) := by
  rw [List.drop_eq_getElem_cons h, kidsSz_cons]
theorem kidsSz_drop_le (l : List NodeD) (k : Nat) : kidsSz (l.drop k) ≤ kidsSz l := by
  have := kidsSz_app (l.take k) (l.drop k)
  rw [List.take_append_drop] at this
  omega
/-- What the walk keeps of memory. -/
structure WI (S : Nat → Prop) (w wr : World) (bm base : Nat) (s : Value) (fs : List Fr) (M : KL) : Prop where
  row : FRow cK wr base s fs
  cm : CM wr bm M
  ks : ∀ x ∈ M, ∀ a, x.1.1 = some a → S a.block
  keep : ∀ k, S k → wr.heap[k]? = w.heap[k]?
  size : w.heap.size ≤ wr.heap.size
  os : wr.os = w.os
  tape : wr.tape = w.tape
  output : wr.output = w.output
theorem WI.below {S : Nat → Prop} {w wr w' : World} {bm base : Nat} {s : Value} {fs : List Fr} {M : KL} (h : WI S w wr bm base s fs M) (hS : ∀ k, S k → k < w.heap.size) (b : Below wr.heap.size wr w') : WI S w w' bm base s fs M :=
  ⟨h.row.on b, h.cm.on (b.block _ h.cm.lt) fun k ⟨x, hx, a, ha, e⟩ => b.block k (by have := hS _ (h.ks x hx a ha); have := h.size; omega), h.ks, fun k hk => (b.block k (by have := hS k hk; have := h.size; omega)).trans (h.keep k hk), Nat.le_trans h.size b.size, b.os.trans h.os, b.tape.trans h.tape, b.output.trans h.output⟩
theorem WI.drew {S : Nat → Prop} {w wr : World} {bm base : Nat} {s : Value} {fs : List Fr} {M : KL} (h : WI S w wr bm base s fs M) (hS : ∀ k, S k → k < w.heap.size) : WI S w wr.drew bm base s fs M := h.below hS (Below.refl _ _).drew
theorem WI.put {S : Nat → Prop} {w wr w' : World} {bm base : Nat} {s : Value} {fs : List Fr} {M : KL} (h : WI S w wr bm base s fs M) (hS : ∀ k, S k → k < w.heap.size) (hbm : ¬ S bm) (hbb : bm < base) {k : Option Addr × Nat} {c : Int} (hk : ∀ a, k.1 = some a → S a.block) (hc : CM w' bm (mput M k c)) (hg : wr.grownBy w' (some bm)) : WI S w w' bm base s fs (mput M k c) :=
  ⟨h.row.of_heap fun j hj hj2 _ => hg.block j hj2 (fun e => by cases e; omega), hc, mput_mem (P := fun q => ∀ a, q.1 = some a → S a.block) h.ks hk, fun j hj => (hg.block j (by have := hS j hj; have := h.size; omega) (fun e => by cases e; exact hbm hj)).trans (h.keep j hj), Nat.le_trans h.size hg.size, hg.os.trans h.os, hg.tape.trans h.tape, hg.output.trans h.output⟩
/-- The stack's block alone has turned. -/
theorem WI.stack {S : Nat → Prop} {w wr w' : World} {bm base g : Nat} {s s' : Value} {fs fs' : List Fr} {M : KL} (h : WI S w wr bm base s fs M) (hS : ∀ k, S k → k < w.heap.size ∧ k < base) (hbb : bm < base) (hg : base ≤ g) (hr : FRow cK w' base s' fs') (hw : wr.grownBy w' (some g)) : WI S w w' bm base s' fs' M :=
  have hkey : ∀ j, j < base → j < wr.heap.size → w'.heap[j]? = wr.heap[j]? := fun j hj hj2 => hw.block j hj2 (fun e => by cases e; omega)
  ⟨hr, h.cm.on (hkey _ hbb h.cm.lt) fun k ⟨x, hx, a, ha, e⟩ => hkey k (by have := hS _ (h.ks x hx a ha); omega) (by have := hS _ (h.ks x hx a ha); have := h.size; omega), h.ks, fun j hj => (hkey j (hS j hj).2 (by have := hS j hj; have := h.size; omega)).trans (h.keep j hj), Nat.le_trans h.size hw.size, hw.os.trans h.os, hw.tape.trans h.tape, hw.output.trans h.output⟩
end Go.Proofs.Ytgebonbmiapfoaa
