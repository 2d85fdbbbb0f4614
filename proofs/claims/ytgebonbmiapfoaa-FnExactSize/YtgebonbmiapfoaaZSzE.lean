/- The program's Size: what each round hands on. No condition. -/
import Derived.Test.YtgebonbmiapfoaaZSzD
namespace Go.Proofs.Ytgebonbmiapfoaa
open Go.ChangeShapes Go.WideShapes Go.ChangeAt Go.RowKit Go.Deep

theorem TL.kid {S : Nat → Prop} {w : World} {h : Nat} {v : Value} {l : List NodeD} (t : TL S w h v l) {i : Nat} (hi : i < l.length) :
    ∃ b o c u h', v = .slice (some ⟨b, o, none⟩) l.length c ∧ S b ∧ l.length ≤ c ∧ w.cell? ⟨b, o + i * 5 + 4, none⟩ = some u ∧ TL S w h' u l[i].kids := by
  rcases h with _ | h
  · rw [t.1] at hi
    simp at hi
  · obtain ⟨a, c, e, hr⟩ := t
    obtain ⟨b, o, u, q1, q2, -, q4, q5, q6⟩ := hr i hi
    subst q1
    exact ⟨b, o, c, u, h, e, q2, q4, q5, q6⟩
theorem listOf_at {S : Nat → Prop} {h : Nat} {w0 : World} {a : Option Addr} {n c : Nat} {l : List NodeD} (w : World) (hl : l.length = n) (hn : n ≤ 1048577) (t : TL S w0 h (.slice a n c) l) :
    Calls Try.prog 12 #[.slice a n c] w fun e w' => e = .returned (KK (kidKey (.slice a n c))) ∧ Below w.heap.size w w' := by
  by_cases h0 : n = 0
  · subst h0
    clear t hl
    go_enter Try.func12, Try.ntmps12
    go_wp2
    refine bodyPost_ret (v := .agg #[.pointer none, .int .i64 0]) (by simp [results, Try.results12, go_sem]) rfl ⟨rfl, ?_⟩
    repeat (refine Below.setCell ?_ (by simp <;> omega) _)
    exact (Below.refl _ _).alloc (Nat.le_refl _) _
  · obtain ⟨b, o, c', u, h', e, -⟩ := t.kid (i := 0) (by omega)
    rw [hl] at e
    cases e
    obtain ⟨n, rfl⟩ : ∃ k, n = k + 1 := ⟨n - 1, by omega⟩
    have i0 : ¬ ((n + 1 : Nat) : Int) = 0 := by omega
    have i1 : (0 : Int) < ((n + 1 : Nat) : Int) := by omega
    clear t hl h0
    go_enter Try.func12, Try.ntmps12
    go_wp2
    refine bodyPost_ret (v := .agg #[.pointer (some ⟨b, o, none⟩), .int .i64 ((n + 1 : Nat) : Int)]) (by simp [results, Try.results12, go_sem]) rfl ⟨rfl, ?_⟩
    repeat (refine Below.setCell ?_ (by simp <;> omega) _)
    exact (Below.refl _ _).alloc (Nat.le_refl _) _
theorem WI.kok {S : Nat → Prop} {w wr : World} {bm base h : Nat} {s v : Value} {fs : List Fr} {M : KL} {l : List NodeD} (k : WI S w wr bm base s fs M) (t : TL S w h v l) : KOk wr (kidKey v) :=
  fun a ha => (t.kok a ha).2.of_heap (k.keep _ (t.kok a ha).1)
/-- The rows that the walk reads: what was there, and the row of the tree itself. -/
def SB (B k : Nat) : Prop := k < B ∨ k = B + 1 + 1
/-- The walk's relation. -/
def SR (w w1 : World) (x : NodeD) (gk : Nat) (s : Value) (wr : World) : Prop :=
  ∃ (f : Fr) (r : List Fr) (M : KL) (T : Nat), Hid (WI (SB w.heap.size) w1 wr (w.heap.size + 1) (w.heap.size + 1 + 1 + 1) s (r.reverse ++ [f]) M) ∧ Hid (Ch (SB w.heap.size) w1 x f r) ∧ Hid (MI (SB w.heap.size) w1 M (f :: r)) ∧ Hid (Top w1 M f T) ∧ Hid (low r + T ≤ gk)
theorem SB.lt {B sz : Nat} (h : sz = B + 1 + 1 + 1 + 1) : ∀ k, SB B k → k < sz ∧ k < B + 1 + 1 + 1 := fun k hk => by
  unfold SB at hk
  omega
theorem SB.not {B : Nat} : ¬ SB B (B + 1) := fun hk => by
  unfold SB at hk
  omega
theorem Top.pos {w : World} {M : KL} {f : Fr} {T : Nat} (h : Top w M f T) : 1 ≤ T := by
  rcases h with h | ⟨h, -⟩ <;> omega
/-- A list has been counted. -/
theorem SR.pop {w w1 wr w5 w9 : World} {x : NodeD} {gk g n cap T : Nat} {f p : Fr} {r : List Fr} {M : KL} (hs : w1.heap.size = w.heap.size + 1 + 1 + 1 + 1)
    (hw : WI (SB w.heap.size) w1 wr (w.heap.size + 1) (w.heap.size + 1 + 1 + 1) (.slice (some ⟨g, 0, none⟩) (n + 1) cap) ((p :: r).reverse ++ [f]) M) (hc : Ch (SB w.heap.size) w1 x f (p :: r)) (hm : MI (SB w.heap.size) w1 M (f :: p :: r)) (ht : Top w1 M f T) (hg : low (p :: r) + T ≤ gk)
    (he : f.at_ = f.l.length) (b5 : Below wr.heap.size wr w5) (h9 : CM w9 (w.heap.size + 1) (mput M (kidKey f.v) (f.sum : Int))) (g9 : w5.grownBy w9 (some (w.heap.size + 1))) :
    low (p :: r) < gk ∧ SR w w1 x (low (p :: r)) (.slice (some ⟨g, 0, none⟩) n cap) w9 := by
  have hp := ht.pos
  obtain ⟨⟨hh, htl⟩, hat, hsum⟩ := hc.ok
  rw [he, List.take_of_length_le (Nat.le_refl _)] at hsum
  refine ⟨by omega, p, r, mput M (kidKey f.v) (f.sum : Int), 2 + 3 * kidsSz (p.l.drop (p.at_ + 1)), hide ?_, hide hc.2.2.2.2, hide ?_, hide (.inr ⟨rfl, f.v, hc.2.2.1, by rw [mget_put, if_pos rfl]; rfl⟩), hide (by show _ ≤ 2 + 3 * kidsSz (p.l.drop (p.at_ + 1)) + low r; omega)⟩
  · have h1 := (hw.below (fun k hk => (SB.lt hs k hk).1) b5).put (fun k hk => (SB.lt hs k hk).1) SB.not (by omega) (fun a ha => (htl.kok a ha).1) h9 g9
    have hr : FRow cK w9 (w.heap.size + 1 + 1 + 1) (.slice (some ⟨g, 0, none⟩) n cap) (r.reverse ++ [p]) := FRow.pop cOk (x := f) (by have := h1.row; rw [List.reverse_cons] at this; exact this)
    exact ⟨hr, h1.cm, h1.ks, h1.keep, h1.size, h1.os, h1.tape, h1.output⟩
  · intro k c hk
    rw [mget_put] at hk
    by_cases e : k = kidKey f.v
    · rw [if_pos e] at hk
      cases hk
      exact .inl ⟨hh, f.v, f.l, htl, e.symm, by rw [hsum]⟩
    · rw [if_neg e] at hk
      rcases hm k c hk with h | ⟨a, ha, hak⟩
      · exact .inl h
      · rcases List.mem_cons.1 ha with rfl | ha
        · exact absurd hak.symm e
        · exact .inr ⟨a, ha, hak⟩
/-- What the map tells of the kid at hand is its list's size. -/
theorem met_size {S : Nat → Prop} {w : World} {x : NodeD} {f : Fr} {r : List Fr} {M : KL} {u : Value} {h : Nat} {c : Int} (hc : Ch S w x f r) (hm : MI S w M (f :: r)) (hi : f.at_ < f.l.length) (ht : TL S w h u f.l[f.at_].kids) (hg : mget M (kidKey u) = some c) : c = (kidsSz f.l[f.at_].kids : Int) := by
  rcases hm _ _ hg with ⟨h', v, l, t, e, rfl⟩ | ⟨a, ha, e⟩
  · rw [TL.same_key h' t ht e]
  · obtain ⟨⟨h', t⟩, -⟩ := hc.oks a ha
    have h1 := TL.same_key h' t ht e
    have h2 := hc.low a ha
    have h3 := kidsSz_mem (List.getElem_mem hi)
    rw [nodeSz_eq] at h3
    omega
/-- A list is met for the first time. -/
theorem SR.push {w w1 wr w5 w9 w8 w10 : World} {x : NodeD} {gk g h T : Nat} {f : Fr} {r : List Fr} {M : KL} {u s s' : Value} (hs : w1.heap.size = w.heap.size + 1 + 1 + 1 + 1)
    (hw : WI (SB w.heap.size) w1 wr (w.heap.size + 1) (w.heap.size + 1 + 1 + 1) s (r.reverse ++ [f]) M) (hc : Ch (SB w.heap.size) w1 x f r) (hm : MI (SB w.heap.size) w1 M (f :: r)) (ht : Top w1 M f T) (hg : low r + T ≤ gk)
    (hi : f.at_ < f.l.length) (hk : TL (SB w.heap.size) w1 h u f.l[f.at_].kids) (hlk : Link w1 f u) (hun : ∀ u', Link w1 f u' → u' = u) (hno : mget M (kidKey u) = none) (c : Int)
    (b5 : Below wr.heap.size wr w5) (h9 : CM w9 (w.heap.size + 1) (mput M (kidKey u) c)) (g9 : w5.grownBy w9 (some (w.heap.size + 1))) (b8 : Below w9.heap.size w9 w8)
    (hgb : w.heap.size + 1 + 1 + 1 ≤ g) (h10 : FRow cK w10 (w.heap.size + 1 + 1 + 1) s' ((r.reverse ++ [f]) ++ [⟨u, f.l[f.at_].kids, 0, 0⟩])) (g10 : w8.grownBy w10 (some g)) :
    ∃ gk', gk' < gk ∧ SR w w1 x gk' s' w10 := by
  obtain ⟨⟨hh, htl⟩, hat, hsum⟩ := hc.ok
  have hT : T = 3 * kidsSz (f.l.drop f.at_) + 1 := by
    rcases ht with e | ⟨-, u', hl', hs'⟩
    · exact e
    · rw [hun u' hl', hno] at hs'
      cases hs'
  have hd := kidsSz_drop f.l hi
  rw [nodeSz_eq] at hd
  have h3 := kidsSz_mem (List.getElem_mem hi)
  rw [nodeSz_eq] at h3
  have hbd := hc.bd
  refine ⟨low (f :: r) + (3 * kidsSz f.l[f.at_].kids + 1), ?_, ⟨u, f.l[f.at_].kids, 0, 0⟩, f :: r, mput M (kidKey u) c, 3 * kidsSz f.l[f.at_].kids + 1, hide ?_, hide ⟨⟨⟨h, hk⟩, Nat.zero_le _, by rw [List.take_zero, kidsSz_nil]⟩, ?_, hlk, ?_, hc⟩, hide ?_, hide (.inl rfl), hide (Nat.le_refl _)⟩
  · show 2 + 3 * kidsSz (f.l.drop (f.at_ + 1)) + low r + (3 * kidsSz f.l[f.at_].kids + 1) < gk
    omega
  · have h1 := (hw.below (fun k hk => (SB.lt hs k hk).1) b5).put (fun k hk => (SB.lt hs k hk).1) SB.not (by omega) (fun a ha => (hk.kok a ha).1) h9 g9
    have h2 := (h1.below (fun k hk => (SB.lt hs k hk).1) b8).stack (SB.lt hs) (by omega) hgb h10 g10
    rw [List.reverse_cons]
    exact h2
  · show kidsSz f.l[f.at_].kids + (r.length + 1) ≤ 1048577
    omega
  · show kidsSz f.l[f.at_].kids < kidsSz f.l
    omega
  · intro k d hkd
    rw [mget_put] at hkd
    by_cases e : k = kidKey u
    · exact .inr ⟨⟨u, f.l[f.at_].kids, 0, 0⟩, List.mem_cons_self .., e.symm⟩
    · rw [if_neg e] at hkd
      rcases hm k d hkd with h | ⟨a, ha, hak⟩
      · exact .inl h
      · exact .inr ⟨a, List.mem_cons_of_mem _ ha, hak⟩
/-- A kid is counted. -/
theorem SR.count {w w1 wr w5 : World} {x : NodeD} {gk g n cap T : Nat} {f : Fr} {r : List Fr} {M : KL} (hs : w1.heap.size = w.heap.size + 1 + 1 + 1 + 1)
    (hw : WI (SB w.heap.size) w1 wr (w.heap.size + 1) (w.heap.size + 1 + 1 + 1) (.slice (some ⟨g, 0, none⟩) n cap) (r.reverse ++ [f]) M) (hc : Ch (SB w.heap.size) w1 x f r) (hm : MI (SB w.heap.size) w1 M (f :: r)) (ht : Top w1 M f T) (hg : low r + T ≤ gk)
    (hi : f.at_ < f.l.length) (b5 : Below wr.heap.size wr w5) (hgb : w.heap.size + 1 + 1 + 1 ≤ g) (L : Nat) (hL : r.length = L) :
    ∃ gk', gk' < gk ∧ SR w w1 x gk' (.slice (some ⟨g, 0, none⟩) n cap) ((w5.setCell ⟨g, L * 3 + 2, none⟩ (.int .i64 ((f.sum : Int) + (1 + (kidsSz f.l[f.at_].kids : Int))))).setCell ⟨g, L * 3 + 1, none⟩ (.int .i64 ((f.at_ : Int) + 1))) := by
  obtain ⟨⟨hh, htl⟩, hat, hsum⟩ := hc.ok
  have hd := kidsSz_drop f.l hi
  rw [nodeSz_eq] at hd
  have htk := kidsSz_take f.l hi
  rw [nodeSz_eq] at htk
  have hlt : low r + (3 * kidsSz (f.l.drop (f.at_ + 1)) + 1) < gk := by
    rcases ht with e | ⟨e, -⟩ <;> omega
  refine ⟨low r + (3 * kidsSz (f.l.drop (f.at_ + 1)) + 1), hlt, ⟨f.v, f.l, f.at_ + 1, f.sum + 1 + kidsSz f.l[f.at_].kids⟩, r, M, 3 * kidsSz (f.l.drop (f.at_ + 1)) + 1, hide ?_, hide (Ch.turn (f := f) (f' := ⟨f.v, f.l, f.at_ + 1, f.sum + 1 + kidsSz f.l[f.at_].kids⟩) rfl rfl ⟨⟨hh, htl⟩, hi, by show f.sum + 1 + kidsSz f.l[f.at_].kids = kidsSz (f.l.take (f.at_ + 1)); omega⟩ hc), hide ?_, hide (.inl rfl), hide (Nat.le_refl _)⟩
  · have h1 := hw.below (fun k hk => (SB.lt hs k hk).1) b5
    have hal : ∀ f' : Fr, cK.all (r.reverse ++ [f']) = cK.all r.reverse ++ cK.cs f' := fun f' => by
      rw [FlatK.all_app]
      rfl
    have hrl : (cK.all r.reverse).length = L * 3 := by rw [FlatK.all_len cOk, List.length_reverse, hL]; rfl
    have r1 : FRow cK (w5.setCell ⟨g, L * 3 + 2, none⟩ (.int .i64 ((f.sum : Int) + (1 + (kidsSz f.l[f.at_].kids : Int))))) (w.heap.size + 1 + 1 + 1) (.slice (some ⟨g, 0, none⟩) n cap) (r.reverse ++ [⟨f.v, f.l, f.at_, f.sum + 1 + kidsSz f.l[f.at_].kids⟩]) := by
      refine h1.row.set _ _ (by simp) ?_
      rw [hal, hal, List.set_append, if_neg (by omega), hrl, Nat.add_sub_cancel_left]
      congr 1
      show [f.v, .int .i64 (f.at_ : Int), .int .i64 ((f.sum + 1 + kidsSz f.l[f.at_].kids : Nat) : Int)] = [f.v, .int .i64 (f.at_ : Int), .int .i64 ((f.sum : Int) + (1 + (kidsSz f.l[f.at_].kids : Int)))]
      rw [show ((f.sum + 1 + kidsSz f.l[f.at_].kids : Nat) : Int) = (f.sum : Int) + (1 + (kidsSz f.l[f.at_].kids : Int)) by omega]
    have r2 : FRow cK ((w5.setCell ⟨g, L * 3 + 2, none⟩ (.int .i64 ((f.sum : Int) + (1 + (kidsSz f.l[f.at_].kids : Int))))).setCell ⟨g, L * 3 + 1, none⟩ (.int .i64 ((f.at_ : Int) + 1))) (w.heap.size + 1 + 1 + 1) (.slice (some ⟨g, 0, none⟩) n cap) (r.reverse ++ [⟨f.v, f.l, f.at_ + 1, f.sum + 1 + kidsSz f.l[f.at_].kids⟩]) := by
      refine r1.set _ _ (by simp) ?_
      rw [hal, hal, List.set_append, if_neg (by omega), hrl, Nat.add_sub_cancel_left]
      rfl
    refine h1.stack (SB.lt hs) (by omega) hgb r2 ⟨rfl, rfl, rfl, by simp [World.setCell], fun k _ hk => ?_⟩
    have hne : k ≠ g := fun e => hk (by rw [e])
    rw [Below.heap_setCell _ _ _ _ hne, Below.heap_setCell _ _ _ _ hne]
  · intro k c hk
    rcases hm k c hk with h | ⟨a, ha, hak⟩
    · exact .inl h
    · rcases List.mem_cons.1 ha with rfl | ha
      · exact .inr ⟨_, List.mem_cons_self .., hak⟩
      · exact .inr ⟨a, List.mem_cons_of_mem _ ha, hak⟩
end Go.Proofs.Ytgebonbmiapfoaa
