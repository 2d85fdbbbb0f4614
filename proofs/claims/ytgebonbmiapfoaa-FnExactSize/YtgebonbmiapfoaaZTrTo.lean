/- The law's copy of a tree. No condition. -/
import Derived.Test.YtgebonbmiapfoaaZTrD
namespace Go.Proofs.Ytgebonbmiapfoaa
open Go.ChangeShapes Go.WideShapes Go.ChangeAt Go.RowKit Go.Deep

/-- The law's copy of a tree. -/
def ToN (h : Nat) : Prop := ∀ (v : Value) (m : Md) (x : NodeD) (w : World), kidsSz x.kids ≤ 1048576 → NodeVal h w m v x → m.hi ≤ w.heap.size →
    Calls Try.prog 6 #[v] w fun e w' => (∃ u, e = .returned u ∧ Hid (NodeVal h w' ⟨w.heap.size, w'.heap.size, true⟩ u x)) ∧ Below w.heap.size w w'
def ToNS (h : Nat) : Prop := ∀ (v : Value) (m : Md) (l : List NodeD) (w : World), kidsSz l ≤ 1048576 → SlAt (NodeAt h) 5 w m v l → m.hi ≤ w.heap.size →
    Calls Try.prog 11 #[v] w fun e w' => (∃ u, e = .returned u ∧ Hid (SlAt (NodeAt h) 5 w' ⟨w.heap.size, w'.heap.size, true⟩ u l)) ∧ Below w.heap.size w w'
set_option maxHeartbeats 4000000 in
theorem toNode_of (h : Nat) (hS : ToNS h) : ToN h := by
  intro v m x w hs hv hm
  obtain ⟨u4, rfl, hb, s4⟩ := hv
  have HS4 := hide s4
  obtain ⟨p4, c4, rfl, -⟩ := s4
  have HB := hide hb
  have sm4 := hs
  clear hb
  go_enter Try.func6, Try.ntmps6
  go_wp2_with fail
  refine (hS (.slice p4 x.kids.length c4) m x.kids _ sm4 (HS4.out.on (NodeAt.stays h) (Below.mono ((((Below.refl _ _).alloc (Nat.le_refl _) _).alloc (by simp) _).alloc (by first | omega | (simp <;> omega)) _) hm)) (Nat.le_trans hm (Below.size ((((Below.refl _ _).alloc (Nat.le_refl _) _).alloc (by simp) _).alloc (by first | omega | (simp <;> omega)) _)))).mono ?_
  rintro e w4' ⟨⟨r4, rfl, hr4⟩, bel4⟩
  obtain ⟨q4, k4, rfl, -⟩ := id hr4.out
  have z4 : w.heap.size + 3 ≤ w4'.heap.size := Nat.le_trans (by simp) bel4.size
  obtain ⟨hc4, hf4⟩ := bcell bel4
  have m4_0 := fun o => hc4 (w.heap.size) o (by first | omega | (simp <;> omega))
  have n4_0 := fun o => hf4 (w.heap.size) o (by first | omega | (simp <;> omega))
  have m4_1 := fun o => hc4 (w.heap.size + 1) o (by first | omega | (simp <;> omega))
  have n4_1 := fun o => hf4 (w.heap.size + 1) o (by first | omega | (simp <;> omega))
  have m4_2 := fun o => hc4 (w.heap.size + 2) o (by first | omega | (simp <;> omega))
  have n4_2 := fun o => hf4 (w.heap.size + 2) o (by first | omega | (simp <;> omega))
  clear hc4 hf4
  go_wp2
  refine bodyPost_ret (v := .agg #[.int .i64 (x.kind), .int .i64 (x.n), .string (x.name), .string (x.of), .slice q4 x.kids.length k4]) (by simp [results, Try.results6, go_sem, m4_1]) rfl ⟨⟨_, rfl, hide ⟨_, rfl, HB.out, ?_⟩⟩, ?_⟩
  · refine (hr4.out.same (NodeAt.stays h) ?_).wid (NodeAt.widens h) (by first | omega | (simp <;> omega)) (by first | omega | (simp <;> omega)) rfl
    repeat (refine Same.setCell ?_ (by first | omega | (simp <;> omega)) _)
    exact Same.refl _ _ _
  · repeat (refine Below.setCell ?_ (by first | omega | (simp <;> omega)) _)
    refine Below.trans ?_ (bel4.mono (B' := w.heap.size) (by first | omega | (simp <;> omega)))
    repeat (refine Below.setCell ?_ (by first | omega | (simp <;> omega)) _)
    exact (((Below.refl _ _).alloc (Nat.le_refl _) _).alloc (by simp) _).alloc (by first | omega | (simp <;> omega)) _
set_option maxHeartbeats 4000000 in
theorem toNodeS_of (h : Nat) (ih : ∀ k, h = k + 1 → ToN k) : ToNS h := by
  intro v m l w hsz' hv hm
  have hn : l.length ≤ 1048576 := Nat.le_trans (kidsSz_len l) hsz'
  have hsn : ∀ x ∈ l, kidsSz x.kids ≤ 1048576 := fun x hx => by
    have := kidsSz_mem hx
    rw [nodeSz_eq] at this
    omega
  have HS := hide hv
  have HSN := hide hsn
  obtain ⟨a, c, rfl, -⟩ := hv
  obtain ⟨n, hl⟩ : ∃ n, l.length = n := ⟨_, rfl⟩
  have HN := hide hl
  rw [hl] at hn ⊢
  clear hl hsn hsz'
  have hmk := run_make_many (P := Try.prog) 27 29 (.agg #[.int .i64 0, .int .i64 0, .string ⟨#[]⟩, .string ⟨#[]⟩, .slice none 0 0]) 5 72 Try.underlying27 (by kernel_rfl) n (by omega) (by omega)
  go_enter Try.func11, Try.ntmps11
  go_wp2
  go_loopw [4] (fun i wr => ∃ (k : Nat) (C : Array Value), i = .int .i64 k ∧ k ≤ n ∧ wr.heap[w.heap.size]? = some (.cells C 29 (0, 0)) ∧ C.size = n * 5 ∧ Hid (∀ i (hlt : i < l.length), i < k → NodeAt h (fun j => C[i * 5 + j]?) wr ⟨w.heap.size + 1, wr.heap.size, true⟩ l[i]) ∧ Below w.heap.size w wr) (fun i _ => n - (intOf i).toNat)
  case atStart => exact ⟨0, _, rfl, by omega, Deep.blk_alloc_new _ _, size_madeCells _ _, hide (fun i _ hi => absurd hi (by omega)), (Below.refl _ _).alloc (Nat.le_refl _) _⟩
  case round =>
    obtain ⟨k, C, rfl, hk, hC, hsz, Hs, hbw⟩ := hrel
    by_cases hp : k < n
    · have i1 : (k : Int) < n := by omega
      obtain ⟨x, hx⟩ : ∃ x, l[k]'(by rw [HN.out]; exact hp) = x := ⟨_, rfl⟩
      obtain ⟨a', c', e', hrows⟩ := HS.out.on (NodeAt.stays h) (hbw.mono hm)
      cases e'
      obtain ⟨b, o, rfl, hb1, hb2, -, he⟩ := hrows k (by rw [HN.out]; exact hp)
      have HX := hide hx
      rw [hx] at he
      clear hx hrows
      rcases h with _ | h
      · exact he.elim
      obtain ⟨⟨d0, d1, d2, d3⟩, hbd, u4, d4, s4⟩ := he
      have HVal := hide (show NodeVal h _ _ (.agg #[.int .i64 (x.kind), .int .i64 (x.n), .string (x.name), .string (x.of), u4]) x from ⟨u4, rfl, hbd, s4⟩)
      obtain ⟨p4, c4, rfl, -⟩ := s4
      simp only [Nat.add_zero] at d0 d1 d2 d3 d4
      clear hbd
      have HC := hide hC
      clear hC
      go_wp2_with fail
      refine (ih h rfl _ (m.inner b) x wr (HSN.out x (by rw [← HX.out]; exact List.getElem_mem _)) HVal.out (by rw [Md.inner_hi]; exact Nat.le_trans hm hbw.size)).mono ?_
      rintro e w1 ⟨⟨u, rfl, hu⟩, bel⟩
      obtain ⟨u4r, rfl, hbr, s4r⟩ := id hu.out
      have HSr4 := hide s4r
      obtain ⟨p4r, c4r, rfl, -⟩ := s4r
      have HBr := hide hbr
      have hC1 := (bel.block w.heap.size (Array.getElem?_eq_some_iff.1 HC.out).1).trans HC.out
      obtain ⟨s1, s2⟩ := heapCells hC1
      obtain ⟨y0, g0⟩ : ∃ y, w1.cell? ⟨w.heap.size, k * 5, none⟩ = some y := by rw [s1]; exact ⟨_, Array.getElem?_eq_getElem (by omega)⟩
      have f0 := s2 (k * 5)
      obtain ⟨y1, g1⟩ : ∃ y, w1.cell? ⟨w.heap.size, k * 5 + 1, none⟩ = some y := by rw [s1]; exact ⟨_, Array.getElem?_eq_getElem (by omega)⟩
      have f1 := s2 (k * 5 + 1)
      obtain ⟨y2, g2⟩ : ∃ y, w1.cell? ⟨w.heap.size, k * 5 + 2, none⟩ = some y := by rw [s1]; exact ⟨_, Array.getElem?_eq_getElem (by omega)⟩
      have f2 := s2 (k * 5 + 2)
      obtain ⟨y3, g3⟩ : ∃ y, w1.cell? ⟨w.heap.size, k * 5 + 3, none⟩ = some y := by rw [s1]; exact ⟨_, Array.getElem?_eq_getElem (by omega)⟩
      have f3 := s2 (k * 5 + 3)
      obtain ⟨y4, g4⟩ : ∃ y, w1.cell? ⟨w.heap.size, k * 5 + 4, none⟩ = some y := by rw [s1]; exact ⟨_, Array.getElem?_eq_getElem (by omega)⟩
      have f4 := s2 (k * 5 + 4)
      have HC1 := hide hC1
      clear s1 s2 hC1 hbr hu
      go_wp2
      go_roundw
      case rel =>
        have hbw1 := hbw.trans (bel.mono hbw.size)
        exact ⟨k + 1, _, by go_num, by omega, setRow_heap (o := k * 5) [.int .i64 (x.kind), .int .i64 (x.n), .string (x.name), .string (x.of), .slice p4r x.kids.length c4r] HC1.out, by rw [putRow_size]; exact hsz,
          hide (rows_step (NodeAt.loc _) (NodeAt.stays _) (NodeAt.widens _) rfl (by rw [HN.out]; exact hp) HX.out (by rw [HN.out]; omega) Hs.out bel ⟨⟨rfl, rfl, rfl, rfl⟩, HBr.out, _, rfl, HSr4.out.wid (NodeAt.widens h) (by show w.heap.size + 1 ≤ wr.heap.size; have := (Array.getElem?_eq_some_iff.1 HC.out).1; omega) (Nat.le_refl _) rfl⟩), setRow_below [.int .i64 (x.kind), .int .i64 (x.n), .string (x.name), .string (x.of), .slice p4r x.kids.length c4r] hbw1 (Nat.le_refl _)⟩
      case measure => simp [intOf]; omega
    · have i1 : ¬ (k : Int) < n := by omega
      go_wp2
      go_ret
      refine ⟨⟨_, rfl, ?_⟩, hbw⟩
      have := SlAt.of_row (E := NodeAt h) (m := ⟨w.heap.size, wr.heap.size, true⟩) (c := n) (l := l) hC (Nat.le_refl _) (Array.getElem?_eq_some_iff.1 hC).1 (by rw [HN.out]; exact Nat.le_refl _) (fun i h => Hs.out i h (by have := HN.out; omega))
      rw [HN.out] at this
      exact hide this
theorem toNode_any : ∀ h, ToN h
  | 0 => toNode_of 0 (toNodeS_of 0 fun k e => by cases e)
  | h + 1 => toNode_of (h + 1) (toNodeS_of (h + 1) fun k e => by cases e; exact toNode_any h)
theorem toNodeS_any (h : Nat) : ToNS h := toNodeS_of h fun k _ => toNode_any k
end Go.Proofs.Ytgebonbmiapfoaa
