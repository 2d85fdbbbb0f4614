/- The law's own copies of an interface: a copy holds what the argument holds, in memory of its own. No condition. -/
import Derived.Test.YtoomnimbokbadaaDoorZFacSz
namespace Go.Proofs.YtoomnimbokbadaaDoor
open Go.RowKit

theorem toParam_any (a : Int) (t : Bool) (w : World) : Calls Tryd.prog 85 #[.agg #[.int .i64 a, .bool t]] w fun e w' => e = .returned (.agg #[.int .i64 a, .bool t]) ∧ Below w.heap.size w w' := by
  go_enter Tryd.func85, Tryd.ntmps85
  go_wp2
  refine bodyPost_ret (v := .agg #[.int .i64 a, .bool t]) (by simp [results, Tryd.results85, go_sem]) rfl ⟨rfl, ?_⟩
  exact (((Below.refl _ _).alloc (Nat.le_refl _) _).alloc (by simp) _).alloc (by simp; omega) _
set_option maxHeartbeats 1000000 in
theorem toParamS_any (v : Value) (m : Md) (l : List Prm) (w : World) (hn : l.length ≤ 1048576) (h : SlAt PrmAt 2 w m v l) (hm : m.hi ≤ w.heap.size) :
    Calls Tryd.prog 78 #[v] w fun e w' => (∃ u, e = .returned u ∧ SlAt PrmAt 2 w' ⟨w.heap.size, w'.heap.size, true⟩ u l) ∧ Below w.heap.size w w' := by
  obtain ⟨a, c, rfl, h⟩ := h
  have H : Hid (∀ i (h : i < l.length), ∃ b o, a = some ⟨b, o, none⟩ ∧ (m.lo ≤ b ∧ l.length ≤ c) ∧ b < m.hi ∧ (m.made = true → ∀ j, w.frozen? ⟨b, j, none⟩ = false) ∧ PrmAt (fun j => w.cell? ⟨b, o + i * 2 + j, none⟩) w (m.inner b) l[i]) := h
  obtain ⟨n, hl⟩ : ∃ n, l.length = n := ⟨_, rfl⟩
  have HN : Hid (l.length = n) := hl
  rw [hl] at hn ⊢
  clear h hl
  have hmk := run_make_many (P := Tryd.prog) 55 70 (.agg #[.int .i64 0, .bool false]) 2 16 Tryd.underlying55 (by kernel_rfl) n (by omega) (by omega)
  go_enter Tryd.func78, Tryd.ntmps78
  go_wp2
  go_loopw [4] (fun i wr => ∃ (k : Nat) (C : Array Value), i = .int .i64 k ∧ k ≤ n ∧ wr.heap[w.heap.size]? = some (.cells C 70 (0, 0)) ∧ C.size = n * 2 ∧ Hid (∀ i (h : i < l.length), i < k → PrmAt (fun j => C[i * 2 + j]?) wr ⟨w.heap.size + 1, wr.heap.size, true⟩ l[i]) ∧ Below w.heap.size w wr) (fun i _ => n - (intOf i).toNat)
  case atStart => exact ⟨0, _, rfl, by omega, Deep.blk_alloc_new _ _, size_madeCells _ _, fun i _ hi => absurd hi (by omega), (Below.refl _ _).alloc (Nat.le_refl _) _⟩
  case round =>
    obtain ⟨k, C, rfl, hk, hC, hsz, Hs, hbw⟩ := hrel
    by_cases hp : k < n
    · have i1 : (k : Int) < n := by omega
      obtain ⟨x, hx⟩ : ∃ x, l[k]'(by rw [HN.out]; exact hp) = x := ⟨_, rfl⟩
      obtain ⟨b, o, rfl, hb1, hb2, _, he⟩ := rows_on PrmAt.stays H.out (hbw.mono hm) k (by rw [HN.out]; exact hp)
      have HX : Hid (l[k]'(by rw [HN.out]; exact hp) = x) := hx
      rw [hx] at he
      clear hx
      obtain ⟨x0, x1⟩ := x
      obtain ⟨c0, c1, r0⟩ := he
      simp only [Nat.add_zero] at c0 c1
      have HC : Hid (wr.heap[w.heap.size]? = some (.cells C 70 (0, 0))) := hC
      clear hC
      go_wp2_with (go_at_call 85; refine (toParam_any _ _ _).mono ?_; rintro e w1 ⟨rfl, bel⟩; have hC1 := (bel.block w.heap.size (Array.getElem?_eq_some_iff.1 HC.out).1).trans HC.out; obtain ⟨s1, s2⟩ := heapCells hC1; obtain ⟨y0, d0⟩ : ∃ y, w1.cell? ⟨w.heap.size, k * 2, none⟩ = some y := (by rw [s1]; exact ⟨_, Array.getElem?_eq_getElem (by omega)⟩); obtain ⟨y1, d1⟩ : ∃ y, w1.cell? ⟨w.heap.size, k * 2 + 1, none⟩ = some y := (by rw [s1]; exact ⟨_, Array.getElem?_eq_getElem (by omega)⟩); have f0 := s2 (k * 2); have f1 := s2 (k * 2 + 1); have HC1 := (show Hid _ from hC1); clear s1 s2 hC1)
      go_roundw
      case rel =>
        have hbw1 := hbw.trans (bel.mono hbw.size)
        exact ⟨k + 1, _, by go_num, by omega, setRow_heap (o := k * 2) [.int .i64 x0, .bool x1] HC1.out, by rw [putRow_size]; exact hsz,
          rows_step PrmAt.loc PrmAt.stays PrmAt.widens rfl (by rw [HN.out]; exact hp) HX.out (by rw [HN.out]; omega) Hs.out bel ⟨rfl, rfl, r0⟩, setRow_below [.int .i64 x0, .bool x1] hbw1 (Nat.le_refl _)⟩
      case measure => simp [intOf]; omega
    · have i1 : ¬ (k : Int) < n := by omega
      go_wp2
      go_ret
      refine ⟨⟨_, rfl, ?_⟩, hbw⟩
      have := SlAt.of_row (E := PrmAt) (m := ⟨w.heap.size, wr.heap.size, true⟩) (c := n) (l := l) hC (Nat.le_refl _) (Array.getElem?_eq_some_iff.1 hC).1 (by rw [HN.out]; exact Nat.le_refl _) (fun i h => Hs.out i h (by have := HN.out; omega))
      rwa [HN.out] at this
set_option maxHeartbeats 1000000 in
theorem toItem_any (x0 x1 x2 x3 : Int) (s : ByteArray) (v : Value) (m : Md) (l : List Prm) (w : World) (hn : l.length ≤ 1048576) (h : SlAt PrmAt 2 w m v l) (hm : m.hi ≤ w.heap.size) :
    Calls Tryd.prog 63 #[.agg #[.int .i64 x0, .int .i64 x1, .int .i64 x2, .int .i64 x3, .string s, v]] w fun e w' =>
      (∃ u, e = .returned (.agg #[.int .i64 x0, .int .i64 x1, .int .i64 x2, .int .i64 x3, .string s, u]) ∧ SlAt PrmAt 2 w' ⟨w.heap.size, w'.heap.size, true⟩ u l) ∧ Below w.heap.size w w' := by
  have HP : Hid (∀ w', Below w.heap.size w w' → Calls Tryd.prog 78 #[v] w' fun e w2 => (∃ u, e = .returned u ∧ SlAt PrmAt 2 w2 ⟨w'.heap.size, w2.heap.size, true⟩ u l) ∧ Below w'.heap.size w' w2) :=
    fun w' bel => toParamS_any v m l w' hn (h.on PrmAt.stays (bel.mono hm)) (Nat.le_trans hm bel.size)
  obtain ⟨a, c, rfl, -⟩ := h
  go_enter Tryd.func63, Tryd.ntmps63
  go_wp2_with fail
  refine (HP.out _ ((((Below.refl _ _).alloc (Nat.le_refl _) _).alloc (by simp) _).alloc (by simp; omega) _)).mono ?_
  rintro e w1 ⟨⟨u, rfl, hu⟩, bel⟩
  obtain ⟨a', c', rfl, -⟩ := id hu
  obtain ⟨hc, hf⟩ := bcell bel
  have HU := hide hu
  clear hu
  go_wp2
  refine bodyPost_ret (v := .agg #[.int .i64 x0, .int .i64 x1, .int .i64 x2, .int .i64 x3, .string s, .slice a' l.length c']) (by simp [results, Tryd.results63, go_sem, hc]) rfl ⟨⟨_, rfl, ?_⟩, ?_⟩
  · refine (HU.out.same PrmAt.stays ?_).wid PrmAt.widens (by simp; omega) (by simp [World.setCell]) rfl
    repeat (refine Same.setCell ?_ (by simp) _)
    exact Same.refl _ _ _
  · repeat (refine Below.setCell ?_ (by simp <;> omega) _)
    have h0 := bel.mono (B' := w.heap.size) (by simp; omega)
    refine Below.trans ?_ h0
    exact (((Below.refl _ _).alloc (Nat.le_refl _) _).alloc (by simp) _).alloc (by simp; omega) _
set_option maxHeartbeats 1000000 in
theorem toItemS_any (v : Value) (m : Md) (l : List Itm) (w : World) (hn : l.length ≤ 1048576) (hn2 : ∀ x ∈ l, x.params.length ≤ 1048576) (h : SlAt ItmAt 6 w m v l) (hm : m.hi ≤ w.heap.size) :
    Calls Tryd.prog 38 #[v] w fun e w' => (∃ u, e = .returned u ∧ SlAt ItmAt 6 w' ⟨w.heap.size, w'.heap.size, true⟩ u l) ∧ Below w.heap.size w w' := by
  obtain ⟨a, c, rfl, h⟩ := h
  have H : Hid (∀ i (h : i < l.length), ∃ b o, a = some ⟨b, o, none⟩ ∧ (m.lo ≤ b ∧ l.length ≤ c) ∧ b < m.hi ∧ (m.made = true → ∀ j, w.frozen? ⟨b, j, none⟩ = false) ∧ ItmAt (fun j => w.cell? ⟨b, o + i * 6 + j, none⟩) w (m.inner b) l[i]) := h
  have Hn2 : Hid (∀ x ∈ l, x.params.length ≤ 1048576) := hn2
  obtain ⟨n, hl⟩ : ∃ n, l.length = n := ⟨_, rfl⟩
  have HN : Hid (l.length = n) := hl
  rw [hl] at hn ⊢
  clear h hl hn2
  have hmk := run_make_many (P := Tryd.prog) 23 57 (.agg #[.int .i64 0, .int .i64 0, .int .i64 0, .int .i64 0, .string ⟨#[]⟩, .slice none 0 0]) 6 72 Tryd.underlying23 (by kernel_rfl) n (by omega) (by omega)
  go_enter Tryd.func38, Tryd.ntmps38
  go_wp2
  go_loopw [4] (fun i wr => ∃ (k : Nat) (C : Array Value), i = .int .i64 k ∧ k ≤ n ∧ wr.heap[w.heap.size]? = some (.cells C 57 (0, 0)) ∧ C.size = n * 6 ∧ Hid (∀ i (h : i < l.length), i < k → ItmAt (fun j => C[i * 6 + j]?) wr ⟨w.heap.size + 1, wr.heap.size, true⟩ l[i]) ∧ Below w.heap.size w wr) (fun i _ => n - (intOf i).toNat)
  case atStart => exact ⟨0, _, rfl, by omega, Deep.blk_alloc_new _ _, size_madeCells _ _, fun i _ hi => absurd hi (by omega), (Below.refl _ _).alloc (Nat.le_refl _) _⟩
  case round =>
    obtain ⟨k, C, rfl, hk, hC, hsz, Hs, hbw⟩ := hrel
    by_cases hp : k < n
    · have i1 : (k : Int) < n := by omega
      obtain ⟨x, hx⟩ : ∃ x, l[k]'(by rw [HN.out]; exact hp) = x := ⟨_, rfl⟩
      have hpar : x.params.length ≤ 1048576 := Hn2.out x (by rw [← hx]; exact List.getElem_mem _)
      obtain ⟨b, o, rfl, hb1, hb2, _, he⟩ := rows_on ItmAt.stays H.out (hbw.mono hm) k (by rw [HN.out]; exact hp)
      have HX : Hid (l[k]'(by rw [HN.out]; exact hp) = x) := hx
      rw [hx] at he
      clear hx
      obtain ⟨y0, y1, y2, y3, s, ps⟩ := x
      obtain ⟨⟨c0, c1, c2, c3, c4⟩, r, u, c5, hu⟩ := he
      simp only [Nat.add_zero] at c0 c1 c2 c3 c4 c5 hpar
      have HR := hide r
      have HU : Hid (SlAt PrmAt 2 wr (m.inner b) u ps) := hu
      obtain ⟨a', c', rfl, -⟩ := id hu
      have HC : Hid (wr.heap[w.heap.size]? = some (.cells C 57 (0, 0))) := hC
      clear hC r hu
      go_wp2_with fail
      refine (toItem_any y0 y1 y2 y3 s _ (m.inner b) ps _ hpar HU.out (by rw [Md.inner_hi]; exact Nat.le_trans hm hbw.size)).mono ?_
      rintro e w1 ⟨⟨u', rfl, hu'⟩, bel⟩
      have HU' := hide hu'
      obtain ⟨a2, c2', rfl, -⟩ := id hu'
      clear hu'
      have hC1 := (bel.block w.heap.size (Array.getElem?_eq_some_iff.1 HC.out).1).trans HC.out
      obtain ⟨s1, s2⟩ := heapCells hC1
      obtain ⟨z0, d0⟩ : ∃ y, w1.cell? ⟨w.heap.size, k * 6, none⟩ = some y := by rw [s1]; exact ⟨_, Array.getElem?_eq_getElem (by omega)⟩
      obtain ⟨z1, d1⟩ : ∃ y, w1.cell? ⟨w.heap.size, k * 6 + 1, none⟩ = some y := by rw [s1]; exact ⟨_, Array.getElem?_eq_getElem (by omega)⟩
      obtain ⟨z2, d2⟩ : ∃ y, w1.cell? ⟨w.heap.size, k * 6 + 2, none⟩ = some y := by rw [s1]; exact ⟨_, Array.getElem?_eq_getElem (by omega)⟩
      obtain ⟨z3, d3⟩ : ∃ y, w1.cell? ⟨w.heap.size, k * 6 + 3, none⟩ = some y := by rw [s1]; exact ⟨_, Array.getElem?_eq_getElem (by omega)⟩
      obtain ⟨z4, d4⟩ : ∃ y, w1.cell? ⟨w.heap.size, k * 6 + 4, none⟩ = some y := by rw [s1]; exact ⟨_, Array.getElem?_eq_getElem (by omega)⟩
      obtain ⟨z5, d5⟩ : ∃ y, w1.cell? ⟨w.heap.size, k * 6 + 5, none⟩ = some y := by rw [s1]; exact ⟨_, Array.getElem?_eq_getElem (by omega)⟩
      have f0 := s2 (k * 6)
      have f1 := s2 (k * 6 + 1)
      have f2 := s2 (k * 6 + 2)
      have f3 := s2 (k * 6 + 3)
      have f4 := s2 (k * 6 + 4)
      have f5 := s2 (k * 6 + 5)
      have HC1 := hide hC1
      clear s1 s2 hC1
      go_wp2
      go_roundw
      case rel =>
        have hbw1 := hbw.trans (bel.mono hbw.size)
        exact ⟨k + 1, _, by go_num, by omega, setRow_heap (o := k * 6) [.int .i64 y0, .int .i64 y1, .int .i64 y2, .int .i64 y3, .string s, .slice a2 ps.length c2'] HC1.out, by rw [putRow_size]; exact hsz,
          rows_step ItmAt.loc ItmAt.stays ItmAt.widens rfl (by rw [HN.out]; exact hp) HX.out (by rw [HN.out]; omega) Hs.out bel ⟨⟨rfl, rfl, rfl, rfl, rfl⟩, HR.out, _, rfl, HU'.out.wid PrmAt.widens (by show w.heap.size + 1 ≤ wr.heap.size; have := (Array.getElem?_eq_some_iff.1 HC.out).1; omega) (Nat.le_refl _) rfl⟩, setRow_below [.int .i64 y0, .int .i64 y1, .int .i64 y2, .int .i64 y3, .string s, .slice a2 ps.length c2'] hbw1 (Nat.le_refl _)⟩
      case measure => simp [intOf]; omega
    · have i1 : ¬ (k : Int) < n := by omega
      go_wp2
      go_ret
      refine ⟨⟨_, rfl, ?_⟩, hbw⟩
      have := SlAt.of_row (E := ItmAt) (m := ⟨w.heap.size, wr.heap.size, true⟩) (c := n) (l := l) hC (Nat.le_refl _) (Array.getElem?_eq_some_iff.1 hC).1 (by rw [HN.out]; exact Nat.le_refl _) (fun i h => Hs.out i h (by have := HN.out; omega))
      rwa [HN.out] at this
set_option maxHeartbeats 1000000 in
theorem toInterface_any (v : Value) (m : Md) (x : Fac) (w : World) (hx : Small x) (h : FacAt w m v x) (hm : m.hi ≤ w.heap.size) :
    Calls Tryd.prog 16 #[v] w fun e w' => (∃ u, e = .returned u ∧ FacAt w' ⟨w.heap.size, w'.heap.size, true⟩ u x) ∧ Below w.heap.size w w' := by
  obtain ⟨v', rfl, h1, h2, h3⟩ := h
  have HP : Hid (∀ w', Below w.heap.size w w' → Calls Tryd.prog 38 #[v'] w' fun e w2 => (∃ u, e = .returned u ∧ SlAt ItmAt 6 w2 ⟨w'.heap.size, w2.heap.size, true⟩ u x.items) ∧ Below w'.heap.size w' w2) :=
    fun w' bel => toItemS_any v' m x.items w' hx.1 hx.2 (h3.on ItmAt.stays (bel.mono hm)) (Nat.le_trans hm bel.size)
  obtain ⟨s, l⟩ := x
  obtain ⟨a, c, rfl, -⟩ := h3
  clear hx
  go_enter Tryd.func16, Tryd.ntmps16
  go_wp2_with fail
  refine (HP.out _ ((((Below.refl _ _).alloc (Nat.le_refl _) _).alloc (by simp) _).alloc (by simp; omega) _)).mono ?_
  rintro e w1 ⟨⟨u, rfl, hu⟩, bel⟩
  obtain ⟨a', c', rfl, -⟩ := id hu
  obtain ⟨hc, hf⟩ := bcell bel
  have HU := hide hu
  clear hu
  go_wp2
  refine bodyPost_ret (v := .agg #[.string s, .slice a' l.length c']) (by simp [results, Tryd.results16, go_sem, hc]) rfl ⟨⟨_, rfl, ⟨_, rfl, h1, h2, ?_⟩⟩, ?_⟩
  · refine (HU.out.same ItmAt.stays ?_).wid ItmAt.widens (by simp; omega) (by simp [World.setCell]) rfl
    repeat (refine Same.setCell ?_ (by simp) _)
    exact Same.refl _ _ _
  · repeat (refine Below.setCell ?_ (by simp <;> omega) _)
    have h0 := bel.mono (B' := w.heap.size) (by simp; omega)
    refine Below.trans ?_ h0
    exact (((Below.refl _ _).alloc (Nat.le_refl _) _).alloc (by simp) _).alloc (by simp; omega) _
end Go.Proofs.YtoomnimbokbadaaDoor
