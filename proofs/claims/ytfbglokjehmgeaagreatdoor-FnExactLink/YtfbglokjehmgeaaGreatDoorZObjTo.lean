/- The law's own copies: a copy holds what the argument holds, in memory of its own. No condition. -/
import Derived.Test.YtfbglokjehmgeaaGreatDoorZHelQ
/- The law's own measure: what it lets through is small. No condition. -/
namespace Go.Proofs.YtfbglokjehmgeaaGreatDoor
open Go.RowKit

def InsSm (_ : InsD) : Prop := True
set_option maxHeartbeats 4000000 in
theorem szIns_any (v : Value) (m : Md) (x : InsD) (left : Int) (w : World) (h0 : 0 ≤ left) (h1 : left ≤ 1048576) (h : InsVal w m v x) (_ : m.hi ≤ w.heap.size) :
    Calls Tryz.prog 112 #[v, .int .i64 left] w fun e w' => (∃ k : Int, e = .returned (.int .i64 k) ∧ -1 ≤ k ∧ k ≤ left ∧ (0 ≤ k → InsSm x)) ∧ Below w.heap.size w w' := by
  obtain ⟨rfl, hb⟩ := h
  obtain ⟨-, -, -, lb3, lb4⟩ := hb
  unfold maxLen at lb3
  unfold maxLen at lb4
  by_cases g3 : left - (x.mod.size : Int) < 0
  · go_enter Tryz.func112, Tryz.ntmps112
    go_wp2
    go_ret
    exact ⟨⟨-1, rfl, by omega, by omega, by omega⟩, (Below.refl w.heap.size w).alloc (Nat.le_refl _) _⟩
  · by_cases g4 : (left - (x.mod.size : Int)) - (x.name.size : Int) < 0
    · go_enter Tryz.func112, Tryz.ntmps112
      go_wp2
      go_ret
      exact ⟨⟨-1, rfl, by omega, by omega, by omega⟩, (Below.refl w.heap.size w).alloc (Nat.le_refl _) _⟩
    · go_enter Tryz.func112, Tryz.ntmps112
      go_wp2
      go_ret
      exact ⟨⟨_, rfl, by omega, by omega, fun hk0 => trivial⟩, (Below.refl w.heap.size w).alloc (Nat.le_refl _) _⟩
def CodeSm (x : CodeD) : Prop := x.list.length ≤ 1048576
def NeedSm (_ : NeedD) : Prop := True
set_option maxHeartbeats 4000000 in
theorem szNeed_any (v : Value) (m : Md) (x : NeedD) (left : Int) (w : World) (h0 : 0 ≤ left) (h1 : left ≤ 1048576) (h : NeedVal w m v x) (_ : m.hi ≤ w.heap.size) :
    Calls Tryz.prog 74 #[v, .int .i64 left] w fun e w' => (∃ k : Int, e = .returned (.int .i64 k) ∧ -1 ≤ k ∧ k ≤ left ∧ (0 ≤ k → NeedSm x)) ∧ Below w.heap.size w w' := by
  obtain ⟨rfl, hb⟩ := h
  obtain ⟨lb0, -⟩ := hb
  unfold maxLen at lb0
  by_cases g0 : left - (x.module.size : Int) < 0
  · go_enter Tryz.func74, Tryz.ntmps74
    go_wp2
    go_ret
    exact ⟨⟨-1, rfl, by omega, by omega, by omega⟩, (Below.refl w.heap.size w).alloc (Nat.le_refl _) _⟩
  · go_enter Tryz.func74, Tryz.ntmps74
    go_wp2
    go_ret
    exact ⟨⟨_, rfl, by omega, by omega, fun hk0 => trivial⟩, (Below.refl w.heap.size w).alloc (Nat.le_refl _) _⟩
def GlobalSm (_ : GlobalD) : Prop := True
set_option maxHeartbeats 4000000 in
theorem szGlobal_any (v : Value) (m : Md) (x : GlobalD) (left : Int) (w : World) (h0 : 0 ≤ left) (h1 : left ≤ 1048576) (h : GlobalVal w m v x) (_ : m.hi ≤ w.heap.size) :
    Calls Tryz.prog 75 #[v, .int .i64 left] w fun e w' => (∃ k : Int, e = .returned (.int .i64 k) ∧ -1 ≤ k ∧ k ≤ left ∧ (0 ≤ k → GlobalSm x)) ∧ Below w.heap.size w w' := by
  obtain ⟨rfl, hb⟩ := h
  obtain ⟨lb0, -⟩ := hb
  unfold maxLen at lb0
  by_cases g0 : left - (x.name.size : Int) < 0
  · go_enter Tryz.func75, Tryz.ntmps75
    go_wp2
    go_ret
    exact ⟨⟨-1, rfl, by omega, by omega, by omega⟩, (Below.refl w.heap.size w).alloc (Nat.le_refl _) _⟩
  · go_enter Tryz.func75, Tryz.ntmps75
    go_wp2
    go_ret
    exact ⟨⟨_, rfl, by omega, by omega, fun hk0 => trivial⟩, (Below.refl w.heap.size w).alloc (Nat.le_refl _) _⟩
def ObjectSm (x : ObjectD) : Prop := x.needs.length ≤ 1048576 ∧ x.globals.length ≤ 1048576 ∧ x.procs.length ≤ 1048576 ∧ ∀ y ∈ x.procs, CodeSm y
end Go.Proofs.YtfbglokjehmgeaaGreatDoor

namespace Go.Proofs.YtfbglokjehmgeaaGreatDoor
open Go.RowKit

set_option maxHeartbeats 4000000 in
theorem toIns_any (v : Value) (m : Md) (x : InsD) (w : World) (_ : InsSm x) (h : InsVal w m v x) (_ : m.hi ≤ w.heap.size) :
    Calls Tryz.prog 115 #[v] w fun e w' => (∃ u, e = .returned u ∧ Hid (InsVal w' ⟨w.heap.size, w'.heap.size, true⟩ u x)) ∧ Below w.heap.size w w' := by
  obtain ⟨rfl, hb⟩ := h
  have HB := hide hb
  clear hb
  go_enter Tryz.func115, Tryz.ntmps115
  go_wp2
  refine bodyPost_ret (v := .agg #[.int .i64 (x.op), .int .i64 (x.a), .int .i64 (x.b), .string (x.mod), .string (x.name)]) (by simp [results, Tryz.results115, go_sem]) rfl ⟨⟨_, rfl, hide ⟨rfl, HB.out⟩⟩, ?_⟩
  exact (((Below.refl _ _).alloc (Nat.le_refl _) _).alloc (by simp) _).alloc (by simp; omega) _
set_option maxHeartbeats 4000000 in
theorem toInsS_any (v : Value) (m : Md) (l : List InsD) (w : World) (hn : l.length ≤ 1048576) (h : SlAt InsAt 5 w m v l) (hm : m.hi ≤ w.heap.size) :
    Calls Tryz.prog 103 #[v] w fun e w' => (∃ u, e = .returned u ∧ Hid (SlAt InsAt 5 w' ⟨w.heap.size, w'.heap.size, true⟩ u l)) ∧ Below w.heap.size w w' := by
  have HS := hide h
  obtain ⟨a, c, rfl, -⟩ := h
  obtain ⟨n, hl⟩ : ∃ n, l.length = n := ⟨_, rfl⟩
  have HN := hide hl
  rw [hl] at hn ⊢
  clear hl
  have hmk := run_make_many (P := Tryz.prog) 84 139 (.agg #[.int .i64 0, .int .i64 0, .int .i64 0, .string ⟨#[]⟩, .string ⟨#[]⟩]) 5 56 Tryz.underlying84 (by kernel_rfl) n (by omega) (by omega)
  go_enter Tryz.func103, Tryz.ntmps103
  go_wp2
  go_loopw [4] (fun i wr => ∃ (k : Nat) (C : Array Value), i = .int .i64 k ∧ k ≤ n ∧ wr.heap[w.heap.size]? = some (.cells C 139 (0, 0)) ∧ C.size = n * 5 ∧ Hid (∀ i (h : i < l.length), i < k → InsAt (fun j => C[i * 5 + j]?) wr ⟨w.heap.size + 1, wr.heap.size, true⟩ l[i]) ∧ Below w.heap.size w wr) (fun i _ => n - (intOf i).toNat)
  case atStart => exact ⟨0, _, rfl, by omega, Deep.blk_alloc_new _ _, size_madeCells _ _, hide (fun i _ hi => absurd hi (by omega)), (Below.refl _ _).alloc (Nat.le_refl _) _⟩
  case round =>
    obtain ⟨k, C, rfl, hk, hC, hsz, Hs, hbw⟩ := hrel
    by_cases hp : k < n
    · have i1 : (k : Int) < n := by omega
      obtain ⟨x, hx⟩ : ∃ x, l[k]'(by rw [HN.out]; exact hp) = x := ⟨_, rfl⟩
      obtain ⟨a', c', e', hrows⟩ := HS.out.on InsAt.stays (hbw.mono hm)
      cases e'
      obtain ⟨b, o, rfl, hb1, hb2, -, he⟩ := hrows k (by rw [HN.out]; exact hp)
      have HX := hide hx
      rw [hx] at he
      clear hx hrows
      obtain ⟨⟨d0, d1, d2, d3, d4⟩, hbd⟩ := he
      have HVal := hide (show InsVal wr (m.inner b) (.agg #[.int .i64 (x.op), .int .i64 (x.a), .int .i64 (x.b), .string (x.mod), .string (x.name)]) x from ⟨rfl, hbd⟩)
      simp only [Nat.add_zero] at d0 d1 d2 d3 d4
      clear hbd
      have HC := hide hC
      clear hC
      go_wp2_with fail
      refine (toIns_any _ (m.inner b) x wr trivial HVal.out (by rw [Md.inner_hi]; exact Nat.le_trans hm hbw.size)).mono ?_
      rintro e w1 ⟨⟨u, rfl, hu⟩, bel⟩
      obtain ⟨rfl, hbr⟩ := id hu.out
      have HBr := hide hbr
      have hC1 := (bel.block w.heap.size (Array.getElem?_eq_some_iff.1 HC.out).1).trans HC.out
      obtain ⟨s1, s2⟩ := heapCells hC1
      obtain ⟨y0, g0⟩ : ∃ y, w1.cell? ⟨w.heap.size, k * 5, none⟩ = some y := by rw [s1]; exact ⟨_, Array.getElem?_eq_getElem (by omega)⟩
      have f0 := s2 (k * 5)
      obtain ⟨y1, g1⟩ : ∃ y, w1.cell? ⟨w.heap.size, k * 5 + 1, none⟩ = some y := by rw [s1]; exact ⟨_, Array.getElem?_eq_getElem (by omega)⟩
      have f1 := s2 (k * 5 + 1)
      obtain ⟨y2, g2⟩ : ∃ y, w1.cell? ⟨w.heap.size, k * 5 + 2, none⟩ = some y := by rw [s1]; exact ⟨_, Array.getElem?_eq_getElem (by omega)⟩
      have f2 := s2 (k * 5 + 2)
      obtain ⟨y3, g3⟩ : ∃ y, w1.cell? ⟨w.heap.size, k * 5 + 3, none⟩ = some y := by rw [s1]; exact ⟨_, Array.getElem?_eq_getElem (by omega)⟩
      have f3 := s2 (k * 5 + 3)
      obtain ⟨y4, g4⟩ : ∃ y, w1.cell? ⟨w.heap.size, k * 5 + 4, none⟩ = some y := by rw [s1]; exact ⟨_, Array.getElem?_eq_getElem (by omega)⟩
      have f4 := s2 (k * 5 + 4)
      have HC1 := hide hC1
      clear s1 s2 hC1 hbr hu
      go_wp2
      go_roundw
      case rel =>
        have hbw1 := hbw.trans (bel.mono hbw.size)
        exact ⟨k + 1, _, by go_num, by omega, setRow_heap (o := k * 5) [.int .i64 (x.op), .int .i64 (x.a), .int .i64 (x.b), .string (x.mod), .string (x.name)] HC1.out, by rw [putRow_size]; exact hsz,
          hide (rows_step InsAt.loc InsAt.stays InsAt.widens rfl (by rw [HN.out]; exact hp) HX.out (by rw [HN.out]; omega) Hs.out bel ⟨⟨rfl, rfl, rfl, rfl, rfl⟩, HBr.out⟩), setRow_below [.int .i64 (x.op), .int .i64 (x.a), .int .i64 (x.b), .string (x.mod), .string (x.name)] hbw1 (Nat.le_refl _)⟩
      case measure => simp [intOf]; omega
    · have i1 : ¬ (k : Int) < n := by omega
      go_wp2
      go_ret
      refine ⟨⟨_, rfl, ?_⟩, hbw⟩
      have := SlAt.of_row (E := InsAt) (m := ⟨w.heap.size, wr.heap.size, true⟩) (c := n) (l := l) hC (Nat.le_refl _) (Array.getElem?_eq_some_iff.1 hC).1 (by rw [HN.out]; exact Nat.le_refl _) (fun i h => Hs.out i h (by have := HN.out; omega))
      rw [HN.out] at this
      exact hide this
set_option maxHeartbeats 4000000 in
theorem toCode_any (v : Value) (m : Md) (x : CodeD) (w : World) (hs : CodeSm x) (h : CodeVal w m v x) (hm : m.hi ≤ w.heap.size) :
    Calls Tryz.prog 85 #[v] w fun e w' => (∃ u, e = .returned u ∧ Hid (CodeVal w' ⟨w.heap.size, w'.heap.size, true⟩ u x)) ∧ Below w.heap.size w w' := by
  obtain ⟨u4, rfl, hb, s4⟩ := h
  have HS4 := hide s4
  obtain ⟨p4, c4, rfl, -⟩ := s4
  have HB := hide hb
  unfold CodeSm at hs
  have sm4 := hs
  clear hb
  go_enter Tryz.func85, Tryz.ntmps85
  go_wp2_with fail
  refine (toInsS_any (.slice p4 x.list.length c4) m x.list _ sm4 (HS4.out.on InsAt.stays (Below.mono ((((Below.refl _ _).alloc (Nat.le_refl _) _).alloc (by simp) _).alloc (by first | omega | (simp <;> omega)) _) hm)) (Nat.le_trans hm (Below.size ((((Below.refl _ _).alloc (Nat.le_refl _) _).alloc (by simp) _).alloc (by first | omega | (simp <;> omega)) _)))).mono ?_
  rintro e w4' ⟨⟨r4, rfl, hr4⟩, bel4⟩
  obtain ⟨q4, k4, rfl, -⟩ := id hr4.out
  have z4 : w.heap.size + 3 ≤ w4'.heap.size := Nat.le_trans (by simp) bel4.size
  obtain ⟨hc4, hf4⟩ := bcell bel4
  have m4_0 := fun o => hc4 (w.heap.size) o (by first | omega | (simp <;> omega))
  have n4_0 := fun o => hf4 (w.heap.size) o (by first | omega | (simp <;> omega))
  have m4_1 := fun o => hc4 (w.heap.size + 1) o (by first | omega | (simp <;> omega))
  have n4_1 := fun o => hf4 (w.heap.size + 1) o (by first | omega | (simp <;> omega))
  have m4_2 := fun o => hc4 (w.heap.size + 2) o (by first | omega | (simp <;> omega))
  have n4_2 := fun o => hf4 (w.heap.size + 2) o (by first | omega | (simp <;> omega))
  clear hc4 hf4
  go_wp2
  refine bodyPost_ret (v := .agg #[.string (x.name), .int .i64 (x.params), .int .i64 (x.cells), .int .i64 (x.result), .slice q4 x.list.length k4]) (by simp [results, Tryz.results85, go_sem, m4_1]) rfl ⟨⟨_, rfl, hide ⟨_, rfl, HB.out, ?_⟩⟩, ?_⟩
  · refine (hr4.out.same InsAt.stays ?_).wid InsAt.widens (by first | omega | (simp <;> omega)) (by first | omega | (simp <;> omega)) rfl
    repeat (refine Same.setCell ?_ (by first | omega | (simp <;> omega)) _)
    exact Same.refl _ _ _
  · repeat (refine Below.setCell ?_ (by first | omega | (simp <;> omega)) _)
    refine Below.trans ?_ (bel4.mono (B' := w.heap.size) (by first | omega | (simp <;> omega)))
    repeat (refine Below.setCell ?_ (by first | omega | (simp <;> omega)) _)
    exact (((Below.refl _ _).alloc (Nat.le_refl _) _).alloc (by simp) _).alloc (by first | omega | (simp <;> omega)) _
set_option maxHeartbeats 4000000 in
theorem toCodeS_any (v : Value) (m : Md) (l : List CodeD) (w : World) (hn : l.length ≤ 1048576) (hsn : ∀ x ∈ l, CodeSm x) (h : SlAt CodeAt 5 w m v l) (hm : m.hi ≤ w.heap.size) :
    Calls Tryz.prog 52 #[v] w fun e w' => (∃ u, e = .returned u ∧ Hid (SlAt CodeAt 5 w' ⟨w.heap.size, w'.heap.size, true⟩ u l)) ∧ Below w.heap.size w w' := by
  have HS := hide h
  have HSN := hide hsn
  obtain ⟨a, c, rfl, -⟩ := h
  obtain ⟨n, hl⟩ : ∃ n, l.length = n := ⟨_, rfl⟩
  have HN := hide hl
  rw [hl] at hn ⊢
  clear hl hsn
  have hmk := run_make_many (P := Tryz.prog) 24 86 (.agg #[.string ⟨#[]⟩, .int .i64 0, .int .i64 0, .int .i64 0, .slice none 0 0]) 5 64 Tryz.underlying24 (by kernel_rfl) n (by omega) (by omega)
  go_enter Tryz.func52, Tryz.ntmps52
  go_wp2
  go_loopw [4] (fun i wr => ∃ (k : Nat) (C : Array Value), i = .int .i64 k ∧ k ≤ n ∧ wr.heap[w.heap.size]? = some (.cells C 86 (0, 0)) ∧ C.size = n * 5 ∧ Hid (∀ i (h : i < l.length), i < k → CodeAt (fun j => C[i * 5 + j]?) wr ⟨w.heap.size + 1, wr.heap.size, true⟩ l[i]) ∧ Below w.heap.size w wr) (fun i _ => n - (intOf i).toNat)
  case atStart => exact ⟨0, _, rfl, by omega, Deep.blk_alloc_new _ _, size_madeCells _ _, hide (fun i _ hi => absurd hi (by omega)), (Below.refl _ _).alloc (Nat.le_refl _) _⟩
  case round =>
    obtain ⟨k, C, rfl, hk, hC, hsz, Hs, hbw⟩ := hrel
    by_cases hp : k < n
    · have i1 : (k : Int) < n := by omega
      obtain ⟨x, hx⟩ : ∃ x, l[k]'(by rw [HN.out]; exact hp) = x := ⟨_, rfl⟩
      obtain ⟨a', c', e', hrows⟩ := HS.out.on CodeAt.stays (hbw.mono hm)
      cases e'
      obtain ⟨b, o, rfl, hb1, hb2, -, he⟩ := hrows k (by rw [HN.out]; exact hp)
      have HX := hide hx
      rw [hx] at he
      clear hx hrows
      obtain ⟨⟨d0, d1, d2, d3⟩, hbd, u4, d4, s4⟩ := he
      have HVal := hide (show CodeVal _ _ (.agg #[.string (x.name), .int .i64 (x.params), .int .i64 (x.cells), .int .i64 (x.result), u4]) x from ⟨u4, rfl, hbd, s4⟩)
      obtain ⟨p4, c4, rfl, -⟩ := s4
      simp only [Nat.add_zero] at d0 d1 d2 d3 d4
      clear hbd
      have HC := hide hC
      clear hC
      go_wp2_with fail
      refine (toCode_any _ (m.inner b) x wr (HSN.out x (by rw [← HX.out]; exact List.getElem_mem _)) HVal.out (by rw [Md.inner_hi]; exact Nat.le_trans hm hbw.size)).mono ?_
      rintro e w1 ⟨⟨u, rfl, hu⟩, bel⟩
      obtain ⟨u4r, rfl, hbr, s4r⟩ := id hu.out
      have HSr4 := hide s4r
      obtain ⟨p4r, c4r, rfl, -⟩ := s4r
      have HBr := hide hbr
      have hC1 := (bel.block w.heap.size (Array.getElem?_eq_some_iff.1 HC.out).1).trans HC.out
      obtain ⟨s1, s2⟩ := heapCells hC1
      obtain ⟨y0, g0⟩ : ∃ y, w1.cell? ⟨w.heap.size, k * 5, none⟩ = some y := by rw [s1]; exact ⟨_, Array.getElem?_eq_getElem (by omega)⟩
      have f0 := s2 (k * 5)
      obtain ⟨y1, g1⟩ : ∃ y, w1.cell? ⟨w.heap.size, k * 5 + 1, none⟩ = some y := by rw [s1]; exact ⟨_, Array.getElem?_eq_getElem (by omega)⟩
      have f1 := s2 (k * 5 + 1)
      obtain ⟨y2, g2⟩ : ∃ y, w1.cell? ⟨w.heap.size, k * 5 + 2, none⟩ = some y := by rw [s1]; exact ⟨_, Array.getElem?_eq_getElem (by omega)⟩
      have f2 := s2 (k * 5 + 2)
      obtain ⟨y3, g3⟩ : ∃ y, w1.cell? ⟨w.heap.size, k * 5 + 3, none⟩ = some y := by rw [s1]; exact ⟨_, Array.getElem?_eq_getElem (by omega)⟩
      have f3 := s2 (k * 5 + 3)
      obtain ⟨y4, g4⟩ : ∃ y, w1.cell? ⟨w.heap.size, k * 5 + 4, none⟩ = some y := by rw [s1]; exact ⟨_, Array.getElem?_eq_getElem (by omega)⟩
      have f4 := s2 (k * 5 + 4)
      have HC1 := hide hC1
      clear s1 s2 hC1 hbr hu
      go_wp2
      go_roundw
      case rel =>
        have hbw1 := hbw.trans (bel.mono hbw.size)
        exact ⟨k + 1, _, by go_num, by omega, setRow_heap (o := k * 5) [.string (x.name), .int .i64 (x.params), .int .i64 (x.cells), .int .i64 (x.result), .slice p4r x.list.length c4r] HC1.out, by rw [putRow_size]; exact hsz,
          hide (rows_step CodeAt.loc CodeAt.stays CodeAt.widens rfl (by rw [HN.out]; exact hp) HX.out (by rw [HN.out]; omega) Hs.out bel ⟨⟨rfl, rfl, rfl, rfl⟩, HBr.out, _, rfl, HSr4.out.wid InsAt.widens (by show w.heap.size + 1 ≤ wr.heap.size; have := (Array.getElem?_eq_some_iff.1 HC.out).1; omega) (Nat.le_refl _) rfl⟩), setRow_below [.string (x.name), .int .i64 (x.params), .int .i64 (x.cells), .int .i64 (x.result), .slice p4r x.list.length c4r] hbw1 (Nat.le_refl _)⟩
      case measure => simp [intOf]; omega
    · have i1 : ¬ (k : Int) < n := by omega
      go_wp2
      go_ret
      refine ⟨⟨_, rfl, ?_⟩, hbw⟩
      have := SlAt.of_row (E := CodeAt) (m := ⟨w.heap.size, wr.heap.size, true⟩) (c := n) (l := l) hC (Nat.le_refl _) (Array.getElem?_eq_some_iff.1 hC).1 (by rw [HN.out]; exact Nat.le_refl _) (fun i h => Hs.out i h (by have := HN.out; omega))
      rw [HN.out] at this
      exact hide this
set_option maxHeartbeats 4000000 in
theorem toNeed_any (v : Value) (m : Md) (x : NeedD) (w : World) (_ : NeedSm x) (h : NeedVal w m v x) (_ : m.hi ≤ w.heap.size) :
    Calls Tryz.prog 83 #[v] w fun e w' => (∃ u, e = .returned u ∧ Hid (NeedVal w' ⟨w.heap.size, w'.heap.size, true⟩ u x)) ∧ Below w.heap.size w w' := by
  obtain ⟨rfl, hb⟩ := h
  have HB := hide hb
  clear hb
  go_enter Tryz.func83, Tryz.ntmps83
  go_wp2
  refine bodyPost_ret (v := .agg #[.string (x.module), .int .i64 (x.print)]) (by simp [results, Tryz.results83, go_sem]) rfl ⟨⟨_, rfl, hide ⟨rfl, HB.out⟩⟩, ?_⟩
  exact (((Below.refl _ _).alloc (Nat.le_refl _) _).alloc (by simp) _).alloc (by simp; omega) _
set_option maxHeartbeats 4000000 in
theorem toNeedS_any (v : Value) (m : Md) (l : List NeedD) (w : World) (hn : l.length ≤ 1048576) (h : SlAt NeedAt 2 w m v l) (hm : m.hi ≤ w.heap.size) :
    Calls Tryz.prog 50 #[v] w fun e w' => (∃ u, e = .returned u ∧ Hid (SlAt NeedAt 2 w' ⟨w.heap.size, w'.heap.size, true⟩ u l)) ∧ Below w.heap.size w w' := by
  have HS := hide h
  obtain ⟨a, c, rfl, -⟩ := h
  obtain ⟨n, hl⟩ : ∃ n, l.length = n := ⟨_, rfl⟩
  have HN := hide hl
  rw [hl] at hn ⊢
  clear hl
  have hmk := run_make_many (P := Tryz.prog) 45 80 (.agg #[.string ⟨#[]⟩, .int .i64 0]) 2 24 Tryz.underlying45 (by kernel_rfl) n (by omega) (by omega)
  go_enter Tryz.func50, Tryz.ntmps50
  go_wp2
  go_loopw [4] (fun i wr => ∃ (k : Nat) (C : Array Value), i = .int .i64 k ∧ k ≤ n ∧ wr.heap[w.heap.size]? = some (.cells C 80 (0, 0)) ∧ C.size = n * 2 ∧ Hid (∀ i (h : i < l.length), i < k → NeedAt (fun j => C[i * 2 + j]?) wr ⟨w.heap.size + 1, wr.heap.size, true⟩ l[i]) ∧ Below w.heap.size w wr) (fun i _ => n - (intOf i).toNat)
  case atStart => exact ⟨0, _, rfl, by omega, Deep.blk_alloc_new _ _, size_madeCells _ _, hide (fun i _ hi => absurd hi (by omega)), (Below.refl _ _).alloc (Nat.le_refl _) _⟩
  case round =>
    obtain ⟨k, C, rfl, hk, hC, hsz, Hs, hbw⟩ := hrel
    by_cases hp : k < n
    · have i1 : (k : Int) < n := by omega
      obtain ⟨x, hx⟩ : ∃ x, l[k]'(by rw [HN.out]; exact hp) = x := ⟨_, rfl⟩
      obtain ⟨a', c', e', hrows⟩ := HS.out.on NeedAt.stays (hbw.mono hm)
      cases e'
      obtain ⟨b, o, rfl, hb1, hb2, -, he⟩ := hrows k (by rw [HN.out]; exact hp)
      have HX := hide hx
      rw [hx] at he
      clear hx hrows
      obtain ⟨⟨d0, d1⟩, hbd⟩ := he
      have HVal := hide (show NeedVal wr (m.inner b) (.agg #[.string (x.module), .int .i64 (x.print)]) x from ⟨rfl, hbd⟩)
      simp only [Nat.add_zero] at d0 d1
      clear hbd
      have HC := hide hC
      clear hC
      go_wp2_with fail
      refine (toNeed_any _ (m.inner b) x wr trivial HVal.out (by rw [Md.inner_hi]; exact Nat.le_trans hm hbw.size)).mono ?_
      rintro e w1 ⟨⟨u, rfl, hu⟩, bel⟩
      obtain ⟨rfl, hbr⟩ := id hu.out
      have HBr := hide hbr
      have hC1 := (bel.block w.heap.size (Array.getElem?_eq_some_iff.1 HC.out).1).trans HC.out
      obtain ⟨s1, s2⟩ := heapCells hC1
      obtain ⟨y0, g0⟩ : ∃ y, w1.cell? ⟨w.heap.size, k * 2, none⟩ = some y := by rw [s1]; exact ⟨_, Array.getElem?_eq_getElem (by omega)⟩
      have f0 := s2 (k * 2)
      obtain ⟨y1, g1⟩ : ∃ y, w1.cell? ⟨w.heap.size, k * 2 + 1, none⟩ = some y := by rw [s1]; exact ⟨_, Array.getElem?_eq_getElem (by omega)⟩
      have f1 := s2 (k * 2 + 1)
      have HC1 := hide hC1
      clear s1 s2 hC1 hbr hu
      go_wp2
      go_roundw
      case rel =>
        have hbw1 := hbw.trans (bel.mono hbw.size)
        exact ⟨k + 1, _, by go_num, by omega, setRow_heap (o := k * 2) [.string (x.module), .int .i64 (x.print)] HC1.out, by rw [putRow_size]; exact hsz,
          hide (rows_step NeedAt.loc NeedAt.stays NeedAt.widens rfl (by rw [HN.out]; exact hp) HX.out (by rw [HN.out]; omega) Hs.out bel ⟨⟨rfl, rfl⟩, HBr.out⟩), setRow_below [.string (x.module), .int .i64 (x.print)] hbw1 (Nat.le_refl _)⟩
      case measure => simp [intOf]; omega
    · have i1 : ¬ (k : Int) < n := by omega
      go_wp2
      go_ret
      refine ⟨⟨_, rfl, ?_⟩, hbw⟩
      have := SlAt.of_row (E := NeedAt) (m := ⟨w.heap.size, wr.heap.size, true⟩) (c := n) (l := l) hC (Nat.le_refl _) (Array.getElem?_eq_some_iff.1 hC).1 (by rw [HN.out]; exact Nat.le_refl _) (fun i h => Hs.out i h (by have := HN.out; omega))
      rw [HN.out] at this
      exact hide this
set_option maxHeartbeats 4000000 in
theorem toGlobal_any (v : Value) (m : Md) (x : GlobalD) (w : World) (_ : GlobalSm x) (h : GlobalVal w m v x) (_ : m.hi ≤ w.heap.size) :
    Calls Tryz.prog 84 #[v] w fun e w' => (∃ u, e = .returned u ∧ Hid (GlobalVal w' ⟨w.heap.size, w'.heap.size, true⟩ u x)) ∧ Below w.heap.size w w' := by
  obtain ⟨rfl, hb⟩ := h
  have HB := hide hb
  clear hb
  go_enter Tryz.func84, Tryz.ntmps84
  go_wp2
  refine bodyPost_ret (v := .agg #[.string (x.name), .int .i64 (x.length)]) (by simp [results, Tryz.results84, go_sem]) rfl ⟨⟨_, rfl, hide ⟨rfl, HB.out⟩⟩, ?_⟩
  exact (((Below.refl _ _).alloc (Nat.le_refl _) _).alloc (by simp) _).alloc (by simp; omega) _
set_option maxHeartbeats 4000000 in
theorem toGlobalS_any (v : Value) (m : Md) (l : List GlobalD) (w : World) (hn : l.length ≤ 1048576) (h : SlAt GlobalAt 2 w m v l) (hm : m.hi ≤ w.heap.size) :
    Calls Tryz.prog 51 #[v] w fun e w' => (∃ u, e = .returned u ∧ Hid (SlAt GlobalAt 2 w' ⟨w.heap.size, w'.heap.size, true⟩ u l)) ∧ Below w.heap.size w w' := by
  have HS := hide h
  obtain ⟨a, c, rfl, -⟩ := h
  obtain ⟨n, hl⟩ : ∃ n, l.length = n := ⟨_, rfl⟩
  have HN := hide hl
  rw [hl] at hn ⊢
  clear hl
  have hmk := run_make_many (P := Tryz.prog) 46 82 (.agg #[.string ⟨#[]⟩, .int .i64 0]) 2 24 Tryz.underlying46 (by kernel_rfl) n (by omega) (by omega)
  go_enter Tryz.func51, Tryz.ntmps51
  go_wp2
  go_loopw [4] (fun i wr => ∃ (k : Nat) (C : Array Value), i = .int .i64 k ∧ k ≤ n ∧ wr.heap[w.heap.size]? = some (.cells C 82 (0, 0)) ∧ C.size = n * 2 ∧ Hid (∀ i (h : i < l.length), i < k → GlobalAt (fun j => C[i * 2 + j]?) wr ⟨w.heap.size + 1, wr.heap.size, true⟩ l[i]) ∧ Below w.heap.size w wr) (fun i _ => n - (intOf i).toNat)
  case atStart => exact ⟨0, _, rfl, by omega, Deep.blk_alloc_new _ _, size_madeCells _ _, hide (fun i _ hi => absurd hi (by omega)), (Below.refl _ _).alloc (Nat.le_refl _) _⟩
  case round =>
    obtain ⟨k, C, rfl, hk, hC, hsz, Hs, hbw⟩ := hrel
    by_cases hp : k < n
    · have i1 : (k : Int) < n := by omega
      obtain ⟨x, hx⟩ : ∃ x, l[k]'(by rw [HN.out]; exact hp) = x := ⟨_, rfl⟩
      obtain ⟨a', c', e', hrows⟩ := HS.out.on GlobalAt.stays (hbw.mono hm)
      cases e'
      obtain ⟨b, o, rfl, hb1, hb2, -, he⟩ := hrows k (by rw [HN.out]; exact hp)
      have HX := hide hx
      rw [hx] at he
      clear hx hrows
      obtain ⟨⟨d0, d1⟩, hbd⟩ := he
      have HVal := hide (show GlobalVal wr (m.inner b) (.agg #[.string (x.name), .int .i64 (x.length)]) x from ⟨rfl, hbd⟩)
      simp only [Nat.add_zero] at d0 d1
      clear hbd
      have HC := hide hC
      clear hC
      go_wp2_with fail
      refine (toGlobal_any _ (m.inner b) x wr trivial HVal.out (by rw [Md.inner_hi]; exact Nat.le_trans hm hbw.size)).mono ?_
      rintro e w1 ⟨⟨u, rfl, hu⟩, bel⟩
      obtain ⟨rfl, hbr⟩ := id hu.out
      have HBr := hide hbr
      have hC1 := (bel.block w.heap.size (Array.getElem?_eq_some_iff.1 HC.out).1).trans HC.out
      obtain ⟨s1, s2⟩ := heapCells hC1
      obtain ⟨y0, g0⟩ : ∃ y, w1.cell? ⟨w.heap.size, k * 2, none⟩ = some y := by rw [s1]; exact ⟨_, Array.getElem?_eq_getElem (by omega)⟩
      have f0 := s2 (k * 2)
      obtain ⟨y1, g1⟩ : ∃ y, w1.cell? ⟨w.heap.size, k * 2 + 1, none⟩ = some y := by rw [s1]; exact ⟨_, Array.getElem?_eq_getElem (by omega)⟩
      have f1 := s2 (k * 2 + 1)
      have HC1 := hide hC1
      clear s1 s2 hC1 hbr hu
      go_wp2
      go_roundw
      case rel =>
        have hbw1 := hbw.trans (bel.mono hbw.size)
        exact ⟨k + 1, _, by go_num, by omega, setRow_heap (o := k * 2) [.string (x.name), .int .i64 (x.length)] HC1.out, by rw [putRow_size]; exact hsz,
          hide (rows_step GlobalAt.loc GlobalAt.stays GlobalAt.widens rfl (by rw [HN.out]; exact hp) HX.out (by rw [HN.out]; omega) Hs.out bel ⟨⟨rfl, rfl⟩, HBr.out⟩), setRow_below [.string (x.name), .int .i64 (x.length)] hbw1 (Nat.le_refl _)⟩
      case measure => simp [intOf]; omega
    · have i1 : ¬ (k : Int) < n := by omega
      go_wp2
      go_ret
      refine ⟨⟨_, rfl, ?_⟩, hbw⟩
      have := SlAt.of_row (E := GlobalAt) (m := ⟨w.heap.size, wr.heap.size, true⟩) (c := n) (l := l) hC (Nat.le_refl _) (Array.getElem?_eq_some_iff.1 hC).1 (by rw [HN.out]; exact Nat.le_refl _) (fun i h => Hs.out i h (by have := HN.out; omega))
      rw [HN.out] at this
      exact hide this
end Go.Proofs.YtfbglokjehmgeaaGreatDoor
