/- Slices of texts and of numbers as plain data; the law's own ways with them: measure, copies, comparison. No condition. -/
import Derived.Test.YtpfceikohoncgaaDoorZRd
import Derived.Deep.RegionWith
import Derived.BigQuiet
import Derived.WalkSmall
namespace Go.Proofs.YtpfceikohoncgaaDoor
open Go.ChangeShapes Go.WideShapes Go.ChangeAt Go.RowKit Go.Deep

def I64 (n : Int) : Prop := -9223372036854775808 ≤ n ∧ n ≤ 9223372036854775807
theorem I64.of_wf {n : Int} (h : (Lit.int .i64 n).wf = true) : I64 n := by
  simp only [Lit.wf, Bool.and_eq_true, decide_eq_true_eq] at h
  exact h
abbrev StringD := ByteArray
abbrev IntD := Int
def StringAt : Elem StringD := fun cf _ _ x => cf 0 = some (.string x) ∧ x.size ≤ maxLen
theorem StringAt.stays : Stays StringAt := fun _ _ _ _ _ h _ => h
theorem StringAt.widens : Widens StringAt := fun _ _ _ _ _ h _ _ _ => h
theorem StringAt.loc : Loc StringAt 1 := fun _ _ _ _ _ e ⟨c0, hr⟩ => ⟨(e 0 (by omega)).trans c0, hr⟩
def IntAt : Elem IntD := fun cf _ _ x => cf 0 = some (.int .i64 x) ∧ I64 x
theorem IntAt.stays : Stays IntAt := fun _ _ _ _ _ h _ => h
theorem IntAt.widens : Widens IntAt := fun _ _ _ _ _ h _ _ _ => h
theorem IntAt.loc : Loc IntAt 1 := fun _ _ _ _ _ e ⟨c0, hr⟩ => ⟨(e 0 (by omega)).trans c0, hr⟩
section
variable {H : Type} {enc : TypeId × Value → H} {w : World}
theorem opens_String : Opens enc Tryd.prog w 9 StringAt := by
  intro fuel cs y h
  obtain ⟨a0, e0, _, w0⟩ := DataW.trod_string Tryd.underlying9 h
  subst e0
  have hc : Tryd.prog.cellsOf 9 = 1 := by kernel_rfl
  exact ⟨a0, fun cf hcell => ⟨hcell 0 (by omega), w0⟩⟩
theorem opens_Int : Opens enc Tryd.prog w 3 IntAt := by
  intro fuel cs y h
  obtain ⟨a0, e0, _, w0⟩ := DataW.trod_int Tryd.underlying3 h
  subst e0
  have hc : Tryd.prog.cellsOf 3 = 1 := by kernel_rfl
  exact ⟨a0, fun cf hcell => ⟨hcell 0 (by omega), I64.of_wf w0⟩⟩
end
def StringSm (_ : StringD) : Prop := True
def IntSm (_ : IntD) : Prop := True
set_option maxHeartbeats 4000000 in
theorem szIntS_any (v : Value) (m : Md) (l : List IntD) (left : Int) (w : World) (h0 : 0 ≤ left) (h1 : left ≤ 1048576) (hn : l.length ≤ maxLen) (h : SlAt IntAt 1 w m v l) (_ : m.hi ≤ w.heap.size) :
    Calls Tryd.prog 23 #[v, .int .i64 left] w fun e w' => (∃ k : Int, e = .returned (.int .i64 k) ∧ -1 ≤ k ∧ k ≤ left ∧ (0 ≤ k → (l.length : Int) ≤ left ∧ ∀ x ∈ l, IntSm x)) ∧ Below w.heap.size w w' := by
  unfold maxLen at hn
  obtain ⟨a, c, rfl, -⟩ := h
  obtain ⟨n, hl⟩ : ∃ n, l.length = n := ⟨_, rfl⟩
  rw [hl] at hn ⊢
  clear hl
  by_cases hb : left - n < 0
  · go_enter Tryd.func23, Tryd.ntmps23
    go_wp2
    go_ret
    exact ⟨⟨-1, rfl, by omega, by omega, by omega⟩, Below.refl _ _⟩
  · go_enter Tryd.func23, Tryd.ntmps23
    go_wp2
    go_ret
    exact ⟨⟨_, rfl, by omega, by omega, fun _ => ⟨by omega, fun _ _ => trivial⟩⟩, Below.refl _ _⟩
set_option maxHeartbeats 4000000 in
theorem szStringS_any (v : Value) (m : Md) (l : List StringD) (left : Int) (w : World) (h0 : 0 ≤ left) (h1 : left ≤ 1048576) (hn : l.length ≤ maxLen) (h : SlAt StringAt 1 w m v l) (hm : m.hi ≤ w.heap.size) :
    Calls Tryd.prog 10 #[v, .int .i64 left] w fun e w' => (∃ k : Int, e = .returned (.int .i64 k) ∧ -1 ≤ k ∧ k ≤ left ∧ (0 ≤ k → (l.length : Int) ≤ left ∧ ∀ x ∈ l, StringSm x)) ∧ Below w.heap.size w w' := by
  unfold maxLen at hn
  have HS := hide h
  obtain ⟨a, c, rfl, -⟩ := h
  obtain ⟨n, hl⟩ : ∃ n, l.length = n := ⟨_, rfl⟩
  have HN := hide hl
  rw [hl] at hn ⊢
  clear hl
  by_cases hb : left - n < 0
  · go_enter Tryd.func10, Tryd.ntmps10
    go_wp2
    go_ret
    exact ⟨⟨-1, rfl, by omega, by omega, by omega⟩, Below.refl _ _⟩
  · go_enter Tryd.func10, Tryd.ntmps10
    go_wp2
    go_loopw [1, 5] (fun q i wr => ∃ (k : Nat) (L : Int), i = .int .i64 k ∧ q = .int .i64 L ∧ k ≤ n ∧ 0 ≤ L ∧ L ≤ left - n ∧ Below w.heap.size w wr) (fun _ i _ => n - (intOf i).toNat)
    case atStart => exact ⟨0, _, rfl, rfl, by omega, by omega, by omega, Below.refl _ _⟩
    case round =>
      obtain ⟨k, L, rfl, rfl, hk, hL, hL2, hbw⟩ := hrel
      by_cases hp : k < n
      · have i1 : (k : Int) < n := by omega
        obtain ⟨x, hx⟩ : ∃ x, l[k]'(by rw [HN.out]; exact hp) = x := ⟨_, rfl⟩
        obtain ⟨a', c', e', hrows⟩ := HS.out.on StringAt.stays (hbw.mono hm)
        cases e'
        obtain ⟨b, o, rfl, hb1, hb2, -, he⟩ := hrows k (by rw [HN.out]; exact hp)
        rw [hx] at he
        clear hx hrows
        obtain ⟨d0, hbd⟩ := he
        simp only [Nat.mul_one, Nat.add_zero] at d0
        unfold maxLen at hbd
        by_cases hq : L - (x.size : Int) < 0
        · go_wp2
          go_ret
          exact ⟨⟨-1, rfl, by omega, by omega, by omega⟩, hbw⟩
        · go_wp2
          go_roundw
          case rel => exact ⟨k + 1, _, by go_num, rfl, by omega, by omega, by omega, hbw⟩
          case measure => simp [intOf]; omega
      · have i1 : ¬ (k : Int) < n := by omega
        go_wp2
        go_ret
        exact ⟨⟨L, rfl, by omega, by omega, fun _ => ⟨by omega, fun _ _ => trivial⟩⟩, hbw⟩
set_option maxHeartbeats 4000000 in
theorem toStringS_any (v : Value) (m : Md) (l : List StringD) (w : World) (hn : l.length ≤ 1048576) (h : SlAt StringAt 1 w m v l) (hm : m.hi ≤ w.heap.size) :
    Calls Tryd.prog 14 #[v] w fun e w' => (∃ u, e = .returned u ∧ Hid (SlAt StringAt 1 w' ⟨w.heap.size, w'.heap.size, true⟩ u l)) ∧ Below w.heap.size w w' := by
  have HS := hide h
  obtain ⟨a, c, rfl, -⟩ := h
  obtain ⟨n, hl⟩ : ∃ n, l.length = n := ⟨_, rfl⟩
  have HN := hide hl
  rw [hl] at hn ⊢
  clear hl
  have hmk := run_make_many (P := Tryd.prog) 23 9 (.string ⟨#[]⟩) 1 16 Tryd.underlying23 (by kernel_rfl) n (by omega) (by omega)
  go_enter Tryd.func14, Tryd.ntmps14
  go_wp2
  go_loopw [4] (fun i wr => ∃ (k : Nat) (C : Array Value), i = .int .i64 k ∧ k ≤ n ∧ wr.heap[w.heap.size]? = some (.cells C 9 (0, 0)) ∧ C.size = n * 1 ∧ Hid (∀ i (h : i < l.length), i < k → StringAt (fun j => C[i * 1 + j]?) wr ⟨w.heap.size + 1, wr.heap.size, true⟩ l[i]) ∧ Below w.heap.size w wr) (fun i _ => n - (intOf i).toNat)
  case atStart => exact ⟨0, _, rfl, by omega, Deep.blk_alloc_new _ _, by rw [size_madeCells, Nat.mul_one], hide (fun i _ hi => absurd hi (by omega)), (Below.refl _ _).alloc (Nat.le_refl _) _⟩
  case round =>
    obtain ⟨k, C, rfl, hk, hC, hsz, Hs, hbw⟩ := hrel
    by_cases hp : k < n
    · have i1 : (k : Int) < n := by omega
      obtain ⟨x, hx⟩ : ∃ x, l[k]'(by rw [HN.out]; exact hp) = x := ⟨_, rfl⟩
      obtain ⟨a', c', e', hrows⟩ := HS.out.on StringAt.stays (hbw.mono hm)
      cases e'
      obtain ⟨b, o, rfl, hb1, hb2, -, he⟩ := hrows k (by rw [HN.out]; exact hp)
      have HX := hide hx
      rw [hx] at he
      clear hx hrows
      obtain ⟨d0, hbd⟩ := he
      simp only [Nat.mul_one, Nat.add_zero] at d0
      have HBd := hide hbd
      have HC := hide hC
      obtain ⟨s1, s2⟩ := heapCells hC
      obtain ⟨y0, g0⟩ : ∃ y, wr.cell? ⟨w.heap.size, k, none⟩ = some y := by rw [s1]; exact ⟨_, Array.getElem?_eq_getElem (by omega)⟩
      have f0 := s2 k
      clear s1 s2 hC hbd
      go_wp2
      go_roundw
      case rel =>
        have hh := setRow_heap (o := k * 1) [.string x] HC.out
        have hbw1 := setRow_below (o := k * 1) [.string x] hbw (Nat.le_refl w.heap.size)
        simp only [setRow, Nat.mul_one] at hh hbw1
        exact ⟨k + 1, _, by go_num, by omega, hh, by rw [putRow_size]; exact hsz,
          hide (by have := rows_step (k := k) (C := C) (g := w.heap.size) (vs := [.string x]) StringAt.loc StringAt.stays StringAt.widens rfl (by rw [HN.out]; exact hp) HX.out (by rw [HN.out]; omega) Hs.out (Below.refl _ wr) ⟨rfl, HBd.out⟩; simpa only [setRow, Nat.mul_one] using this), hbw1⟩
      case measure => simp [intOf]; omega
    · have i1 : ¬ (k : Int) < n := by omega
      go_wp2
      go_ret
      refine ⟨⟨_, rfl, ?_⟩, hbw⟩
      have := SlAt.of_row (E := StringAt) (m := ⟨w.heap.size, wr.heap.size, true⟩) (c := n) (l := l) hC (Nat.le_refl _) (Array.getElem?_eq_some_iff.1 hC).1 (by rw [HN.out]; exact Nat.le_refl _) (fun i h => Hs.out i h (by have := HN.out; omega))
      rw [HN.out] at this
      exact hide this
set_option maxHeartbeats 4000000 in
theorem eqStringS_same (v v' : Value) (m m' : Md) (l : List StringD) (w : World) (hn : l.length ≤ maxLen) (h : SlAt StringAt 1 w m v l) (h' : SlAt StringAt 1 w m' v' l) (hm : m.hi ≤ w.heap.size) (hm' : m'.hi ≤ w.heap.size) :
    Calls Tryd.prog 21 #[v, v'] w fun e w' => e = .returned (.bool true) ∧ Below w.heap.size w w' := by
  unfold maxLen at hn
  have HS := hide h
  have HS' := hide h'
  obtain ⟨a, c, rfl, -⟩ := h
  obtain ⟨a', c', rfl, -⟩ := h'
  obtain ⟨n, hl⟩ : ∃ n, l.length = n := ⟨_, rfl⟩
  have HN := hide hl
  rw [hl] at hn ⊢
  clear hl
  go_enter Tryd.func21, Tryd.ntmps21
  go_wp2
  go_loopw [5] (fun i wr => ∃ k : Nat, i = .int .i64 k ∧ k ≤ n ∧ Below w.heap.size w wr) (fun i _ => n - (intOf i).toNat)
  case atStart => exact ⟨0, rfl, by omega, Below.refl _ _⟩
  case round =>
    obtain ⟨k, rfl, hk, hbw⟩ := hrel
    by_cases hp : k < n
    · have i1 : (k : Int) < n := by omega
      obtain ⟨x, hx⟩ : ∃ x, l[k]'(by rw [HN.out]; exact hp) = x := ⟨_, rfl⟩
      obtain ⟨a1, c1', e1, hrows⟩ := HS.out.on StringAt.stays (hbw.mono hm)
      cases e1
      obtain ⟨b, o, rfl, hb1, hb2, -, he⟩ := hrows k (by rw [HN.out]; exact hp)
      obtain ⟨a2, c2', e2, hrows'⟩ := HS'.out.on StringAt.stays (hbw.mono hm')
      cases e2
      obtain ⟨b', o', rfl, hb1', hb2', -, heq⟩ := hrows' k (by rw [HN.out]; exact hp)
      rw [hx] at he heq
      clear hx hrows hrows'
      obtain ⟨d0, -⟩ := he
      obtain ⟨d1, -⟩ := heq
      simp only [Nat.mul_one, Nat.add_zero] at d0 d1
      go_wp2
      go_quiet (fail)
      go_wp2
      go_roundw
      case rel => exact ⟨k + 1, by go_num, by omega, Go.below_drewN hbw _⟩
      case measure => simp [intOf]; omega
    · have i1 : ¬ (k : Int) < n := by omega
      go_wp2
      go_ret
      exact ⟨rfl, hbw⟩
set_option maxHeartbeats 4000000 in
theorem toIntS_any (v : Value) (m : Md) (l : List IntD) (w : World) (hn : l.length ≤ 1048576) (h : SlAt IntAt 1 w m v l) (hm : m.hi ≤ w.heap.size) :
    Calls Tryd.prog 27 #[v] w fun e w' => (∃ u, e = .returned u ∧ Hid (SlAt IntAt 1 w' ⟨w.heap.size, w'.heap.size, true⟩ u l)) ∧ Below w.heap.size w w' := by
  have HS := hide h
  obtain ⟨a, c, rfl, -⟩ := h
  obtain ⟨n, hl⟩ : ∃ n, l.length = n := ⟨_, rfl⟩
  have HN := hide hl
  rw [hl] at hn ⊢
  clear hl
  have hmk := run_make_many (P := Tryd.prog) 24 3 (.int .i64 0) 1 8 Tryd.underlying24 (by kernel_rfl) n (by omega) (by omega)
  go_enter Tryd.func27, Tryd.ntmps27
  go_wp2
  go_loopw [4] (fun i wr => ∃ (k : Nat) (C : Array Value), i = .int .i64 k ∧ k ≤ n ∧ wr.heap[w.heap.size]? = some (.cells C 3 (0, 0)) ∧ C.size = n * 1 ∧ Hid (∀ i (h : i < l.length), i < k → IntAt (fun j => C[i * 1 + j]?) wr ⟨w.heap.size + 1, wr.heap.size, true⟩ l[i]) ∧ Below w.heap.size w wr) (fun i _ => n - (intOf i).toNat)
  case atStart => exact ⟨0, _, rfl, by omega, Deep.blk_alloc_new _ _, by rw [size_madeCells, Nat.mul_one], hide (fun i _ hi => absurd hi (by omega)), (Below.refl _ _).alloc (Nat.le_refl _) _⟩
  case round =>
    obtain ⟨k, C, rfl, hk, hC, hsz, Hs, hbw⟩ := hrel
    by_cases hp : k < n
    · have i1 : (k : Int) < n := by omega
      obtain ⟨x, hx⟩ : ∃ x, l[k]'(by rw [HN.out]; exact hp) = x := ⟨_, rfl⟩
      obtain ⟨a', c', e', hrows⟩ := HS.out.on IntAt.stays (hbw.mono hm)
      cases e'
      obtain ⟨b, o, rfl, hb1, hb2, -, he⟩ := hrows k (by rw [HN.out]; exact hp)
      have HX := hide hx
      rw [hx] at he
      clear hx hrows
      obtain ⟨d0, hbd⟩ := he
      simp only [Nat.mul_one, Nat.add_zero] at d0
      have HBd := hide hbd
      have HC := hide hC
      obtain ⟨s1, s2⟩ := heapCells hC
      obtain ⟨y0, g0⟩ : ∃ y, wr.cell? ⟨w.heap.size, k, none⟩ = some y := by rw [s1]; exact ⟨_, Array.getElem?_eq_getElem (by omega)⟩
      have f0 := s2 k
      clear s1 s2 hC hbd
      go_wp2
      go_roundw
      case rel =>
        have hh := setRow_heap (o := k * 1) [.int .i64 x] HC.out
        have hbw1 := setRow_below (o := k * 1) [.int .i64 x] hbw (Nat.le_refl w.heap.size)
        simp only [setRow, Nat.mul_one] at hh hbw1
        exact ⟨k + 1, _, by go_num, by omega, hh, by rw [putRow_size]; exact hsz,
          hide (by have := rows_step (k := k) (C := C) (g := w.heap.size) (vs := [.int .i64 x]) IntAt.loc IntAt.stays IntAt.widens rfl (by rw [HN.out]; exact hp) HX.out (by rw [HN.out]; omega) Hs.out (Below.refl _ wr) ⟨rfl, HBd.out⟩; simpa only [setRow, Nat.mul_one] using this), hbw1⟩
      case measure => simp [intOf]; omega
    · have i1 : ¬ (k : Int) < n := by omega
      go_wp2
      go_ret
      refine ⟨⟨_, rfl, ?_⟩, hbw⟩
      have := SlAt.of_row (E := IntAt) (m := ⟨w.heap.size, wr.heap.size, true⟩) (c := n) (l := l) hC (Nat.le_refl _) (Array.getElem?_eq_some_iff.1 hC).1 (by rw [HN.out]; exact Nat.le_refl _) (fun i h => Hs.out i h (by have := HN.out; omega))
      rw [HN.out] at this
      exact hide this
set_option maxHeartbeats 4000000 in
theorem eqIntS_same (v v' : Value) (m m' : Md) (l : List IntD) (w : World) (hn : l.length ≤ maxLen) (h : SlAt IntAt 1 w m v l) (h' : SlAt IntAt 1 w m' v' l) (hm : m.hi ≤ w.heap.size) (hm' : m'.hi ≤ w.heap.size) :
    Calls Tryd.prog 32 #[v, v'] w fun e w' => e = .returned (.bool true) ∧ Below w.heap.size w w' := by
  unfold maxLen at hn
  have HS := hide h
  have HS' := hide h'
  obtain ⟨a, c, rfl, -⟩ := h
  obtain ⟨a', c', rfl, -⟩ := h'
  obtain ⟨n, hl⟩ : ∃ n, l.length = n := ⟨_, rfl⟩
  have HN := hide hl
  rw [hl] at hn ⊢
  clear hl
  go_enter Tryd.func32, Tryd.ntmps32
  go_wp2
  go_loopw [5] (fun i wr => ∃ k : Nat, i = .int .i64 k ∧ k ≤ n ∧ Below w.heap.size w wr) (fun i _ => n - (intOf i).toNat)
  case atStart => exact ⟨0, rfl, by omega, Below.refl _ _⟩
  case round =>
    obtain ⟨k, rfl, hk, hbw⟩ := hrel
    by_cases hp : k < n
    · have i1 : (k : Int) < n := by omega
      obtain ⟨x, hx⟩ : ∃ x, l[k]'(by rw [HN.out]; exact hp) = x := ⟨_, rfl⟩
      obtain ⟨a1, c1', e1, hrows⟩ := HS.out.on IntAt.stays (hbw.mono hm)
      cases e1
      obtain ⟨b, o, rfl, hb1, hb2, -, he⟩ := hrows k (by rw [HN.out]; exact hp)
      obtain ⟨a2, c2', e2, hrows'⟩ := HS'.out.on IntAt.stays (hbw.mono hm')
      cases e2
      obtain ⟨b', o', rfl, hb1', hb2', -, heq⟩ := hrows' k (by rw [HN.out]; exact hp)
      rw [hx] at he heq
      clear hx hrows hrows'
      obtain ⟨d0, -⟩ := he
      obtain ⟨d1, -⟩ := heq
      simp only [Nat.mul_one, Nat.add_zero] at d0 d1
      go_wp2
      go_quiet (fail)
      go_wp2
      go_roundw
      case rel => exact ⟨k + 1, by go_num, by omega, Go.below_drewN hbw _⟩
      case measure => simp [intOf]; omega
    · have i1 : ¬ (k : Int) < n := by omega
      go_wp2
      go_ret
      exact ⟨rfl, hbw⟩
end Go.Proofs.YtpfceikohoncgaaDoor
