/- The law's own measure: what it lets through is small. No condition. -/
import Derived.Test.YtpfceikohoncgaaDoorZImgD
namespace Go.Proofs.YtpfceikohoncgaaDoor
open Go.RowKit

def InsSm (_ : InsD) : Prop := True
set_option maxHeartbeats 4000000 in
theorem szIns_any (v : Value) (m : Md) (x : InsD) (left : Int) (w : World) (h0 : 0 ≤ left) (h1 : left ≤ 1048576) (h : InsVal w m v x) (_ : m.hi ≤ w.heap.size) :
    Calls Tryd.prog 49 #[v, .int .i64 left] w fun e w' => (∃ k : Int, e = .returned (.int .i64 k) ∧ -1 ≤ k ∧ k ≤ left ∧ (0 ≤ k → InsSm x)) ∧ Below w.heap.size w w' := by
  obtain ⟨rfl, hb⟩ := h
  obtain ⟨-, -, -, lb3, lb4⟩ := hb
  unfold maxLen at lb3
  unfold maxLen at lb4
  by_cases g3 : left - (x.mod.size : Int) < 0
  · go_enter Tryd.func49, Tryd.ntmps49
    go_wp2
    go_ret
    exact ⟨⟨-1, rfl, by omega, by omega, by omega⟩, (Below.refl w.heap.size w).alloc (Nat.le_refl _) _⟩
  · by_cases g4 : (left - (x.mod.size : Int)) - (x.name.size : Int) < 0
    · go_enter Tryd.func49, Tryd.ntmps49
      go_wp2
      go_ret
      exact ⟨⟨-1, rfl, by omega, by omega, by omega⟩, (Below.refl w.heap.size w).alloc (Nat.le_refl _) _⟩
    · go_enter Tryd.func49, Tryd.ntmps49
      go_wp2
      go_ret
      exact ⟨⟨_, rfl, by omega, by omega, fun hk0 => trivial⟩, (Below.refl w.heap.size w).alloc (Nat.le_refl _) _⟩
set_option maxHeartbeats 4000000 in
theorem szInsS_any (v : Value) (m : Md) (l : List InsD) (left : Int) (w : World) (h0 : 0 ≤ left) (h1 : left ≤ 1048576) (hn : l.length ≤ maxLen) (h : SlAt InsAt 5 w m v l) (hm : m.hi ≤ w.heap.size) :
    Calls Tryd.prog 40 #[v, .int .i64 left] w fun e w' => (∃ k : Int, e = .returned (.int .i64 k) ∧ -1 ≤ k ∧ k ≤ left ∧ (0 ≤ k → (l.length : Int) ≤ left ∧ ∀ x ∈ l, InsSm x)) ∧ Below w.heap.size w w' := by
  unfold maxLen at hn
  have HS := hide h
  obtain ⟨a, c, rfl, -⟩ := h
  obtain ⟨n, hl⟩ : ∃ n, l.length = n := ⟨_, rfl⟩
  have HN := hide hl
  rw [hl] at hn ⊢
  clear hl
  by_cases hb : left - n < 0
  · go_enter Tryd.func40, Tryd.ntmps40
    go_wp2
    go_ret
    exact ⟨⟨-1, rfl, by omega, by omega, by omega⟩, Below.refl _ _⟩
  · go_enter Tryd.func40, Tryd.ntmps40
    go_wp2
    go_loopw [1, 5] (fun q i wr => ∃ (k : Nat) (L : Int), i = .int .i64 k ∧ q = .int .i64 L ∧ k ≤ n ∧ 0 ≤ L ∧ L ≤ left - n ∧ Hid (∀ x ∈ l.take k, InsSm x) ∧ Below w.heap.size w wr) (fun _ i _ => n - (intOf i).toNat)
    case atStart => exact ⟨0, _, rfl, rfl, by omega, by omega, by omega, hide (fun x hx => by simp at hx), Below.refl _ _⟩
    case round =>
      obtain ⟨k, L, rfl, rfl, hk, hL, hL2, Hs, hbw⟩ := hrel
      by_cases hp : k < n
      · have i1 : (k : Int) < n := by omega
        obtain ⟨x, hx⟩ : ∃ x, l[k]'(by rw [HN.out]; exact hp) = x := ⟨_, rfl⟩
        obtain ⟨a', c', e', hrows⟩ := HS.out.on InsAt.stays (hbw.mono hm)
        cases e'
        obtain ⟨b, o, rfl, hb1, hb2, -, he⟩ := hrows k (by rw [HN.out]; exact hp)
        have HX := hide hx
        rw [hx] at he
        clear hx hrows
        obtain ⟨⟨d0, d1, d2, d3, d4⟩, hbd⟩ := he
        have HVal := hide (show InsVal wr (m.inner b) (.agg #[.int .i64 (x.op), .int .i64 (x.a), .int .i64 (x.b), .string (x.mod), .string (x.name)]) x from ⟨rfl, hbd⟩)
        simp only [Nat.add_zero] at d0 d1 d2 d3 d4
        clear hbd
        go_wp2_with (go_at_call 49; refine (szIns_any _ (m.inner b) x L wr hL (by omega) HVal.out (by rw [Md.inner_hi]; exact Nat.le_trans hm hbw.size)).mono ?_; rintro e w' ⟨⟨q, rfl, q1, q2, q3⟩, bel⟩; by_cases hq : q < 0)
        · go_wp2
          go_ret
          exact ⟨⟨-1, rfl, by omega, by omega, by omega⟩, hbw.trans (bel.mono hbw.size)⟩
        · go_wp2
          go_roundw
          case rel =>
            refine ⟨k + 1, q, by go_num, rfl, by omega, by omega, by omega, hide fun y hy => ?_, hbw.trans (bel.mono hbw.size)⟩
            rw [List.take_succ_eq_append_getElem (by rw [HN.out]; exact hp), HX.out] at hy
            rcases List.mem_append.1 hy with e | e
            · exact Hs.out y e
            · obtain rfl := List.mem_singleton.1 e
              exact q3 (by omega)
          case measure => simp [intOf]; omega
      · have i1 : ¬ (k : Int) < n := by omega
        go_wp2
        go_ret
        exact ⟨⟨L, rfl, by omega, by omega, fun _ => ⟨by omega, fun y hy => Hs.out y (by rw [List.take_of_length_le (by have := HN.out; omega)]; exact hy)⟩⟩, hbw⟩
def CodeSm (x : CodeD) : Prop := x.list.length ≤ 1048576
set_option maxHeartbeats 4000000 in
theorem szCode_any (v : Value) (m : Md) (x : CodeD) (left : Int) (w : World) (h0 : 0 ≤ left) (h1 : left ≤ 1048576) (h : CodeVal w m v x) (hm : m.hi ≤ w.heap.size) :
    Calls Tryd.prog 33 #[v, .int .i64 left] w fun e w' => (∃ k : Int, e = .returned (.int .i64 k) ∧ -1 ≤ k ∧ k ≤ left ∧ (0 ≤ k → CodeSm x)) ∧ Below w.heap.size w w' := by
  obtain ⟨u4, rfl, hb, s4⟩ := h
  have HS4 := hide s4
  obtain ⟨p4, c4, rfl, -⟩ := s4
  obtain ⟨lb0, -, -, -, lb4⟩ := hb
  unfold maxLen at lb0
  by_cases g0 : left - (x.name.size : Int) < 0
  · go_enter Tryd.func33, Tryd.ntmps33
    go_wp2
    go_ret
    exact ⟨⟨-1, rfl, by omega, by omega, by omega⟩, (Below.refl w.heap.size w).alloc (Nat.le_refl _) _⟩
  · go_enter Tryd.func33, Tryd.ntmps33
    go_wp2_with (go_at_call 40; refine (szInsS_any _ m x.list _ _ (by omega) (by omega) lb4 (HS4.out.on InsAt.stays (Below.mono ((Below.refl w.heap.size w).alloc (Nat.le_refl _) _) hm)) (Nat.le_trans hm (Below.size ((Below.refl w.heap.size w).alloc (Nat.le_refl _) _)))).mono ?_; rintro e w4' ⟨⟨k4, rfl, ka4, kb4, kc4⟩, bel4⟩; have z4 : w.heap.size < w4'.heap.size := Nat.lt_of_lt_of_le (by simp) bel4.size; by_cases gk4 : k4 < 0)
    · go_wp2
      go_ret
      exact ⟨⟨-1, rfl, by omega, by omega, by omega⟩, (Below.trans ((Below.refl w.heap.size w).alloc (Nat.le_refl _) _) (Below.mono bel4 (Below.size ((Below.refl w.heap.size w).alloc (Nat.le_refl _) _))))⟩
    · go_wp2
      go_ret
      exact ⟨⟨_, rfl, by omega, by omega, fun hk0 => by
        unfold CodeSm
        exact by have := (kc4 (by omega)).1; omega⟩, (Below.trans ((Below.refl w.heap.size w).alloc (Nat.le_refl _) _) (Below.mono bel4 (Below.size ((Below.refl w.heap.size w).alloc (Nat.le_refl _) _))))⟩
set_option maxHeartbeats 4000000 in
theorem szCodeS_any (v : Value) (m : Md) (l : List CodeD) (left : Int) (w : World) (h0 : 0 ≤ left) (h1 : left ≤ 1048576) (hn : l.length ≤ maxLen) (h : SlAt CodeAt 5 w m v l) (hm : m.hi ≤ w.heap.size) :
    Calls Tryd.prog 22 #[v, .int .i64 left] w fun e w' => (∃ k : Int, e = .returned (.int .i64 k) ∧ -1 ≤ k ∧ k ≤ left ∧ (0 ≤ k → (l.length : Int) ≤ left ∧ ∀ x ∈ l, CodeSm x)) ∧ Below w.heap.size w w' := by
  unfold maxLen at hn
  have HS := hide h
  obtain ⟨a, c, rfl, -⟩ := h
  obtain ⟨n, hl⟩ : ∃ n, l.length = n := ⟨_, rfl⟩
  have HN := hide hl
  rw [hl] at hn ⊢
  clear hl
  by_cases hb : left - n < 0
  · go_enter Tryd.func22, Tryd.ntmps22
    go_wp2
    go_ret
    exact ⟨⟨-1, rfl, by omega, by omega, by omega⟩, Below.refl _ _⟩
  · go_enter Tryd.func22, Tryd.ntmps22
    go_wp2
    go_loopw [1, 5] (fun q i wr => ∃ (k : Nat) (L : Int), i = .int .i64 k ∧ q = .int .i64 L ∧ k ≤ n ∧ 0 ≤ L ∧ L ≤ left - n ∧ Hid (∀ x ∈ l.take k, CodeSm x) ∧ Below w.heap.size w wr) (fun _ i _ => n - (intOf i).toNat)
    case atStart => exact ⟨0, _, rfl, rfl, by omega, by omega, by omega, hide (fun x hx => by simp at hx), Below.refl _ _⟩
    case round =>
      obtain ⟨k, L, rfl, rfl, hk, hL, hL2, Hs, hbw⟩ := hrel
      by_cases hp : k < n
      · have i1 : (k : Int) < n := by omega
        obtain ⟨x, hx⟩ : ∃ x, l[k]'(by rw [HN.out]; exact hp) = x := ⟨_, rfl⟩
        obtain ⟨a', c', e', hrows⟩ := HS.out.on CodeAt.stays (hbw.mono hm)
        cases e'
        obtain ⟨b, o, rfl, hb1, hb2, -, he⟩ := hrows k (by rw [HN.out]; exact hp)
        have HX := hide hx
        rw [hx] at he
        clear hx hrows
        obtain ⟨⟨d0, d1, d2, d3⟩, hbd, u4, d4, s4⟩ := he
        have HVal := hide (show CodeVal _ _ (.agg #[.string (x.name), .int .i64 (x.params), .int .i64 (x.cells), .int .i64 (x.result), u4]) x from ⟨u4, rfl, hbd, s4⟩)
        obtain ⟨p4, c4, rfl, -⟩ := s4
        simp only [Nat.add_zero] at d0 d1 d2 d3 d4
        clear hbd
        go_wp2_with (go_at_call 33; refine (szCode_any _ (m.inner b) x L wr hL (by omega) HVal.out (by rw [Md.inner_hi]; exact Nat.le_trans hm hbw.size)).mono ?_; rintro e w' ⟨⟨q, rfl, q1, q2, q3⟩, bel⟩; by_cases hq : q < 0)
        · go_wp2
          go_ret
          exact ⟨⟨-1, rfl, by omega, by omega, by omega⟩, hbw.trans (bel.mono hbw.size)⟩
        · go_wp2
          go_roundw
          case rel =>
            refine ⟨k + 1, q, by go_num, rfl, by omega, by omega, by omega, hide fun y hy => ?_, hbw.trans (bel.mono hbw.size)⟩
            rw [List.take_succ_eq_append_getElem (by rw [HN.out]; exact hp), HX.out] at hy
            rcases List.mem_append.1 hy with e | e
            · exact Hs.out y e
            · obtain rfl := List.mem_singleton.1 e
              exact q3 (by omega)
          case measure => simp [intOf]; omega
      · have i1 : ¬ (k : Int) < n := by omega
        go_wp2
        go_ret
        exact ⟨⟨L, rfl, by omega, by omega, fun _ => ⟨by omega, fun y hy => Hs.out y (by rw [List.take_of_length_le (by have := HN.out; omega)]; exact hy)⟩⟩, hbw⟩
def ImageSm (x : ImageD) : Prop := x.procs.length ≤ 1048576 ∧ (∀ y ∈ x.procs, CodeSm y) ∧ x.names.length ≤ 1048576 ∧ x.start.length ≤ 1048576
set_option maxHeartbeats 4000000 in
theorem szImage_any (v : Value) (m : Md) (x : ImageD) (left : Int) (w : World) (h0 : 0 ≤ left) (h1 : left ≤ 1048576) (h : ImageVal w m v x) (hm : m.hi ≤ w.heap.size) :
    Calls Tryd.prog 9 #[v, .int .i64 left] w fun e w' => (∃ k : Int, e = .returned (.int .i64 k) ∧ -1 ≤ k ∧ k ≤ left ∧ (0 ≤ k → ImageSm x)) ∧ Below w.heap.size w w' := by
  obtain ⟨u1, u2, u3, rfl, hb, s1, s2, s3⟩ := h
  have HS1 := hide s1
  obtain ⟨p1, c1, rfl, -⟩ := s1
  have HS2 := hide s2
  obtain ⟨p2, c2, rfl, -⟩ := s2
  have HS3 := hide s3
  obtain ⟨p3, c3, rfl, -⟩ := s3
  obtain ⟨-, lb1, lb2, lb3⟩ := hb
  go_enter Tryd.func9, Tryd.ntmps9
  go_wp2_with (go_at_call 22; refine (szCodeS_any _ m x.procs _ _ (by omega) (by omega) lb1 (HS1.out.on CodeAt.stays (Below.mono ((Below.refl w.heap.size w).alloc (Nat.le_refl _) _) hm)) (Nat.le_trans hm (Below.size ((Below.refl w.heap.size w).alloc (Nat.le_refl _) _)))).mono ?_; rintro e w1' ⟨⟨k1, rfl, ka1, kb1, kc1⟩, bel1⟩; have z1 : w.heap.size < w1'.heap.size := Nat.lt_of_lt_of_le (by simp) bel1.size; have f1_2 := (bel1.cell (p := ⟨w.heap.size, 2, none⟩) (by simp)).trans (show _ = some (Value.slice p2 x.names.length c2) by simp [go_sem]); have f1_3 := (bel1.cell (p := ⟨w.heap.size, 3, none⟩) (by simp)).trans (show _ = some (Value.slice p3 x.start.length c3) by simp [go_sem]); by_cases gk1 : k1 < 0)
  · go_wp2
    go_ret
    exact ⟨⟨-1, rfl, by omega, by omega, by omega⟩, (Below.trans ((Below.refl w.heap.size w).alloc (Nat.le_refl _) _) (Below.mono bel1 (Below.size ((Below.refl w.heap.size w).alloc (Nat.le_refl _) _))))⟩
  · go_wp2_with (go_at_call 10; refine (szStringS_any _ m x.names _ _ (by omega) (by omega) lb2 (HS2.out.on StringAt.stays (Below.mono ((Below.trans ((Below.refl w.heap.size w).alloc (Nat.le_refl _) _) (Below.mono bel1 (Below.size ((Below.refl w.heap.size w).alloc (Nat.le_refl _) _))))) hm)) (Nat.le_trans hm (Below.size ((Below.trans ((Below.refl w.heap.size w).alloc (Nat.le_refl _) _) (Below.mono bel1 (Below.size ((Below.refl w.heap.size w).alloc (Nat.le_refl _) _)))))))).mono ?_; rintro e w2' ⟨⟨k2, rfl, ka2, kb2, kc2⟩, bel2⟩; have z2 : w.heap.size < w2'.heap.size := Nat.lt_of_lt_of_le z1 bel2.size; have f2_3 := (bel2.cell (p := ⟨w.heap.size, 3, none⟩) z1).trans f1_3; by_cases gk2 : k2 < 0)
    · go_wp2
      go_ret
      exact ⟨⟨-1, rfl, by omega, by omega, by omega⟩, (Below.trans ((Below.trans ((Below.refl w.heap.size w).alloc (Nat.le_refl _) _) (Below.mono bel1 (Below.size ((Below.refl w.heap.size w).alloc (Nat.le_refl _) _))))) (Below.mono bel2 (Below.size ((Below.trans ((Below.refl w.heap.size w).alloc (Nat.le_refl _) _) (Below.mono bel1 (Below.size ((Below.refl w.heap.size w).alloc (Nat.le_refl _) _))))))))⟩
    · go_wp2_with (go_at_call 23; refine (szIntS_any _ m x.start _ _ (by omega) (by omega) lb3 (HS3.out.on IntAt.stays (Below.mono ((Below.trans ((Below.trans ((Below.refl w.heap.size w).alloc (Nat.le_refl _) _) (Below.mono bel1 (Below.size ((Below.refl w.heap.size w).alloc (Nat.le_refl _) _))))) (Below.mono bel2 (Below.size ((Below.trans ((Below.refl w.heap.size w).alloc (Nat.le_refl _) _) (Below.mono bel1 (Below.size ((Below.refl w.heap.size w).alloc (Nat.le_refl _) _))))))))) hm)) (Nat.le_trans hm (Below.size ((Below.trans ((Below.trans ((Below.refl w.heap.size w).alloc (Nat.le_refl _) _) (Below.mono bel1 (Below.size ((Below.refl w.heap.size w).alloc (Nat.le_refl _) _))))) (Below.mono bel2 (Below.size ((Below.trans ((Below.refl w.heap.size w).alloc (Nat.le_refl _) _) (Below.mono bel1 (Below.size ((Below.refl w.heap.size w).alloc (Nat.le_refl _) _)))))))))))).mono ?_; rintro e w3' ⟨⟨k3, rfl, ka3, kb3, kc3⟩, bel3⟩; have z3 : w.heap.size < w3'.heap.size := Nat.lt_of_lt_of_le z2 bel3.size; by_cases gk3 : k3 < 0)
      · go_wp2
        go_ret
        exact ⟨⟨-1, rfl, by omega, by omega, by omega⟩, (Below.trans ((Below.trans ((Below.trans ((Below.refl w.heap.size w).alloc (Nat.le_refl _) _) (Below.mono bel1 (Below.size ((Below.refl w.heap.size w).alloc (Nat.le_refl _) _))))) (Below.mono bel2 (Below.size ((Below.trans ((Below.refl w.heap.size w).alloc (Nat.le_refl _) _) (Below.mono bel1 (Below.size ((Below.refl w.heap.size w).alloc (Nat.le_refl _) _))))))))) (Below.mono bel3 (Below.size ((Below.trans ((Below.trans ((Below.refl w.heap.size w).alloc (Nat.le_refl _) _) (Below.mono bel1 (Below.size ((Below.refl w.heap.size w).alloc (Nat.le_refl _) _))))) (Below.mono bel2 (Below.size ((Below.trans ((Below.refl w.heap.size w).alloc (Nat.le_refl _) _) (Below.mono bel1 (Below.size ((Below.refl w.heap.size w).alloc (Nat.le_refl _) _))))))))))))⟩
      · go_wp2
        go_ret
        exact ⟨⟨_, rfl, by omega, by omega, fun hk0 => by
          unfold ImageSm
          exact ⟨by have := (kc1 (by omega)).1; omega, fun y hy => (kc1 (by omega)).2 y hy, by have := (kc2 (by omega)).1; omega, by have := (kc3 (by omega)).1; omega⟩⟩, (Below.trans ((Below.trans ((Below.trans ((Below.refl w.heap.size w).alloc (Nat.le_refl _) _) (Below.mono bel1 (Below.size ((Below.refl w.heap.size w).alloc (Nat.le_refl _) _))))) (Below.mono bel2 (Below.size ((Below.trans ((Below.refl w.heap.size w).alloc (Nat.le_refl _) _) (Below.mono bel1 (Below.size ((Below.refl w.heap.size w).alloc (Nat.le_refl _) _))))))))) (Below.mono bel3 (Below.size ((Below.trans ((Below.trans ((Below.refl w.heap.size w).alloc (Nat.le_refl _) _) (Below.mono bel1 (Below.size ((Below.refl w.heap.size w).alloc (Nat.le_refl _) _))))) (Below.mono bel2 (Below.size ((Below.trans ((Below.refl w.heap.size w).alloc (Nat.le_refl _) _) (Below.mono bel1 (Below.size ((Below.refl w.heap.size w).alloc (Nat.le_refl _) _))))))))))))⟩
end Go.Proofs.YtpfceikohoncgaaDoor
