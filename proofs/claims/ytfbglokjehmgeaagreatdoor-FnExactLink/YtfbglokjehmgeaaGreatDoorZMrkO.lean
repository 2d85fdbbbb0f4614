/- The law's marks in its copies of objects: the list. No condition. -/
import Derived.Test.YtfbglokjehmgeaaGreatDoorZObjTo
import Derived.Test.YtfbglokjehmgeaaGreatDoorZToSepS
import Derived.Test.YtfbglokjehmgeaaGreatDoorZMrkN
/- The law's measure of a list of objects: how much there is of it in all. No condition. -/
namespace Go.Proofs.YtfbglokjehmgeaaGreatDoor
open Go.ChangeShapes Go.WideShapes Go.ChangeAt Go.RowKit Go.Deep

def wsum {α : Type} (f : α → Nat) (l : List α) : Nat := (l.map f).sum
theorem wsum_take {α : Type} (f : α → Nat) {l : List α} {k : Nat} (h : k < l.length) : wsum f (l.take (k + 1)) = wsum f (l.take k) + f l[k] := by
  unfold wsum
  rw [List.take_succ_eq_append_getElem h, List.map_append, List.sum_append]
  simp
def codeW (x : CodeD) : Nat := x.list.length
def objW (x : ObjectD) : Nat := x.needs.length + x.globals.length + x.procs.length + wsum codeW x.procs
set_option maxHeartbeats 4000000 in
theorem szInsS_w (v : Value) (m : Md) (l : List InsD) (left : Int) (w : World) (h0 : 0 ≤ left) (h1 : left ≤ 1048576) (hn : l.length ≤ maxLen) (h : SlAt InsAt 5 w m v l) (hm : m.hi ≤ w.heap.size) :
    Calls Tryz.prog 98 #[v, .int .i64 left] w fun e w' => (∃ k : Int, e = .returned (.int .i64 k) ∧ -1 ≤ k ∧ k ≤ left ∧ (0 ≤ k → (l.length : Int) + k ≤ left)) ∧ Below w.heap.size w w' := by
  unfold maxLen at hn
  have HS := hide h
  obtain ⟨a, c, rfl, -⟩ := h
  obtain ⟨n, hl⟩ : ∃ n, l.length = n := ⟨_, rfl⟩
  have HN := hide hl
  rw [hl] at hn ⊢
  clear hl
  by_cases hb : left - n < 0
  · go_enter Tryz.func98, Tryz.ntmps98
    go_wp2
    go_ret
    exact ⟨⟨-1, rfl, by omega, by omega, by omega⟩, Below.refl _ _⟩
  · go_enter Tryz.func98, Tryz.ntmps98
    go_wp2
    go_loopw [1, 5] (fun q i wr => ∃ (k : Nat) (L : Int), i = .int .i64 k ∧ q = .int .i64 L ∧ k ≤ n ∧ 0 ≤ L ∧ L ≤ left - n ∧ Hid (∀ x ∈ l.take k, InsSm x) ∧ Below w.heap.size w wr) (fun _ i _ => n - (intOf i).toNat)
    case atStart => exact ⟨0, _, rfl, rfl, by omega, by omega, by omega, hide (fun x hx => by simp at hx), Below.refl _ _⟩
    case round =>
      obtain ⟨k, L, rfl, rfl, hk, hL, hL2, Hs, hbw⟩ := hrel
      by_cases hp : k < n
      · have i1 : (k : Int) < n := by omega
        obtain ⟨x, hx⟩ : ∃ x, l[k]'(by rw [HN.out]; exact hp) = x := ⟨_, rfl⟩
        obtain ⟨a', c', e', hrows⟩ := HS.out.on InsAt.stays (hbw.mono hm)
        cases e'
        obtain ⟨b, o, rfl, hb1, hb2, -, he⟩ := hrows k (by rw [HN.out]; exact hp)
        have HX := hide hx
        rw [hx] at he
        clear hx hrows
        obtain ⟨⟨d0, d1, d2, d3, d4⟩, hbd⟩ := he
        have HVal := hide (show InsVal wr (m.inner b) (.agg #[.int .i64 (x.op), .int .i64 (x.a), .int .i64 (x.b), .string (x.mod), .string (x.name)]) x from ⟨rfl, hbd⟩)
        simp only [Nat.add_zero] at d0 d1 d2 d3 d4
        clear hbd
        go_wp2_with (go_at_call 112; refine (szIns_any _ (m.inner b) x L wr hL (by omega) HVal.out (by rw [Md.inner_hi]; exact Nat.le_trans hm hbw.size)).mono ?_; rintro e w' ⟨⟨q, rfl, q1, q2, q3⟩, bel⟩; by_cases hq : q < 0)
        · go_wp2
          go_ret
          exact ⟨⟨-1, rfl, by omega, by omega, by omega⟩, hbw.trans (bel.mono hbw.size)⟩
        · go_wp2
          go_roundw
          case rel =>
            refine ⟨k + 1, q, by go_num, rfl, by omega, by omega, by omega, hide fun y hy => ?_, hbw.trans (bel.mono hbw.size)⟩
            rw [List.take_succ_eq_append_getElem (by rw [HN.out]; exact hp), HX.out] at hy
            rcases List.mem_append.1 hy with e | e
            · exact Hs.out y e
            · obtain rfl := List.mem_singleton.1 e
              exact q3 (by omega)
          case measure => simp [intOf]; omega
      · have i1 : ¬ (k : Int) < n := by omega
        go_wp2
        go_ret
        exact ⟨⟨L, rfl, by omega, by omega, fun _ => by have := HN.out; omega⟩, hbw⟩
set_option maxHeartbeats 4000000 in
theorem szNeedS_w (v : Value) (m : Md) (l : List NeedD) (left : Int) (w : World) (h0 : 0 ≤ left) (h1 : left ≤ 1048576) (hn : l.length ≤ maxLen) (h : SlAt NeedAt 2 w m v l) (hm : m.hi ≤ w.heap.size) :
    Calls Tryz.prog 39 #[v, .int .i64 left] w fun e w' => (∃ k : Int, e = .returned (.int .i64 k) ∧ -1 ≤ k ∧ k ≤ left ∧ (0 ≤ k → (l.length : Int) + k ≤ left)) ∧ Below w.heap.size w w' := by
  unfold maxLen at hn
  have HS := hide h
  obtain ⟨a, c, rfl, -⟩ := h
  obtain ⟨n, hl⟩ : ∃ n, l.length = n := ⟨_, rfl⟩
  have HN := hide hl
  rw [hl] at hn ⊢
  clear hl
  by_cases hb : left - n < 0
  · go_enter Tryz.func39, Tryz.ntmps39
    go_wp2
    go_ret
    exact ⟨⟨-1, rfl, by omega, by omega, by omega⟩, Below.refl _ _⟩
  · go_enter Tryz.func39, Tryz.ntmps39
    go_wp2
    go_loopw [1, 5] (fun q i wr => ∃ (k : Nat) (L : Int), i = .int .i64 k ∧ q = .int .i64 L ∧ k ≤ n ∧ 0 ≤ L ∧ L ≤ left - n ∧ Hid (∀ x ∈ l.take k, NeedSm x) ∧ Below w.heap.size w wr) (fun _ i _ => n - (intOf i).toNat)
    case atStart => exact ⟨0, _, rfl, rfl, by omega, by omega, by omega, hide (fun x hx => by simp at hx), Below.refl _ _⟩
    case round =>
      obtain ⟨k, L, rfl, rfl, hk, hL, hL2, Hs, hbw⟩ := hrel
      by_cases hp : k < n
      · have i1 : (k : Int) < n := by omega
        obtain ⟨x, hx⟩ : ∃ x, l[k]'(by rw [HN.out]; exact hp) = x := ⟨_, rfl⟩
        obtain ⟨a', c', e', hrows⟩ := HS.out.on NeedAt.stays (hbw.mono hm)
        cases e'
        obtain ⟨b, o, rfl, hb1, hb2, -, he⟩ := hrows k (by rw [HN.out]; exact hp)
        have HX := hide hx
        rw [hx] at he
        clear hx hrows
        obtain ⟨⟨d0, d1⟩, hbd⟩ := he
        have HVal := hide (show NeedVal wr (m.inner b) (.agg #[.string (x.module), .int .i64 (x.print)]) x from ⟨rfl, hbd⟩)
        simp only [Nat.add_zero] at d0 d1
        clear hbd
        go_wp2_with (go_at_call 74; refine (szNeed_any _ (m.inner b) x L wr hL (by omega) HVal.out (by rw [Md.inner_hi]; exact Nat.le_trans hm hbw.size)).mono ?_; rintro e w' ⟨⟨q, rfl, q1, q2, q3⟩, bel⟩; by_cases hq : q < 0)
        · go_wp2
          go_ret
          exact ⟨⟨-1, rfl, by omega, by omega, by omega⟩, hbw.trans (bel.mono hbw.size)⟩
        · go_wp2
          go_roundw
          case rel =>
            refine ⟨k + 1, q, by go_num, rfl, by omega, by omega, by omega, hide fun y hy => ?_, hbw.trans (bel.mono hbw.size)⟩
            rw [List.take_succ_eq_append_getElem (by rw [HN.out]; exact hp), HX.out] at hy
            rcases List.mem_append.1 hy with e | e
            · exact Hs.out y e
            · obtain rfl := List.mem_singleton.1 e
              exact q3 (by omega)
          case measure => simp [intOf]; omega
      · have i1 : ¬ (k : Int) < n := by omega
        go_wp2
        go_ret
        exact ⟨⟨L, rfl, by omega, by omega, fun _ => by have := HN.out; omega⟩, hbw⟩
set_option maxHeartbeats 4000000 in
theorem szGlobalS_w (v : Value) (m : Md) (l : List GlobalD) (left : Int) (w : World) (h0 : 0 ≤ left) (h1 : left ≤ 1048576) (hn : l.length ≤ maxLen) (h : SlAt GlobalAt 2 w m v l) (hm : m.hi ≤ w.heap.size) :
    Calls Tryz.prog 40 #[v, .int .i64 left] w fun e w' => (∃ k : Int, e = .returned (.int .i64 k) ∧ -1 ≤ k ∧ k ≤ left ∧ (0 ≤ k → (l.length : Int) + k ≤ left)) ∧ Below w.heap.size w w' := by
  unfold maxLen at hn
  have HS := hide h
  obtain ⟨a, c, rfl, -⟩ := h
  obtain ⟨n, hl⟩ : ∃ n, l.length = n := ⟨_, rfl⟩
  have HN := hide hl
  rw [hl] at hn ⊢
  clear hl
  by_cases hb : left - n < 0
  · go_enter Tryz.func40, Tryz.ntmps40
    go_wp2
    go_ret
    exact ⟨⟨-1, rfl, by omega, by omega, by omega⟩, Below.refl _ _⟩
  · go_enter Tryz.func40, Tryz.ntmps40
    go_wp2
    go_loopw [1, 5] (fun q i wr => ∃ (k : Nat) (L : Int), i = .int .i64 k ∧ q = .int .i64 L ∧ k ≤ n ∧ 0 ≤ L ∧ L ≤ left - n ∧ Hid (∀ x ∈ l.take k, GlobalSm x) ∧ Below w.heap.size w wr) (fun _ i _ => n - (intOf i).toNat)
    case atStart => exact ⟨0, _, rfl, rfl, by omega, by omega, by omega, hide (fun x hx => by simp at hx), Below.refl _ _⟩
    case round =>
      obtain ⟨k, L, rfl, rfl, hk, hL, hL2, Hs, hbw⟩ := hrel
      by_cases hp : k < n
      · have i1 : (k : Int) < n := by omega
        obtain ⟨x, hx⟩ : ∃ x, l[k]'(by rw [HN.out]; exact hp) = x := ⟨_, rfl⟩
        obtain ⟨a', c', e', hrows⟩ := HS.out.on GlobalAt.stays (hbw.mono hm)
        cases e'
        obtain ⟨b, o, rfl, hb1, hb2, -, he⟩ := hrows k (by rw [HN.out]; exact hp)
        have HX := hide hx
        rw [hx] at he
        clear hx hrows
        obtain ⟨⟨d0, d1⟩, hbd⟩ := he
        have HVal := hide (show GlobalVal wr (m.inner b) (.agg #[.string (x.name), .int .i64 (x.length)]) x from ⟨rfl, hbd⟩)
        simp only [Nat.add_zero] at d0 d1
        clear hbd
        go_wp2_with (go_at_call 75; refine (szGlobal_any _ (m.inner b) x L wr hL (by omega) HVal.out (by rw [Md.inner_hi]; exact Nat.le_trans hm hbw.size)).mono ?_; rintro e w' ⟨⟨q, rfl, q1, q2, q3⟩, bel⟩; by_cases hq : q < 0)
        · go_wp2
          go_ret
          exact ⟨⟨-1, rfl, by omega, by omega, by omega⟩, hbw.trans (bel.mono hbw.size)⟩
        · go_wp2
          go_roundw
          case rel =>
            refine ⟨k + 1, q, by go_num, rfl, by omega, by omega, by omega, hide fun y hy => ?_, hbw.trans (bel.mono hbw.size)⟩
            rw [List.take_succ_eq_append_getElem (by rw [HN.out]; exact hp), HX.out] at hy
            rcases List.mem_append.1 hy with e | e
            · exact Hs.out y e
            · obtain rfl := List.mem_singleton.1 e
              exact q3 (by omega)
          case measure => simp [intOf]; omega
      · have i1 : ¬ (k : Int) < n := by omega
        go_wp2
        go_ret
        exact ⟨⟨L, rfl, by omega, by omega, fun _ => by have := HN.out; omega⟩, hbw⟩
set_option maxHeartbeats 4000000 in
theorem szCode_w (v : Value) (m : Md) (x : CodeD) (left : Int) (w : World) (h0 : 0 ≤ left) (h1 : left ≤ 1048576) (h : CodeVal w m v x) (hm : m.hi ≤ w.heap.size) :
    Calls Tryz.prog 76 #[v, .int .i64 left] w fun e w' => (∃ k : Int, e = .returned (.int .i64 k) ∧ -1 ≤ k ∧ k ≤ left ∧ (0 ≤ k → (codeW x : Int) + k ≤ left)) ∧ Below w.heap.size w w' := by
  obtain ⟨u4, rfl, hb, s4⟩ := h
  have HS4 := hide s4
  obtain ⟨p4, c4, rfl, -⟩ := s4
  obtain ⟨lb0, -, -, -, lb4⟩ := hb
  unfold maxLen at lb0
  by_cases g0 : left - (x.name.size : Int) < 0
  · go_enter Tryz.func76, Tryz.ntmps76
    go_wp2
    go_ret
    exact ⟨⟨-1, rfl, by omega, by omega, by omega⟩, (Below.refl w.heap.size w).alloc (Nat.le_refl _) _⟩
  · go_enter Tryz.func76, Tryz.ntmps76
    go_wp2_with (go_at_call 98; refine (szInsS_w _ m x.list _ _ (by omega) (by omega) lb4 (HS4.out.on InsAt.stays (Below.mono ((Below.refl w.heap.size w).alloc (Nat.le_refl _) _) hm)) (Nat.le_trans hm (Below.size ((Below.refl w.heap.size w).alloc (Nat.le_refl _) _)))).mono ?_; rintro e w4' ⟨⟨k4, rfl, ka4, kb4, kc4⟩, bel4⟩; have z4 : w.heap.size < w4'.heap.size := Nat.lt_of_lt_of_le (by simp) bel4.size; by_cases gk4 : k4 < 0)
    · go_wp2
      go_ret
      exact ⟨⟨-1, rfl, by omega, by omega, by omega⟩, (Below.trans ((Below.refl w.heap.size w).alloc (Nat.le_refl _) _) (Below.mono bel4 (Below.size ((Below.refl w.heap.size w).alloc (Nat.le_refl _) _))))⟩
    · go_wp2
      go_ret
      exact ⟨⟨_, rfl, by omega, by omega, fun hk0 => by
        unfold codeW
        have := kc4 (by omega)
        omega⟩, (Below.trans ((Below.refl w.heap.size w).alloc (Nat.le_refl _) _) (Below.mono bel4 (Below.size ((Below.refl w.heap.size w).alloc (Nat.le_refl _) _))))⟩
set_option maxHeartbeats 4000000 in
theorem szCodeS_w (v : Value) (m : Md) (l : List CodeD) (left : Int) (w : World) (h0 : 0 ≤ left) (h1 : left ≤ 1048576) (hn : l.length ≤ maxLen) (h : SlAt CodeAt 5 w m v l) (hm : m.hi ≤ w.heap.size) :
    Calls Tryz.prog 41 #[v, .int .i64 left] w fun e w' => (∃ k : Int, e = .returned (.int .i64 k) ∧ -1 ≤ k ∧ k ≤ left ∧ (0 ≤ k → (l.length : Int) + (wsum codeW l : Int) + k ≤ left)) ∧ Below w.heap.size w w' := by
  unfold maxLen at hn
  have HS := hide h
  obtain ⟨a, c, rfl, -⟩ := h
  obtain ⟨n, hl⟩ : ∃ n, l.length = n := ⟨_, rfl⟩
  have HN := hide hl
  rw [hl] at hn ⊢
  clear hl
  by_cases hb : left - n < 0
  · go_enter Tryz.func41, Tryz.ntmps41
    go_wp2
    go_ret
    exact ⟨⟨-1, rfl, by omega, by omega, by omega⟩, Below.refl _ _⟩
  · go_enter Tryz.func41, Tryz.ntmps41
    go_wp2
    go_loopw [1, 5] (fun q i wr => ∃ (k : Nat) (L : Int), i = .int .i64 k ∧ q = .int .i64 L ∧ k ≤ n ∧ 0 ≤ L ∧ L ≤ left - n ∧ Hid ((wsum codeW (l.take k) : Int) + L ≤ left - n) ∧ Below w.heap.size w wr) (fun _ i _ => n - (intOf i).toNat)
    case atStart => exact ⟨0, _, rfl, rfl, by omega, by omega, by omega, hide (by simp [wsum]), Below.refl _ _⟩
    case round =>
      obtain ⟨k, L, rfl, rfl, hk, hL, hL2, Hs, hbw⟩ := hrel
      by_cases hp : k < n
      · have i1 : (k : Int) < n := by omega
        obtain ⟨x, hx⟩ : ∃ x, l[k]'(by rw [HN.out]; exact hp) = x := ⟨_, rfl⟩
        obtain ⟨a', c', e', hrows⟩ := HS.out.on CodeAt.stays (hbw.mono hm)
        cases e'
        obtain ⟨b, o, rfl, hb1, hb2, -, he⟩ := hrows k (by rw [HN.out]; exact hp)
        have HX := hide hx
        rw [hx] at he
        clear hx hrows
        obtain ⟨⟨d0, d1, d2, d3⟩, hbd, u4, d4, s4⟩ := he
        have HVal := hide (show CodeVal _ _ (.agg #[.string (x.name), .int .i64 (x.params), .int .i64 (x.cells), .int .i64 (x.result), u4]) x from ⟨u4, rfl, hbd, s4⟩)
        obtain ⟨p4, c4, rfl, -⟩ := s4
        simp only [Nat.add_zero] at d0 d1 d2 d3 d4
        clear hbd
        go_wp2_with (go_at_call 76; refine (szCode_w _ (m.inner b) x L wr hL (by omega) HVal.out (by rw [Md.inner_hi]; exact Nat.le_trans hm hbw.size)).mono ?_; rintro e w' ⟨⟨q, rfl, q1, q2, q3⟩, bel⟩; by_cases hq : q < 0)
        · go_wp2
          go_ret
          exact ⟨⟨-1, rfl, by omega, by omega, by omega⟩, hbw.trans (bel.mono hbw.size)⟩
        · go_wp2
          go_roundw
          case rel =>
            refine ⟨k + 1, q, by go_num, rfl, by omega, by omega, by omega, hide ?_, hbw.trans (bel.mono hbw.size)⟩
            rw [wsum_take _ (by rw [HN.out]; exact hp), HX.out]
            have h1 := Hs.out
            have h2 := q3 (by omega)
            push_cast
            omega
          case measure => simp [intOf]; omega
      · have i1 : ¬ (k : Int) < n := by omega
        go_wp2
        go_ret
        exact ⟨⟨L, rfl, by omega, by omega, fun _ => by
          have h1 := Hs.out
          rw [List.take_of_length_le (by have := HN.out; omega)] at h1
          omega⟩, hbw⟩
set_option maxHeartbeats 4000000 in
theorem szObject_w (v : Value) (m : Md) (x : ObjectD) (left : Int) (w : World) (h0 : 0 ≤ left) (h1 : left ≤ 1048576) (h : ObjectVal w m v x) (hm : m.hi ≤ w.heap.size) :
    Calls Tryz.prog 13 #[v, .int .i64 left] w fun e w' => (∃ k : Int, e = .returned (.int .i64 k) ∧ -1 ≤ k ∧ k ≤ left ∧ (0 ≤ k → (objW x : Int) + k ≤ left)) ∧ Below w.heap.size w w' := by
  obtain ⟨u2, u3, u4, rfl, hb, s2, s3, s4⟩ := h
  have HS2 := hide s2
  obtain ⟨p2, c2, rfl, -⟩ := s2
  have HS3 := hide s3
  obtain ⟨p3, c3, rfl, -⟩ := s3
  have HS4 := hide s4
  obtain ⟨p4, c4, rfl, -⟩ := s4
  obtain ⟨lb0, -, lb2, lb3, lb4⟩ := hb
  unfold maxLen at lb0
  by_cases g0 : left - (x.module.size : Int) < 0
  · go_enter Tryz.func13, Tryz.ntmps13
    go_wp2
    go_ret
    exact ⟨⟨-1, rfl, by omega, by omega, by omega⟩, (Below.refl w.heap.size w).alloc (Nat.le_refl _) _⟩
  · go_enter Tryz.func13, Tryz.ntmps13
    go_wp2_with (go_at_call 39; refine (szNeedS_w _ m x.needs _ _ (by omega) (by omega) lb2 (HS2.out.on NeedAt.stays (Below.mono ((Below.refl w.heap.size w).alloc (Nat.le_refl _) _) hm)) (Nat.le_trans hm (Below.size ((Below.refl w.heap.size w).alloc (Nat.le_refl _) _)))).mono ?_; rintro e w2' ⟨⟨k2, rfl, ka2, kb2, kc2⟩, bel2⟩; have z2 : w.heap.size < w2'.heap.size := Nat.lt_of_lt_of_le (by simp) bel2.size; have f2_3 := (bel2.cell (p := ⟨w.heap.size, 3, none⟩) (by simp)).trans (show _ = some (Value.slice p3 x.globals.length c3) by simp [go_sem]); have f2_4 := (bel2.cell (p := ⟨w.heap.size, 4, none⟩) (by simp)).trans (show _ = some (Value.slice p4 x.procs.length c4) by simp [go_sem]); by_cases gk2 : k2 < 0)
    · go_wp2
      go_ret
      exact ⟨⟨-1, rfl, by omega, by omega, by omega⟩, (Below.trans ((Below.refl w.heap.size w).alloc (Nat.le_refl _) _) (Below.mono bel2 (Below.size ((Below.refl w.heap.size w).alloc (Nat.le_refl _) _))))⟩
    · go_wp2_with (go_at_call 40; refine (szGlobalS_w _ m x.globals _ _ (by omega) (by omega) lb3 (HS3.out.on GlobalAt.stays (Below.mono ((Below.trans ((Below.refl w.heap.size w).alloc (Nat.le_refl _) _) (Below.mono bel2 (Below.size ((Below.refl w.heap.size w).alloc (Nat.le_refl _) _))))) hm)) (Nat.le_trans hm (Below.size ((Below.trans ((Below.refl w.heap.size w).alloc (Nat.le_refl _) _) (Below.mono bel2 (Below.size ((Below.refl w.heap.size w).alloc (Nat.le_refl _) _)))))))).mono ?_; rintro e w3' ⟨⟨k3, rfl, ka3, kb3, kc3⟩, bel3⟩; have z3 : w.heap.size < w3'.heap.size := Nat.lt_of_lt_of_le z2 bel3.size; have f3_4 := (bel3.cell (p := ⟨w.heap.size, 4, none⟩) z2).trans f2_4; by_cases gk3 : k3 < 0)
      · go_wp2
        go_ret
        exact ⟨⟨-1, rfl, by omega, by omega, by omega⟩, (Below.trans ((Below.trans ((Below.refl w.heap.size w).alloc (Nat.le_refl _) _) (Below.mono bel2 (Below.size ((Below.refl w.heap.size w).alloc (Nat.le_refl _) _))))) (Below.mono bel3 (Below.size ((Below.trans ((Below.refl w.heap.size w).alloc (Nat.le_refl _) _) (Below.mono bel2 (Below.size ((Below.refl w.heap.size w).alloc (Nat.le_refl _) _))))))))⟩
      · go_wp2_with (go_at_call 41; refine (szCodeS_w _ m x.procs _ _ (by omega) (by omega) lb4 (HS4.out.on CodeAt.stays (Below.mono ((Below.trans ((Below.trans ((Below.refl w.heap.size w).alloc (Nat.le_refl _) _) (Below.mono bel2 (Below.size ((Below.refl w.heap.size w).alloc (Nat.le_refl _) _))))) (Below.mono bel3 (Below.size ((Below.trans ((Below.refl w.heap.size w).alloc (Nat.le_refl _) _) (Below.mono bel2 (Below.size ((Below.refl w.heap.size w).alloc (Nat.le_refl _) _))))))))) hm)) (Nat.le_trans hm (Below.size ((Below.trans ((Below.trans ((Below.refl w.heap.size w).alloc (Nat.le_refl _) _) (Below.mono bel2 (Below.size ((Below.refl w.heap.size w).alloc (Nat.le_refl _) _))))) (Below.mono bel3 (Below.size ((Below.trans ((Below.refl w.heap.size w).alloc (Nat.le_refl _) _) (Below.mono bel2 (Below.size ((Below.refl w.heap.size w).alloc (Nat.le_refl _) _)))))))))))).mono ?_; rintro e w4' ⟨⟨k4, rfl, ka4, kb4, kc4⟩, bel4⟩; have z4 : w.heap.size < w4'.heap.size := Nat.lt_of_lt_of_le z3 bel4.size; by_cases gk4 : k4 < 0)
        · go_wp2
          go_ret
          exact ⟨⟨-1, rfl, by omega, by omega, by omega⟩, (Below.trans ((Below.trans ((Below.trans ((Below.refl w.heap.size w).alloc (Nat.le_refl _) _) (Below.mono bel2 (Below.size ((Below.refl w.heap.size w).alloc (Nat.le_refl _) _))))) (Below.mono bel3 (Below.size ((Below.trans ((Below.refl w.heap.size w).alloc (Nat.le_refl _) _) (Below.mono bel2 (Below.size ((Below.refl w.heap.size w).alloc (Nat.le_refl _) _))))))))) (Below.mono bel4 (Below.size ((Below.trans ((Below.trans ((Below.refl w.heap.size w).alloc (Nat.le_refl _) _) (Below.mono bel2 (Below.size ((Below.refl w.heap.size w).alloc (Nat.le_refl _) _))))) (Below.mono bel3 (Below.size ((Below.trans ((Below.refl w.heap.size w).alloc (Nat.le_refl _) _) (Below.mono bel2 (Below.size ((Below.refl w.heap.size w).alloc (Nat.le_refl _) _))))))))))))⟩
        · go_wp2
          go_ret
          exact ⟨⟨_, rfl, by omega, by omega, fun hk0 => by
            unfold objW
            have h2 := kc2 (by omega)
            have h3 := kc3 (by omega)
            have h4 := kc4 (by omega)
            push_cast
            omega⟩, (Below.trans ((Below.trans ((Below.trans ((Below.refl w.heap.size w).alloc (Nat.le_refl _) _) (Below.mono bel2 (Below.size ((Below.refl w.heap.size w).alloc (Nat.le_refl _) _))))) (Below.mono bel3 (Below.size ((Below.trans ((Below.refl w.heap.size w).alloc (Nat.le_refl _) _) (Below.mono bel2 (Below.size ((Below.refl w.heap.size w).alloc (Nat.le_refl _) _))))))))) (Below.mono bel4 (Below.size ((Below.trans ((Below.trans ((Below.refl w.heap.size w).alloc (Nat.le_refl _) _) (Below.mono bel2 (Below.size ((Below.refl w.heap.size w).alloc (Nat.le_refl _) _))))) (Below.mono bel3 (Below.size ((Below.trans ((Below.refl w.heap.size w).alloc (Nat.le_refl _) _) (Below.mono bel2 (Below.size ((Below.refl w.heap.size w).alloc (Nat.le_refl _) _))))))))))))⟩
set_option maxHeartbeats 4000000 in
theorem szObjectS_w (v : Value) (m : Md) (l : List ObjectD) (left : Int) (w : World) (h0 : 0 ≤ left) (h1 : left ≤ 1048576) (hn : l.length ≤ maxLen) (h : SlAt ObjectAt 5 w m v l) (hm : m.hi ≤ w.heap.size) :
    Calls Tryz.prog 4 #[v, .int .i64 left] w fun e w' => (∃ k : Int, e = .returned (.int .i64 k) ∧ -1 ≤ k ∧ k ≤ left ∧ (0 ≤ k → (l.length : Int) + (wsum objW l : Int) + k ≤ left)) ∧ Below w.heap.size w w' := by
  unfold maxLen at hn
  have HS := hide h
  obtain ⟨a, c, rfl, -⟩ := h
  obtain ⟨n, hl⟩ : ∃ n, l.length = n := ⟨_, rfl⟩
  have HN := hide hl
  rw [hl] at hn ⊢
  clear hl
  by_cases hb : left - n < 0
  · go_enter Tryz.func4, Tryz.ntmps4
    go_wp2
    go_ret
    exact ⟨⟨-1, rfl, by omega, by omega, by omega⟩, Below.refl _ _⟩
  · go_enter Tryz.func4, Tryz.ntmps4
    go_wp2
    go_loopw [1, 5] (fun q i wr => ∃ (k : Nat) (L : Int), i = .int .i64 k ∧ q = .int .i64 L ∧ k ≤ n ∧ 0 ≤ L ∧ L ≤ left - n ∧ Hid ((wsum objW (l.take k) : Int) + L ≤ left - n) ∧ Below w.heap.size w wr) (fun _ i _ => n - (intOf i).toNat)
    case atStart => exact ⟨0, _, rfl, rfl, by omega, by omega, by omega, hide (by simp [wsum]), Below.refl _ _⟩
    case round =>
      obtain ⟨k, L, rfl, rfl, hk, hL, hL2, Hs, hbw⟩ := hrel
      by_cases hp : k < n
      · have i1 : (k : Int) < n := by omega
        obtain ⟨x, hx⟩ : ∃ x, l[k]'(by rw [HN.out]; exact hp) = x := ⟨_, rfl⟩
        obtain ⟨a', c', e', hrows⟩ := HS.out.on ObjectAt.stays (hbw.mono hm)
        cases e'
        obtain ⟨b, o, rfl, hb1, hb2, -, he⟩ := hrows k (by rw [HN.out]; exact hp)
        have HX := hide hx
        rw [hx] at he
        clear hx hrows
        obtain ⟨⟨d0, d1⟩, hbd, u2, u3, u4, ⟨d2, d3, d4⟩, s2, s3, s4⟩ := he
        have HVal := hide (show ObjectVal _ _ (.agg #[.string (x.module), .int .i64 (x.print), u2, u3, u4]) x from ⟨u2, u3, u4, rfl, hbd, s2, s3, s4⟩)
        obtain ⟨p2, c2, rfl, -⟩ := s2
        obtain ⟨p3, c3, rfl, -⟩ := s3
        obtain ⟨p4, c4, rfl, -⟩ := s4
        simp only [Nat.add_zero] at d0 d1 d2 d3 d4
        clear hbd
        go_wp2_with (go_at_call 13; refine (szObject_w _ (m.inner b) x L wr hL (by omega) HVal.out (by rw [Md.inner_hi]; exact Nat.le_trans hm hbw.size)).mono ?_; rintro e w' ⟨⟨q, rfl, q1, q2, q3⟩, bel⟩; by_cases hq : q < 0)
        · go_wp2
          go_ret
          exact ⟨⟨-1, rfl, by omega, by omega, by omega⟩, hbw.trans (bel.mono hbw.size)⟩
        · go_wp2
          go_roundw
          case rel =>
            refine ⟨k + 1, q, by go_num, rfl, by omega, by omega, by omega, hide ?_, hbw.trans (bel.mono hbw.size)⟩
            rw [wsum_take _ (by rw [HN.out]; exact hp), HX.out]
            have h1 := Hs.out
            have h2 := q3 (by omega)
            push_cast
            omega
          case measure => simp [intOf]; omega
      · have i1 : ¬ (k : Int) < n := by omega
        go_wp2
        go_ret
        exact ⟨⟨L, rfl, by omega, by omega, fun _ => by
          have h1 := Hs.out
          rw [List.take_of_length_le (by have := HN.out; omega)] at h1
          omega⟩, hbw⟩
end Go.Proofs.YtfbglokjehmgeaaGreatDoor

namespace Go.Proofs.YtfbglokjehmgeaaGreatDoor
open Go.ChangeShapes Go.WideShapes Go.ChangeAt Go.RowKit Go.Deep

def lenF (l : List CodeD) (i : Nat) : Nat := match l[i]? with
  | some x => x.list.length
  | none => 0
theorem lenF_at {l : List CodeD} {i : Nat} (h : i < l.length) : lenF l i = l[i].list.length := by
  unfold lenF
  rw [List.getElem?_eq_getElem h]
theorem wsum_full {α : Type} (f : α → Nat) (l : List α) : wsum f (l.take l.length) = wsum f l := by rw [List.take_length]
theorem wsum_le {α : Type} (f : α → Nat) (l : List α) (k : Nat) : wsum f (l.take k) ≤ wsum f l := by
  have : wsum f (l.take k ++ l.drop k) = wsum f (l.take k) + wsum f (l.drop k) := by unfold wsum; rw [List.map_append, List.sum_append]
  rw [List.take_append_drop] at this
  omega
/-- Object i of the row in block g, there to be marked. -/
def OLive (w : World) (g lo hi i : Nat) (x : ObjectD) : Prop := ∃ a2 c2 a3 c3 a4 c4 l2 h2 l3 h3 l4 h4, (∀ j, j < 5 → (∃ y, w.cell? ⟨g, i * 5 + j, none⟩ = some y) ∧ w.frozen? ⟨g, i * 5 + j, none⟩ = false) ∧
  (w.cell? ⟨g, i * 5 + 2, none⟩ = some (.slice a2 x.needs.length c2) ∧ w.cell? ⟨g, i * 5 + 3, none⟩ = some (.slice a3 x.globals.length c3) ∧ w.cell? ⟨g, i * 5 + 4, none⟩ = some (.slice a4 x.procs.length c4)) ∧
  (g < lo ∧ lo ≤ l2 ∧ l2 ≤ h2 ∧ h2 ≤ l3 ∧ l3 ≤ h3 ∧ h3 ≤ l4 ∧ l4 ≤ h4 ∧ h4 ≤ hi ∧ hi ≤ w.heap.size) ∧ Room w ⟨l2, h2, true⟩ 2 a2 x.needs.length ∧ Room w ⟨l3, h3, true⟩ 2 a3 x.globals.length ∧ ∀ j, j < x.procs.length → CLive w ⟨l4, h4, true⟩ a4 x.procs.length (lenF x.procs) j
theorem OLive.out {w w' : World} {g lo hi i : Nat} {x : ObjectD} (h : OLive w g lo hi i x) {lo' hi' : Nat} (k : Out lo' hi' w w') (hg : g < lo' ∨ hi' ≤ g) (hh : hi' ≤ lo) : OLive w' g lo hi i x := by
  obtain ⟨a2, c2, a3, c3, a4, c4, l2, h2, l3, h3, l4, h4, ha, ⟨d2, d3, d4⟩, ⟨q1, q2, q3, q4, q5, q6, q7, q8, q9⟩, r2, r3, r4⟩ := h
  have hc : ∀ o, w'.cell? ⟨g, o, none⟩ = w.cell? ⟨g, o, none⟩ := fun o => World.cell?_of_block (w := w) (k.block g (by omega) hg)
  refine ⟨a2, c2, a3, c3, a4, c4, l2, h2, l3, h3, l4, h4, fun j hj => ⟨?_, (k.free _ _ (by omega)).trans (ha j hj).2⟩, ⟨by rw [hc]; exact d2, by rw [hc]; exact d3, by rw [hc]; exact d4⟩, ⟨q1, q2, q3, q4, q5, q6, q7, q8, Nat.le_trans q9 k.size⟩, r2.on k, r3.on k, fun j hj => (r4 j hj).far k (by show hi' ≤ l4; omega)⟩
  rw [hc]
  exact (ha j hj).1
theorem OLive.set {w : World} {g lo hi i : Nat} {x : ObjectD} (h : OLive w g lo hi i x) {p : Nat} (hp : p ≠ i * 5 + 2 ∧ p ≠ i * 5 + 3 ∧ p ≠ i * 5 + 4) (v : Value) : OLive (w.setCell ⟨g, p, none⟩ v) g lo hi i x := by
  obtain ⟨a2, c2, a3, c3, a4, c4, l2, h2, l3, h3, l4, h4, ha, ⟨d2, d3, d4⟩, ⟨q1, q2, q3, q4, q5, q6, q7, q8, q9⟩, r2, r3, r4⟩ := h
  have k : Out g (g + 1) w (w.setCell ⟨g, p, none⟩ v) := (Out.refl g (g + 1) w).set (Nat.le_refl _) (Nat.lt_succ_self _) v
  have off : ∀ o z, o ≠ p → w.cell? ⟨g, o, none⟩ = some z → (w.setCell ⟨g, p, none⟩ v).cell? ⟨g, o, none⟩ = some z := fun o z ho hz => by
    rw [World.cell?_setCell_other _ _ _ _ (fun e => ho (congrArg Addr.off e).symm)]
    exact hz
  refine ⟨a2, c2, a3, c3, a4, c4, l2, h2, l3, h3, l4, h4, fun j hj => ?_, ⟨off _ _ (Ne.symm hp.1) d2, off _ _ (Ne.symm hp.2.1) d3, off _ _ (Ne.symm hp.2.2) d4⟩, ⟨q1, q2, q3, q4, q5, q6, q7, q8, Nat.le_trans q9 k.size⟩, r2.on k, r3.on k, fun j hj => (r4 j hj).far k (by show g + 1 ≤ l4; omega)⟩
  obtain ⟨⟨y, hy⟩, hf⟩ := ha j hj
  exact ⟨cell?_setCell_some hy, by rw [World.frozen?_setCell]; exact hf⟩
theorem OSep.live {w : World} {g : Nat} {b : Nat → Nat} {l : List ObjectD} (h : OSep w g b l) : (∀ i, i < l.length → b i ≤ b (i + 1)) ∧ g < b 0 ∧ ∀ i (hi : i < l.length), OLive w g (b i) (b (i + 1)) i l[i] := by
  obtain ⟨C, h1, h2, h3, h4, h5, h6⟩ := h
  refine ⟨h4, h3, fun i hi => ?_⟩
  obtain ⟨s1, s2⟩ := heapCells h1
  obtain ⟨u2, u3, u4, ⟨c0, c1, c2, c3, c4⟩, hs'⟩ := h6 i hi
  obtain ⟨v2, v3, v4, l2, hi2, l3, hi3, l4, hi4, e, -, ⟨q1, q2, q3, q4, q5, q6, q7⟩, t2, t3, t4⟩ := hs'
  cases e
  have hbi : b (i + 1) ≤ w.heap.size := Nat.le_trans (mono_of h4 (show i + 1 ≤ l.length by omega) (Nat.le_refl _)) h5
  have hb0 : b 0 ≤ b i := mono_of h4 (Nat.zero_le i) (Nat.le_of_lt hi)
  obtain ⟨a2, k2, rfl, -⟩ := id t2
  obtain ⟨a3, k3, rfl, -⟩ := id t3
  obtain ⟨a4, k4, rfl, -⟩ := id t4
  refine ⟨a2, k2, a3, k3, a4, k4, l2, hi2, l3, hi3, l4, hi4, fun j hj => ⟨?_, s2 _⟩, ⟨(s1 _).trans c2, (s1 _).trans c3, (s1 _).trans c4⟩, ⟨by omega, q1, q2, q3, q4, q5, q6, q7, hbi⟩, room_of need_al rfl (by show hi2 ≤ _; omega) t2, room_of glob_al rfl (by show hi3 ≤ _; omega) t3, clive_of rfl (fun i hi => lenF_at hi) (by show hi4 ≤ _; omega) t4⟩
  rw [s1]
  match j, hj with
  | 0, _ => exact ⟨_, c0⟩
  | 1, _ => exact ⟨_, c1⟩
  | 2, _ => exact ⟨_, c2⟩
  | 3, _ => exact ⟨_, c3⟩
  | 4, _ => exact ⟨_, c4⟩
  | j + 5, hj => exact absurd hj (by omega)
set_option maxHeartbeats 8000000 in
theorem markObjectS_w (g c : Nat) (b : Nat → Nat) (l : List ObjectD) (w : World) (hl : l.length ≤ 1048576) (hw : wsum objW l ≤ 1048576) (hb : ∀ i, i < l.length → b i ≤ b (i + 1)) (hg0 : g < b 0) (h : ∀ i (hi : i < l.length), OLive w g (b i) (b (i + 1)) i l[i]) :
    Calls Tryz.prog 10 #[.slice (some ⟨g, 0, none⟩) l.length c, .int .i64 1] w fun e w' => (∃ K : Int, e = .returned (.int .i64 K) ∧ 0 ≤ K) ∧ Out g (b l.length) w w' := by
  have H := hide h
  have HB := hide hb
  have HG := hide hg0
  have HW := hide hw
  clear h hb hw hg0
  obtain ⟨n, hn⟩ : ∃ n, l.length = n := ⟨_, rfl⟩
  have HN := hide hn
  rw [hn] at hl ⊢
  clear hn
  go_enter Tryz.func10, Tryz.ntmps10
  go_wp2
  go_loopw [1, 5] (fun q i wr => ∃ (k : Nat) (K : Int), i = .int .i64 k ∧ q = .int .i64 K ∧ k ≤ n ∧ 1 ≤ K ∧ Hid (K ≤ 1 + 2 * (k : Int) + 5 * (wsum objW (l.take k) : Int)) ∧ Hid (∀ i (hi : i < l.length), k ≤ i → OLive wr g (b i) (b (i + 1)) i l[i]) ∧ Out g (b n) w wr) (fun _ i _ => n - (intOf i).toNat)
  case atStart => exact ⟨0, 1, rfl, rfl, by omega, by omega, hide (by simp [wsum]), hide (fun i hi _ => H.out i hi), Out.refl _ _ _⟩
  case round =>
    obtain ⟨k, K, rfl, rfl, hk, hK, HK, HL, hbw⟩ := hrel
    by_cases hp : k < n
    · have i1 : (k : Int) < n := by omega
      have hkl : k < l.length := by rw [HN.out]; exact hp
      have hws := wsum_take objW hkl
      have hwl := wsum_le objW l (k + 1)
      have hw0 := HW.out
      have hK1 := HK.out
      obtain ⟨x, hx⟩ : ∃ x, l[k] = x := ⟨_, rfl⟩
      have HX := hide hx
      rw [hx] at hws
      have hox : objW x = x.needs.length + x.globals.length + x.procs.length + wsum codeW x.procs := rfl
      have HKn : Hid (K + 2 + 5 * (objW x : Int) ≤ 1 + 2 * ((k + 1 : Nat) : Int) + 5 * (wsum objW (l.take (k + 1)) : Int)) := hide (by rw [hws]; omega)
      have hKb : K ≤ 10000000 := by omega
      have hxb : x.needs.length ≤ 1048576 ∧ x.globals.length ≤ 1048576 ∧ x.procs.length ≤ 1048576 ∧ wsum codeW x.procs ≤ 1048576 := by omega
      have hlive := HL.out k hkl (Nat.le_refl _)
      rw [hx] at hlive
      have hgb : ∀ i, i ≤ l.length → g < b i := fun i hi => Nat.lt_of_lt_of_le HG.out (mono_of HB.out (Nat.zero_le i) hi)
      have hbn : b (k + 1) ≤ b n := by rw [← HN.out]; exact mono_of HB.out (by omega) (Nat.le_refl _)
      have hgk := hgb k (by omega)
      have hgn : g < b n := by rw [← HN.out]; exact hgb _ (Nat.le_refl _)
      have hnext : ∀ i, i < l.length → k < i → b (k + 1) ≤ b i := fun i hi hik => mono_of HB.out (by omega) (by omega)
      have HNx := hide hnext
      have HKK := hide hKb
      have HXB := hide hxb
      obtain ⟨n2, hn2⟩ : ∃ q, x.needs.length = q := ⟨_, rfl⟩
      obtain ⟨n3, hn3⟩ : ∃ q, x.globals.length = q := ⟨_, rfl⟩
      obtain ⟨n4, hn4⟩ : ∃ q, x.procs.length = q := ⟨_, rfl⟩
      have HLv := hide hlive
      have HOX := hide hox
      clear hws hwl hw0 hK1 hx hox hlive hgb hnext hKb hxb
      go_wp2_with fail
      refine (markText_any _ _ (by have := HKK.out; omega)).mono ?_
      rintro e w1 ⟨rfl, b1⟩
      have o1 : Out 0 0 wr w1 := Out.of_below b1
      have L1 := hide (fun i (hi : i < l.length) (hik : k ≤ i) => (HL.out i hi hik).out o1 (.inr (Nat.zero_le _)) (Nat.zero_le _))
      have hl1 := L1.out k hkl (Nat.le_refl _)
      have hb1 := hbw.trans (Out.of_below b1)
      obtain ⟨a2, c2, a3, c3, a4, c4, l2, h2, l3, h3, l4, h4, ha, z1, z2, z3, z4, z5⟩ := hl1
      obtain ⟨⟨y0, e0⟩, f0⟩ := ha 0 (by omega)
      obtain ⟨⟨y1, e1⟩, f1⟩ := ha 1 (by omega)
      simp only [Nat.add_zero] at e0 f0
      clear ha z1 z2 z3 z4 z5 a2 c2 a3 c3 a4 c4 l2 h2 l3 h3 l4 h4 b1 o1
      have L2 := hide (fun i (hi : i < l.length) (hik : k ≤ i) => ((L1.out i hi hik).set (p := k * 5) (by omega) (.string (mt K))).set (p := k * 5 + 1) (by omega) (.int .i64 (K + 1)))
      have hl2 := L2.out k hkl (Nat.le_refl _)
      rw [HX.out] at hl2
      obtain ⟨a2, c2, a3, c3, a4, c4, l2, h2, l3, h3, l4, h4, -, ⟨d2, d3, d4⟩, q, r2, r3, r4⟩ := hl2
      have HQ := hide q
      obtain ⟨q1, q2, q3, q4, q5, q6, q7, q8, q9⟩ := q
      have R2 := hide r2
      have R3 := hide r3
      have R4 := hide r4
      have o2 := hide ((hb1.set (o := k * 5) (Nat.le_refl g) hgn (.string (mt K))).set (o := k * 5 + 1) (Nat.le_refl g) hgn (.int .i64 (K + 1)))
      clear r2 r3 r4 hb1 HL L1 HLv
      rw [hn2] at d2 R2
      rw [hn3] at d3 R3
      rw [hn4] at d4 R4
      have HXB2 : n2 ≤ 1048576 ∧ n3 ≤ 1048576 ∧ n4 ≤ 1048576 := by have := HXB.out; omega
      have HK2 := HKK.out
      have D3 := hide d3
      have D4 := hide d4
      clear d3 d4 q9
      go_wp2_with fail
      refine (markNeedS_any ⟨l2, h2, true⟩ a2 n2 c2 _ _ HXB2.1 (by omega) (by omega) R2.out).mono ?_
      rintro e w3 ⟨rfl, o3⟩
      have L3 := hide (fun i (hi : i < l.length) (hik : k < i) => (L2.out i hi (by omega)).out o3 (.inl (by show g < l2; omega)) (by have := HNx.out i hi hik; show h2 ≤ b i; omega))
      have e3 := (World.cell?_of_block (a := ⟨g, k * 5 + 3, none⟩) (o3.block g (block_lt D3.out) (.inl (by show g < l2; omega)))).trans D3.out
      have E4 := hide ((World.cell?_of_block (a := ⟨g, k * 5 + 4, none⟩) (o3.block g (block_lt D4.out) (.inl (by show g < l2; omega)))).trans D4.out)
      have S3 := hide (R3.out.on o3)
      have S4 := hide (fun j (hj : j < n4) => (R4.out j hj).far o3 (by show h2 ≤ l4; omega))
      have o4 := hide (o2.out.trans (o3.wid (lo' := g) (hi' := b n) (by show g ≤ l2; omega) (by show h2 ≤ b n; omega)))
      clear d2 D3 D4 R2 R3 R4 L2 o2 o3 e0 f0 y0 e1 f1 y1
      go_wp2_with fail
      refine (markGlobalS_any ⟨l3, h3, true⟩ a3 n3 c3 _ _ HXB2.2.1 (by omega) (by omega) S3.out).mono ?_
      rintro e w4 ⟨rfl, o5⟩
      have L4 := hide (fun i (hi : i < l.length) (hik : k < i) => (L3.out i hi hik).out o5 (.inl (by show g < l3; omega)) (by have := HNx.out i hi hik; show h3 ≤ b i; omega))
      have e4 := (World.cell?_of_block (a := ⟨g, k * 5 + 4, none⟩) (o5.block g (block_lt E4.out) (.inl (by show g < l3; omega)))).trans E4.out
      have T4 := hide (fun j (hj : j < n4) => (S4.out j hj).far o5 (by show h3 ≤ l4; omega))
      have o6 := hide (o4.out.trans (o5.wid (lo' := g) (hi' := b n) (by show g ≤ l3; omega) (by show h3 ≤ b n; omega)))
      have hS : (fun j => wsum codeW (x.procs.take j)) 0 = 0 ∧ (∀ j, j < n4 → (fun j => wsum codeW (x.procs.take j)) (j + 1) = (fun j => wsum codeW (x.procs.take j)) j + lenF x.procs j) ∧ ∀ j, j ≤ n4 → (fun j => wsum codeW (x.procs.take j)) j ≤ 1048576 := by
        refine ⟨by simp [wsum], fun j hj => ?_, fun j hj => ?_⟩
        · have hj' : j < x.procs.length := by omega
          rw [lenF_at hj']
          exact wsum_take codeW hj'
        · have h1 := wsum_le codeW x.procs j
          have h2 := HXB.out.2.2.2
          show wsum codeW (x.procs.take j) ≤ 1048576
          omega
      have HSS := hide hS
      clear e3 E4 S3 S4 L3 o4 o5 hS
      go_wp2_with fail
      refine (markCodeS_w ⟨l4, h4, true⟩ a4 n4 c4 (lenF x.procs) (fun j => wsum codeW (x.procs.take j)) _ _ HXB2.2.2 (by omega) (by omega) HSS.out T4.out).mono ?_
      rintro e w5 ⟨⟨K5, rfl, hK5, hK6⟩, o7⟩
      have L5 := hide (fun i (hi : i < l.length) (hik : k < i) => (L4.out i hi hik).out o7 (.inl (by show g < l4; omega)) (by have := HNx.out i hi hik; show h4 ≤ b i; omega))
      have o8 := hide (o6.out.trans (o7.wid (lo' := g) (hi' := b n) (by show g ≤ l4; omega) (by show h4 ≤ b n; omega)))
      have HK7 : Hid (K5 ≤ 1 + 2 * ((k + 1 : Nat) : Int) + 5 * (wsum objW (l.take (k + 1)) : Int)) := hide (by
        have h1 := HKn.out
        have h2 := HOX.out
        have h3 : wsum codeW (x.procs.take n4) = wsum codeW x.procs := by rw [← hn4]; exact wsum_full _ _
        rw [h3] at hK6
        omega)
      have hK8 : 1 ≤ K5 := by omega
      clear hK5 hK6 e4 T4 L4 o6 o7 HSS
      go_wp2
      go_roundw
      case rel => exact ⟨k + 1, K5, by go_num, rfl, by omega, hK8, HK7, hide (fun i hi hik => L5.out i hi hik), o8.out⟩
      case measure => simp [intOf]; omega
    · have i1 : ¬ (k : Int) < n := by omega
      obtain rfl : k = n := by omega
      go_wp2
      go_ret
      exact ⟨⟨K, rfl, by omega⟩, hbw⟩
end Go.Proofs.YtfbglokjehmgeaaGreatDoor
