/- The model's BuiltText answers 'buT' and 'buC'. No condition. -/
import Derived.Test.YtpfceikohoncgaaDoorZBuP
import Derived.Deep.RegionHeld3
import Derived.BigQuiet
namespace Go.Proofs.YtpfceikohoncgaaDoor
open Go.ChangeShapes Go.WideShapes Go.ChangeAt Go.RowKit Go.PlainAid Go.Deep

def inZ (n a b : Int) : Bool := decide (a ≤ n) && decide (n ≤ b)
theorem inZ_any (n a b : Int) (w : World) : Calls Tryd.prog 11 #[.int .i64 n, .int .i64 a, .int .i64 b] w fun e w' => e = .returned (.bool (inZ n a b)) ∧ w' = w := by
  unfold inZ
  by_cases h : a ≤ n
  · by_cases k : n ≤ b
    · simp only [h, k, decide_true, Bool.and_true]
      go_enter Tryd.func11, Tryd.ntmps11
      go_wp2
      go_ret
      exact ⟨rfl, rfl⟩
    · simp only [h, k, decide_true, decide_false, Bool.and_false]
      go_enter Tryd.func11, Tryd.ntmps11
      go_wp2
      go_ret
      exact ⟨rfl, rfl⟩
  · simp only [h, decide_false, Bool.false_and]
    go_enter Tryd.func11, Tryd.ntmps11
    go_wp2
    go_ret
    exact ⟨rfl, rfl⟩
set_option maxRecDepth 100000 in
set_option maxHeartbeats 4000000 in
theorem specWord_any (n : Nat) (hn : n < 19) (w : World) : Calls Tryd.prog 24 #[.int .i64 n] w fun e w' => e = .returned (.string (wordB n)) ∧ Below w.heap.size w w' := by
  obtain rfl | rfl | rfl | rfl | rfl | rfl | rfl | rfl | rfl | rfl | rfl | rfl | rfl | rfl | rfl | rfl | rfl | rfl | rfl : n = 0 ∨ n = 1 ∨ n = 2 ∨ n = 3 ∨ n = 4 ∨ n = 5 ∨ n = 6 ∨ n = 7 ∨ n = 8 ∨ n = 9 ∨ n = 10 ∨ n = 11 ∨ n = 12 ∨ n = 13 ∨ n = 14 ∨ n = 15 ∨ n = 16 ∨ n = 17 ∨ n = 18 := by omega
  all_goals
    go_enter Tryd.func24, Tryd.ntmps24
    go_wp2
    go_ret
    exact ⟨rfl, (Below.refl _ _).alloc (Nat.le_refl _) _⟩
set_option maxRecDepth 100000 in
set_option maxHeartbeats 4000000 in
theorem l08Fault_any (n : Nat) (p gv : Int) (mo : ByteArray) (u4 u5 u6 u7 : Value) (w : World) (hn : n < 19) (h0 : n ≠ 0) (hp : I64 p) (hm : mo.size ≤ 40) :
    Calls Tryd.prog 12 #[.agg #[.int .i64 n, .int .i64 p, .string mo, .int .i64 gv, u4, u5, u6, u7]] w fun e w' => e = .returned (.string (lineB (faultL n p mo))) ∧ Below w.heap.size w w' := by
  have hT : lineB (faultL n p mo) = ((((((⟨#[101, 114, 114, 111, 114, 32]⟩ ++ wordB n) ++ ⟨#[32]⟩) ++ mo) ++ ⟨#[32]⟩) ++ itoaB p) ++ ⟨#[10]⟩) := line_fault _ _ _ _
  rw [hT]
  have hW := wordB_size n
  have hD := itoaB_size hp
  have HW := hide (fun w' => specWord_any n hn w')
  have HD : Hid (∀ w', Calls Tryd.prog 25 #[.int .i64 p] w' fun e w2 => e = .returned (.string (itoaB p)) ∧ Below w'.heap.size w' w2) := hide fun w' => l00Digits_any p hp.1 hp.2 w'
  generalize wordB n = W at *
  generalize itoaB p = D at *
  obtain ⟨s1, e1⟩ : ∃ s, (⟨#[101, 114, 114, 111, 114, 32]⟩ : ByteArray) ++ W = s := ⟨_, rfl⟩
  have hs1 : s1.size ≤ 12 := by rw [← e1, ByteArray.size_append]; show 6 + _ ≤ _; omega
  obtain ⟨s2, e2⟩ : ∃ s, s1 ++ (⟨#[32]⟩ : ByteArray) = s := ⟨_, rfl⟩
  have hs2 : s2.size ≤ 13 := by rw [← e2, ByteArray.size_append]; show _ + 1 ≤ _; omega
  obtain ⟨s3, e3⟩ : ∃ s, s2 ++ mo = s := ⟨_, rfl⟩
  have hs3 : s3.size ≤ 53 := by rw [← e3, ByteArray.size_append]; omega
  obtain ⟨s4, e4⟩ : ∃ s, s3 ++ (⟨#[32]⟩ : ByteArray) = s := ⟨_, rfl⟩
  have hs4 : s4.size ≤ 54 := by rw [← e4, ByteArray.size_append]; show _ + 1 ≤ _; omega
  obtain ⟨s5, e5⟩ : ∃ s, s4 ++ D = s := ⟨_, rfl⟩
  have hs5 : s5.size ≤ 74 := by rw [← e5, ByteArray.size_append]; omega
  have t1 : ¬ 9223372036854775807 < 6 + W.size := by omega
  have t2 : ¬ 9223372036854775807 < s1.size + 1 := by omega
  have t3 : ¬ 9223372036854775807 < s2.size + mo.size := by omega
  have t4 : ¬ 9223372036854775807 < s3.size + 1 := by omega
  have t5 : ¬ 9223372036854775807 < s4.size + D.size := by omega
  have t6 : ¬ 9223372036854775807 < s5.size + 1 := by omega
  rw [e1, e2, e3, e4, e5]
  have hc0 : ((n : Int) == 0) = false := by simpa using h0
  have hb : Below w.heap.size w (w.alloc (.cells #[.int .i64 n, .int .i64 p, .string mo, .int .i64 gv, u4, u5, u6, u7] 36)) := (Below.refl _ _).alloc (Nat.le_refl _) _
  have hx : (w.alloc (.cells #[.int .i64 n, .int .i64 p, .string mo, .int .i64 gv, u4, u5, u6, u7] 36)).heap[w.heap.size]? = some (.cells #[.int .i64 n, .int .i64 p, .string mo, .int .i64 gv, u4, u5, u6, u7] 36 (0, 0)) := Deep.blk_alloc_new _ _
  obtain ⟨W0, hW0⟩ : ∃ W0, w.alloc (.cells #[.int .i64 n, .int .i64 p, .string mo, .int .i64 gv, u4, u5, u6, u7] 36) = W0 := ⟨_, rfl⟩
  have HE := hide hW0
  rw [hW0] at hb hx
  clear hW0
  have HB := hide hb
  have HX := hide hx
  have hlt : w.heap.size < W0.heap.size := (Array.getElem?_eq_some_iff.1 hx).1
  have k0 := (heapCells hx).1 0
  have k1 := (heapCells hx).1 1
  have k2 := (heapCells hx).1 2
  clear hb hx hT hn h0 hp hm hW hD hs1 hs2 hs3 hs4 hs5
  go_enter Tryd.func12, Tryd.ntmps12
  go_wp2_with fail
  rw [HE.out]
  go_region_held3 (fun w' => w'.cell? ⟨w.heap.size, 0, none⟩ = some (.int .i64 n) ∧ w'.cell? ⟨w.heap.size, 1, none⟩ = some (.int .i64 p) ∧ w'.cell? ⟨w.heap.size, 2, none⟩ = some (.string mo))
    (first
      | (go_split_ands; refine ⟨?_, ?_, ?_⟩ <;> assumption)
      | (go_split_ands; exact ⟨k0, k1, k2⟩)
      | (go_split_ands; exact ⟨j0, j1, j2⟩)
      | (go_split_ands; exact ⟨i0, i1, i2⟩))
    ((first
      | (go_at_call 24; refine (HW.out W0.drew).mono ?_; rintro e w3 ⟨rfl, b3⟩; have hl3 : w.heap.size < w3.heap.size := Nat.lt_of_lt_of_le hlt b3.size; have j0 := (b3.cell (p := ⟨w.heap.size, 0, none⟩) hlt).trans k0; have j1 := (b3.cell (p := ⟨w.heap.size, 1, none⟩) hlt).trans k1; have j2 := (b3.cell (p := ⟨w.heap.size, 2, none⟩) hlt).trans k2; have HB3 := hide (HB.out.drew.trans (b3.mono (Nat.le_of_lt hlt))))
      | (go_at_call 25; refine (HD.out W0.drew).mono ?_; rintro e w3 ⟨rfl, b3⟩; have hl3 : w.heap.size < w3.heap.size := Nat.lt_of_lt_of_le hlt b3.size; have j0 := (b3.cell (p := ⟨w.heap.size, 0, none⟩) hlt).trans k0; have j1 := (b3.cell (p := ⟨w.heap.size, 1, none⟩) hlt).trans k1; have j2 := (b3.cell (p := ⟨w.heap.size, 2, none⟩) hlt).trans k2; have HB3 := hide (HB.out.drew.trans (b3.mono (Nat.le_of_lt hlt))))
      | (go_at_call 24; refine (HW.out w3).mono ?_; rintro e w4 ⟨rfl, b4⟩; have i0 := (b4.cell (p := ⟨w.heap.size, 0, none⟩) hl3).trans j0; have i1 := (b4.cell (p := ⟨w.heap.size, 1, none⟩) hl3).trans j1; have i2 := (b4.cell (p := ⟨w.heap.size, 2, none⟩) hl3).trans j2; have HB4 := hide (HB3.out.trans (b4.mono (Nat.le_of_lt hl3))))
      | (go_at_call 25; refine (HD.out w3).mono ?_; rintro e w4 ⟨rfl, b4⟩; have i0 := (b4.cell (p := ⟨w.heap.size, 0, none⟩) hl3).trans j0; have i1 := (b4.cell (p := ⟨w.heap.size, 1, none⟩) hl3).trans j1; have i2 := (b4.cell (p := ⟨w.heap.size, 2, none⟩) hl3).trans j2; have HB4 := hide (HB3.out.trans (b4.mono (Nat.le_of_lt hl3))))
      | fail))
  all_goals
    go_wp2_with fail
    go_ret
    exact ⟨rfl, HB4.out⟩
set_option maxRecDepth 100000 in
set_option maxHeartbeats 4000000 in
theorem l08Made_any (p gv : Int) (mo : ByteArray) (p4 : Option Addr) (n4 c4 : Nat) (u5 u6 u7 : Value) (m : Md) (made : List StringD) (w : World) (hn : n4 ≤ 1048576) (hl : made.length ≤ 20) (hz : ∀ s ∈ made, s.size ≤ 40) (hu : SlAt StringAt 1 w m u7 made) (hm : m.hi ≤ w.heap.size) :
    Calls Tryd.prog 12 #[.agg #[.int .i64 0, .int .i64 p, .string mo, .int .i64 gv, .slice p4 n4 c4, u5, u6, u7]] w fun e w' => e = .returned (.string (lineB (builtL n4 made))) ∧ Below w.heap.size w w' := by
  have hI : I64 (n4 : Int) := ⟨by omega, by omega⟩
  have HD : Hid (∀ w', Calls Tryd.prog 25 #[.int .i64 n4] w' fun e w2 => e = .returned (.string (itoaB n4)) ∧ Below w'.heap.size w' w2) := hide fun w' => l00Digits_any n4 hI.1 hI.2 w'
  have HD20 := itoaB_size hI
  have HO0 := hide (outB_nil n4)
  have HS : Hid (∀ k (h : k < made.length), outB n4 (made.take (k + 1)) = outB n4 (made.take k) ++ (⟨#[32]⟩ ++ made[k])) := hide fun k h => by rw [List.take_succ_eq_append_getElem h, outB_snoc]
  have HZ : Hid (∀ k, (outB n4 (made.take k)).size ≤ 1000) := hide fun k => by
    have h1 := outB_size (n := n4) (made.take k) (fun s hs => hz s (List.mem_of_mem_take hs))
    have h2 : (made.take k).length ≤ 20 := by rw [List.length_take]; omega
    omega
  have HZ2 := hide hz
  have HE : Hid (lineB (builtL n4 made) = outB n4 (made.take made.length) ++ ⟨#[10]⟩) := hide (by rw [outB_line, List.take_length])
  have HU := hide hu
  have HM := hide hm
  obtain ⟨pa, pc, rfl, -⟩ := hu
  obtain ⟨nm, hnm⟩ : ∃ k, made.length = k := ⟨_, rfl⟩
  have HN := hide hnm
  rw [hnm] at hl HE ⊢
  rw [HE.out]
  have d1 : ¬ 9223372036854775807 < 6 + (itoaB n4).size := by omega
  have hb : Below w.heap.size w (w.alloc (.cells #[.int .i64 0, .int .i64 p, .string mo, .int .i64 gv, .slice p4 n4 c4, u5, u6, .slice pa nm pc] 36)) := (Below.refl _ _).alloc (Nat.le_refl _) _
  have HB := hide hb
  clear hz hm hI hb hnm
  go_enter Tryd.func12, Tryd.ntmps12
  go_wp2_with (go_at_call 25; refine (HD.out _).mono ?_; rintro e w1 ⟨rfl, b1⟩)
  have bT := HB.out.trans (b1.mono HB.out.size)
  have f7 : w1.cell? ⟨w.heap.size, 7, none⟩ = some (.slice pa nm pc) := (b1.cell (p := ⟨w.heap.size, 7, none⟩) (by simp)).trans (by simp [go_sem])
  have HBT := hide bT
  have h0 : (⟨#[98, 117, 105, 108, 116, 32]⟩ : ByteArray) ++ itoaB n4 = outB n4 (made.take 0) := HO0.out.symm
  clear b1 bT HD20 d1
  rw [h0]
  go_loopw [3, 4] (fun sv iv wr => ∃ k : Nat, iv = .int .i64 k ∧ sv = .string (outB n4 (made.take k)) ∧ k ≤ nm ∧ wr = w1) (fun _ iv _ => nm - (intOf iv).toNat)
  case atStart => exact ⟨0, rfl, rfl, by omega, rfl⟩
  case round =>
    obtain ⟨k, rfl, rfl, hk, rfl⟩ := hrel
    have z1 := HZ.out k
    by_cases hp : k < nm
    · have i1 : (k : Int) < nm := by omega
      obtain ⟨x, hx⟩ : ∃ x, made[k]'(by rw [HN.out]; exact hp) = x := ⟨_, rfl⟩
      obtain ⟨a', c', e', hrows⟩ := HU.out.on StringAt.stays (HBT.out.mono HM.out)
      cases e'
      obtain ⟨b, o, rfl, hb1, hb2, -, he⟩ := hrows k (by rw [HN.out]; exact hp)
      have hst := HS.out k (by rw [HN.out]; exact hp)
      have hxz : x.size ≤ 40 := HZ2.out x (by rw [← hx]; exact List.getElem_mem _)
      rw [hx] at he hst
      clear hx hrows
      obtain ⟨d0, -⟩ := he
      simp only [Nat.mul_one, Nat.add_zero] at d0
      have HSt := hide hst
      generalize outB n4 (made.take k) = X at *
      obtain ⟨Y, hY⟩ : ∃ Y, (⟨#[32]⟩ : ByteArray) ++ x = Y := ⟨_, rfl⟩
      have hys : Y.size ≤ 41 := by rw [← hY, ByteArray.size_append]; show 1 + _ ≤ _; omega
      have t1 : ¬ 9223372036854775807 < 1 + x.size := by omega
      have t2 : ¬ 9223372036854775807 < X.size + Y.size := by omega
      rw [hY] at HSt
      clear hst hb1 hys hxz
      go_wp2
      rw [← HSt.out]
      go_roundw
      case rel => exact ⟨k + 1, by go_num, by first | rfl | trivial, by omega, by first | rfl | trivial⟩
      case measure => simp [intOf]; omega
    · have i1 : ¬ (k : Int) < nm := by omega
      obtain rfl : k = nm := by omega
      have t1 : ¬ 9223372036854775807 < (outB n4 (made.take k)).size + 1 := by omega
      go_wp2
      go_ret
      exact ⟨rfl, HBT.out⟩
end Go.Proofs.YtpfceikohoncgaaDoor
