/- The program's InterfaceOK answers 'facB'. Its table of words is a premise. -/
import Derived.Test.YtoomnimbokbadaaDoorZFacB
import Derived.Maps.OwnSet
namespace Go.Proofs.YtoomnimbokbadaaDoor
open Go.RowKit Go.PlainAid Go.Maps

theorem const_1 (v : Int) : constB 1 v = true := by simp [constB, inB]
theorem const_2 (v : Int) : constB 2 v = inB v 0 1 := by simp [constB, inB]
theorem const_3 (v : Int) : constB 3 v = chrB v := by simp [constB, inB]
theorem const_no {t v : Int} (h1 : t ≠ 1) (h2 : t ≠ 2) (h3 : t ≠ 3) : constB t v = false := by unfold constB; rw [in_no (by omega)]; rfl
theorem valueFits_any (t v : Int) (w : World) : Calls Tryd.prog 66 #[.int .i64 t, .int .i64 v] w fun e w' => e = .returned (.bool (constB t v)) ∧ w = w' := by
  by_cases t1 : t = 1
  · subst t1
    rw [const_1]
    go_enter Tryd.func66, Tryd.ntmps66
    go_wp2
    go_ret
    exact ⟨rfl, rfl⟩
  by_cases t2 : t = 2
  · subst t2
    rw [const_2]
    by_cases v0 : v = 0
    · subst v0
      go_enter Tryd.func66, Tryd.ntmps66
      go_wp2
      go_ret
      exact ⟨rfl, rfl⟩
    by_cases v1 : v = 1
    · subst v1
      go_enter Tryd.func66, Tryd.ntmps66
      go_wp2
      go_ret
      exact ⟨rfl, rfl⟩
    · rw [in_no (by omega)]
      go_enter Tryd.func66, Tryd.ntmps66
      go_wp2
      go_ret
      exact ⟨ret_bool (show (v == 0 || v == 1) = false by simp [v0, v1]), rfl⟩
  by_cases t3 : t = 3
  · subst t3
    rw [const_3]
    go_enter Tryd.func66, Tryd.ntmps66
    go_wp2_with (go_at_call 81; refine (implCharOK_any _ _).mono ?_; rintro e w' ⟨rfl, rfl⟩)
    go_ret
    exact ⟨rfl, rfl⟩
  · rw [const_no t1 t2 t3]
    go_enter Tryd.func66, Tryd.ntmps66
    go_wp2
    go_ret
    exact ⟨rfl, rfl⟩
set_option maxHeartbeats 2000000 in
theorem paramsOK_any (v : Value) (m : Md) (l : List Prm) (w : World) (hn : l.length ≤ maxLen) (h : SlAt PrmAt 2 w m v l) (hm : m.hi ≤ w.heap.size) :
    Calls Tryd.prog 68 #[v] w fun e w' => e = .returned (.bool (decide (l.length ≤ 20) && prmsB l)) ∧ Below w.heap.size w w' := by
  unfold maxLen at hn
  obtain ⟨a, c, rfl, h⟩ := h
  have H := hide h
  obtain ⟨n, hl⟩ : ∃ n, l.length = n := ⟨_, rfl⟩
  have HY := hide (prms_yes (l := l))
  have HZ := hide (fun k => prms_no (l := l) (k := k))
  obtain ⟨pb, hpb⟩ : ∃ pb, prmsB l = pb := ⟨_, rfl⟩
  have HN := hide hl
  rw [hpb] at HY HZ ⊢
  rw [hl] at hn ⊢
  clear h hl hpb
  by_cases h20 : 20 < n
  · rw [decide_eq_false (by omega), Bool.false_and]
    have i20 : (20 : Int) < n := by omega
    go_enter Tryd.func68, Tryd.ntmps68
    go_wp2
    go_ret
    exact ⟨rfl, Below.refl _ _⟩
  · rw [decide_eq_true (by omega), Bool.true_and]
    have i20 : ¬ (20 : Int) < n := by omega
    go_enter Tryd.func68, Tryd.ntmps68
    go_wp2
    go_loopw [10] (fun i wr => ∃ k : Nat, i = .int .i64 k ∧ k ≤ n ∧ Hid (∀ i (h : i < l.length), i < k → inB l[i].1 1 3 = true) ∧ Below w.heap.size w wr) (fun i _ => n - (intOf i).toNat)
    case atStart => exact ⟨0, rfl, by omega, fun i _ hi => absurd hi (by omega), Below.refl _ _⟩
    case round =>
      obtain ⟨k, rfl, hk, Hk, hbw⟩ := hrel
      by_cases hp : k < n
      · have i1 : (k : Int) < n := by omega
        have hkl : k < l.length := by rw [HN.out]; exact hp
        obtain ⟨b, o, rfl, -, hb2, -, he⟩ := rows_on PrmAt.stays H.out (hbw.mono hm) k hkl
        have HZ' := hide (HZ.out k hkl)
        obtain ⟨x, hx⟩ : ∃ x, l[k] = x := ⟨_, rfl⟩
        have HX := hide hx
        rw [hx] at he HZ'
        clear hx HZ
        obtain ⟨y0, y1⟩ := x
        obtain ⟨c0, c1, -⟩ := he
        simp only [Nat.add_zero] at c0 c1 HZ'
        cases hin : inB y0 1 3 with
        | false =>
          go_wp2_with (go_at_call 67; refine (valueType_any _ _).mono ?_; rintro e w2 ⟨rfl, rfl⟩; rw [hin])
          go_ret
          exact ⟨ret_bool (HZ'.out hin).symm, hbw.alloc hbw.size _⟩
        | true =>
          go_wp2_with (go_at_call 67; refine (valueType_any _ _).mono ?_; rintro e w2 ⟨rfl, rfl⟩; rw [hin])
          go_roundw
          case rel =>
            refine ⟨k + 1, by go_num, by omega, (fun i h hi => ?_), hbw.alloc hbw.size _⟩
            by_cases e : i < k
            · exact Hk.out i h e
            · obtain rfl : i = k := by omega
              rw [HX.out]
              exact hin
          case measure => simp [intOf]; omega
      · have i1 : ¬ (k : Int) < n := by omega
        go_wp2
        go_ret
        exact ⟨ret_bool (HY.out fun i h => Hk.out i h (by have := HN.out; omega)).symm, hbw⟩
theorem restN_1 {t len v : Int} {n : Nat} {pb : Bool} : restN 1 t len v n pb = (constB t v && decide (len = 0) && decide (n = 0)) := by simp [restN]
theorem restN_2 {t len v : Int} {n : Nat} {pb : Bool} : restN 2 t len v n pb = (inB t 1 3 && inB len 0 100 && decide (v = 0) && decide (n = 0)) := by simp [restN]
theorem in03 (t : Int) : inB t 0 3 = (decide (t = 0) || inB t 1 3) := by
  unfold inB
  rw [Bool.eq_iff_iff]
  simp
  omega
theorem restN_3 {t len v : Int} {n : Nat} {pb : Bool} : restN 3 t len v n pb = ((decide (t = 0) || inB t 1 3) && decide (len = 0) && decide (v = 0) && (decide (n ≤ 20) && pb)) := by simp [restN, in03, Bool.and_assoc]
theorem restN_no {k t len v : Int} {n : Nat} {pb : Bool} (h1 : k ≠ 1) (h2 : k ≠ 2) (h3 : k ≠ 3) : restN k t len v n pb = false := by
  unfold restN
  rw [if_neg h1, if_neg h2, if_neg h3]
set_option maxHeartbeats 4000000 in
theorem itemOK_any (x0 x1 x2 x3 : Int) (s : ByteArray) (v : Value) (m : Md) (l : List Prm) (w : World) (hn : l.length ≤ maxLen) (h : SlAt PrmAt 2 w m v l) (hm : m.hi ≤ w.heap.size) (HO' : ∀ w1, Below w.heap.size w w1 → Calls Tryd.prog 39 #[.string s] w1 fun e w' => e = .returned (.bool (ownB s)) ∧ Below w1.heap.size w1 w') :
    Calls Tryd.prog 41 #[.agg #[.int .i64 x0, .int .i64 x1, .int .i64 x2, .int .i64 x3, .string s, v]] w fun e w' => e = .returned (.bool (ownB s && restN x0 x1 x2 x3 l.length (prmsB l))) ∧ Below w.heap.size w w' := by
  have HP : Hid (∀ w', Below w.heap.size w w' → Calls Tryd.prog 68 #[v] w' fun e w2 => e = .returned (.bool (decide (l.length ≤ 20) && prmsB l)) ∧ Below w'.heap.size w' w2) :=
    fun w' bel => paramsOK_any v m l w' hn (h.on PrmAt.stays (bel.mono hm)) (Nat.le_trans hm bel.size)
  obtain ⟨a, c, rfl, -⟩ := h
  unfold maxLen at hn
  generalize prmsB l = pb at *
  generalize l.length = n at *
  have HO := hide HO'
  clear HO'
  cases ho : ownB s with
  | false =>
    rw [Bool.false_and]
    go_enter Tryd.func41, Tryd.ntmps41
    go_wp2_with (go_at_call 39; refine (HO.out _ ((Below.refl _ _).alloc (Nat.le_refl _) _)).mono ?_; rintro e w1 ⟨rfl, bel0⟩; rw [ho]; obtain ⟨hc, hf⟩ := bcell bel0; have hz : w.heap.size < w1.heap.size := (by have := bel0.size; simp at this; omega))
    go_ret
    exact ⟨rfl, ((((Below.refl _ _).alloc (Nat.le_refl _) _)).trans (bel0.mono (by simp)))⟩
  | true =>
  rw [Bool.true_and]
  by_cases k1 : x0 = 1
  · subst k1
    rw [restN_1]
    cases hb : constB x1 x3 with
    | false =>
      rw [Bool.false_and, Bool.false_and]
      go_enter Tryd.func41, Tryd.ntmps41
      go_wp2_with (first | (go_at_call 39; refine (HO.out _ ((Below.refl _ _).alloc (Nat.le_refl _) _)).mono ?_; rintro e w1 ⟨rfl, bel0⟩; rw [ho]; obtain ⟨hc, hf⟩ := bcell bel0; have hz : w.heap.size < w1.heap.size := (by have := bel0.size; simp at this; omega)) | (go_at_call 66; refine (valueFits_any _ _ _).mono ?_; rintro e w2 ⟨rfl, rfl⟩; rw [hb]))
      go_ret
      exact ⟨rfl, ((((Below.refl _ _).alloc (Nat.le_refl _) _)).trans (bel0.mono (by simp)))⟩
    | true =>
      by_cases z2 : x2 = 0
      · subst z2
        by_cases z : n = 0
        · subst z
          simp only [decide_true, Bool.and_true]
          go_enter Tryd.func41, Tryd.ntmps41
          go_wp2_with (first | (go_at_call 39; refine (HO.out _ ((Below.refl _ _).alloc (Nat.le_refl _) _)).mono ?_; rintro e w1 ⟨rfl, bel0⟩; rw [ho]; obtain ⟨hc, hf⟩ := bcell bel0; have hz : w.heap.size < w1.heap.size := (by have := bel0.size; simp at this; omega)) | (go_at_call 66; refine (valueFits_any _ _ _).mono ?_; rintro e w2 ⟨rfl, rfl⟩; rw [hb]))
          go_ret
          exact ⟨rfl, ((((Below.refl _ _).alloc (Nat.le_refl _) _)).trans (bel0.mono (by simp)))⟩
        · rw [decide_eq_false z, Bool.and_false]
          have i0 : ¬ (n : Int) = 0 := by omega
          go_enter Tryd.func41, Tryd.ntmps41
          go_wp2_with (first | (go_at_call 39; refine (HO.out _ ((Below.refl _ _).alloc (Nat.le_refl _) _)).mono ?_; rintro e w1 ⟨rfl, bel0⟩; rw [ho]; obtain ⟨hc, hf⟩ := bcell bel0; have hz : w.heap.size < w1.heap.size := (by have := bel0.size; simp at this; omega)) | (go_at_call 66; refine (valueFits_any _ _ _).mono ?_; rintro e w2 ⟨rfl, rfl⟩; rw [hb]))
          go_ret
          exact ⟨ret_bool (show ((n : Int) == 0) = false by simpa using i0), ((((Below.refl _ _).alloc (Nat.le_refl _) _)).trans (bel0.mono (by simp)))⟩
      · rw [decide_eq_false z2, Bool.and_false, Bool.false_and]
        go_enter Tryd.func41, Tryd.ntmps41
        go_wp2_with (first | (go_at_call 39; refine (HO.out _ ((Below.refl _ _).alloc (Nat.le_refl _) _)).mono ?_; rintro e w1 ⟨rfl, bel0⟩; rw [ho]; obtain ⟨hc, hf⟩ := bcell bel0; have hz : w.heap.size < w1.heap.size := (by have := bel0.size; simp at this; omega)) | (go_at_call 66; refine (valueFits_any _ _ _).mono ?_; rintro e w2 ⟨rfl, rfl⟩; rw [hb]))
        go_ret
        exact ⟨rfl, ((((Below.refl _ _).alloc (Nat.le_refl _) _)).trans (bel0.mono (by simp)))⟩
  by_cases k2 : x0 = 2
  · subst k2
    rw [restN_2]
    cases hb : inB x1 1 3 with
    | false =>
      rw [Bool.false_and, Bool.false_and, Bool.false_and]
      go_enter Tryd.func41, Tryd.ntmps41
      go_wp2_with (first | (go_at_call 39; refine (HO.out _ ((Below.refl _ _).alloc (Nat.le_refl _) _)).mono ?_; rintro e w1 ⟨rfl, bel0⟩; rw [ho]; obtain ⟨hc, hf⟩ := bcell bel0; have hz : w.heap.size < w1.heap.size := (by have := bel0.size; simp at this; omega)) | (go_at_call 67; refine (valueType_any _ _).mono ?_; rintro e w2 ⟨rfl, rfl⟩; rw [hb]))
      go_ret
      exact ⟨rfl, ((((Below.refl _ _).alloc (Nat.le_refl _) _)).trans (bel0.mono (by simp)))⟩
    | true =>
      by_cases a1 : 0 ≤ x2
      · by_cases a2 : x2 ≤ 100
        · rw [in_yes a1 a2]
          by_cases z3 : x3 = 0
          · subst z3
            by_cases z : n = 0
            · subst z
              simp only [decide_true, Bool.and_true]
              go_enter Tryd.func41, Tryd.ntmps41
              go_wp2_with (first | (go_at_call 39; refine (HO.out _ ((Below.refl _ _).alloc (Nat.le_refl _) _)).mono ?_; rintro e w1 ⟨rfl, bel0⟩; rw [ho]; obtain ⟨hc, hf⟩ := bcell bel0; have hz : w.heap.size < w1.heap.size := (by have := bel0.size; simp at this; omega)) | (go_at_call 67; refine (valueType_any _ _).mono ?_; rintro e w2 ⟨rfl, rfl⟩; rw [hb]))
              go_ret
              exact ⟨rfl, ((((Below.refl _ _).alloc (Nat.le_refl _) _)).trans (bel0.mono (by simp)))⟩
            · rw [decide_eq_false z, Bool.and_false]
              have i0 : ¬ (n : Int) = 0 := by omega
              go_enter Tryd.func41, Tryd.ntmps41
              go_wp2_with (first | (go_at_call 39; refine (HO.out _ ((Below.refl _ _).alloc (Nat.le_refl _) _)).mono ?_; rintro e w1 ⟨rfl, bel0⟩; rw [ho]; obtain ⟨hc, hf⟩ := bcell bel0; have hz : w.heap.size < w1.heap.size := (by have := bel0.size; simp at this; omega)) | (go_at_call 67; refine (valueType_any _ _).mono ?_; rintro e w2 ⟨rfl, rfl⟩; rw [hb]))
              go_ret
              exact ⟨ret_bool (show ((n : Int) == 0) = false by simpa using i0), ((((Below.refl _ _).alloc (Nat.le_refl _) _)).trans (bel0.mono (by simp)))⟩
          · rw [decide_eq_false z3, Bool.and_false, Bool.false_and]
            go_enter Tryd.func41, Tryd.ntmps41
            go_wp2_with (first | (go_at_call 39; refine (HO.out _ ((Below.refl _ _).alloc (Nat.le_refl _) _)).mono ?_; rintro e w1 ⟨rfl, bel0⟩; rw [ho]; obtain ⟨hc, hf⟩ := bcell bel0; have hz : w.heap.size < w1.heap.size := (by have := bel0.size; simp at this; omega)) | (go_at_call 67; refine (valueType_any _ _).mono ?_; rintro e w2 ⟨rfl, rfl⟩; rw [hb]))
            go_ret
            exact ⟨rfl, ((((Below.refl _ _).alloc (Nat.le_refl _) _)).trans (bel0.mono (by simp)))⟩
        · rw [in_no (n := x2) (by omega), Bool.and_false, Bool.false_and, Bool.false_and]
          go_enter Tryd.func41, Tryd.ntmps41
          go_wp2_with (first | (go_at_call 39; refine (HO.out _ ((Below.refl _ _).alloc (Nat.le_refl _) _)).mono ?_; rintro e w1 ⟨rfl, bel0⟩; rw [ho]; obtain ⟨hc, hf⟩ := bcell bel0; have hz : w.heap.size < w1.heap.size := (by have := bel0.size; simp at this; omega)) | (go_at_call 67; refine (valueType_any _ _).mono ?_; rintro e w2 ⟨rfl, rfl⟩; rw [hb]))
          go_ret
          exact ⟨rfl, ((((Below.refl _ _).alloc (Nat.le_refl _) _)).trans (bel0.mono (by simp)))⟩
      · rw [in_no (n := x2) (by omega), Bool.and_false, Bool.false_and, Bool.false_and]
        go_enter Tryd.func41, Tryd.ntmps41
        go_wp2_with (first | (go_at_call 39; refine (HO.out _ ((Below.refl _ _).alloc (Nat.le_refl _) _)).mono ?_; rintro e w1 ⟨rfl, bel0⟩; rw [ho]; obtain ⟨hc, hf⟩ := bcell bel0; have hz : w.heap.size < w1.heap.size := (by have := bel0.size; simp at this; omega)) | (go_at_call 67; refine (valueType_any _ _).mono ?_; rintro e w2 ⟨rfl, rfl⟩; rw [hb]))
        go_ret
        exact ⟨rfl, ((((Below.refl _ _).alloc (Nat.le_refl _) _)).trans (bel0.mono (by simp)))⟩
  by_cases k3 : x0 = 3
  · subst k3
    rw [restN_3]
    by_cases t0 : x1 = 0
    · subst t0
      rw [decide_eq_true (rfl : (0 : Int) = 0), Bool.true_or]
      have hb : inB 0 1 3 = false := by decide
      by_cases z2 : x2 = 0
      · subst z2
        by_cases z3 : x3 = 0
        · subst z3
          simp only [decide_true, Bool.true_and]
          go_enter Tryd.func41, Tryd.ntmps41
          go_wp2_with (first | (go_at_call 39; refine (HO.out _ ((Below.refl _ _).alloc (Nat.le_refl _) _)).mono ?_; rintro e w1 ⟨rfl, bel0⟩; rw [ho]; obtain ⟨hc, hf⟩ := bcell bel0; have hz : w.heap.size < w1.heap.size := (by have := bel0.size; simp at this; omega)) | (go_at_call 67; refine (valueType_any _ _).mono ?_; rintro e w2 ⟨rfl, rfl⟩; rw [hb]) | (go_at_call 68; refine (HP.out _ ((((Below.refl _ _).alloc (Nat.le_refl _) _)).trans (bel0.mono (by simp)))).mono ?_; rintro e w2 ⟨rfl, bel⟩))
          go_ret
          exact ⟨rfl, ((((Below.refl _ _).alloc (Nat.le_refl _) _)).trans (bel0.mono (by simp))).trans (bel.mono (by omega))⟩
        · rw [decide_eq_false z3, Bool.and_false, Bool.false_and]
          go_enter Tryd.func41, Tryd.ntmps41
          go_wp2_with (first | (go_at_call 39; refine (HO.out _ ((Below.refl _ _).alloc (Nat.le_refl _) _)).mono ?_; rintro e w1 ⟨rfl, bel0⟩; rw [ho]; obtain ⟨hc, hf⟩ := bcell bel0; have hz : w.heap.size < w1.heap.size := (by have := bel0.size; simp at this; omega)) | (go_at_call 67; refine (valueType_any _ _).mono ?_; rintro e w2 ⟨rfl, rfl⟩; rw [hb]))
          go_ret
          exact ⟨rfl, ((((Below.refl _ _).alloc (Nat.le_refl _) _)).trans (bel0.mono (by simp)))⟩
      · rw [decide_eq_false z2, Bool.and_false, Bool.false_and, Bool.false_and]
        go_enter Tryd.func41, Tryd.ntmps41
        go_wp2_with (first | (go_at_call 39; refine (HO.out _ ((Below.refl _ _).alloc (Nat.le_refl _) _)).mono ?_; rintro e w1 ⟨rfl, bel0⟩; rw [ho]; obtain ⟨hc, hf⟩ := bcell bel0; have hz : w.heap.size < w1.heap.size := (by have := bel0.size; simp at this; omega)) | (go_at_call 67; refine (valueType_any _ _).mono ?_; rintro e w2 ⟨rfl, rfl⟩; rw [hb]))
        go_ret
        exact ⟨rfl, ((((Below.refl _ _).alloc (Nat.le_refl _) _)).trans (bel0.mono (by simp)))⟩
    · rw [decide_eq_false t0, Bool.false_or]
      cases hb : inB x1 1 3 with
      | false =>
        rw [Bool.false_and, Bool.false_and, Bool.false_and]
        go_enter Tryd.func41, Tryd.ntmps41
        go_wp2_with (first | (go_at_call 39; refine (HO.out _ ((Below.refl _ _).alloc (Nat.le_refl _) _)).mono ?_; rintro e w1 ⟨rfl, bel0⟩; rw [ho]; obtain ⟨hc, hf⟩ := bcell bel0; have hz : w.heap.size < w1.heap.size := (by have := bel0.size; simp at this; omega)) | (go_at_call 67; refine (valueType_any _ _).mono ?_; rintro e w2 ⟨rfl, rfl⟩; rw [hb]))
        go_ret
        exact ⟨rfl, ((((Below.refl _ _).alloc (Nat.le_refl _) _)).trans (bel0.mono (by simp)))⟩
      | true =>
        by_cases z2 : x2 = 0
        · subst z2
          by_cases z3 : x3 = 0
          · subst z3
            simp only [decide_true, Bool.true_and]
            go_enter Tryd.func41, Tryd.ntmps41
            go_wp2_with (first | (go_at_call 39; refine (HO.out _ ((Below.refl _ _).alloc (Nat.le_refl _) _)).mono ?_; rintro e w1 ⟨rfl, bel0⟩; rw [ho]; obtain ⟨hc, hf⟩ := bcell bel0; have hz : w.heap.size < w1.heap.size := (by have := bel0.size; simp at this; omega)) | (go_at_call 67; refine (valueType_any _ _).mono ?_; rintro e w2 ⟨rfl, rfl⟩; rw [hb]) | (go_at_call 68; refine (HP.out _ ((((Below.refl _ _).alloc (Nat.le_refl _) _)).trans (bel0.mono (by simp)))).mono ?_; rintro e w2 ⟨rfl, bel⟩))
            go_ret
            exact ⟨rfl, ((((Below.refl _ _).alloc (Nat.le_refl _) _)).trans (bel0.mono (by simp))).trans (bel.mono (by omega))⟩
          · rw [decide_eq_false z3, Bool.and_false, Bool.false_and]
            go_enter Tryd.func41, Tryd.ntmps41
            go_wp2_with (first | (go_at_call 39; refine (HO.out _ ((Below.refl _ _).alloc (Nat.le_refl _) _)).mono ?_; rintro e w1 ⟨rfl, bel0⟩; rw [ho]; obtain ⟨hc, hf⟩ := bcell bel0; have hz : w.heap.size < w1.heap.size := (by have := bel0.size; simp at this; omega)) | (go_at_call 67; refine (valueType_any _ _).mono ?_; rintro e w2 ⟨rfl, rfl⟩; rw [hb]))
            go_ret
            exact ⟨rfl, ((((Below.refl _ _).alloc (Nat.le_refl _) _)).trans (bel0.mono (by simp)))⟩
        · rw [decide_eq_false z2, Bool.and_false, Bool.false_and, Bool.false_and]
          go_enter Tryd.func41, Tryd.ntmps41
          go_wp2_with (first | (go_at_call 39; refine (HO.out _ ((Below.refl _ _).alloc (Nat.le_refl _) _)).mono ?_; rintro e w1 ⟨rfl, bel0⟩; rw [ho]; obtain ⟨hc, hf⟩ := bcell bel0; have hz : w.heap.size < w1.heap.size := (by have := bel0.size; simp at this; omega)) | (go_at_call 67; refine (valueType_any _ _).mono ?_; rintro e w2 ⟨rfl, rfl⟩; rw [hb]))
          go_ret
          exact ⟨rfl, ((((Below.refl _ _).alloc (Nat.le_refl _) _)).trans (bel0.mono (by simp)))⟩
  · rw [restN_no k1 k2 k3]
    go_enter Tryd.func41, Tryd.ntmps41
    go_wp2_with (go_at_call 39; refine (HO.out _ ((Below.refl _ _).alloc (Nat.le_refl _) _)).mono ?_; rintro e w1 ⟨rfl, bel0⟩; rw [ho]; obtain ⟨hc, hf⟩ := bcell bel0; have hz : w.heap.size < w1.heap.size := (by have := bel0.size; simp at this; omega))
    go_ret
    exact ⟨rfl, ((((Below.refl _ _).alloc (Nat.le_refl _) _)).trans (bel0.mono (by simp)))⟩
end Go.Proofs.YtoomnimbokbadaaDoor
