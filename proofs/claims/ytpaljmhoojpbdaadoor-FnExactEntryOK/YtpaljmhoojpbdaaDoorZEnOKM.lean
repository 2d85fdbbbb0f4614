/- Entries that are right, as plain data; the model's EntryOK. No condition. -/
import Derived.Test.YtpaljmhoojpbdaaDoorZConv
import Derived.Test.YtpaljmhoojpbdaaDoorZMO2
namespace Go.Proofs.YtpaljmhoojpbdaaDoor
open Go.RowKit Go.PlainAid

def enB (m s f b : ByteArray) (k : Int) : Bool := decide (b.size ≤ 65536) && decide (s.size ≤ 4000) && decide (f.size ≤ 65536) && decide (k = sumF (entS m s f b)) && (mdOkO (sb b) && ((rdObj (sb b)).module.toList == m.toList))
theorem en_no1 {m s f b : ByteArray} {k : Int} (h : ¬ b.size ≤ 65536) : enB m s f b k = false := by unfold enB; rw [decide_eq_false h]; simp
theorem en_no2 {m s f b : ByteArray} {k : Int} (h : ¬ s.size ≤ 4000) : enB m s f b k = false := by unfold enB; rw [decide_eq_false h]; simp
theorem en_no3 {m s f b : ByteArray} {k : Int} (h : ¬ f.size ≤ 65536) : enB m s f b k = false := by unfold enB; rw [decide_eq_false h]; simp
theorem en_no4 {m s f b : ByteArray} {k : Int} (h : ¬ k = sumF (entS m s f b)) : enB m s f b k = false := by unfold enB; rw [decide_eq_false h]; simp
theorem en_yes {m s f b : ByteArray} {k : Int} (h1 : b.size ≤ 65536) (h2 : s.size ≤ 4000) (h3 : f.size ≤ 65536) (h4 : k = sumF (entS m s f b)) : enB m s f b k = (mdOkO (sb b) && ((rdObj (sb b)).module.toList == m.toList)) := by
  unfold enB
  rw [decide_eq_true h1, decide_eq_true h2, decide_eq_true h3, decide_eq_true h4]
  simp
theorem en_yes' {m s f b : ByteArray} {k : Int} (h1 : b.size ≤ 65536) (h2 : s.size ≤ 4000) (h3 : f.size ≤ 65536) : enB m s f b k = (decide (k = sumF (entS m s f b)) && (mdOkO (sb b) && ((rdObj (sb b)).module.toList == m.toList))) := by
  unfold enB
  rw [decide_eq_true h1, decide_eq_true h2, decide_eq_true h3]
  simp
/-- A row with a mark, as the readings of arguments have it. -/
theorem MOwn.slat {w : World} {B g n c : Nat} {l : List Int} (h : MOwn w B (.slice (some ⟨g, 0, none⟩) n c) l) (hb : ∀ y ∈ l, 0 ≤ y ∧ y ≤ 255) : SlAt BAt 1 w ⟨B, w.heap.size, false⟩ (.slice (some ⟨g, 0, none⟩) l.length c) l := by
  obtain ⟨g', cap', e1, h1, h2, h3, h4, h5, h6⟩ := h
  cases e1
  refine ⟨_, c, rfl, fun i hi => ⟨g, 0, rfl, ⟨h1, h3⟩, h2, (fun h => by cases h), ?_⟩⟩
  have := h6 i (.int .u8 l[i]) (by unfold bc; rw [List.getElem?_map, List.getElem?_eq_getElem hi]; rfl)
  have hm := hb l[i] (List.getElem_mem hi)
  exact ⟨by simpa using this, hm⟩
set_option maxRecDepth 20000 in
set_option maxHeartbeats 4000000 in
theorem specEntryOK_any (m s f b : ByteArray) (k : Int) (w : World) (hm : m.size ≤ 1048576) (hs : s.size ≤ 1048576) (hf : f.size ≤ 1048576) (hb : b.size ≤ 1048576) :
    Calls Tryd.prog 17 #[.agg #[.string m, .string s, .string f, .string b, .int .i64 k]] w fun e w' => e = .returned (.bool (enB m s f b k)) ∧ Below w.heap.size w w' := by
  have hmix : Tryd.prog.follows .mixedOrders = true := by kernel_rfl
  obtain ⟨W, hW⟩ : ∃ W, W = w.alloc (.cells #[.string m, .string s, .string f, .string b, .int .i64 k] 53) := ⟨_, rfl⟩
  have x0 : W.heap[w.heap.size]? = some (.cells #[.string m, .string s, .string f, .string b, .int .i64 k] 53 (0, 0)) := by rw [hW]; exact Deep.blk_alloc_new w _
  have hz : w.heap.size < W.heap.size := (Array.getElem?_eq_some_iff.1 x0).1
  have bW : Below w.heap.size w W := by rw [hW]; exact (Below.refl _ _).alloc (Nat.le_refl _) _
  have HW := hide (And.intro x0 bW)
  have C0 := (heapCells x0).1 0
  have C1 := (heapCells x0).1 1
  have C2 := (heapCells x0).1 2
  have C3 := (heapCells x0).1 3
  have C4 := (heapCells x0).1 4
  simp only [List.getElem?_toArray, List.getElem?_cons_zero, List.getElem?_cons_succ] at C0 C1 C2 C3 C4
  have d0 := fun n os => cell_grown (w := W) (a := ⟨w.heap.size, 0, none⟩) hz C0 n os
  have d1 := fun n os => cell_grown (w := W) (a := ⟨w.heap.size, 1, none⟩) hz C1 n os
  have d2 := fun n os => cell_grown (w := W) (a := ⟨w.heap.size, 2, none⟩) hz C2 n os
  have d3 := fun n os => cell_grown (w := W) (a := ⟨w.heap.size, 3, none⟩) hz C3 n os
  have HC := hide (And.intro C0 (And.intro C1 (And.intro C2 (And.intro C3 C4))))
  have HZ := hide hz
  have HSm := hide (specSum_any m s f b k W.drew hm hs hf hb)
  clear x0 bW hz C0 C1 C2 C3 C4
  by_cases q1 : b.size ≤ 65536
  · by_cases q2 : s.size ≤ 4000
    · by_cases q3 : f.size ≤ 65536
      · rw [en_yes' q1 q2 q3]
        have i1 : decide ((65536 : Int) < (b.size : Int)) = false := decide_eq_false (by omega)
        have i2 : decide ((4000 : Int) < (s.size : Int)) = false := decide_eq_false (by omega)
        have i3 : decide ((65536 : Int) < (f.size : Int)) = false := decide_eq_false (by omega)
        have HR : Hid (∀ w1 : World, Calls Tryd.prog 44 #[.slice (some ⟨w1.heap.size, 0, none⟩) b.size (grownCap w1 b.size 0 5)] (Lib.bytesWorld w1 5 b) fun e w' => LrPost (sb b) (Lib.bytesWorld w1 5 b) e w') := hide fun w1 => by
          have hc := (MOwn.conv w1 w1.heap.size b (Nat.le_refl _) (by unfold maxLen; omega))
          have := l04Read_any w1.heap.size 0 (grownCap w1 b.size 0 5) _ (sb b) (Lib.bytesWorld w1 5 b) (MOwn.slat hc (sb_byte b)) (by rw [sb_len]; exact grownCap_ge w1 b.size 0 _) (Nat.le_refl _) (by rw [sb_len]; exact q1)
          rwa [sb_len] at this
        have hcv := fun W : World => conv_run W b
        obtain ⟨X, hX⟩ : ∃ X, sumF (entS m s f b) = X := ⟨_, rfl⟩
        obtain ⟨D, hD⟩ : ∃ D, (rdObj (sb b)).module = D := ⟨_, rfl⟩
        have HD := hide hD
        rw [hX] at HSm ⊢
        rw [hD]
        obtain ⟨fb, hfb⟩ : ∃ fb, (decide (k = X) && (mdOkO (sb b) && (D.toList == m.toList))) = fb := ⟨_, rfl⟩
        rw [hfb]
        have HFB := hide hfb
        clear hfb
        obtain ⟨C0, C1, C2, C3, C4⟩ := HC.out
        clear q1 q2 q3 hX hD d0 d1 d2 d3
        go_enter Tryd.func17, Tryd.ntmps17
        go_upto_region 1 with fail
        rw [← hW]
        clear hW
        have e0 : W.drew.cell? ⟨w.heap.size, 0, none⟩ = some (.string m) := C0
        have e1 : W.drew.cell? ⟨w.heap.size, 1, none⟩ = some (.string s) := C1
        have e2 : W.drew.cell? ⟨w.heap.size, 2, none⟩ = some (.string f) := C2
        have e3 : W.drew.cell? ⟨w.heap.size, 3, none⟩ = some (.string b) := C3
        have e4 : W.drew.cell? ⟨w.heap.size, 4, none⟩ = some (.int .i64 k) := C4
        go_cut [27] from 5 to 27 (fun v wc => v = .bool (!decide (k = X)) ∧ Hid (Below W.heap.size W wc))
        case first =>
          cases hk : decide (k = X)
          all_goals
            go_region_held3 (fun w' => w'.cell? ⟨w.heap.size, 0, none⟩ = some (.string m) ∧ w'.cell? ⟨w.heap.size, 1, none⟩ = some (.string s) ∧ w'.cell? ⟨w.heap.size, 2, none⟩ = some (.string f) ∧ w'.cell? ⟨w.heap.size, 3, none⟩ = some (.string b) ∧ w'.cell? ⟨w.heap.size, 4, none⟩ = some (.int .i64 k))
              (first
                | (go_split_ands; refine ⟨?_, ?_, ?_, ?_, ?_⟩ <;> assumption)
                | (go_split_ands; exact ⟨(b1.cell (p := ⟨w.heap.size, 0, none⟩) HZ.out).trans e0, (b1.cell (p := ⟨w.heap.size, 1, none⟩) HZ.out).trans e1, (b1.cell (p := ⟨w.heap.size, 2, none⟩) HZ.out).trans e2, (b1.cell (p := ⟨w.heap.size, 3, none⟩) HZ.out).trans e3, (b1.cell (p := ⟨w.heap.size, 4, none⟩) HZ.out).trans e4⟩))
              ((first
                | (go_at_call 43; refine HSm.out.mono ?_; rintro e w1 ⟨rfl, b1⟩)
                | fail))
            have HB1 := hide (((Below.refl W.heap.size W).drew).trans b1)
            clear b1
            go_wp2_with fail
            go_meet
            case rel => exact ⟨rfl, HB1⟩
        case rest =>
          obtain ⟨rfl, HB⟩ := hcut
          clear HSm e0 e1 e2 e3 e4
          cases hk : decide (k = X) with
          | false =>
            have HQ := hide (show fb = false by rw [← HFB.out, hk]; rfl)
            go_wp2_with fail
            go_ret
            exact ⟨ret_bool HQ.out.symm, HW.out.2.trans (HB.out.mono (Nat.le_of_lt HZ.out))⟩
          | true =>
            have c3 := (HB.out.cell (p := ⟨w.heap.size, 3, none⟩) HZ.out).trans C3
            have HQ := hide (show fb = (mdOkO (sb b) && (D.toList == m.toList)) by rw [← HFB.out, hk]; rfl)
            have bq : ∀ w2, Below (Lib.bytesWorld wc 5 b).heap.size (Lib.bytesWorld wc 5 b) w2 → Below w.heap.size w w2 := fun w2 b2 => HW.out.2.trans ((HB.out.trans (((conv_below wc b).trans (b2.mono (by rw [Lib.bytesWorld_size]; omega))).mono HB.out.size)).mono (Nat.le_of_lt HZ.out))
            have HBq := hide bq
            have HM0 : Hid (∀ w2, Below (Lib.bytesWorld wc 5 b).heap.size (Lib.bytesWorld wc 5 b) w2 → w2.cell? ⟨w.heap.size, 0, none⟩ = some (.string m) ∧ w.heap.size < w2.heap.size) := hide fun w2 b2 => by
              have z1 := HB.out.size
              have z2 := HZ.out
              have z3 := b2.size
              have z4 := Lib.bytesWorld_size wc 5 b
              exact ⟨(b2.cell (p := ⟨w.heap.size, 0, none⟩) (by show w.heap.size < _; omega)).trans (((conv_below wc b).cell (p := ⟨w.heap.size, 0, none⟩) (Nat.lt_of_lt_of_le HZ.out HB.out.size)).trans ((HB.out.cell (p := ⟨w.heap.size, 0, none⟩) HZ.out).trans C0)), by omega⟩
            clear bq
            cases hmd : mdOkO (sb b) with
            | false =>
              rw [hmd] at HQ
              go_wp2_with (go_at_call 44; refine (HR.out _).mono ?_; rintro e w2 ⟨sq, pq, a2, n2, c2, a3, n3, c3', a4, n4, c4, rfl, hyes, b2⟩; rw [hmd])
              go_ret
              exact ⟨ret_bool HQ.out.symm, (HBq.out _ b2).alloc (HBq.out _ b2).size _⟩
            | true =>
              rw [hmd] at HQ
              go_wp2_with (go_at_call 44; refine (HR.out _).mono ?_; rintro e w2 ⟨sq, pq, a2, n2, c2, a3, n3, c3', a4, n4, c4, rfl, hyes, b2⟩; rw [hmd]; obtain ⟨m0, hz2⟩ := HM0.out _ b2)
              go_ret
              refine ⟨ret_bool ?_, (HBq.out _ b2).alloc (HBq.out _ b2).size _⟩
              obtain ⟨L, e1, -⟩ := hyes hmd
              rw [HQ.out, ← HD.out, e1]
              rfl
      · rw [en_no3 q3]
        have i1 : decide ((65536 : Int) < (b.size : Int)) = false := decide_eq_false (by omega)
        have i2 : decide ((4000 : Int) < (s.size : Int)) = false := decide_eq_false (by omega)
        have i3 : decide ((65536 : Int) < (f.size : Int)) = true := decide_eq_true (by omega)
        clear q1 q2 q3
        go_enter Tryd.func17, Tryd.ntmps17
        go_upto_region 1 with fail
        rw [← hW]
        clear hW
        refine wp_region_quiet_grown (by assumption) (by kernel_rfl) ?_
        repeat (first | go_big_quiet_skip | quiet_step (fail))
        refine wpQuiet_nil ?_
        intro _ hw'
        obtain ⟨⟨nq, osq⟩, hw''⟩ := hw'
        subst hw''
        go_wp2
        go_ret
        exact ⟨rfl, HW.out.2.trans (((Gw.refl _).grown nq osq).below.mono (Nat.le_of_lt HZ.out))⟩
    · rw [en_no2 q2]
      have i1 : decide ((65536 : Int) < (b.size : Int)) = false := decide_eq_false (by omega)
      have i2 : decide ((4000 : Int) < (s.size : Int)) = true := decide_eq_true (by omega)
      clear q1 q2
      go_enter Tryd.func17, Tryd.ntmps17
      go_upto_region 1 with fail
      rw [← hW]
      clear hW
      refine wp_region_quiet_grown (by assumption) (by kernel_rfl) ?_
      repeat (first | go_big_quiet_skip | quiet_step (fail))
      refine wpQuiet_nil ?_
      intro _ hw'
      obtain ⟨⟨nq, osq⟩, hw''⟩ := hw'
      subst hw''
      go_wp2
      go_ret
      exact ⟨rfl, HW.out.2.trans (((Gw.refl _).grown nq osq).below.mono (Nat.le_of_lt HZ.out))⟩
  · rw [en_no1 q1]
    have i1 : decide ((65536 : Int) < (b.size : Int)) = true := decide_eq_true (by omega)
    clear q1
    go_enter Tryd.func17, Tryd.ntmps17
    go_upto_region 1 with fail
    rw [← hW]
    clear hW
    refine wp_region_quiet_grown (by assumption) (by kernel_rfl) ?_
    repeat (first | go_big_quiet_skip | quiet_step (fail))
    refine wpQuiet_nil ?_
    intro _ hw'
    obtain ⟨⟨nq, osq⟩, hw''⟩ := hw'
    subst hw''
    go_wp2
    go_ret
    exact ⟨rfl, HW.out.2.trans (((Gw.refl _).grown nq osq).below.mono (Nat.le_of_lt HZ.out))⟩
end Go.Proofs.YtpaljmhoojpbdaaDoor
