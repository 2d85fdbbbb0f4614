/- The program's EntryOK. Its table of words is a premise. -/
import Derived.Test.YtpaljmhoojpbdaaDoorZEnOKM
namespace Go.Proofs.YtpaljmhoojpbdaaDoor
open Go.RowKit Go.PlainAid

theorem ne_flip (k X : Int) : (X != k) = !decide (k = X) := by
  by_cases h : k = X
  · subst h; simp
  · have h2 : X ≠ k := fun e => h e.symm
    simp [h, h2]
def ObPost (bq : Bool) (w : World) (e : Ending) (w' : World) : Prop := (∃ sq pq a2 n2 c2 a3 n3 c3 a4 n4 c4, e = .returned (.tuple #[.agg #[.string sq, .int .i64 pq, .slice a2 n2 c2, .slice a3 n3 c3, .slice a4 n4 c4], .bool bq])) ∧ Below w.heap.size w w'
theorem rdpo_plain {l : List Int} {w w' : World} {e : Ending} (hin : ∀ y ∈ l, 0 ≤ y ∧ y ≤ 255) (hl : l.length ≤ 65536) (h : RdPO l w e w') : (∃ sq pq va vn vc ga gn gc pa pn pc, e = .returned (.tuple #[.agg #[.string sq, .int .i64 pq, .slice va vn vc, .slice ga gn gc, .slice pa pn pc], .int .i64 (if mdOkO l = true then 0 else 3)]) ∧ (mdOkO l = true → sq = (rdObj l).module)) ∧ Below w.heap.size w w' := by
  obtain ⟨⟨u2, u3, u4, L, e1, h1⟩, b⟩ := h
  obtain ⟨a2, c2, q2⟩ := h1.1.form
  obtain ⟨a3, c3, q3⟩ := h1.2.1.form
  obtain ⟨a4, c4, q4⟩ := h1.2.2.1.1.form
  subst q2 q3 q4
  have hm := mdOkO_eq hin hl
  have e2 : rdCO l = if mdOkO l = true then 0 else 3 := by
    unfold rdCO
    rw [if_pos hl, hm]
  rw [e2] at e1
  refine ⟨⟨_, _, _, _, _, _, _, _, _, _, _, e1, fun hk => ?_⟩, b⟩
  unfold rdVO
  rw [if_pos ⟨hl, by rw [← hm]; exact hk⟩]
set_option maxRecDepth 20000 in
set_option maxHeartbeats 4000000 in
theorem implObject_any (m s f b : ByteArray) (k : Int) (w : World) (hm : m.size ≤ 1048576) (hs : s.size ≤ 1048576) (hf : f.size ≤ 1048576) (hb : b.size ≤ 1048576) (t : TypeId) (fr : Nat × Nat) (hg : w.heap[1]? = some (.cells keyRow t fr)) :
    Calls Tryd.prog 45 #[.agg #[.string m, .string s, .string f, .string b, .int .i64 k]] w fun e w' => ObPost (enB m s f b k) w e w' := by
  have hmix : Tryd.prog.follows .mixedOrders = true := by kernel_rfl
  by_cases q2 : s.size ≤ 4000
  · by_cases q3 : f.size ≤ 65536
    · by_cases q1 : b.size ≤ 65536
      · rw [en_yes' q1 q2 q3]
        have i2 : ¬ (4000 : Int) < (s.size : Int) := by omega
        have i3 : ¬ (65536 : Int) < (f.size : Int) := by omega
        have i1 : ¬ (65536 : Int) < (b.size : Int) := by omega
        obtain ⟨X, hX⟩ : ∃ X, sumF (entS m s f b) = X := ⟨_, rfl⟩
        obtain ⟨D, hD⟩ : ∃ D, (rdObj (sb b)).module = D := ⟨_, rfl⟩
        have HD := hide hD
        have HSm := hide (fun w1 : World => implSum_any m s f b k w1 hm hs hf hb)
        rw [hX] at HSm ⊢
        rw [hD]
        obtain ⟨fb, hfb⟩ : ∃ fb, (decide (k = X) && (mdOkO (sb b) && (D.toList == m.toList))) = fb := ⟨_, rfl⟩
        rw [hfb]
        have HFB := hide hfb
        have HR : Hid (∀ w1 : World, Below w.heap.size w w1 → Calls Tryd.prog 71 #[.slice (some ⟨w1.heap.size, 0, none⟩) b.size (grownCap w1 b.size 0 5)] (Lib.bytesWorld w1 5 b) fun e w' => RdPO (sb b) (Lib.bytesWorld w1 5 b) e w') := hide fun w1 bel => by
          have hc := (MOwn.conv w1 w1.heap.size b (Nat.le_refl _) (by unfold maxLen; omega))
          have hgl := (Array.getElem?_eq_some_iff.1 hg).1
          have := implReadO_any w1.heap.size 0 (grownCap w1 b.size 0 5) _ (sb b) (Lib.bytesWorld w1 5 b) (MOwn.slat hc (sb_byte b)) (by rw [sb_len]; exact grownCap_ge w1 b.size 0 _) (Nat.le_refl _) (by rw [sb_len]; omega) t fr
            (((conv_below w1 b).block _ (Nat.lt_of_lt_of_le hgl bel.size)).trans ((bel.block _ hgl).trans hg))
          rwa [sb_len] at this
        have hcv := fun W : World => conv_run W b
        have HBs := hide q1
        obtain ⟨W, hW⟩ : ∃ W, W = (w.alloc (.cells #[.string m, .string s, .string f, .string b, .int .i64 k] 53)).alloc (.cells #[.string ⟨#[]⟩, .int .i64 0, .slice none 0 0, .slice none 0 0, .slice none 0 0] 45) := ⟨_, rfl⟩
        have x0 : W.heap[w.heap.size]? = some (.cells #[.string m, .string s, .string f, .string b, .int .i64 k] 53 (0, 0)) := by
          rw [hW, Below.heap_alloc _ _ _ (by simp)]; exact Deep.blk_alloc_new w _
        have x1 : W.heap[w.heap.size + 1]? = some (.cells #[.string ⟨#[]⟩, .int .i64 0, .slice none 0 0, .slice none 0 0, .slice none 0 0] 45 (0, 0)) := by
          rw [hW]
          have := Deep.blk_alloc_new (w.alloc (.cells #[.string m, .string s, .string f, .string b, .int .i64 k] 53)) (.cells #[.string ⟨#[]⟩, .int .i64 0, .slice none 0 0, .slice none 0 0, .slice none 0 0] 45)
          rwa [World.size_alloc] at this
        have bW : Below w.heap.size w W := by rw [hW]; exact ((Below.refl _ _).alloc (Nat.le_refl _) _).alloc (by simp) _
        have hz : w.heap.size + 1 < W.heap.size := (Array.getElem?_eq_some_iff.1 x1).1
        have HW := hide (And.intro x0 (And.intro x1 (And.intro bW hz)))
        have C0 := (heapCells x0).1 0
        have C1 := (heapCells x0).1 1
        have C2 := (heapCells x0).1 2
        have C3 := (heapCells x0).1 3
        simp only [List.getElem?_toArray, List.getElem?_cons_zero, List.getElem?_cons_succ] at C0 C1 C2 C3
        have hR := hide ((HR.out W bW))
        clear q1 q2 q3 hX hD hfb x0 x1 bW hz hg HR
        go_enter Tryd.func45, Tryd.ntmps45
        go_upto_region 1 with fail
        rw [← hW]
        clear hW
        obtain ⟨cc, hcc⟩ : ∃ cc : Int, (if mdOkO (sb b) = true then (0 : Int) else 3) = cc := ⟨_, rfl⟩
        have HCC := hide hcc
        clear hcc
        go_wp2_with (go_at_call 71; refine hR.out.mono ?_; intro e w1 hrd; obtain ⟨⟨sq, pq, va, vn, vc, ga, gn, gc, pa, pn, pc, rfl, hsq⟩, b1⟩ := rdpo_plain (sb_byte b) (by rw [sb_len]; exact HBs.out) hrd; rw [HCC.out]; clear hrd)
        have HSQ := hide hsq
        obtain ⟨x0, x1, bW, hz⟩ := HW.out
        have b2 : Below W.heap.size W w1 := (conv_below W b).trans (b1.mono (by rw [Lib.bytesWorld_size]; omega))
        obtain ⟨V, hV⟩ : ∃ V, V = w1.alloc (.cells #[.string sq, .int .i64 pq, .slice va vn vc, .slice ga gn gc, .slice pa pn pc] 45) := ⟨_, rfl⟩
        have b3 : Below W.heap.size W V := by rw [hV]; exact b2.alloc b2.size _
        have y0 : V.heap[w1.heap.size]? = some (.cells #[.string sq, .int .i64 pq, .slice va vn vc, .slice ga gn gc, .slice pa pn pc] 45 (0, 0)) := by rw [hV]; exact Deep.blk_alloc_new w1 _
        have z0 := (b3.block w.heap.size (by omega)).trans x0
        have z1 := (b3.block (w.heap.size + 1) (by omega)).trans x1
        have hzV : w1.heap.size < V.heap.size := (Array.getElem?_eq_some_iff.1 y0).1
        have hz1 : W.heap.size ≤ w1.heap.size := b2.size
        have HV := hide (And.intro y0 (And.intro z0 (And.intro z1 (And.intro b3 (And.intro hzV hz1)))))
        have HWb := hide (And.intro bW hz)
        rw [← hV]
        clear hV b1 b2 b3 hsq x0 x1 bW hz y0 z0 z1 hzV hz1 HW C0 C1 C2 C3 hcv hR
        go_cut [45] from 30 to 45 (fun v wc => v = .bool (!fb) ∧ Hid (Below V.heap.size V wc))
        case first =>
          obtain ⟨y0, z0, z1, b3, hzV, hz1⟩ := HV.out
          have hz := HWb.out.2
          have C0 := (heapCells z0).1 0
          have C1 := (heapCells z0).1 1
          have C2 := (heapCells z0).1 2
          have C3 := (heapCells z0).1 3
          have C4 := (heapCells z0).1 4
          have D0 := (heapCells y0).1 0
          simp only [List.getElem?_toArray, List.getElem?_cons_zero, List.getElem?_cons_succ] at C0 C1 C2 C3 C4 D0
          have HZ := hide (show w.heap.size < V.heap.size by omega)
          have HZ2 := hide hzV
          clear y0 z0 z1 b3 hzV hz1 hz
          cases hmd : mdOkO (sb b) with
          | false =>
            obtain rfl : cc = 3 := by rw [← HCC.out, hmd]; rfl
            have HQ := hide (show fb = false by rw [← HFB.out, hmd]; simp)
            clear HFB HCC hmd C0 C1 C2 C3 C4 D0
            refine wp_region_quiet_grown (by assumption) (by kernel_rfl) ?_
            repeat (first | go_big_quiet_skip | quiet_step (fail))
            refine wpQuiet_nil ?_
            intro _ hw'
            obtain ⟨⟨nq, osq⟩, hw''⟩ := hw'
            subst hw''
            go_wp2_with fail
            go_meet
            case rel => exact ⟨by rw [HQ.out]; rfl, hide (((Gw.refl _).grown nq osq).below)⟩
          | true =>
            obtain rfl : cc = 0 := by rw [← HCC.out, hmd]; rfl
            cases heq : (sq.toList == m.toList) with
            | false =>
              have HQ := hide (show fb = false by rw [← HFB.out, hmd, ← HD.out, ← HSQ.out hmd, heq]; simp)
              have d0 := fun n os => cell_grown (w := V) (a := ⟨w1.heap.size, 0, none⟩) HZ2.out D0 n os
              have d1 := fun n os => cell_grown (w := V) (a := ⟨w.heap.size, 0, none⟩) HZ.out C0 n os
              clear HFB HCC hmd C0 C1 C2 C3 C4 D0
              refine wp_region_quiet_grown (by assumption) (by kernel_rfl) ?_
              repeat (first | go_big_quiet_skip | quiet_step (fail))
              refine wpQuiet_nil ?_
              intro _ hw'
              obtain ⟨⟨nq, osq⟩, hw''⟩ := hw'
              subst hw''
              go_wp2_with fail
              go_meet
              case rel => exact ⟨by rw [HQ.out]; rfl, hide (((Gw.refl _).grown nq osq).below)⟩
            | true =>
              have HQ := hide (show fb = decide (k = X) by rw [← HFB.out, hmd, ← HD.out, ← HSQ.out hmd, heq]; simp)
              clear HFB HCC hmd
              have e0 : V.drew.cell? ⟨w.heap.size, 0, none⟩ = some (.string m) := C0
              have e1 : V.drew.cell? ⟨w.heap.size, 1, none⟩ = some (.string s) := C1
              have e2 : V.drew.cell? ⟨w.heap.size, 2, none⟩ = some (.string f) := C2
              have e3 : V.drew.cell? ⟨w.heap.size, 3, none⟩ = some (.string b) := C3
              have e4 : V.drew.cell? ⟨w.heap.size, 4, none⟩ = some (.int .i64 k) := C4
              have e5 : V.drew.cell? ⟨w1.heap.size, 0, none⟩ = some (.string sq) := D0
              cases hk : decide (k = X)
              all_goals
                go_region_held3 (fun w' => w'.cell? ⟨w.heap.size, 0, none⟩ = some (.string m) ∧ w'.cell? ⟨w.heap.size, 1, none⟩ = some (.string s) ∧ w'.cell? ⟨w.heap.size, 2, none⟩ = some (.string f) ∧ w'.cell? ⟨w.heap.size, 3, none⟩ = some (.string b) ∧ w'.cell? ⟨w.heap.size, 4, none⟩ = some (.int .i64 k) ∧ w'.cell? ⟨w1.heap.size, 0, none⟩ = some (.string sq))
                  (first
                    | (go_split_ands; refine ⟨?_, ?_, ?_, ?_, ?_, ?_⟩ <;> assumption)
                    | (go_split_ands; exact ⟨(b5.cell (p := ⟨w.heap.size, 0, none⟩) HZ.out).trans e0, (b5.cell (p := ⟨w.heap.size, 1, none⟩) HZ.out).trans e1, (b5.cell (p := ⟨w.heap.size, 2, none⟩) HZ.out).trans e2, (b5.cell (p := ⟨w.heap.size, 3, none⟩) HZ.out).trans e3, (b5.cell (p := ⟨w.heap.size, 4, none⟩) HZ.out).trans e4, (b5.cell (p := ⟨w1.heap.size, 0, none⟩) HZ2.out).trans e5⟩))
                  ((first
                    | (go_at_call 72; refine (HSm.out V.drew).mono ?_; rintro e w5 ⟨rfl, b5⟩)
                    | fail))
                have HB1 := hide (((Below.refl V.heap.size V).drew).trans b5)
                have HQ2 := hide (show fb = _ from HQ.out.trans hk)
                clear b5
                go_wp2_with fail
                go_meet
                case rel => exact ⟨by rw [HQ2.out, ← hk]; exact congrArg Value.bool (ne_flip k X), HB1⟩
        case rest =>
          obtain ⟨rfl, HB⟩ := hcut
          obtain ⟨y0, z0, z1, b3, hzV, hz1⟩ := HV.out
          obtain ⟨bW, hz⟩ := HWb.out
          obtain ⟨⟨p0, p1, p2, p3, p4⟩, -⟩ := obj_cells ((HB.out.block w1.heap.size hzV).trans y0)
          obtain ⟨⟨r0, r1, r2, r3, r4⟩, sf⟩ := obj_cells ((HB.out.block (w.heap.size + 1) (by omega)).trans z1)
          have s0 := sf 0
          have s1 := sf 1
          have s2 := sf 2
          have s3 := sf 3
          have s4 := sf 4
          have HBB := hide (bW.trans ((b3.trans (HB.out.mono (by omega))).mono (by omega)))
          have hz5 : w.heap.size + 1 ≠ w1.heap.size := by omega
          clear sf y0 z0 z1 b3 hzV hz1 bW hz
          cases hfb : fb with
          | false =>
            go_wp2_with fail
            refine bodyPost_ret (v := .tuple #[.agg #[.string ⟨#[]⟩, .int .i64 0, .slice none 0 0, .slice none 0 0, .slice none 0 0], .bool false]) (by simp [results, Tryd.results45, go_sem, r0, r1, r2, r3, r4]) rfl ?_
            refine ⟨⟨_, _, _, _, _, _, _, _, _, _, _, by rw [hfb]⟩, ?_⟩
            repeat (refine Below.setCell ?_ (by simp <;> omega) _)
            exact HBB.out
          | true =>
            go_wp2_with fail
            refine bodyPost_ret (v := .tuple #[.agg #[.string sq, .int .i64 pq, .slice va vn vc, .slice ga gn gc, .slice pa pn pc], .bool true]) (by simp [results, Tryd.results45, go_sem, r0, r1, r2, r3, r4]) rfl ?_
            refine ⟨⟨_, _, _, _, _, _, _, _, _, _, _, by rw [hfb]⟩, ?_⟩
            repeat (refine Below.setCell ?_ (by simp <;> omega) _)
            exact HBB.out
      · rw [en_no1 q1]
        have i2 : ¬ (4000 : Int) < (s.size : Int) := by omega
        have i3 : ¬ (65536 : Int) < (f.size : Int) := by omega
        have i1 : (65536 : Int) < (b.size : Int) := by omega
        clear q1 q2 q3
        go_enter Tryd.func45, Tryd.ntmps45
        go_wp2
        refine bodyPost_ret (v := .tuple #[.agg #[.string ⟨#[]⟩, .int .i64 0, .slice none 0 0, .slice none 0 0, .slice none 0 0], .bool false]) (by simp [results, Tryd.results45, go_sem]) rfl ?_
        refine ⟨⟨_, _, _, _, _, _, _, _, _, _, _, rfl⟩, ?_⟩
        repeat (refine Below.setCell ?_ (by simp <;> omega) _)
        exact ((Below.refl _ _).alloc (Nat.le_refl _) _).alloc (by simp) _
    · rw [en_no3 q3]
      have i2 : ¬ (4000 : Int) < (s.size : Int) := by omega
      have i3 : (65536 : Int) < (f.size : Int) := by omega
      clear q2 q3
      go_enter Tryd.func45, Tryd.ntmps45
      go_wp2
      refine bodyPost_ret (v := .tuple #[.agg #[.string ⟨#[]⟩, .int .i64 0, .slice none 0 0, .slice none 0 0, .slice none 0 0], .bool false]) (by simp [results, Tryd.results45, go_sem]) rfl ?_
      refine ⟨⟨_, _, _, _, _, _, _, _, _, _, _, rfl⟩, ?_⟩
      repeat (refine Below.setCell ?_ (by simp <;> omega) _)
      exact ((Below.refl _ _).alloc (Nat.le_refl _) _).alloc (by simp) _
  · rw [en_no2 q2]
    have i2 : (4000 : Int) < (s.size : Int) := by omega
    clear q2
    go_enter Tryd.func45, Tryd.ntmps45
    go_wp2
    refine bodyPost_ret (v := .tuple #[.agg #[.string ⟨#[]⟩, .int .i64 0, .slice none 0 0, .slice none 0 0, .slice none 0 0], .bool false]) (by simp [results, Tryd.results45, go_sem]) rfl ?_
    refine ⟨⟨_, _, _, _, _, _, _, _, _, _, _, rfl⟩, ?_⟩
    repeat (refine Below.setCell ?_ (by simp <;> omega) _)
    exact ((Below.refl _ _).alloc (Nat.le_refl _) _).alloc (by simp) _
set_option maxHeartbeats 4000000 in
theorem implEntryOK_any (m s f b : ByteArray) (k : Int) (w : World) (hm : m.size ≤ 1048576) (hs : s.size ≤ 1048576) (hf : f.size ≤ 1048576) (hb : b.size ≤ 1048576) (t : TypeId) (fr : Nat × Nat) (hg : w.heap[1]? = some (.cells keyRow t fr)) :
    Calls Tryd.prog 19 #[.agg #[.string m, .string s, .string f, .string b, .int .i64 k]] w fun e w' => e = .returned (.bool (enB m s f b k)) ∧ Below w.heap.size w w' := by
  have HO : Hid (∀ w1, Below w.heap.size w w1 → Calls Tryd.prog 45 #[.agg #[.string m, .string s, .string f, .string b, .int .i64 k]] w1 fun e w' => ObPost (enB m s f b k) w1 e w') := hide fun w1 bel =>
    implObject_any m s f b k w1 hm hs hf hb t fr ((bel.block _ (Array.getElem?_eq_some_iff.1 hg).1).trans hg)
  generalize enB m s f b k = fb at *
  clear hg
  go_enter Tryd.func19, Tryd.ntmps19
  go_wp2_with (go_at_call 45; refine (HO.out _ ((Below.refl _ _).alloc (Nat.le_refl _) _)).mono ?_; rintro e w1 ⟨⟨sq, pq, va, vn, vc, ga, gn, gc, pa, pn, pc, rfl⟩, b1⟩)
  go_ret
  exact ⟨rfl, (((Below.refl _ _).alloc (Nat.le_refl _) _).trans (b1.mono (by simp))).alloc (by have := b1.size; simp at this; omega) _⟩
end Go.Proofs.YtpaljmhoojpbdaaDoor
