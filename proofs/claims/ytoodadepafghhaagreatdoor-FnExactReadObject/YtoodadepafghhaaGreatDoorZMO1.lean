/- The model's reading of an object: what its steps come to. No condition. -/
import Derived.Test.YtoodadepafghhaaGreatDoorZRdO5
import Derived.Test.YtoodadepafghhaaGreatDoorZFlat
import Derived.Test.YtoodadepafghhaaGreatDoorZObPk
/- ReadObject: the program's walk. The table of words is a premise. -/
namespace Go.Proofs.YtoodadepafghhaaGreatDoor
open Go.ChangeShapes Go.WideShapes Go.ChangeAt Go.RowKit Go.PlainAid Go.Deep

theorem obC_zero {x : ObjectD} (h : obC x = 0) : 0 < (obF x).length := by
  unfold obC at h
  unfold obF
  split at h
  · rename_i c
    split at h
    · rename_i c2
      rw [if_pos c, if_pos c2]
      unfold objBs objHead
      simp
    · exact absurd h (by decide)
  · exact absurd h (by decide)
def RdPO (l : List Int) (w : World) (e : Ending) (w' : World) : Prop := (∃ u2 u3 u4 L, e = .returned (.tuple #[.agg #[.string (rdVO l).module, .int .i64 (rdVO l).print, u2, u3, u4], .int .i64 (rdCO l)]) ∧ ObRow w' w.heap.size u2 u3 u4 (rdVO l) L) ∧ Below w.heap.size w w'
theorem RdPO.no {l : List Int} {w w' : World} {c : Int} (h : rdVO l = OB0 ∧ rdCO l = c) (hb : Below w.heap.size w w') : RdPO l w (.returned (.tuple #[.agg #[.string ⟨#[]⟩, .int .i64 0, .slice none 0 0, .slice none 0 0, .slice none 0 0], .int .i64 c])) w' :=
  ⟨⟨_, _, _, [], by rw [h.1, h.2]; rfl, by rw [h.1]; exact OB0_row _ _⟩, hb⟩
set_option maxRecDepth 100000 in
set_option maxHeartbeats 8000000 in
theorem implReadO_any (g o c : Nat) (m : Md) (l : List Int) (w : World) (h : SlAt BAt 1 w m (.slice (some ⟨g, o, none⟩) l.length c) l) (hc : l.length ≤ c) (hm : m.hi ≤ w.heap.size) (hl : l.length ≤ 1099511627776) (t : TypeId) (fr : Nat × Nat) (hg : w.heap[2]? = some (.cells keyRow t fr)) :
    Calls Tryz.prog 23 #[.slice (some ⟨g, o, none⟩) l.length c] w fun e w' => RdPO l w e w' := by
  have HS := hide h
  have Hin : Hid (∀ y ∈ l, 0 ≤ y ∧ y ≤ 255) := by
    refine hide fun y hy => ?_
    obtain ⟨a, cc, -, hr⟩ := h
    obtain ⟨i, hi, rfl⟩ := List.getElem_of_mem hy
    obtain ⟨b, o', -, -, -, -, h1⟩ := hr i hi
    exact h1.2
  have HG := hide hg
  have hgl := (Array.getElem?_eq_some_iff.1 hg).1
  clear h hg
  obtain ⟨n, hn⟩ : ∃ n, l.length = n := ⟨_, rfl⟩
  have HN := hide hn
  rw [hn] at HS hc hl
  rw [hn]
  by_cases c1 : 65536 < n
  · have i1 : (65536 : Int) < n := by omega
    have HVC : Hid (rdVO l = OB0 ∧ rdCO l = 2) := hide ⟨by unfold rdVO; rw [if_neg (by omega)], by unfold rdCO; rw [if_neg (by omega)]⟩
    clear hn
    go_enter Tryz.func23, Tryz.ntmps23
    go_wp2
    refine bodyPost_ret (v := .tuple #[.agg #[.string ⟨#[]⟩, .int .i64 0, .slice none 0 0, .slice none 0 0, .slice none 0 0], .int .i64 2]) (by simp [results, Tryz.results23, go_sem]) rfl ?_
    refine RdPO.no HVC.out ?_
    repeat (refine Below.setCell ?_ (by simp <;> omega) _)
    exact (Below.refl _ _).alloc (Nat.le_refl _) _
  · have i1 : ¬ (65536 : Int) < n := by omega
    have hle : l.length ≤ 65536 := by omega
    obtain ⟨w0, hw0⟩ : ∃ w0, w0 = (w.alloc (.cells #[.string ⟨#[]⟩, .int .i64 0, .slice none 0 0, .slice none 0 0, .slice none 0 0] 44)).alloc (.cells #[.slice (some ⟨g, o, none⟩) n c] 107) := ⟨_, rfl⟩
    have hb0 : Below w.heap.size w w0 := by rw [hw0]; exact ((Below.refl _ _).alloc (Nat.le_refl _) _).alloc (by simp) _
    have hs0 : w0.heap.size = w.heap.size + 2 := by rw [hw0]; simp
    have hy0 : w0.heap[w.heap.size]? = some (.cells #[.string ⟨#[]⟩, .int .i64 0, .slice none 0 0, .slice none 0 0, .slice none 0 0] 44 (0, 0)) := by
      rw [hw0, Below.heap_alloc _ _ _ (by simp)]
      exact Deep.blk_alloc_new w _
    have hr0 : w0.heap[w.heap.size + 1]? = some (.cells #[.slice (some ⟨g, o, none⟩) n c] 107 (0, 0)) := by
      rw [hw0]
      have := Deep.blk_alloc_new (w.alloc (.cells #[.string ⟨#[]⟩, .int .i64 0, .slice none 0 0, .slice none 0 0, .slice none 0 0] 44)) (.cells #[.slice (some ⟨g, o, none⟩) n c] 107)
      rwa [World.size_alloc] at this
    have HS0 := hide (HS.out.on BAt.stays (hb0.mono hm))
    have k0 : w0.cell? ⟨w.heap.size + 1, 0, none⟩ = some (.slice (some ⟨g, o, none⟩) n c) := (heapCells hr0).1 0
    have HR0 : Hid (RS w0 (w.heap.size + 1) m l) := hide ⟨_, ⟨g, o, c, by rw [HN.out], by rw [HN.out]; exact hc⟩, k0, (heapCells hr0).2 0, HS0.out, by omega⟩
    have HY0 := hide hy0
    have HB0 := hide hb0
    go_enter Tryz.func23, Tryz.ntmps23
    go_wp2_with fail
    rw [← hw0]
    clear hw0 hb0 hr0 hy0 k0
    refine (readObject_any (w.heap.size + 1) m l w0 (by rw [HN.out]; omega) HR0.out).mono ?_
    rintro e w1 ⟨⟨u2, u3, u4, hu⟩, fr1⟩
    obtain ⟨rfl, L, hob⟩ : e = _ ∧ ∃ L, ObRow w1 w0.heap.size u2 u3 u4 (rdObj l) L := by
      obtain ⟨L, e1, e2⟩ := hu
      exact ⟨e1, L, e2⟩
    clear hu
    have hnum := rdObj_num Hin.out
    have HF := hide (objval_of_row hob hnum)
    obtain ⟨va, vc, e2⟩ := hob.1.form
    obtain ⟨ga, gc, e3⟩ := hob.2.1.form
    obtain ⟨pa, pc, e4⟩ := hob.2.2.1.1.form
    obtain ⟨n2, q2⟩ : ∃ k, (rdObj l).needs.length = k := ⟨_, rfl⟩
    obtain ⟨n3, q3⟩ : ∃ k, (rdObj l).globals.length = k := ⟨_, rfl⟩
    obtain ⟨n4, q4⟩ : ∃ k, L.length = k := ⟨_, rfl⟩
    rw [q2] at e2
    rw [q3] at e3
    rw [q4] at e4
    subst e2 e3 e4
    obtain ⟨x, hx⟩ : ∃ x, rdObj l = x := ⟨_, rfl⟩
    have HX := hide hx
    rw [hx] at hob HF ⊢
    obtain ⟨md, pr, xs2, xs3, xs4⟩ := x
    simp only [] at HF ⊢
    have HOB := hide hob
    have hs1 : w.heap.size + 2 ≤ w1.heap.size := by have := fr1.size; omega
    have HY1 := hide ((fr1.block w.heap.size (by omega) (by omega)).trans HY0.out)
    have HS1 := hide (HS0.out.same BAt.stays fun k _ hk => fr1.block k (by omega) (by omega))
    have HG1 := hide ((fr1.block 2 (by omega) (by omega)).trans ((HB0.out.block _ hgl).trans HG.out))
    have HFR := hide fr1
    clear hob hnum hx fr1 HR0 HS0 q2 q3 q4
    go_wp2_with fail
    have bX : Below w1.heap.size w1 (w1.alloc (.cells #[.string md, .int .i64 pr, .slice va n2 vc, .slice ga n3 gc, .slice pa n4 pc] 44)) := (Below.refl _ _).alloc (Nat.le_refl _) _
    have hx4 := Deep.blk_alloc_new w1 (.cells #[.string md, .int .i64 pr, .slice va n2 vc, .slice ga n3 gc, .slice pa n4 pc] 44)
    refine (implObjectBytes_any _ _ ⟨md, pr, xs2, xs3, xs4⟩ _ (HF.out.on bX) (by simp) t fr ((bX.block _ (by omega)).trans HG1.out)).mono ?_
    rintro e w3 ⟨⟨u, rfl, ho⟩, b3⟩
    have b13 : Below w1.heap.size w1 w3 := bX.trans (b3.mono (by simp))
    obtain ⟨⟨p0, p1, p2, p3, p4⟩, -⟩ := obj_cells ((b3.block w1.heap.size (by simp)).trans hx4)
    obtain ⟨⟨q0, q1, q2, q3, q4⟩, s⟩ := obj_cells ((b13.block w.heap.size (by omega)).trans HY1.out)
    have s0 := s 0
    have s1 := s 1
    have s2 := s 2
    have s3 := s 3
    have s4 := s 4
    have HS3 := hide (HS1.out.on BAt.stays (b13.mono (by omega)))
    have HOB3 := hide (HOB.out.on b13)
    have HB3 : Hid (Below w.heap.size w w3) := hide (HB0.out.trans ((show Below w.heap.size w0 w1 from ⟨HFR.out.os, HFR.out.tape, HFR.out.output, HFR.out.size, fun k hk => HFR.out.block k (by omega) (by omega)⟩).trans (b13.mono (by omega))))
    have HLE := hide hle
    clear hx4 bX b3 b13 HS1 HOB hle s
    have hC : obC ⟨md, pr, xs2, xs3, xs4⟩ = 0 ∨ obC ⟨md, pr, xs2, xs3, xs4⟩ = 1 ∨ obC ⟨md, pr, xs2, xs3, xs4⟩ = 15 := by
      unfold obC
      split
      · split
        · exact .inl rfl
        · exact .inr (.inr rfl)
      · exact .inr (.inl rfl)
    rcases hC with hC | hC | hC
    · obtain ⟨Y, hY⟩ : ∃ Y, obF ⟨md, pr, xs2, xs3, xs4⟩ = Y := ⟨_, rfl⟩
      have hYl := obC_zero hC
      have hYin := obF_in ⟨md, pr, xs2, xs3, xs4⟩
      rw [hY] at ho hYl hYin
      rw [hC]
      obtain ⟨g4, c4, rfl, -, -⟩ := World.ownsRow.form ho hYl
      have e1 := conv_text (Own.slat ho hYin)
      have e2 := conv_text HS3.out
      by_cases heq : Y = l
      · have hOk : rdOkO l = true := by unfold rdOkO; rw [HX.out, hC, hY, heq]; simp
        have HV : Hid (rdVO l = ⟨md, pr, xs2, xs3, xs4⟩) := by refine hide ?_; unfold rdVO; rw [if_pos ⟨HLE.out, hOk⟩, HX.out]
        have HC : Hid (rdCO l = 0) := by refine hide ?_; unfold rdCO; rw [if_pos HLE.out, hOk]; rfl
        have HD : Hid (decide (bs Y = bs l) = true) := by refine hide ?_; rw [heq]; simp
        have HE1 := hide e1
        have HE2 := hide e2
        clear ho hOk heq e1 e2 hC hY hYl hYin
        go_wp2_with (go_at_call 59; refine (bytesEqual_any w3 _ _ _ _ _ _ _ _ _ _ HE1.out HE2.out).mono ?_; rintro e w4 ⟨rfl, rfl⟩; rw [HD.out])
        refine bodyPost_ret (v := .tuple #[.agg #[.string md, .int .i64 pr, .slice va n2 vc, .slice ga n3 gc, .slice pa n4 pc], .int .i64 0]) (by simp [results, Tryz.results23, go_sem, q0, q1, q2, q3, q4]) rfl ?_
        have oz := Only.trans (Only.trans (Only.trans (Only.trans (Only.set w.heap.size 0 w3 (.string md)) (Only.set w.heap.size 1 _ (.int .i64 pr))) (Only.set w.heap.size 2 _ (.slice va n2 vc))) (Only.set w.heap.size 3 _ (.slice ga n3 gc))) (Only.set w.heap.size 4 _ (.slice pa n4 pc))
        refine ⟨⟨_, _, _, L, by rw [HV.out, HC.out], ?_⟩, HB3.out.trans (oz.below (Nat.le_refl _))⟩
        rw [HV.out]
        exact (HOB3.out.of_heap fun j hj _ => oz.block j (by omega)).le (by omega)
      · have hOk : rdOkO l = false := by unfold rdOkO; rw [HX.out, hC, hY]; simp [heq]
        have HVC : Hid (rdVO l = OB0 ∧ rdCO l = 3) := hide ⟨by unfold rdVO; rw [hOk, if_neg (by simp)], by unfold rdCO; rw [if_pos HLE.out, hOk]; rfl⟩
        have HD : Hid (decide (bs Y = bs l) = false) := by refine hide ?_; rw [decide_eq_false]; exact fun e => heq ((bs_inj hYin Hin.out).1 e)
        have HE1 := hide e1
        have HE2 := hide e2
        clear ho hOk heq e1 e2 hC hY hYl hYin
        go_wp2_with (go_at_call 59; refine (bytesEqual_any w3 _ _ _ _ _ _ _ _ _ _ HE1.out HE2.out).mono ?_; rintro e w4 ⟨rfl, rfl⟩; rw [HD.out])
        refine bodyPost_ret (v := .tuple #[.agg #[.string ⟨#[]⟩, .int .i64 0, .slice none 0 0, .slice none 0 0, .slice none 0 0], .int .i64 3]) (by simp [results, Tryz.results23, go_sem, q0, q1, q2, q3, q4]) rfl ?_
        refine RdPO.no HVC.out ?_
        repeat (refine Below.setCell ?_ (by simp <;> omega) _)
        exact HB3.out
    all_goals
      have hOk : rdOkO l = false := by unfold rdOkO; rw [HX.out, hC]; rfl
      have HVC : Hid (rdVO l = OB0 ∧ rdCO l = 3) := hide ⟨by unfold rdVO; rw [hOk, if_neg (by simp)], by unfold rdCO; rw [if_pos HLE.out, hOk]; rfl⟩
      rw [hC]
      clear ho hOk hC
      go_wp2
      refine bodyPost_ret (v := .tuple #[.agg #[.string ⟨#[]⟩, .int .i64 0, .slice none 0 0, .slice none 0 0, .slice none 0 0], .int .i64 3]) (by simp [results, Tryz.results23, go_sem, q0, q1, q2, q3, q4]) rfl ?_
      refine RdPO.no HVC.out ?_
      repeat (refine Below.setCell ?_ (by simp <;> omega) _)
      exact HB3.out
end Go.Proofs.YtoodadepafghhaaGreatDoor

namespace Go.Proofs.YtoodadepafghhaaGreatDoor
open Go.ChangeShapes Go.WideShapes Go.ChangeAt Go.RowKit Go.Deep

theorem Sim.many_end {α : Type} {f : List Int → Option (α × List Int)} {k : Nat} {s : Rs} {l : List α} (h : Sim (rMany f k) s none l) (d : Nat) (z : List α) : Sim (rMany f (k + d)) s none z := by
  induction d with
  | zero => exact h
  | succ d ih =>
    unfold Sim at *
    cases s with
    | none => rfl
    | some r =>
      have ih' : rMany f (k + d) r = Option.none := ih
      show rMany f (k + d + 1) r = Option.none
      rw [rMany]
      exact andT_none ih'
/-- A loop that has ended: all are read, or the reader is at fault. -/
theorem Sim.many_all {α : Type} {f : List Int → Option (α × List Int)} {l : List Int} {s : Rs} {q j N p : Nat} {b : Bool} {L : List α} (h : Sim (rMany f j) s (rp l p b) L) (hq : q + j = N) (he : (decide (0 < q) && !b) = false) : Sim (rMany f N) s (rp l p b) L := by
  by_cases hq0 : q = 0
  · have : j = N := by omega
    rw [← this]
    exact h
  · have hb : b = true := by
      cases b with
      | true => rfl
      | false => simp at he; omega
    subst hb
    have := Sim.many_end h (N - j) L
    rwa [show j + (N - j) = N by omega] at this
theorem Sim.push {α : Type} {f : List Int → Option (α × List Int)} {j : Nat} {s s1 s2 : Rs} {L : List α} {y : α} (h : Sim (rMany f j) s s1 L) (k : Sim f s1 s2 y) : Sim (rMany f (j + 1)) s s2 (L ++ [y]) := Sim.and h (Sim.and k (Sim.stay _ _))
theorem Sim.need {s s1 s2 : Rs} {a : ByteArray} {b : Int} (h : Sim rTxt s s1 a) (k : Sim (rNum 8) s1 s2 b) : Sim rNeed s s2 ⟨a, b⟩ := Sim.and h (Sim.and k (Sim.stay _ _))
theorem Sim.glob {s s1 s2 : Rs} {a : ByteArray} {b : Int} (h : Sim rTxt s s1 a) (k : Sim rOne s1 s2 b) : Sim rGlob s s2 ⟨a, b⟩ := Sim.and h (Sim.and k (Sim.stay _ _))
theorem Sim.pair {s s1 s2 : Rs} {a b : Int} (h : Sim rOne s s1 a) (k : Sim rOne s1 s2 b) : Sim rPair s s2 (a * 256 + b) := Sim.and h (Sim.and k (Sim.stay _ _))
theorem Sim.ins_yes {s s1 s2 s3 s4 s5 : Rs} {a b c : Int} {d e : ByteArray} (h1 : Sim rOne s s1 a) (h2 : Sim (rNum 8) s1 s2 b) (hn : namedB a = true) (h3 : Sim rOne s2 s3 c) (h4 : Sim rTxt s3 s4 d) (h5 : Sim rTxt s4 s5 e) : Sim rIns s s5 ⟨a, b, c, d, e⟩ :=
  Sim.and h1 (Sim.and h2 (by rw [if_pos hn]; exact Sim.and h3 (Sim.and h4 (Sim.and h5 (Sim.stay _ _)))))
theorem Sim.ins_no {s s1 s2 : Rs} {a b : Int} (h1 : Sim rOne s s1 a) (h2 : Sim (rNum 8) s1 s2 b) (hn : namedB a = false) : Sim rIns s s2 ⟨a, b, 0, ⟨#[]⟩, ⟨#[]⟩⟩ :=
  Sim.and h1 (Sim.and h2 (by rw [if_neg (by rw [hn]; decide)]; exact Sim.stay _ _))
theorem Sim.code {s s1 s2 s3 s4 s5 s6 : Rs} {nm : ByteArray} {p c q : Int} {K : Nat} {l : List InsD} (h1 : Sim rTxt s s1 nm) (h2 : Sim rOne s1 s2 p) (h3 : Sim rPair s2 s3 c) (h4 : Sim rOne s3 s4 q) (h5 : Sim rPair s4 s5 (K : Int)) (h6 : Sim (rMany rIns K) s5 s6 l) : Sim rCode s s6 ⟨nm, p, c, q, l⟩ := by
  have h6' : Sim (rMany rIns ((K : Int)).toNat) s5 s6 l := by rw [Int.toNat_natCast]; exact h6
  exact Sim.and h1 (Sim.and h2 (Sim.and h3 (Sim.and h4 (Sim.and h5 (Sim.and h6' (Sim.stay _ _))))))
theorem Sim.obj {s s1 s2 s3 s4 s5 s6 s7 s8 : Rs} {md : ByteArray} {pr : Int} {N2 N3 N4 : Nat} {ns : List NeedD} {gs : List GlobalD} {ps : List CodeD} (h1 : Sim rTxt s s1 md) (h2 : Sim (rNum 8) s1 s2 pr) (h3 : Sim rOne s2 s3 (N2 : Int)) (h4 : Sim (rMany rNeed N2) s3 s4 ns)
    (h5 : Sim rOne s4 s5 (N3 : Int)) (h6 : Sim (rMany rGlob N3) s5 s6 gs) (h7 : Sim rOne s6 s7 (N4 : Int)) (h8 : Sim (rMany rCode N4) s7 s8 ps) : Sim rObj s s8 ⟨md, pr, ns, gs, ps⟩ := by
  have h4' : Sim (rMany rNeed ((N2 : Int)).toNat) s3 s4 ns := by rw [Int.toNat_natCast]; exact h4
  have h6' : Sim (rMany rGlob ((N3 : Int)).toNat) s5 s6 gs := by rw [Int.toNat_natCast]; exact h6
  have h8' : Sim (rMany rCode ((N4 : Int)).toNat) s7 s8 ps := by rw [Int.toNat_natCast]; exact h8
  exact Sim.and h1 (Sim.and h2 (Sim.and h3 (Sim.and h4' (Sim.and h5 (Sim.and h6' (Sim.and h7 (Sim.and h8' (Sim.stay _ _))))))))
theorem oo_take {l : List Int} (h : AllB l) : (bs (l.take 3) = ⟨#[79, 79, 49]⟩) ↔ l.take 3 = [79, 79, 49] := by
  have e : (⟨#[79, 79, 49]⟩ : ByteArray) = bs [79, 79, 49] := by decide
  rw [e]
  exact bs_inj (fun y hy => h y (List.mem_of_mem_take hy)) (by decide)
theorem no_oo {l : List Int} (h : l.take 3 ≠ [79, 79, 49]) : mdOkO l = false := by unfold mdOkO; simp [h]
theorem short_oo {l : List Int} (h : l.length < 3) : l.take 3 ≠ [79, 79, 49] := by
  intro e
  have := congrArg List.length e
  rw [List.length_take] at this
  simp at this
  omega
theorem mo_bad {l : List Int} {x : ObjectD} (h : Sim rObj (some (l.drop 3)) none x) : mdOkO l = false := by
  have h' : rObj (l.drop 3) = none := h
  unfold mdOkO
  rw [h']
  simp
theorem mo_more {l : List Int} {x : ObjectD} {p : Nat} (h : Sim rObj (some (l.drop 3)) (some (l.drop p)) x) (hp : p ≤ l.length) (hn : p ≠ l.length) : mdOkO l = false := by
  have h' : rObj (l.drop 3) = some (x, l.drop p) := h
  unfold mdOkO
  rw [h']
  have : l.drop p ≠ [] := by
    intro e
    have := congrArg List.length e
    rw [List.length_drop] at this
    simp at this
    omega
  match hd : l.drop p, this with
  | _ :: _, _ => simp
theorem mo_all {l : List Int} {x : ObjectD} (h : Sim rObj (some (l.drop 3)) (some (l.drop l.length)) x) (h3 : l.take 3 = [79, 79, 49]) : mdOkO l = objB x ∧ x = rdObj l := by
  have h' : rObj (l.drop 3) = some (x, []) := by
    have : rObj (l.drop 3) = some (x, l.drop l.length) := h
    rw [this, List.drop_of_length_le (Nat.le_refl _)]
  exact ⟨mdOkO_obj h' h3, obj_rd h'⟩
def LrPost (l : List Int) (w : World) (e : Ending) (w' : World) : Prop := ∃ s p a2 n2 c2 a3 n3 c3 a4 n4 c4, e = .returned (.tuple #[.agg #[.string s, .int .i64 p, .slice a2 n2 c2, .slice a3 n3 c3, .slice a4 n4 c4], .bool (mdOkO l)]) ∧
  (mdOkO l = true → ∃ L, s = (rdObj l).module ∧ p = (rdObj l).print ∧ ObRow w' w.heap.size (.slice a2 n2 c2) (.slice a3 n3 c3) (.slice a4 n4 c4) (rdObj l) L) ∧ Below w.heap.size w w'
theorem MR.bad {w : World} {R : Nat} {m : Md} {l : List Int} {p : Nat} {b : Bool} (h : MR w R m l p b) : w.cell? ⟨R, 2, none⟩ = some (.bool b) := by obtain ⟨g', o', c', -, -, ⟨-, -, k2⟩, -⟩ := h; exact k2
end Go.Proofs.YtoodadepafghhaaGreatDoor
