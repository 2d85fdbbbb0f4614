/- ReadObject: the program's walk. The table of words is a premise. -/
import Derived.Test.YtpaljmhoojpbdaaDoorZObPl
import Derived.Test.YtpaljmhoojpbdaaDoorZRdO5
/- An object written is read again by the model; so the model reads as the program does. No condition. -/
namespace Go.Proofs.YtpaljmhoojpbdaaDoor
open Go.RowKit

theorem size_nil {s : ByteArray} (h : s.size = 0) : s = ⟨#[]⟩ := by
  cases s with
  | mk d =>
    have : d.size = 0 := h
    rw [Array.size_eq_zero_iff] at this
    rw [this]
theorem arg_op {op a b cells len result : Int} (h : argB op a b cells len result = true) : 1 ≤ op ∧ op ≤ 17 := by
  unfold argB at h
  split at h
  · omega
  · split at h
    · omega
    · split at h
      · omega
      · split at h
        · omega
        · split at h
          · omega
          · split at h
            · omega
            · split at h
              · omega
              · split at h
                · omega
                · split at h
                  · omega
                  · simp only [Bool.and_eq_true] at h
                    have := inB_le h.2
                    omega
theorem ins_back {x : InsD} {cells len result : Int} (h : insB x cells len result = true) (hn : INum x) (t : List Int) : rIns (insBs x ++ t) = some (x, t) := by
  obtain ⟨op, a, b, md, nm⟩ := x
  obtain ⟨-, ha, -, -, -⟩ := hn
  have hs := ins_small h
  unfold insB at h
  simp only [Bool.and_eq_true] at h
  obtain ⟨⟨⟨h1, h2⟩, h3⟩, h4⟩ := h
  have hop := arg_op h4
  simp only [] at hs ha hop h1 h2 h3 h4
  cases c : namedB op with
  | true =>
    have hb : 0 ≤ b ∧ b ≤ 255 := by
      by_cases e : op = 13
      · subst e
        unfold argB at h4
        simp at h4
        have := inB_le h4.2
        omega
      · simp [e] at h3
        omega
    unfold insBs rIns
    simp only [c, if_true]
    rw [byte_mod (by omega), byte_mod hb]
    simp only [List.append_assoc, List.cons_append, List.nil_append]
    rw [andT_some (one_back _ _), andT_some (num_back _ ha _)]
    simp only [c, if_true]
    rw [andT_some (one_back _ _), andT_some (txt_back _ (by omega) _), andT_some (txt_back _ (by omega) _)]
  | false =>
    rw [c] at h1
    have h5 : (!(emB md) || !(emB nm)) = false := by
      cases e : (!(emB md) || !(emB nm)) with
      | false => rfl
      | true => rw [e] at h1; cases h1
    simp only [Bool.or_eq_false_iff, Bool.not_eq_false'] at h5
    have e1 := size_nil (em_size h5.1)
    have e2 := size_nil (em_size h5.2)
    have e3 : b = 0 := by
      have : op ≠ 13 := fun e => by rw [e] at c; cases c
      simp [this] at h3
      exact h3
    subst e1 e2 e3
    unfold insBs rIns
    simp only [c]
    rw [byte_mod (by omega)]
    simp only [List.append_assoc, List.cons_append, List.nil_append, Bool.false_eq_true, if_false]
    rw [andT_some (one_back _ _), andT_some (num_back _ ha _)]
    simp only [c, Bool.false_eq_true, if_false]
theorem many_back {α : Type} {f : List Int → Option (α × List Int)} {B : α → List Int} {l : List α} (hf : ∀ x ∈ l, ∀ t, f (B x ++ t) = some (x, t)) (t : List Int) : ∀ k, k ≤ l.length → rMany f k (l.flatMap B ++ t) = some (l.take k, (l.drop k).flatMap B ++ t)
  | 0, _ => by simp [rMany]
  | k + 1, hk => by
    have hk' : k < l.length := hk
    have ih := many_back hf t k (by omega)
    rw [List.drop_eq_getElem_cons hk', List.flatMap_cons, List.append_assoc] at ih
    rw [rMany, andT_some ih, andT_some (hf _ (List.getElem_mem hk') _), List.take_succ_eq_append_getElem hk']
theorem many_all {α : Type} {f : List Int → Option (α × List Int)} {B : α → List Int} {l : List α} (hf : ∀ x ∈ l, ∀ t, f (B x ++ t) = some (x, t)) (t : List Int) : rMany f l.length (l.flatMap B ++ t) = some (l, t) := by
  rw [many_back hf t _ (Nat.le_refl _)]
  simp
theorem pair_back {n : Int} (h0 : 0 ≤ n) (h1 : n ≤ 65535) (t : List Int) : rPair (pairB n ++ t) = some (n, t) := by
  unfold pairB rPair
  simp only [List.cons_append, List.nil_append]
  rw [andT_some (one_back _ _), andT_some (one_back _ _)]
  congr 2
  omega
theorem code_back {x : CodeD} (h : (verC x).1 = 0) (hn : CNum x) (t : List Int) : rCode (codeBs x ++ t) = some (x, t) := by
  have hs := ver_small h
  obtain ⟨n0, n1, n2, n3, n4, n5⟩ := hn
  unfold verC at h
  by_cases c : headB x = true
  · rw [if_pos c] at h
    obtain ⟨-, h2, h3, h4, h5, -, -⟩ := head_all c
    have h3' := inB_le h3
    have h5' := inB_le h5
    cases hf : formAt x.cells x.list.length x.result 0 x.list with
    | some i => rw [hf] at h; simp at h
    | none =>
      have hi := forms_all _ _ hf
      obtain ⟨nm, p, ce, rr, l⟩ := x
      simp only [] at *
      unfold codeBs codeHd
      simp only []
      rw [byte_mod (by omega), byte_mod (by omega), inss_flat]
      simp only [List.append_assoc, List.cons_append, List.nil_append]
      unfold rCode
      rw [andT_some (txt_back _ (by omega) _), andT_some (one_back _ _), andT_some (pair_back hs.2.1 hs.2.2 _), andT_some (one_back _ _), andT_some (pair_back (by omega) (by omega) _)]
      have e : ((l.length : Int)).toNat = l.length := by omega
      rw [e, andT_some (many_all (fun y hy t => ins_back (hi y hy) (n5 y hy) t) _)]
  · rw [if_neg c] at h
    exact absurd h (by decide)
theorem obj_back {x : ObjectD} (h : objB x = true) (hn : ONum x) : rObj ((objBs x).drop 3) = some (x, []) := by
  obtain ⟨n0, n1, n2, n3, n4, n5, n6, n7⟩ := hn
  unfold objB at h
  simp only [Bool.and_eq_true, decide_eq_true_eq] at h
  obtain ⟨⟨⟨⟨h1, -⟩, h3, h3'⟩, h4, h4'⟩, ⟨-, h5⟩, h6⟩ := h
  have hv := procs_all _ _ h6
  obtain ⟨md, p, ns, gs, ps⟩ := x
  simp only [] at *
  have e : (objBs ⟨md, p, ns, gs, ps⟩).drop 3 = txtB md ++ (numB p ++ ((ns.length : Int) :: (ns.flatMap needBs ++ ((gs.length : Int) :: (gs.flatMap globBs ++ ((ps.length : Int) :: (ps.flatMap codeBs ++ []))))))) := by
    unfold objBs objHead
    simp only []
    rw [Int.emod_eq_of_lt (a := (ns.length : Int)) (by omega) (by omega), Int.emod_eq_of_lt (a := (gs.length : Int)) (by omega) (by omega), Int.emod_eq_of_lt (a := (ps.length : Int)) (by omega) (by omega)]
    simp only [List.append_assoc, List.cons_append, List.nil_append, List.drop_succ_cons, List.drop_zero, List.append_nil]
  have hneed : ∀ y ∈ ns, ∀ t, rNeed (needBs y ++ t) = some (y, t) := fun y hy t => by
    have := n5 y hy
    unfold needBs rNeed
    rw [List.append_assoc, andT_some (txt_back _ this.1 _), andT_some (num_back _ this.2 _)]
  have hglob : ∀ y ∈ gs, ∀ t, rGlob (globBs y ++ t) = some (y, t) := fun y hy t => by
    have := n6 y hy
    have hb : 0 ≤ y.length ∧ y.length ≤ 255 := by
      have key : ∀ (l : List GlobalD) (seen : List ByteArray), globsB seen l = true → ∀ z ∈ l, inB z.length 0 100 = true := by
        intro l
        induction l with
        | nil => intro _ _ z hz; cases hz
        | cons a r ih =>
          intro seen hs z hz
          unfold globsB at hs
          simp only [Bool.and_eq_true] at hs
          rcases List.mem_cons.1 hz with rfl | hz
          · have := hs.1.2
            unfold globB at this
            simp only [Bool.and_eq_true] at this
            exact this.2
          · exact ih _ hs.2 z hz
      have := inB_le (key _ _ h4' y hy)
      omega
    unfold globBs rGlob
    rw [byte_mod hb, List.append_assoc, andT_some (txt_back _ this.1 _)]
    simp only [List.cons_append, List.nil_append]
    rw [andT_some (one_back _ _)]
  have c2 : ((ns.length : Int)).toNat = ns.length := by omega
  have c3 : ((gs.length : Int)).toNat = gs.length := by omega
  have c4 : ((ps.length : Int)).toNat = ps.length := by omega
  rw [e]
  unfold rObj
  rw [andT_some (txt_back _ (by omega) _), andT_some (num_back _ n1 _), andT_some (one_back _ _), c2, andT_some (many_all hneed _), andT_some (one_back _ _), c3, andT_some (many_all hglob _), andT_some (one_back _ _), c4, andT_some (many_all (fun y hy t => code_back (hv y hy) (n7 y hy) t) _)]
/-- What the model asks of the bytes, behind their bound. -/
def mdOkO (l : List Int) : Bool := decide (l.take 3 = [79, 79, 49]) && (match rObj (l.drop 3) with
  | some (x, []) => objB x
  | _ => false)
theorem obBs_take (x : ObjectD) : (objBs x).take 3 = [79, 79, 49] := by unfold objBs objHead; simp
theorem mdOkO_eq {l : List Int} (h : AllB l) (hl : l.length ≤ 65536) : mdOkO l = rdOkO l := by
  cases hr : rdOkO l with
  | true =>
    unfold rdOkO at hr
    simp only [Bool.and_eq_true, decide_eq_true_eq] at hr
    obtain ⟨h1, h2⟩ := hr
    have hb : objB (rdObj l) = true ∧ objBs (rdObj l) = l := by
      unfold obC at h1
      unfold obF at h2
      by_cases c : objB (rdObj l) = true
      · rw [if_pos c] at h1 h2
        by_cases c2 : (objBs (rdObj l)).length ≤ 65536
        · rw [if_pos c2] at h2
          exact ⟨c, h2⟩
        · rw [if_neg c2] at h1
          exact absurd h1 (by decide)
      · rw [if_neg c] at h1
        exact absurd h1 (by decide)
    have e := obj_back hb.1 (rdObj_num h)
    rw [hb.2] at e
    unfold mdOkO
    rw [e]
    have e3 : l.take 3 = [79, 79, 49] := by rw [← hb.2]; exact obBs_take _
    simp [e3, hb.1]
  | false =>
    cases hm : mdOkO l with
    | false => rfl
    | true =>
      unfold mdOkO at hm
      simp only [Bool.and_eq_true, decide_eq_true_eq] at hm
      obtain ⟨h3, hm⟩ := hm
      split at hm
      · rename_i x e
        have e1 := obj_rd e
        have e2 := obj_wb h h3 e
        rw [e1] at e2 hm
        have : rdOkO l = true := by
          unfold rdOkO obC obF
          rw [if_pos hm, if_pos hm, e2, if_pos hl, if_pos hl]
          simp
        rw [this] at hr
        cases hr
      · cases hm
theorem mdOkO_obj {l : List Int} {x : ObjectD} (h : rObj (l.drop 3) = some (x, [])) (h3 : l.take 3 = [79, 79, 49]) : mdOkO l = objB x := by
  unfold mdOkO
  rw [h, h3]
  simp
end Go.Proofs.YtpaljmhoojpbdaaDoor

namespace Go.Proofs.YtpaljmhoojpbdaaDoor
open Go.ChangeShapes Go.WideShapes Go.ChangeAt Go.RowKit Go.PlainAid Go.Deep

theorem obC_zero {x : ObjectD} (h : obC x = 0) : 0 < (obF x).length := by
  unfold obC at h
  unfold obF
  split at h
  · rename_i c
    split at h
    · rename_i c2
      rw [if_pos c, if_pos c2]
      unfold objBs objHead
      simp
    · exact absurd h (by decide)
  · exact absurd h (by decide)
def RdPO (l : List Int) (w : World) (e : Ending) (w' : World) : Prop := (∃ u2 u3 u4 L, e = .returned (.tuple #[.agg #[.string (rdVO l).module, .int .i64 (rdVO l).print, u2, u3, u4], .int .i64 (rdCO l)]) ∧ ObRow w' w.heap.size u2 u3 u4 (rdVO l) L) ∧ Below w.heap.size w w'
theorem RdPO.no {l : List Int} {w w' : World} {c : Int} (h : rdVO l = OB0 ∧ rdCO l = c) (hb : Below w.heap.size w w') : RdPO l w (.returned (.tuple #[.agg #[.string ⟨#[]⟩, .int .i64 0, .slice none 0 0, .slice none 0 0, .slice none 0 0], .int .i64 c])) w' :=
  ⟨⟨_, _, _, [], by rw [h.1, h.2]; rfl, by rw [h.1]; exact OB0_row _ _⟩, hb⟩
set_option maxRecDepth 100000 in
set_option maxHeartbeats 8000000 in
theorem implReadO_any (g o c : Nat) (m : Md) (l : List Int) (w : World) (h : SlAt BAt 1 w m (.slice (some ⟨g, o, none⟩) l.length c) l) (hc : l.length ≤ c) (hm : m.hi ≤ w.heap.size) (hl : l.length ≤ 1099511627776) (t : TypeId) (fr : Nat × Nat) (hg : w.heap[1]? = some (.cells keyRow t fr)) :
    Calls Tryd.prog 71 #[.slice (some ⟨g, o, none⟩) l.length c] w fun e w' => RdPO l w e w' := by
  have HS := hide h
  have Hin : Hid (∀ y ∈ l, 0 ≤ y ∧ y ≤ 255) := by
    refine hide fun y hy => ?_
    obtain ⟨a, cc, -, hr⟩ := h
    obtain ⟨i, hi, rfl⟩ := List.getElem_of_mem hy
    obtain ⟨b, o', -, -, -, -, h1⟩ := hr i hi
    exact h1.2
  have HG := hide hg
  have hgl := (Array.getElem?_eq_some_iff.1 hg).1
  clear h hg
  obtain ⟨n, hn⟩ : ∃ n, l.length = n := ⟨_, rfl⟩
  have HN := hide hn
  rw [hn] at HS hc hl
  rw [hn]
  by_cases c1 : 65536 < n
  · have i1 : (65536 : Int) < n := by omega
    have HVC : Hid (rdVO l = OB0 ∧ rdCO l = 2) := hide ⟨by unfold rdVO; rw [if_neg (by omega)], by unfold rdCO; rw [if_neg (by omega)]⟩
    clear hn
    go_enter Tryd.func71, Tryd.ntmps71
    go_wp2
    refine bodyPost_ret (v := .tuple #[.agg #[.string ⟨#[]⟩, .int .i64 0, .slice none 0 0, .slice none 0 0, .slice none 0 0], .int .i64 2]) (by simp [results, Tryd.results71, go_sem]) rfl ?_
    refine RdPO.no HVC.out ?_
    repeat (refine Below.setCell ?_ (by simp <;> omega) _)
    exact (Below.refl _ _).alloc (Nat.le_refl _) _
  · have i1 : ¬ (65536 : Int) < n := by omega
    have hle : l.length ≤ 65536 := by omega
    obtain ⟨w0, hw0⟩ : ∃ w0, w0 = (w.alloc (.cells #[.string ⟨#[]⟩, .int .i64 0, .slice none 0 0, .slice none 0 0, .slice none 0 0] 45)).alloc (.cells #[.slice (some ⟨g, o, none⟩) n c] 154) := ⟨_, rfl⟩
    have hb0 : Below w.heap.size w w0 := by rw [hw0]; exact ((Below.refl _ _).alloc (Nat.le_refl _) _).alloc (by simp) _
    have hs0 : w0.heap.size = w.heap.size + 2 := by rw [hw0]; simp
    have hy0 : w0.heap[w.heap.size]? = some (.cells #[.string ⟨#[]⟩, .int .i64 0, .slice none 0 0, .slice none 0 0, .slice none 0 0] 45 (0, 0)) := by
      rw [hw0, Below.heap_alloc _ _ _ (by simp)]
      exact Deep.blk_alloc_new w _
    have hr0 : w0.heap[w.heap.size + 1]? = some (.cells #[.slice (some ⟨g, o, none⟩) n c] 154 (0, 0)) := by
      rw [hw0]
      have := Deep.blk_alloc_new (w.alloc (.cells #[.string ⟨#[]⟩, .int .i64 0, .slice none 0 0, .slice none 0 0, .slice none 0 0] 45)) (.cells #[.slice (some ⟨g, o, none⟩) n c] 154)
      rwa [World.size_alloc] at this
    have HS0 := hide (HS.out.on BAt.stays (hb0.mono hm))
    have k0 : w0.cell? ⟨w.heap.size + 1, 0, none⟩ = some (.slice (some ⟨g, o, none⟩) n c) := (heapCells hr0).1 0
    have HR0 : Hid (RS w0 (w.heap.size + 1) m l) := hide ⟨_, ⟨g, o, c, by rw [HN.out], by rw [HN.out]; exact hc⟩, k0, (heapCells hr0).2 0, HS0.out, by omega⟩
    have HY0 := hide hy0
    have HB0 := hide hb0
    go_enter Tryd.func71, Tryd.ntmps71
    go_wp2_with fail
    rw [← hw0]
    clear hw0 hb0 hr0 hy0 k0
    refine (readObject_any (w.heap.size + 1) m l w0 (by rw [HN.out]; omega) HR0.out).mono ?_
    rintro e w1 ⟨⟨u2, u3, u4, hu⟩, fr1⟩
    obtain ⟨rfl, L, hob⟩ : e = _ ∧ ∃ L, ObRow w1 w0.heap.size u2 u3 u4 (rdObj l) L := by
      obtain ⟨L, e1, e2⟩ := hu
      exact ⟨e1, L, e2⟩
    clear hu
    have hnum := rdObj_num Hin.out
    have HF := hide (objval_of_row hob hnum)
    obtain ⟨va, vc, e2⟩ := hob.1.form
    obtain ⟨ga, gc, e3⟩ := hob.2.1.form
    obtain ⟨pa, pc, e4⟩ := hob.2.2.1.1.form
    obtain ⟨n2, q2⟩ : ∃ k, (rdObj l).needs.length = k := ⟨_, rfl⟩
    obtain ⟨n3, q3⟩ : ∃ k, (rdObj l).globals.length = k := ⟨_, rfl⟩
    obtain ⟨n4, q4⟩ : ∃ k, L.length = k := ⟨_, rfl⟩
    rw [q2] at e2
    rw [q3] at e3
    rw [q4] at e4
    subst e2 e3 e4
    obtain ⟨x, hx⟩ : ∃ x, rdObj l = x := ⟨_, rfl⟩
    have HX := hide hx
    rw [hx] at hob HF ⊢
    obtain ⟨md, pr, xs2, xs3, xs4⟩ := x
    simp only [] at HF ⊢
    have HOB := hide hob
    have hs1 : w.heap.size + 2 ≤ w1.heap.size := by have := fr1.size; omega
    have HY1 := hide ((fr1.block w.heap.size (by omega) (by omega)).trans HY0.out)
    have HS1 := hide (HS0.out.same BAt.stays fun k _ hk => fr1.block k (by omega) (by omega))
    have HG1 := hide ((fr1.block 1 (by omega) (by omega)).trans ((HB0.out.block _ hgl).trans HG.out))
    have HFR := hide fr1
    clear hob hnum hx fr1 HR0 HS0 q2 q3 q4
    go_wp2_with fail
    have bX : Below w1.heap.size w1 (w1.alloc (.cells #[.string md, .int .i64 pr, .slice va n2 vc, .slice ga n3 gc, .slice pa n4 pc] 45)) := (Below.refl _ _).alloc (Nat.le_refl _) _
    have hx4 := Deep.blk_alloc_new w1 (.cells #[.string md, .int .i64 pr, .slice va n2 vc, .slice ga n3 gc, .slice pa n4 pc] 45)
    refine (implObjectBytes_any _ _ ⟨md, pr, xs2, xs3, xs4⟩ _ (HF.out.on bX) (by simp) t fr ((bX.block _ (by omega)).trans HG1.out)).mono ?_
    rintro e w3 ⟨⟨u, rfl, ho⟩, b3⟩
    have b13 : Below w1.heap.size w1 w3 := bX.trans (b3.mono (by simp))
    obtain ⟨⟨p0, p1, p2, p3, p4⟩, -⟩ := obj_cells ((b3.block w1.heap.size (by simp)).trans hx4)
    obtain ⟨⟨q0, q1, q2, q3, q4⟩, s⟩ := obj_cells ((b13.block w.heap.size (by omega)).trans HY1.out)
    have s0 := s 0
    have s1 := s 1
    have s2 := s 2
    have s3 := s 3
    have s4 := s 4
    have HS3 := hide (HS1.out.on BAt.stays (b13.mono (by omega)))
    have HOB3 := hide (HOB.out.on b13)
    have HB3 : Hid (Below w.heap.size w w3) := hide (HB0.out.trans ((show Below w.heap.size w0 w1 from ⟨HFR.out.os, HFR.out.tape, HFR.out.output, HFR.out.size, fun k hk => HFR.out.block k (by omega) (by omega)⟩).trans (b13.mono (by omega))))
    have HLE := hide hle
    clear hx4 bX b3 b13 HS1 HOB hle s
    have hC : obC ⟨md, pr, xs2, xs3, xs4⟩ = 0 ∨ obC ⟨md, pr, xs2, xs3, xs4⟩ = 1 ∨ obC ⟨md, pr, xs2, xs3, xs4⟩ = 15 := by
      unfold obC
      split
      · split
        · exact .inl rfl
        · exact .inr (.inr rfl)
      · exact .inr (.inl rfl)
    rcases hC with hC | hC | hC
    · obtain ⟨Y, hY⟩ : ∃ Y, obF ⟨md, pr, xs2, xs3, xs4⟩ = Y := ⟨_, rfl⟩
      have hYl := obC_zero hC
      have hYin := obF_in ⟨md, pr, xs2, xs3, xs4⟩
      rw [hY] at ho hYl hYin
      rw [hC]
      obtain ⟨g4, c4, rfl, -, -⟩ := World.ownsRow.form ho hYl
      have e1 := conv_text (Own.slat ho hYin)
      have e2 := conv_text HS3.out
      by_cases heq : Y = l
      · have hOk : rdOkO l = true := by unfold rdOkO; rw [HX.out, hC, hY, heq]; simp
        have HV : Hid (rdVO l = ⟨md, pr, xs2, xs3, xs4⟩) := by refine hide ?_; unfold rdVO; rw [if_pos ⟨HLE.out, hOk⟩, HX.out]
        have HC : Hid (rdCO l = 0) := by refine hide ?_; unfold rdCO; rw [if_pos HLE.out, hOk]; rfl
        have HD : Hid (decide (bs Y = bs l) = true) := by refine hide ?_; rw [heq]; simp
        have HE1 := hide e1
        have HE2 := hide e2
        clear ho hOk heq e1 e2 hC hY hYl hYin
        go_wp2_with (go_at_call 102; refine (bytesEqual_any w3 _ _ _ _ _ _ _ _ _ _ HE1.out HE2.out).mono ?_; rintro e w4 ⟨rfl, rfl⟩; rw [HD.out])
        refine bodyPost_ret (v := .tuple #[.agg #[.string md, .int .i64 pr, .slice va n2 vc, .slice ga n3 gc, .slice pa n4 pc], .int .i64 0]) (by simp [results, Tryd.results71, go_sem, q0, q1, q2, q3, q4]) rfl ?_
        have oz := Only.trans (Only.trans (Only.trans (Only.trans (Only.set w.heap.size 0 w3 (.string md)) (Only.set w.heap.size 1 _ (.int .i64 pr))) (Only.set w.heap.size 2 _ (.slice va n2 vc))) (Only.set w.heap.size 3 _ (.slice ga n3 gc))) (Only.set w.heap.size 4 _ (.slice pa n4 pc))
        refine ⟨⟨_, _, _, L, by rw [HV.out, HC.out], ?_⟩, HB3.out.trans (oz.below (Nat.le_refl _))⟩
        rw [HV.out]
        exact (HOB3.out.of_heap fun j hj _ => oz.block j (by omega)).le (by omega)
      · have hOk : rdOkO l = false := by unfold rdOkO; rw [HX.out, hC, hY]; simp [heq]
        have HVC : Hid (rdVO l = OB0 ∧ rdCO l = 3) := hide ⟨by unfold rdVO; rw [hOk, if_neg (by simp)], by unfold rdCO; rw [if_pos HLE.out, hOk]; rfl⟩
        have HD : Hid (decide (bs Y = bs l) = false) := by refine hide ?_; rw [decide_eq_false]; exact fun e => heq ((bs_inj hYin Hin.out).1 e)
        have HE1 := hide e1
        have HE2 := hide e2
        clear ho hOk heq e1 e2 hC hY hYl hYin
        go_wp2_with (go_at_call 102; refine (bytesEqual_any w3 _ _ _ _ _ _ _ _ _ _ HE1.out HE2.out).mono ?_; rintro e w4 ⟨rfl, rfl⟩; rw [HD.out])
        refine bodyPost_ret (v := .tuple #[.agg #[.string ⟨#[]⟩, .int .i64 0, .slice none 0 0, .slice none 0 0, .slice none 0 0], .int .i64 3]) (by simp [results, Tryd.results71, go_sem, q0, q1, q2, q3, q4]) rfl ?_
        refine RdPO.no HVC.out ?_
        repeat (refine Below.setCell ?_ (by simp <;> omega) _)
        exact HB3.out
    all_goals
      have hOk : rdOkO l = false := by unfold rdOkO; rw [HX.out, hC]; rfl
      have HVC : Hid (rdVO l = OB0 ∧ rdCO l = 3) := hide ⟨by unfold rdVO; rw [hOk, if_neg (by simp)], by unfold rdCO; rw [if_pos HLE.out, hOk]; rfl⟩
      rw [hC]
      clear ho hOk hC
      go_wp2
      refine bodyPost_ret (v := .tuple #[.agg #[.string ⟨#[]⟩, .int .i64 0, .slice none 0 0, .slice none 0 0, .slice none 0 0], .int .i64 3]) (by simp [results, Tryd.results71, go_sem, q0, q1, q2, q3, q4]) rfl ?_
      refine RdPO.no HVC.out ?_
      repeat (refine Below.setCell ?_ (by simp <;> omega) _)
      exact HB3.out
end Go.Proofs.YtpaljmhoojpbdaaDoor
