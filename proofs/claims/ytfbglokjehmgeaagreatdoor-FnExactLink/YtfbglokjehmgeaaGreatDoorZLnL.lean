/- The program's Link answers as 'linkR' says, as the model's does. The table of words and errors' own type are premises. -/
import Derived.Test.YtfbglokjehmgeaaGreatDoorZLnO
import Derived.Test.YtfbglokjehmgeaaGreatDoorZLnK
import Derived.Test.YtfbglokjehmgeaaGreatDoorZLnQ
import Derived.Test.YtfbglokjehmgeaaGreatDoorZAsL
namespace Go.Proofs.YtfbglokjehmgeaaGreatDoor
open Go.ChangeShapes Go.WideShapes Go.ChangeAt Go.RowKit Go.PlainAid Go.Deep

theorem needs_bound {L : List ObjectD} {vis : ByteArray → List Nat → Res} {name : ByteArray} {d : Nat} (hn : name.size ≤ d) (hv : ∀ s o c t, s.size ≤ d → vis s o = .inl (c, t) → t.size ≤ d) : ∀ {l : List NeedD} {o : List Nat} {c : Int} {t : ByteArray}, (∀ x ∈ l, x.module.size ≤ d) → needsD L vis name l o = .inl (c, t) → t.size ≤ d
  | [], o, c, t, _, e => by
    unfold needsD at e
    cases e
  | x :: r, o, c, t, hl, e => by
    unfold needsD at e
    cases hx : vis x.module o with
    | inl ct =>
      rw [hx] at e
      cases e
      exact hv _ _ _ _ (hl x (List.mem_cons_self ..)) hx
    | inr o1 =>
      rw [hx] at e
      simp only [] at e
      split at e
      · exact needs_bound hn hv (fun y hy => hl y (List.mem_cons_of_mem _ hy)) e
      · cases e
        exact hn
theorem vis_bound {L : List ObjectD} {d : Nat} (hL : ∀ x ∈ L, ∀ y ∈ x.needs, y.module.size ≤ d) : ∀ {g : Nat} {name : ByteArray} {o : List Nat} {opn : List ByteArray} {c : Int} {t : ByteArray}, name.size ≤ d → visD L g name o opn = .inl (c, t) → t.size ≤ d
  | 0, name, o, opn, c, t, _, e => by
    unfold visD at e
    cases e
  | g + 1, name, o, opn, c, t, hn, e => by
    unfold visD at e
    cases ha : objAt L name with
    | none =>
      rw [ha] at e
      cases e
      exact hn
    | some k =>
      rw [ha] at e
      simp only [] at e
      obtain ⟨hk, hm⟩ := objAt_lt ha
      split at e
      · cases e
      · split at e
        · cases e
          exact hn
        · rw [List.getElem?_eq_getElem hk] at e
          cases hd : needsD L (fun s o' => visD L g s o' (opn ++ [name])) name (L[k].needs) o with
          | inl ct =>
            have e2 : endD k (needsD L (fun s o' => visD L g s o' (opn ++ [name])) name (L[k].needs) o) = .inl (c, t) := e
            rw [hd] at e2
            cases e2
            exact needs_bound hn (fun s q c' t' hs hv => vis_bound hL (g := g) hs hv) (hL _ (List.getElem_mem hk)) hd
          | inr q =>
            have e2 : endD k (needsD L (fun s o' => visD L g s o' (opn ++ [name])) name (L[k].needs) o) = .inl (c, t) := e
            rw [hd] at e2
            cases e2
theorem needB_size {y : NeedD} (h : needB y = true) : y.module.size ≤ 40 := by
  unfold needB at h
  simp only [Bool.and_eq_true] at h
  exact own_small h.1
theorem objB_needs {x : ObjectD} (h : objB x = true) : ∀ y ∈ x.needs, y.module.size ≤ 40 := by
  unfold objB at h
  simp only [Bool.and_eq_true, decide_eq_true_eq] at h
  obtain ⟨⟨⟨⟨-, -⟩, -, h7⟩, -⟩, -⟩ := h
  intro y hy
  exact needB_size (List.all_eq_true.1 h7 y hy)
theorem linkF_bound {L : List ObjectD} {main : ByteArray} {c : Int} {t : ByteArray} (h : allOk objB L L.length) (hm : main.size ≤ 65536) (e : linkF L main = .inl (c, t)) : t.size ≤ 65536 := by
  unfold linkF at e
  cases hv : visD L (L.length + 1) main [] [] with
  | inl ct =>
    rw [hv] at e
    cases e
    exact vis_bound (fun x hx y hy => Nat.le_trans (objB_needs (h.mem x hx) y hy) (by decide)) hm hv
  | inr o =>
    rw [hv] at e
    have hfine : Fine L.length o := (vis_good (g := L.length + 1) ⟨⟨List.nodup_nil, fun k hk => by cases hk⟩, fun z hz => by cases hz⟩ hv).1
    have hin := objs_mem hfine.2
    have hmod : ∀ x ∈ objsOf L o, x.module.size ≤ 65536 := fun x hx => Nat.le_trans (objB_tiny (h.mem x (hin x hx))).1.mod (by decide)
    have e2 : linkO L main o = .inl (c, t) := e
    rw [linkO_X L main o fun x hx => (objB_facts (h.mem x (hin x hx))).2.1] at e2
    split at e2
    · rename_i m hX
      cases e2
      obtain ⟨x, hx, rfl⟩ := firstX_some hX
      exact hmod x hx
    · split at e2
      · rename_i m hX
        cases e2
        obtain ⟨x, hx, rfl⟩ := firstX_some hX
        exact hmod x hx
      · split at e2
        · cases e2
          exact hm
        · cases e2
theorem imNames_eq {vs : List OV} (hcs : ∀ p ∈ vs, p.cs.map Prod.fst = p.x.procs) : imNames vs = namesP (vs.map (·.x)) := by
  unfold imNames namesP pnames
  induction vs with
  | nil => rfl
  | cons p r ih =>
    rw [List.map_cons, List.flatMap_cons, List.flatMap_cons, ih fun q hq => hcs q (List.mem_cons_of_mem _ hq), ← hcs p (List.mem_cons_self ..), List.map_map]
    rfl
theorem imStarts_eq : ∀ {vs : List OV} (k : Nat), (∀ p ∈ vs, p.cs.map Prod.fst = p.x.procs) → imStarts vs k = starts (vs.map (·.x)) k
  | [], _, _ => rfl
  | p :: r, k, hcs => by
    have h1 := congrArg List.length (hcs p (List.mem_cons_self ..))
    rw [List.length_map] at h1
    rw [List.map_cons, imStarts, starts, h1, imStarts_eq _ fun q hq => hcs q (List.mem_cons_of_mem _ hq)]
theorem imCodes_eq {P : List ObjectD} {vs : List OV} (hA : Apart P) (hP : vs.map (·.x) = P) (hcs : ∀ p ∈ vs, p.cs.map Prod.fst = p.x.procs) (hno : firstX (fun x => x.procs.any fun c => c.list.any (unk P (namesP P))) P = none) : imCodes (cellsM P) (procsM P) vs = codesR P (namesP P) P := by
  have key : ∀ x ∈ P, ∀ c ∈ x.procs, codeI (cellsM P) (procsM P) c = codeR P (namesP P) c := fun x hx c hc => by
    unfold codeI codeR
    congr 1
    refine List.map_congr_left fun y hy => ?_
    have h1 := firstX_none hno x hx
    have h2 := List.any_eq_false.1 h1 c hc
    have hu : unk P (namesP P) y = false := by
      have h3 := List.any_eq_false.1 (by simpa using h2) y hy
      simpa using h3
    rw [insR_maps hA y (hA.ins x hx c hc y hy) hu]
    rfl
  have hall : ∀ ws : List OV, (∀ p ∈ ws, p ∈ vs) → imCodes (cellsM P) (procsM P) ws = (ws.map (·.x)).flatMap (codesO P (namesP P)) := by
    intro ws
    induction ws with
    | nil => intro _; rfl
    | cons p r ih =>
      intro hm
      have hp := hm p (List.mem_cons_self ..)
      have hpP : p.x ∈ P := by rw [← hP]; exact List.mem_map.2 ⟨p, hp, rfl⟩
      have ih' := ih fun q hq => hm q (List.mem_cons_of_mem _ hq)
      unfold imCodes at ih' ⊢
      rw [List.map_cons, List.flatMap_cons, List.flatMap_cons, ih']
      congr 1
      unfold codesO
      rw [← hcs p hp, List.map_map]
      refine List.map_congr_left fun c hc => ?_
      exact key p.x hpP c.1 (by rw [← hcs p hp]; exact List.mem_map.2 ⟨c, hc, rfl⟩)
  have := hall vs fun p hp => hp
  rw [hP] at this
  exact this
set_option maxRecDepth 100000 in
set_option maxHeartbeats 8000000 in
theorem implLink_any (a : Option Addr) (cp : Nat) (m : Md) (L : List ObjectD) (main : ByteArray) (w : World) (hs : SlAt ObjectAt 5 w m (.slice a L.length cp) L) (hm : m.hi ≤ w.heap.size) (hL : L.length ≤ 1048576) (hmn : main.size ≤ maxLen) (t : TypeId) (fr : Nat × Nat) (hg : w.heap[1]? = some (.cells keyRow t fr))
    (hE : w.cell? ⟨0, 0, none⟩ = some (.iface 152 (.agg #[.pointer (some ⟨6, 56, none⟩)]))) :
    Calls Tryz.prog 7 #[.slice a L.length cp, .string main] w fun e w' => LinkPost L w (linkR L main) e w' := by
  unfold maxLen at hmn
  obtain ⟨r1, r2, r3, r4⟩ := linkR_all L main
  obtain ⟨R, hR⟩ : ∃ R, linkR L main = R := ⟨_, rfl⟩
  rw [hR] at r1 r2 r3 r4 ⊢
  obtain ⟨nL, hnL⟩ : ∃ k, L.length = k := ⟨_, rfl⟩
  obtain ⟨W1, hW1⟩ : ∃ W1, w.alloc (.cells #[.int .i64 0, .slice none 0 0, .slice none 0 0, .slice none 0 0] 28) = W1 := ⟨_, rfl⟩
  have hx1 : W1.heap[w.heap.size]? = some (.cells #[.int .i64 0, .slice none 0 0, .slice none 0 0, .slice none 0 0] 28 (0, 0)) := by rw [← hW1]; exact Deep.blk_alloc_new w _
  have b1 : Below w.heap.size w W1 := by rw [← hW1]; exact (Below.refl _ _).alloc (Nat.le_refl _) _
  have HE := hide hW1
  have HB1 := hide b1
  have HX1 := hide hx1
  have HS := hide hs
  have HM := hide hm
  have HNL := hide hnL
  have HG := hide hg
  have HEr := hide hE
  rw [hnL] at r1 r2 r3 r4 HS hL ⊢
  obtain ⟨z0, z1⟩ := heapCells hx1
  have d0 : W1.cell? ⟨w.heap.size, 0, none⟩ = some (.int .i64 0) := z0 0
  have d1 : W1.cell? ⟨w.heap.size, 1, none⟩ = some (.slice none 0 0) := z0 1
  have d2 : W1.cell? ⟨w.heap.size, 2, none⟩ = some (.slice none 0 0) := z0 2
  have d3 : W1.cell? ⟨w.heap.size, 3, none⟩ = some (.slice none 0 0) := z0 3
  have f0 := z1 0
  have f1 := z1 1
  have f2 := z1 2
  have f3 := z1 3
  have hend : ∀ c : Int, R = .inl (c, ⟨#[]⟩) → Hid (∀ w5, Below w.heap.size w w5 → LinkPost L w R (.returned (.tuple #[.agg #[.int .i64 0, .slice none 0 0, .slice none 0 0, .slice none 0 0], .string ⟨#[]⟩, .int .i64 c])) w5) := fun c e => hide (fun w5 hb => by rw [e]; exact ⟨hb, rfl⟩)
  clear z0 z1 hx1 b1 hW1 hs hm hnL hg hE hR
  by_cases hlong : 4096 < nL ∨ 65536 < main.size
  · by_cases h4 : 4096 < nL
    · have i1 : (4096 : Int) < nL := by omega
      have HRR := hide (r1 hlong)
      clear r1 r2 r3 r4
      go_enter Tryz.func7, Tryz.ntmps7
      go_upto_region 1 with fail
      rw [HE.out]
      go_wp2_with fail
      obtain ⟨r0, r1, r2, r3⟩ := set4_cells (y0 := .int .i64 0) (y1 := .slice none 0 0) (y2 := .slice none 0 0) (y3 := .slice none 0 0) HX1.out
      have hbF := set4_below (y0 := .int .i64 0) (y1 := .slice none 0 0) (y2 := .slice none 0 0) (y3 := .slice none 0 0) HB1.out (Nat.le_refl _)
      change bodyPost _ _ _ _ _ (set4 W1 w.heap.size (.int .i64 0) (.slice none 0 0) (.slice none 0 0) (.slice none 0 0))
      generalize set4 W1 w.heap.size (.int .i64 0) (.slice none 0 0) (.slice none 0 0) (.slice none 0 0) = wF at *
      refine bodyPost_ret (v := .tuple #[.agg #[.int .i64 0, .slice none 0 0, .slice none 0 0, .slice none 0 0], .string ⟨#[]⟩, .int .i64 2]) (by simp [results, Tryz.results7, go_sem, r0, r1, r2, r3]) rfl ((hend 2 HRR.out).out _ hbF)
    · have i1 : ¬ (4096 : Int) < nL := by omega
      have i2 : (65536 : Int) < main.size := by omega
      have HRR := hide (r1 hlong)
      clear r1 r2 r3 r4
      go_enter Tryz.func7, Tryz.ntmps7
      go_upto_region 1 with fail
      rw [HE.out]
      go_wp2_with fail
      obtain ⟨r0, r1, r2, r3⟩ := set4_cells (y0 := .int .i64 0) (y1 := .slice none 0 0) (y2 := .slice none 0 0) (y3 := .slice none 0 0) HX1.out
      have hbF := set4_below (y0 := .int .i64 0) (y1 := .slice none 0 0) (y2 := .slice none 0 0) (y3 := .slice none 0 0) HB1.out (Nat.le_refl _)
      change bodyPost _ _ _ _ _ (set4 W1 w.heap.size (.int .i64 0) (.slice none 0 0) (.slice none 0 0) (.slice none 0 0))
      generalize set4 W1 w.heap.size (.int .i64 0) (.slice none 0 0) (.slice none 0 0) (.slice none 0 0) = wF at *
      refine bodyPost_ret (v := .tuple #[.agg #[.int .i64 0, .slice none 0 0, .slice none 0 0, .slice none 0 0], .string ⟨#[]⟩, .int .i64 2]) (by simp [results, Tryz.results7, go_sem, r0, r1, r2, r3]) rfl ((hend 2 HRR.out).out _ hbF)
  · by_cases hmany : 20 < nL
    · have i1 : ¬ (4096 : Int) < nL := by omega
      have i2 : ¬ (65536 : Int) < main.size := by omega
      have i3 : (20 : Int) < nL := by omega
      have HRR := hide (r2 hlong hmany)
      clear r1 r2 r3 r4
      go_enter Tryz.func7, Tryz.ntmps7
      go_upto_region 1 with fail
      rw [HE.out]
      go_wp2_with fail
      obtain ⟨r0, r1, r2, r3⟩ := set4_cells (y0 := .int .i64 0) (y1 := .slice none 0 0) (y2 := .slice none 0 0) (y3 := .slice none 0 0) HX1.out
      have hbF := set4_below (y0 := .int .i64 0) (y1 := .slice none 0 0) (y2 := .slice none 0 0) (y3 := .slice none 0 0) HB1.out (Nat.le_refl _)
      change bodyPost _ _ _ _ _ (set4 W1 w.heap.size (.int .i64 0) (.slice none 0 0) (.slice none 0 0) (.slice none 0 0))
      generalize set4 W1 w.heap.size (.int .i64 0) (.slice none 0 0) (.slice none 0 0) (.slice none 0 0) = wF at *
      refine bodyPost_ret (v := .tuple #[.agg #[.int .i64 0, .slice none 0 0, .slice none 0 0, .slice none 0 0], .string ⟨#[]⟩, .int .i64 13]) (by simp [results, Tryz.results7, go_sem, r0, r1, r2, r3]) rfl ((hend 13 HRR.out).out _ hbF)
    · have i1 : ¬ (4096 : Int) < nL := by omega
      have i2 : ¬ (65536 : Int) < main.size := by omega
      have i3 : ¬ (20 : Int) < nL := by omega
      have HR3 := hide (r3 hlong hmany)
      have HR4 := hide (r4 hlong hmany)
      have hAll := allOnceO_any a cp m L W1 (by rw [HNL.out]; exact HS.out.on ObjectAt.stays (HB1.out.mono HM.out)) (Nat.le_trans HM.out HB1.out.size) (by rw [HNL.out]; omega) t fr ((HB1.out.block _ (Array.getElem?_eq_some_iff.1 HG.out).1).trans HG.out)
      rw [HNL.out] at hAll
      have HAll := hide hAll
      clear r1 r2 r3 r4 hAll
      cases hb : allB L with
      | false =>
        rw [hb] at HAll
        have HRR := hide (HR3.out (fun h => by rw [(allB_iff L).2 (by rw [HNL.out]; exact h)] at hb; cases hb))
        clear hb
        go_enter Tryz.func7, Tryz.ntmps7
        go_upto_region 1 with fail
        rw [HE.out]
        go_wp2_with (go_at_call 18; refine HAll.out.mono ?_; rintro e w2 ⟨rfl, b2⟩; have hx2 := (b2.block w.heap.size (Array.getElem?_eq_some_iff.1 HX1.out).1).trans HX1.out; have HX2 := hide hx2; obtain ⟨u0, u1, u2, u3⟩ : w2.cell? ⟨w.heap.size, 0, none⟩ = some (.int .i64 0) ∧ w2.cell? ⟨w.heap.size, 1, none⟩ = some (.slice none 0 0) ∧ w2.cell? ⟨w.heap.size, 2, none⟩ = some (.slice none 0 0) ∧ w2.cell? ⟨w.heap.size, 3, none⟩ = some (.slice none 0 0) := ⟨(heapCells hx2).1 0, (heapCells hx2).1 1, (heapCells hx2).1 2, (heapCells hx2).1 3⟩; have g0 := (heapCells hx2).2 0; have g1 := (heapCells hx2).2 1; have g2 := (heapCells hx2).2 2; have g3 := (heapCells hx2).2 3; have HB2 := hide (HB1.out.trans (b2.mono HB1.out.size)); clear b2 hx2)
        obtain ⟨r0, r1, r2, r3⟩ := set4_cells (y0 := .int .i64 0) (y1 := .slice none 0 0) (y2 := .slice none 0 0) (y3 := .slice none 0 0) HX2.out
        have hbF := set4_below (y0 := .int .i64 0) (y1 := .slice none 0 0) (y2 := .slice none 0 0) (y3 := .slice none 0 0) HB2.out (Nat.le_refl _)
        change bodyPost _ _ _ _ _ (set4 w2 w.heap.size (.int .i64 0) (.slice none 0 0) (.slice none 0 0) (.slice none 0 0))
        generalize set4 w2 w.heap.size (.int .i64 0) (.slice none 0 0) (.slice none 0 0) (.slice none 0 0) = wF at *
        refine bodyPost_ret (v := .tuple #[.agg #[.int .i64 0, .slice none 0 0, .slice none 0 0, .slice none 0 0], .string ⟨#[]⟩, .int .i64 1]) (by simp [results, Tryz.results7, go_sem, r0, r1, r2, r3]) rfl ((hend 1 HRR.out).out _ hbF)
      | true =>
        have hok := (allB_iff L).1 hb
        rw [hb] at HAll
        have HRF := hide (HR4.out (by rw [← HNL.out]; exact hok))
        have HOk := hide hok
        clear hb hok
        go_enter Tryz.func7, Tryz.ntmps7
        go_upto_region 1 with fail
        rw [HE.out]
        go_upto_region 7 with (go_at_call 18; refine HAll.out.mono ?_; rintro e w2 ⟨rfl, b2⟩; have HX2 := hide ((b2.block w.heap.size (Array.getElem?_eq_some_iff.1 HX1.out).1).trans HX1.out); have HB12 := hide b2; have HB2 := hide (HB1.out.trans (b2.mono HB1.out.size)); clear b2)
        have hs2 : w.heap.size ≤ w2.heap.size := HB2.out.size
        have hS2 := HS.out.on ObjectAt.stays (HB2.out.mono HM.out)
        rw [← HNL.out] at hS2
        obtain ⟨V, hV⟩ := LV.of_slat hS2
        have HV := hide hV
        have hNew := newLinker_any a cp m.hi L V w2 hV (Nat.le_trans HM.out hs2) (by rw [HNL.out]; omega)
        rw [HNL.out] at hNew
        have HNew := hide hNew
        clear hS2 hV hNew d0 d1 d2 d3 f0 f1 f2 f3
        go_upto_region 8 with (go_at_call 21; refine HNew.out.mono ?_; rintro e w3 ⟨rfl, hns3, hm23, hm33, b3⟩; have HNs3 := hide hns3; have HM23 := hide hm23; have HM33 := hide hm33; have HB3 := hide b3; clear hns3 hm23 hm33 b3)
        have hOb := objects_any a cp m.hi L V (w2.heap.size + 1 + 1 + 1 + 1) w2.heap.size w2.heap.size (w2.heap.size + 1) (w2.heap.size + 1 + 1) (w2.heap.size + 1 + 1 + 1) main w3 (HV.out.on (HB3.out.mono (Nat.le_trans HM.out hs2))) (Nat.le_trans HM.out hs2) (by omega) (by omega) (by omega) (by omega) (by omega) (by omega) HOk.out (by rw [HNL.out]; omega) HB3.out.size (by rw [HNL.out]; exact HNs3.out) HM23.out HM33.out
        have HOb := hide hOb
        clear hOb
        have HBx := hide (linkF_bound (L := L) (main := main) HOk.out (by omega) (c := 0) (t := main))
        cases hF : linkF L main with
        | inl ct =>
          obtain ⟨c, tx⟩ := ct
          rw [hF] at HOb HRF
          have htx : tx.size ≤ 65536 := linkF_bound HOk.out (by omega) hF
          clear hF HBx
          go_upto_region 10 with (go_at_call 22; refine HOb.out.mono ?_; rintro e w4 ⟨b4, rfl⟩; have HB4 := hide b4; clear b4)
          obtain ⟨W5, hW5⟩ : ∃ W5, w4.alloc (.cells #[.string ⟨#[]⟩, .int .i64 0] 59) = W5 := ⟨_, rfl⟩
          have b5 : Below w4.heap.size w4 W5 := by rw [← hW5]; exact (Below.refl _ _).alloc (Nat.le_refl _) _
          have x5 := Deep.blk_alloc_new w4 (.cells #[.string ⟨#[]⟩, .int .i64 0] 59)
          rw [hW5] at x5
          have hB24 : Below w2.heap.size w2 w4 := HB3.out.trans HB4.out
          have hB04 : Below w.heap.size w w4 := HB2.out.trans (hB24.mono hs2)
          have hw1s : w.heap.size < W1.heap.size := (Array.getElem?_eq_some_iff.1 HX1.out).1
          have hx4 := (hB24.block w.heap.size (Nat.lt_of_lt_of_le hw1s HB12.out.size)).trans HX2.out
          have hx5 := (b5.block _ (Array.getElem?_eq_some_iff.1 hx4).1).trans hx4
          have HX5 := hide hx5
          have HB5 := hide (hB04.trans (b5.mono hB04.size))
          have hgE : W5.cell? ⟨0, 0, none⟩ = some (.iface 152 (.agg #[.pointer (some ⟨6, 56, none⟩)])) := (HB5.out.cell (p := ⟨0, 0, none⟩) (block_lt HEr.out)).trans HEr.out
          have HHit := hide (as_hit tx c w4.heap.size (.string ⟨#[]⟩) (.int .i64 0) W5 hgE x5)
          have hs04 : w.heap.size < w4.heap.size := (Array.getElem?_eq_some_iff.1 hx4).1
          have HCl := hide (fun w' => strClone_any tx w' (by omega))
          rw [hW5]
          clear hW5 b5 x5 hB24 hB04 hx4 hx5 hgE
          go_upto_region 11 with (go_at_call 23; refine HHit.out.mono ?_; rintro e w6 ⟨rfl, x6, b6⟩; have HX6 := hide x6; have HB6 := hide b6; clear x6 b6)
          have hx6 := (HB6.out.block w.heap.size hs04).trans HX5.out
          have hb06 : Below w.heap.size w w6 := HB5.out.trans (HB6.out.mono (by omega))
          have q0 : w6.cell? ⟨w4.heap.size, 0, none⟩ = some (.string tx) := (heapCells HX6.out).1 0
          have q1 : w6.cell? ⟨w4.heap.size, 1, none⟩ = some (.int .i64 c) := (heapCells HX6.out).1 1
          have g0 := (heapCells hx6).2 0
          have g1 := (heapCells hx6).2 1
          have g2 := (heapCells hx6).2 2
          have g3 := (heapCells hx6).2 3
          have u0 := (heapCells hx6).1 0
          have u1 := (heapCells hx6).1 1
          have u2 := (heapCells hx6).1 2
          have u3 := (heapCells hx6).1 3
          have hs46 : w4.heap.size < w6.heap.size := (Array.getElem?_eq_some_iff.1 HX6.out).1
          have HXX6 := hide hx6
          have HB06 := hide hb06
          clear hx6 hb06
          have hs06 : w.heap.size < w6.heap.size := (Array.getElem?_eq_some_iff.1 HXX6.out).1
          have hne : w4.heap.size ≠ w.heap.size := by omega
          go_region_held3 (fun w' => w'.cell? ⟨w4.heap.size, 0, none⟩ = some (.string tx) ∧ w'.cell? ⟨w4.heap.size, 1, none⟩ = some (.int .i64 c))
            (first
              | (go_split_ands; exact ⟨q0, q1⟩)
              | (go_split_ands; exact ⟨(b7.cell (p := ⟨w4.heap.size, 0, none⟩) hs46).trans q0, (b7.cell (p := ⟨w4.heap.size, 1, none⟩) hs46).trans q1⟩)
              | (go_split_ands; exact ⟨(World.cell?_of_block (w := w7) (a := ⟨w4.heap.size, 0, none⟩) (set4_other (w := w7) (k := w.heap.size) (j := w4.heap.size) hne)).trans ((b7.cell (p := ⟨w4.heap.size, 0, none⟩) hs46).trans q0), (World.cell?_of_block (w := w7) (a := ⟨w4.heap.size, 1, none⟩) (set4_other (w := w7) (k := w.heap.size) (j := w4.heap.size) hne)).trans ((b7.cell (p := ⟨w4.heap.size, 1, none⟩) hs46).trans q1)⟩)
              | go_keep
              | fail)
            ((go_at_call 24; refine (HCl.out _).mono ?_; rintro e w7 ⟨rfl, b7⟩; have v0 := (b7.cell (p := ⟨w.heap.size, 0, none⟩) hs06).trans u0; have v1 := (b7.cell (p := ⟨w.heap.size, 1, none⟩) hs06).trans u1; have v2 := (b7.cell (p := ⟨w.heap.size, 2, none⟩) hs06).trans u2; have v3 := (b7.cell (p := ⟨w.heap.size, 3, none⟩) hs06).trans u3; have k0 := (b7.frozen (p := ⟨w.heap.size, 0, none⟩) hs06).trans g0; have k1 := (b7.frozen (p := ⟨w.heap.size, 1, none⟩) hs06).trans g1; have k2 := (b7.frozen (p := ⟨w.heap.size, 2, none⟩) hs06).trans g2; have k3 := (b7.frozen (p := ⟨w.heap.size, 3, none⟩) hs06).trans g3))
          all_goals
            have hB7 : Below w.heap.size w w7 := HB06.out.trans (((Below.refl _ _).drew.trans b7).mono (Nat.le_of_lt hs06))
            have hx7 : w7.heap[w.heap.size]? = _ := (b7.block w.heap.size hs06).trans HXX6.out
            obtain ⟨r0, r1, r2, r3⟩ := set4_cells (y0 := .int .i64 0) (y1 := .slice none 0 0) (y2 := .slice none 0 0) (y3 := .slice none 0 0) hx7
            have hbF := set4_below (y0 := .int .i64 0) (y1 := .slice none 0 0) (y2 := .slice none 0 0) (y3 := .slice none 0 0) hB7 (Nat.le_refl _)
            clear hB7 hx7 v0 v1 v2 v3 k0 k1 k2 k3 b7 u0 u1 u2 u3 g0 g1 g2 g3 q0 q1
            change Exit.then _ (Exit.then _ _) Exit.normal _ (set4 w7 w.heap.size (.int .i64 0) (.slice none 0 0) (.slice none 0 0) (.slice none 0 0))
            generalize set4 w7 w.heap.size (.int .i64 0) (.slice none 0 0) (.slice none 0 0) (.slice none 0 0) = wF at *
            go_wp2_with fail
            refine bodyPost_ret (v := .tuple #[.agg #[.int .i64 0, .slice none 0 0, .slice none 0 0, .slice none 0 0], .string tx, .int .i64 c]) (by simp [results, Tryz.results7, go_sem, r0, r1, r2, r3]) rfl ?_
            rw [HRF.out]
            exact ⟨hbF, rfl⟩
        | inr o =>
          rw [hF] at HOb HRF
          clear hF HBx
          go_upto_region 10 with (go_at_call 22; refine HOb.out.mono ?_; rintro e w4 ⟨b4, rfl, hfine, hfs, hc4, hno, kv, hc3, hkv⟩; have HB4 := hide b4; have HFs := hide hfs; have HKv := hide hkv; have HC3 := hide hc3; have HC4 := hide hc4; have HNo := hide hno; have HFine := hide hfine; clear b4 hfs hkv hc3 hc4 hno hfine)
          obtain ⟨W5, hW5⟩ : ∃ W5, w4.alloc (.cells #[.string ⟨#[]⟩, .int .i64 0] 59) = W5 := ⟨_, rfl⟩
          have b5 : Below w4.heap.size w4 W5 := by rw [← hW5]; exact (Below.refl _ _).alloc (Nat.le_refl _) _
          have hB24 : Below w2.heap.size w2 w4 := HB3.out.trans HB4.out
          have hB04 : Below w.heap.size w w4 := HB2.out.trans (hB24.mono hs2)
          have hw1s : w.heap.size < W1.heap.size := (Array.getElem?_eq_some_iff.1 HX1.out).1
          have hx4 := (hB24.block w.heap.size (Nat.lt_of_lt_of_le hw1s HB12.out.size)).trans HX2.out
          have hx5 := (b5.block _ (Array.getElem?_eq_some_iff.1 hx4).1).trans hx4
          have HX5 := hide hx5
          have hb05 := hB04.trans (b5.mono hB04.size)
          have HB5 := hide hb05
          have hVal5 : ∀ p ∈ o.map V, OVal W5 m.hi p ∧ p.cs.length ≤ 100 ∧ p.x.module.size ≤ 1000 ∧ ∀ c ∈ p.cs, c.1.name.size ≤ 1000 ∧ c.1.list.length ≤ 100000 ∧ 0 < c.1.list.length := fun p hp => by
            obtain ⟨k, hk, rfl⟩ := List.mem_map.1 hp
            have hkn := HFine.out.2 k hk
            have hov := HV.out.val k hkn
            have hti := (objB_tiny (HOk.out.mem _ (List.getElem_mem hkn))).1
            rw [← HV.out.data k hkn] at hti
            obtain ⟨-, -, -, -, hcs, -, -⟩ := id hov
            have hlen := hov.len
            have h1 := hti.procs
            refine ⟨hov.on ((HB3.out.trans (HB4.out.trans (b5.mono (by have h1 := HB3.out.size; have h2 := HB4.out.size; omega)))).mono (Nat.le_trans HM.out hs2)), by omega, Nat.le_trans hti.mod (by decide), fun c hc => ?_⟩
            have hc2 := hti.codes c.1 (by rw [← hcs]; exact List.mem_map.2 ⟨c, hc, rfl⟩)
            exact ⟨Nat.le_trans hc2.1 (by decide), Nat.le_trans hc2.2.1 (by decide), hc2.2.2.2⟩
          have hcsx : ∀ p ∈ o.map V, p.cs.map Prod.fst = p.x.procs := fun p hp => by
            obtain ⟨-, -, -, -, e, -⟩ := (hVal5 p hp).1
            exact e
          have hP : (o.map V).map (·.x) = objsOf L o := by
            rw [List.map_map]
            unfold objsOf
            refine List.map_congr_left fun k hk => ?_
            have hkn := HFine.out.2 k hk
            show (V k).x = L.getD k OBn
            rw [HV.out.data k hkn]
            simp [List.getD, hkn]
          have hIm := implImage_any (w2.heap.size + 1 + 1 + 1 + 1) (w2.heap.size + 1 + 1) (w2.heap.size + 1 + 1 + 1) w2.heap.size m.hi (cellsM (objsOf L o)) (procsM (objsOf L o)) kv (o.map V) (gsumP (objsOf L o) 0) W5 (HFs.out.on b5) ((b5.cell (p := ⟨_, 3, none⟩) (block_lt HC3.out)).trans HC3.out) ((b5.cell (p := ⟨_, 4, none⟩) (block_lt HC4.out)).trans HC4.out) (HKv.out.on b5) (by rw [List.length_map]; have := HFine.out.len; have := HNL.out; omega) (Nat.le_trans HM.out hb05.size) hVal5
          rw [imCodes_eq (objs_apart HOk.out HFine.out) hP hcsx HNo.out, imNames_eq hcsx, imStarts_eq 0 hcsx, hP] at hIm
          obtain ⟨GP, hGP⟩ : ∃ GP, gsumP (objsOf L o) 0 = GP := ⟨_, rfl⟩
          have HGP := hide hGP
          rw [hGP] at hIm
          have HIm := hide hIm
          have hs05 : w.heap.size < W5.heap.size := (Array.getElem?_eq_some_iff.1 hx5).1
          rw [hW5]
          clear hW5 b5 hB24 hB04 hx4 hx5 hb05 hVal5 hcsx hP hIm hGP
          go_upto_region 12 with (go_at_call 23; refine (as_nil _ _).mono ?_; rintro e w6 ⟨rfl, rfl⟩)
          go_wp2_with (go_at_call 25; refine HIm.out.mono ?_; rintro e w7 ⟨⟨qa, ql, qc, na, nl, nc, sa, sl, sc, rfl, hir⟩, b7⟩; have HIR := hide hir; have hx7 := (b7.block w.heap.size hs05).trans HX5.out; have HX7 := hide hx7; have HB7 := hide (HB5.out.trans (b7.mono HB5.out.size)); have u0 := (heapCells hx7).1 0; have u1 := (heapCells hx7).1 1; have u2 := (heapCells hx7).1 2; have u3 := (heapCells hx7).1 3; have g0 := (heapCells hx7).2 0; have g1 := (heapCells hx7).2 1; have g2 := (heapCells hx7).2 2; have g3 := (heapCells hx7).2 3; clear hir hx7 b7)
          obtain ⟨r0, r1, r2, r3⟩ := set4_cells (y0 := .int .i64 GP) (y1 := .slice qa ql qc) (y2 := .slice na nl nc) (y3 := .slice sa sl sc) HX7.out
          have hbF := set4_below (y0 := .int .i64 GP) (y1 := .slice qa ql qc) (y2 := .slice na nl nc) (y3 := .slice sa sl sc) HB7.out (Nat.le_refl _)
          have hirF : IRows (set4 w7 w.heap.size (.int .i64 GP) (.slice qa ql qc) (.slice na nl nc) (.slice sa sl sc)) w.heap.size (.slice qa ql qc) (.slice na nl nc) (.slice sa sl sc) (codesR (objsOf L o) (namesP (objsOf L o)) (objsOf L o)) (namesP (objsOf L o)) (starts (objsOf L o) 0) := (HIR.out.of_heap fun k hk _ => set4_other (by omega)).le (by omega)
          clear u0 u1 u2 u3 g0 g1 g2 g3
          change bodyPost _ _ _ _ _ (set4 w7 w.heap.size (.int .i64 GP) (.slice qa ql qc) (.slice na nl nc) (.slice sa sl sc))
          generalize set4 w7 w.heap.size (.int .i64 GP) (.slice qa ql qc) (.slice na nl nc) (.slice sa sl sc) = wF at *
          refine bodyPost_ret (v := .tuple #[.agg #[.int .i64 GP, .slice qa ql qc, .slice na nl nc, .slice sa sl sc], .string ⟨#[]⟩, .int .i64 0]) (by simp [results, Tryz.results7, go_sem, r0, r1, r2, r3]) rfl ?_
          rw [HRF.out]
          exact ⟨hbF, qa, ql, qc, na, nl, nc, sa, sl, sc, by rw [HGP.out], hirF⟩
end Go.Proofs.YtfbglokjehmgeaaGreatDoor
