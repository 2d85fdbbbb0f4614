/- The program finds what is linked, and numbers it. No condition. -/
import Derived.Test.YtfbglokjehmgeaaGreatDoorZLnW
import Derived.Test.YtfbglokjehmgeaaGreatDoorZLnE
namespace Go.Proofs.YtfbglokjehmgeaaGreatDoor
open Go.ChangeShapes Go.WideShapes Go.ChangeAt Go.RowKit Go.PlainAid Go.Deep

theorem gsumP_app : ∀ (a b : List ObjectD) (n : Int), gsumP (a ++ b) n = gsumP b (gsumP a n)
  | [], _, _ => rfl
  | x :: r, b, n => by rw [List.cons_append, gsumP_cons, gsumP_cons, gsumP_app r b]
theorem gsumP_bound : ∀ (l : List ObjectD) (n : Int), (∀ x ∈ l, Tiny x) → n ≤ gsumP l n ∧ gsumP l n ≤ n + 10000 * l.length
  | [], n, _ => by
    show n ≤ n ∧ n ≤ n + 10000 * ((0 : Nat) : Int)
    omega
  | x :: r, n, h => by
    have hx := h x (List.mem_cons_self ..)
    have h1 := gsumP_bound r (gsum x.globals n) fun g hg => h g (List.mem_cons_of_mem _ hg)
    have h2 := gsum_bound x.globals n fun g hg => (hx.gnames g hg).2
    have h3 := hx.globs
    rw [gsumP_cons, List.length_cons]
    omega
theorem glo_snoc (Q : List ObjectD) (x : ObjectD) : pM.putW (glo (Q ++ [x])) [] 0 = pM.putW (gloL x.module x.globals) (pM.putW (glo Q) [] 0) (gsumP Q 0) := by
  have e : glo (Q ++ [x]) = glo Q ++ gloL x.module x.globals := by
    unfold glo
    rw [List.flatMap_append]
    simp [gloX, gloL]
  rw [e, MK.putW_app, glo_sum]
theorem pro_snoc (Q : List ObjectD) (x : ObjectD) : pM.putW (pro (Q ++ [x])) [] 0 = pM.putW (proL x.module x.procs) (pM.putW (pro Q) [] 0) ((pairs Q).length : Int) := by
  have e : pro (Q ++ [x]) = pro Q ++ proL x.module x.procs := by
    unfold pro pairs
    rw [List.flatMap_append, List.map_append]
    simp [pairsX, proL]
  have e2 : sumW (pro Q) 0 = ((pairs Q).length : Int) := by
    unfold pro
    rw [sumW_one]
    omega
  rw [e, MK.putW_app, e2]
theorem pairs_len {vs : List OV} (hcs : ∀ p ∈ vs, p.cs.map Prod.fst = p.x.procs) : (pairs (vs.map (·.x))).length = (vs.flatMap (·.cs)).length := by
  unfold pairs
  induction vs with
  | nil => rfl
  | cons p r ih =>
    have h1 := congrArg List.length (hcs p (List.mem_cons_self ..))
    rw [List.length_map] at h1
    rw [List.map_cons, List.flatMap_cons, List.flatMap_cons, List.length_append, List.length_append, ih fun q hq => hcs q (List.mem_cons_of_mem _ hq)]
    unfold pairsX
    rw [List.length_map, h1]
theorem PS.below {w w' : World} {b B b2 b3 : Nat} {zs : List Value} {G : Int} {C P : ML PK} {cs : List CV} (h : PS w b B b2 b3 zs G C P cs) (bel : Below w.heap.size w w') : PS w' b B b2 b3 zs G C P cs := by
  obtain ⟨y0, y1, y2, y3, cv, e, hx, hC, hP, hc⟩ := h
  exact ⟨y0, y1, y2, y3, cv, e, (bel.block _ (Array.getElem?_eq_some_iff.1 hx).1).trans hx, hC.below bel, hP.below bel, hc.on bel⟩
theorem flatCs_le {vs : List OV} {d : Nat} (h : ∀ p ∈ vs, p.cs.length ≤ d) : (vs.flatMap (·.cs)).length ≤ d * vs.length := by
  induction vs with
  | nil => simp
  | cons y r ih =>
    have h1 := ih fun z hz => h z (List.mem_cons_of_mem _ hz)
    have h2 := h y (List.mem_cons_self ..)
    rw [List.flatMap_cons, List.length_append, List.length_cons, Nat.mul_succ]
    omega
def ObPost (L : List ObjectD) (V : Nat → OV) (b B b2 b3 : Nat) (R : Res) (e : Ending) (w w' : World) : Prop := Below B w w' ∧ match R with
  | .inl (c, t) => e = .returned (.iface 59 (.agg #[.string t, .int .i64 c]))
  | .inr o => e = .returned .nilIface ∧ Fine L.length o ∧ FS w' b b2 b3 (cellsM (objsOf L o)) (procsM (objsOf L o)) ∧ w'.cell? ⟨b, 4, none⟩ = some (.int .i64 (gsumP (objsOf L o) 0)) ∧ (firstX (fun x => x.procs.any fun c => c.list.any (unk (objsOf L o) (namesP (objsOf L o)))) (objsOf L o) = none) ∧ ∃ kv, w'.cell? ⟨b, 3, none⟩ = some kv ∧ FRow objK w' B kv (o.map V)
theorem map_not {α : Type} {K : MK α} {w : World} {b : Nat} {M : ML α} {C : Array Value} {T : TypeId} {fr : Nat × Nat} (h : GM K w b M) : w.heap[b]? ≠ some (.cells C T fr) := by
  obtain ⟨es, cl, hm, -⟩ := h
  intro e
  rw [hm] at e
  cases e
set_option maxRecDepth 100000 in
set_option maxHeartbeats 16000000 in
theorem objects_any (a : Option Addr) (cp h : Nat) (L : List ObjectD) (V : Nat → OV) (b B b1 gs b2 b3 : Nat) (main : ByteArray) (w : World) (hlv : LV w h a cp L V) (hhB : h ≤ B) (hBb : B ≤ b) (hBg : B ≤ gs) (hB2 : B ≤ b2) (hB3 : B ≤ b3) (h1g : b1 ≠ gs) (h23 : b2 ≠ b3) (hok : allOk objB L L.length) (hL : L.length ≤ 20) (hB : B ≤ w.heap.size)
    (hns : NS w b B b1 gs (.slice a L.length cp) [.int .i64 0, .map (some b2), .map (some b3), .slice none 0 0] L V [] []) (hm2 : GM pM w b2 []) (hm3 : GM pM w b3 []) :
    Calls Tryz.prog 22 #[.pointer (some ⟨b, 0, none⟩), .string main] w fun e w' => ObPost L V b B b2 b3 (linkF L main) e w w' := by
  have hneed := need_any a cp h L V b B b1 gs [.int .i64 0, .map (some b2), .map (some b3), .slice none 0 0] (L.length + 1) main [] [] w hlv hhB hBb hBg h1g (by omega) hok.dist (fun x hx => by have := (objB_facts (hok.mem x hx)).2.2.1; omega) hns ⟨⟨List.nodup_nil, fun k hk => by cases hk⟩, fun z hz => by cases hz⟩ List.nodup_nil (fun z hz => by cases hz) (by simp)
  have HNeed := hide hneed
  have HOk := hide hok
  have HLV := hide hlv
  have HM2 := hide hm2
  have HM3 := hide hm3
  have hbt : b2 ≠ b ∧ b3 ≠ b ∧ b2 ≠ gs ∧ b3 ≠ gs ∧ b < w.heap.size ∧ gs < w.heap.size := by
    obtain ⟨kv, x4, x5, x6, x7, -, hx, -, hS, -⟩ := hns
    obtain ⟨C, hC⟩ := hS.ty (k := gs) rfl
    exact ⟨(fun e => by have h' := hx; rw [← e] at h'; exact map_not hm2 h'), (fun e => by have h' := hx; rw [← e] at h'; exact map_not hm3 h'), (fun e => by have h' := hC; rw [← e] at h'; exact map_not hm2 h'), (fun e => by have h' := hC; rw [← e] at h'; exact map_not hm3 h'), (Array.getElem?_eq_some_iff.1 hx).1, (hS.lt (k := gs) rfl).2⟩
  have HBt := hide hbt
  obtain ⟨R, hR⟩ : ∃ R, linkF L main = R := ⟨_, rfl⟩
  have HR := hide hR
  obtain ⟨nL, hnL⟩ : ∃ k, L.length = k := ⟨_, rfl⟩
  have HNL := hide hnL
  rw [hnL] at hL
  rw [hR]
  clear hlv hok hns hm2 hm3 hneed hR hnL hbt
  go_enter Tryz.func22, Tryz.ntmps22
  cases hv : visD L (L.length + 1) main [] [] with
  | inl ct =>
    obtain ⟨c, t⟩ := ct
    rw [hv] at HNeed
    have hRR : R = .inl (c, t) := by
      rw [← HR.out]
      unfold linkF
      rw [hv]
    have HRR := hide hRR
    clear hv hRR
    go_wp2_with (go_at_call 58; refine HNeed.out.mono ?_; rintro e w1 ⟨f1, rfl⟩)
    go_ret
    refine ⟨f1.below hBb hBg (Nat.le_refl _) hB, ?_⟩
    rw [HRR.out]
    rfl
  | inr o =>
    have hfine : Fine L.length o := (vis_good (g := L.length + 1) ⟨⟨List.nodup_nil, fun k hk => by cases hk⟩, fun z hz => by cases hz⟩ hv).1
    have hap := objs_apart HOk.out hfine
    have HRo : Hid (R = linkO L main o) := hide (by
      rw [← HR.out]
      unfold linkF
      rw [hv])
    have hol := hfine.len
    rw [HNL.out] at hol
    rw [hv] at HNeed
    clear hv
    go_upto_region 4 with (go_at_call 58; refine HNeed.out.mono ?_; rintro e w1 ⟨f1, rfl, hns1⟩)
    have hb01 : Below B w w1 := f1.below hBb hBg (Nat.le_refl _) hB
    have HB01 := hide hb01
    have hsz1 : B ≤ w1.heap.size := by have := hb01.size; omega
    obtain ⟨kv, x4, x5, x6, x7, hys, hx1, -, -, hO1⟩ := hns1
    simp only [List.cons.injEq, and_true] at hys
    obtain ⟨rfl, rfl, rfl, rfl⟩ := hys
    have hM2 : GM pM w1 b2 [] := HM2.out.on (f1.block b2 HM2.out.lt HBt.out.1 HBt.out.2.2.1 (.inr fun C fr => map_not HM2.out))
    have hM3 : GM pM w1 b3 [] := HM3.out.on (f1.block b3 HM3.out.lt HBt.out.2.1 HBt.out.2.2.2.1 (.inr fun C fr => map_not HM3.out))
    have HLV1 := hide (HLV.out.on (hb01.mono hhB))
    obtain ⟨vs, hvs⟩ : ∃ vs, o.map V = vs := ⟨_, rfl⟩
    rw [hvs] at hO1
    obtain ⟨P, hPd⟩ : ∃ P, objsOf L o = P := ⟨_, rfl⟩
    have hP : vs.map (·.x) = P := by
      rw [← hvs, ← hPd, List.map_map]
      unfold objsOf
      refine List.map_congr_left fun k hk => ?_
      have hkn := hfine.2 k hk
      show (V k).x = L.getD k OBn
      rw [HLV.out.data k hkn]
      simp [List.getD, hkn]
    have hvm : ∀ p ∈ vs, ∃ k, k < L.length ∧ p = V k := fun p hp => by
      rw [← hvs] at hp
      obtain ⟨k, hk, e⟩ := List.mem_map.1 hp
      exact ⟨k, hfine.2 k hk, e.symm⟩
    have htn : ∀ x ∈ P, Tiny x := fun x hx => (objB_tiny (HOk.out.mem x (objs_mem hfine.2 x (by rw [hPd]; exact hx)))).1
    have hpx : ∀ p ∈ vs, p.x ∈ P := fun p hp => by rw [← hP]; exact List.mem_map.2 ⟨p, hp, rfl⟩
    have hval : ∀ p ∈ vs, OVal w1 h p := fun p hp => by
      obtain ⟨k, hk, rfl⟩ := hvm p hp
      exact HLV1.out.val k hk
    have hcsx : ∀ p ∈ vs, p.cs.map Prod.fst = p.x.procs := fun p hp => by
      obtain ⟨-, -, -, -, e, -⟩ := hval p hp
      exact e
    have hvl : vs.length = o.length := by rw [← hvs, List.length_map]
    rw [hPd] at hap
    have HAp := hide hap
    have HP := hide hP
    have HVal := hide hval
    have HCsx := hide hcsx
    have HTn := hide htn
    have HPx := hide hpx
    have HVs := hide hvs
    have HPd := hide hPd
    have HFine := hide hfine
    obtain ⟨zs, hzs⟩ : ∃ zs, [.slice a L.length cp, .map (some b1), .slice (some ⟨gs, 0, none⟩) L.length L.length, kv] = zs := ⟨_, rfl⟩
    have hPS : PS w1 b B b2 b3 zs 0 [] [] [] := ⟨_, _, _, _, _, hzs.symm, hx1, hM2, hM3, FRow.nil _ _ _⟩
    have HPS := hide hPS
    obtain ⟨ka, kc, hkv⟩ := hO1.form
    subst hkv
    obtain ⟨nv, hnv⟩ : ∃ nv, vs.length = nv := ⟨_, rfl⟩
    have HNv := hide hnv
    have hnv20 : nv ≤ 20 := by omega
    have HO1 := hide hO1
    rw [hnv] at hx1 HO1 hzs
    have c3 : w1.cell? ⟨b, 3, none⟩ = some (.slice ka nv kc) := (heapCells hx1).1 3
    have HZs := hide hzs
    have HX1 := hide hx1
    have HB1' : Hid (b < w1.heap.size) := hide (Array.getElem?_eq_some_iff.1 hx1).1
    clear f1 hb01 hM2 hM3 hvs hPd hP hvm htn hpx hval hcsx hvl hfine hap hPS hnv hO1 hzs hx1
    go_upto_region 5 with fail
    clear c3
    go_loopw [21] (fun iv wr => ∃ j : Nat, iv = .int .i64 j ∧ j ≤ nv ∧ Hid (Fp b b2 b3 B w1 wr) ∧ Hid (PS wr b B b2 b3 zs (gsumP ((vs.take j).map (·.x)) 0) (pM.putW (glo ((vs.take j).map (·.x))) [] 0) (pM.putW (pro ((vs.take j).map (·.x))) [] 0) ((vs.take j).flatMap (·.cs)))) (fun iv _ => nv - (intOf iv).toNat)
    case atStart => exact ⟨0, rfl, by omega, hide (Fp.refl _ _ _ _ _), HPS⟩
    case round =>
      obtain ⟨j, rfl, hj, Hf, Hs⟩ := hrel
      obtain ⟨w8, rfl⟩ : ∃ w8, w8 = wr := ⟨_, rfl⟩
      have hb18 : Below B w1 w8 := Hf.out.below hBb hB2 hB3 (Nat.le_refl _) hsz1
      have HB18 := hide hb18
      have hs8 : B ≤ w8.heap.size := by have := hb18.size; omega
      clear hb18
      by_cases hp : j < nv
      · have i1 : (j : Int) < nv := by omega
        have hjl : j < vs.length := by rw [HNv.out]; exact hp
        obtain ⟨gk, kc', e, hkc, hgB, hgk, hrow⟩ := HO1.out.one_at objOk hjl
        obtain ⟨CK, hCK⟩ := HO1.out.ty (k := gk) (by rw [e]; rfl)
        rw [HNv.out] at e hkc
        cases e
        have hrow8 : ∀ o, w8.cell? ⟨gk, o, none⟩ = w1.cell? ⟨gk, o, none⟩ := fun o => World.cell?_of_block (Hf.out.block gk hgk (fun e => by
          have h1 := HX1.out
          rw [← e, hCK] at h1
          have := congrArg (fun o : Option Obj => match o with | some (.cells _ T _) => T | _ => 0) h1
          simp [objK] at this) (fun e => by
          obtain ⟨y0, y1, y2, y3, cv, -, -, hC, -, -⟩ := HPS.out
          exact map_not hC (by rw [← e]; exact hCK)) (fun e => by
          obtain ⟨y0, y1, y2, y3, cv, -, -, -, hP, -⟩ := HPS.out
          exact map_not hP (by rw [← e]; exact hCK)) (.inr fun C fr e => by
          rw [hCK] at e
          have := congrArg (fun o : Option Obj => match o with | some (.cells _ T _) => T | _ => 0) e
          simp [objK] at this))
        have hin := List.getElem_mem hjl
        have hov := (HVal.out _ hin).on (HB18.out.mono hhB)
        have htn := HTn.out _ (HPx.out _ hin)
        have htk : vs.take (j + 1) = vs.take j ++ [vs[j]] := List.take_succ_eq_append_getElem hjl
        obtain ⟨p, hp'⟩ : ∃ p, vs[j] = p := ⟨_, rfl⟩
        rw [hp'] at hov hrow htk htn
        have HTk : Hid (gsumP ((vs.take (j + 1)).map (·.x)) 0 = gsum p.x.globals (gsumP ((vs.take j).map (·.x)) 0) ∧ pM.putW (glo ((vs.take (j + 1)).map (·.x))) [] 0 = pM.putW (gloL p.x.module p.x.globals) (pM.putW (glo ((vs.take j).map (·.x))) [] 0) (gsumP ((vs.take j).map (·.x)) 0) ∧ pM.putW (pro ((vs.take (j + 1)).map (·.x))) [] 0 = pM.putW (proL p.x.module p.x.procs) (pM.putW (pro ((vs.take j).map (·.x))) [] 0) (((vs.take j).flatMap (·.cs)).length : Int) ∧ (vs.take (j + 1)).flatMap (·.cs) = (vs.take j).flatMap (·.cs) ++ p.cs) := hide (by
          rw [htk, List.map_append, List.map_cons, List.map_nil, gsumP_app, glo_snoc, pro_snoc, pairs_len fun q hq => HCsx.out q (List.mem_of_mem_take hq), List.flatMap_append]
          refine ⟨rfl, rfl, rfl, by simp⟩)
        have hgb := gsumP_bound ((vs.take j).map (·.x)) 0 fun x hx => by
          obtain ⟨q, hq, rfl⟩ := List.mem_map.1 hx
          exact HTn.out _ (HPx.out _ (List.mem_of_mem_take hq))
        rw [List.length_map, List.length_take] at hgb
        have hcb := flatCs_le (vs := vs.take j) (d := 60) fun q hq => by
          have h1 := congrArg List.length (HCsx.out q (List.mem_of_mem_take hq))
          rw [List.length_map] at h1
          have h2 := (HTn.out _ (HPx.out _ (List.mem_of_mem_take hq))).procs
          omega
        rw [List.length_take] at hcb
        obtain ⟨a2, c2, a3, c3, a4, c4, p2, p3, p4⟩ := hov.form
        have d0 : w8.cell? ⟨gk, j * 5, none⟩ = some (.string p.x.module) := (hrow8 _).trans (hrow 0 (by decide))
        have d1 : w8.cell? ⟨gk, j * 5 + 1, none⟩ = some (.int .i64 p.x.print) := (hrow8 _).trans (hrow 1 (by decide))
        have d2 : w8.cell? ⟨gk, j * 5 + 2, none⟩ = some p.u2 := (hrow8 _).trans (hrow 2 (by decide))
        have d3 : w8.cell? ⟨gk, j * 5 + 3, none⟩ = some p.u3 := (hrow8 _).trans (hrow 3 (by decide))
        have d4 : w8.cell? ⟨gk, j * 5 + 4, none⟩ = some p.u4 := (hrow8 _).trans (hrow 4 (by decide))
        obtain ⟨Gj, hGj⟩ : ∃ q, gsumP ((vs.take j).map (·.x)) 0 = q := ⟨_, rfl⟩
        obtain ⟨Cj, hCj⟩ : ∃ q, pM.putW (glo ((vs.take j).map (·.x))) [] 0 = q := ⟨_, rfl⟩
        obtain ⟨Pj, hPj⟩ : ∃ q, pM.putW (pro ((vs.take j).map (·.x))) [] 0 = q := ⟨_, rfl⟩
        obtain ⟨cj, hcj⟩ : ∃ q, (vs.take j).flatMap (·.cs) = q := ⟨_, rfl⟩
        rw [hGj] at hgb
        rw [hcj] at hcb
        rw [hGj, hCj, hPj, hcj] at HTk Hs
        obtain ⟨W5, hW5⟩ : ∃ W5, w8.alloc (.cells #[.string p.x.module, .int .i64 p.x.print, .slice a2 p.x.needs.length c2, .slice a3 p.x.globals.length c3, .slice a4 p.x.procs.length c4] 48) = W5 := ⟨_, rfl⟩
        have b5 : Below w8.heap.size w8 W5 := by rw [← hW5]; exact (Below.refl _ _).alloc (Nat.le_refl _) _
        have x5 := Deep.blk_alloc_new w8 (.cells #[.string p.x.module, .int .i64 p.x.print, .slice a2 p.x.needs.length c2, .slice a3 p.x.globals.length c3, .slice a4 p.x.procs.length c4] 48)
        rw [hW5] at x5
        have hcall := place_any b B b2 b3 h zs Gj Cj Pj cj p W5 (hov.on (b5.mono (by omega))) hhB hBb hB2 hB3 h23 (by have := b5.size; omega) htn.globs (fun g hg => (htn.gnames g hg).2) (by have := htn.procs; omega) (by omega) (by omega) (by omega) (Hs.out.below b5)
        rw [p2, p3, p4] at hcall
        rw [p2] at d2
        rw [p3] at d3
        rw [p4] at d4
        have e0 : W5.cell? ⟨w8.heap.size, 0, none⟩ = some (.string p.x.module) := (heapCells x5).1 0
        have e1 : W5.cell? ⟨w8.heap.size, 1, none⟩ = some (.int .i64 p.x.print) := (heapCells x5).1 1
        have e2 : W5.cell? ⟨w8.heap.size, 2, none⟩ = some (.slice a2 p.x.needs.length c2) := (heapCells x5).1 2
        have e3 : W5.cell? ⟨w8.heap.size, 3, none⟩ = some (.slice a3 p.x.globals.length c3) := (heapCells x5).1 3
        have e4 : W5.cell? ⟨w8.heap.size, 4, none⟩ = some (.slice a4 p.x.procs.length c4) := (heapCells x5).1 4
        rw [← HTk.out.1, ← HTk.out.2.1, ← HTk.out.2.2.1, ← HTk.out.2.2.2] at hcall
        have HCall := hide hcall
        have HB5 := hide b5
        have HW5 := hide hW5
        clear hcall hp' htk hin hrow hrow8 hov htn p2 p3 p4 x5 b5 hW5 hgb hcb hGj hCj hPj hcj hCK HTk
        generalize p.x.module = mo at *
        generalize p.x.print = pr at *
        generalize p.x.needs.length = l2 at *
        generalize p.x.globals.length = l3 at *
        generalize p.x.procs.length = l4 at *
        go_upto_region 7 with fail
        rw [HW5.out]
        clear d0 d1 d2 d3 d4
        go_wp2_with (go_at_call 59; refine HCall.out.mono ?_; rintro e w9 ⟨rfl, hs9, f9⟩; have HS9 := hide hs9; have HF9 := hide (Hf.out.trans ((Fp.of_below HB5.out).trans f9)); clear hs9 f9)
        go_roundw
        case rel => exact ⟨j + 1, by go_num, by omega, HF9, HS9⟩
        case measure => simp [intOf]; omega
      · have i1 : ¬ (j : Int) < nv := by omega
        obtain rfl : j = nv := by omega
        have hall : vs.take j = vs := List.take_of_length_le (by rw [HNv.out]; exact Nat.le_refl _)
        have hs := Hs.out
        rw [hall, HP.out] at hs
        have hkv8 : FRow objK w8 B (.slice ka j kc) vs := HO1.out.of_heap fun k _ hk ⟨C, hC⟩ => Hf.out.block k hk (fun e => by
          have h1 := HX1.out
          rw [← e, hC] at h1
          have := congrArg (fun o : Option Obj => match o with | some (.cells _ T _) => T | _ => 0) h1
          simp [objK] at this) (fun e => by
          obtain ⟨y0, y1, y2, y3, cv, -, -, hC', -, -⟩ := HPS.out
          exact map_not hC' (by rw [← e]; exact hC)) (fun e => by
          obtain ⟨y0, y1, y2, y3, cv, -, -, -, hP, -⟩ := HPS.out
          exact map_not hP (by rw [← e]; exact hC)) (.inr fun C' fr e => by
          rw [hC] at e
          have := congrArg (fun o : Option Obj => match o with | some (.cells _ T _) => T | _ => 0) e
          simp [objK] at this)
        obtain ⟨y0, y1, y2, y3, cv, ezs, hx8, hC8, hP8, hcv8⟩ := hs
        rw [← HZs.out] at ezs
        simp only [List.cons.injEq, and_true] at ezs
        obtain ⟨rfl, rfl, rfl, rfl⟩ := ezs
        have hFS8 : FS w8 b b2 b3 (cellsM P) (procsM P) := ⟨(heapCells hx8).1 5, (heapCells hx8).1 6, hC8, hP8⟩
        have c3 : w8.cell? ⟨b, 3, none⟩ = some (.slice ka j kc) := (heapCells hx8).1 3
        have c4 : w8.cell? ⟨b, 4, none⟩ = some (.int .i64 (gsumP P 0)) := (heapCells hx8).1 4
        have c7 : w8.cell? ⟨b, 7, none⟩ = some cv := (heapCells hx8).1 7
        have hbw8 : b < w8.heap.size := (Array.getElem?_eq_some_iff.1 hx8).1
        have hval8 : ∀ p ∈ vs, OVal w8 h p := fun p hp => (HVal.out p hp).on (HB18.out.mono hhB)
        have hcode : ∀ p ∈ vs, ∀ c ∈ p.cs, c.1 ∈ p.x.procs := fun p hp c hc => by rw [← HCsx.out p hp]; exact List.mem_map.2 ⟨c, hc, rfl⟩
        have hlist : ∀ p ∈ vs, ∀ c ∈ p.cs, c.1.list.length ≤ 2000 := fun p hp c hc => ((HTn.out _ (HPx.out p hp)).codes c.1 (hcode p hp c hc)).2.1
        have hclen : ∀ p ∈ vs, p.cs.length ≤ 60 := fun p hp => by
          have h1 := congrArg List.length (HCsx.out p hp)
          rw [List.length_map] at h1
          have h2 := (HTn.out _ (HPx.out p hp)).procs
          omega
        have hfw := firstWith_any b B h (.slice ka j kc) vs (noB (cellsM P) (procsM P)) (.func (.func 61) #[.pointer (some ⟨b, 0, none⟩)] #[]) 5 w8 c3 hkv8 (by rw [HNv.out]; omega) (by omega) (fun p hp => ⟨hval8 p hp, by have := hclen p hp; omega⟩) (fun p hp c hc w' bel => by
          obtain ⟨-, -, -, -, -, -, hcv⟩ := hval8 p hp
          obtain ⟨m, hm, hs⟩ := (hcv c hc).on (bel.mono (by omega))
          exact contains_no b (noB (cellsM P) (procsM P)) h c.2 m c.1.list w' (by have := hlist p hp c hc; omega) hs hm (by have := bel.size; omega) fun y hy w2 b2' => namesNothing_any b b2 b3 _ _ y w2 ((hFS8.on bel).on b2'))
        rw [no_first HAp.out HP.out HCsx.out] at hfw
        have HFw := hide hfw
        have HFS8 := hide hFS8
        have HKv8 := hide hkv8
        have HCv8 := hide hcv8
        have HVal8 := hide hval8
        have HList := hide hlist
        have HCode := hide hcode
        have HClen := hide hclen
        have HC3 := hide c3
        have HC4 := hide c4
        have HC7 := hide c7
        have HBw8 : Hid (Below B w w8) := hide (HB01.out.trans HB18.out)
        have hlo := linkO_X L main o (fun x hx => by rw [HPd.out] at hx; exact (objB_facts (HOk.out.mem x (objs_mem HFine.out.2 x (by rw [HPd.out]; exact hx)))).2.1)
        rw [← HRo.out, HPd.out] at hlo
        have HLo := hide hlo
        have hgP := gsumP_bound P 0 HTn.out
        have hPl : P.length = j := by rw [← HP.out, List.length_map, HNv.out]
        rw [hPl] at hgP
        obtain ⟨GP, hGP⟩ : ∃ GP, gsumP P 0 = GP := ⟨_, rfl⟩
        have HGP := hide hGP
        rw [hGP] at hgP HLo HC4
        clear hfw hFS8 hkv8 hcv8 hval8 hlist hcode hclen c3 c4 c7 hx8 hC8 hP8 hlo hall hPl hGP
        cases hX : firstX (fun x => x.procs.any fun c => c.list.any (unk P (namesP P))) P with
        | some m =>
          rw [hX] at HFw HLo
          have HRR := hide (show R = .inl (5, m) from HLo.out)
          clear hX
          have HFw2 : Hid (Calls Tryz.prog 60 _ w8 fun e w9 => e = Ending.returned (.iface 59 (.agg #[.string m, .int .i64 5])) ∧ Below w8.heap.size w8 w9) := hide HFw.out
          clear HFw
          go_wp2_with (go_at_call 60; refine HFw2.out.mono ?_; rintro e w9 ⟨rfl, b9⟩; have HB9 := hide b9; clear b9)
          go_ret
          refine ⟨HBw8.out.trans (HB9.out.mono (by omega)), ?_⟩
          rw [HRR.out]
          rfl
        | none =>
          rw [hX] at HFw HLo
          have HX := hide hX
          have HFw2 : Hid (Calls Tryz.prog 60 _ w8 fun e w9 => e = Ending.returned .nilIface ∧ Below w8.heap.size w8 w9) := hide HFw.out
          clear hX HFw
          go_upto_region 12 with (go_at_call 60; refine HFw2.out.mono ?_; rintro e w9 ⟨rfl, b9⟩; have HB9 := hide b9; clear b9)
          have HBw9 := hide (HBw8.out.trans (HB9.out.mono (by omega)))
          have hs9 : w8.heap.size ≤ w9.heap.size := HB9.out.size
          have hFS9 := HFS8.out.on HB9.out
          have c39 := (HB9.out.cell (p := ⟨b, 3, none⟩) hbw8).trans HC3.out
          have c49 := (HB9.out.cell (p := ⟨b, 4, none⟩) hbw8).trans HC4.out
          have c79 := (HB9.out.cell (p := ⟨b, 7, none⟩) hbw8).trans HC7.out
          have hkv9 := HKv8.out.on HB9.out
          have hcv9 := HCv8.out.on HB9.out
          have hval9 : ∀ p ∈ vs, OVal w9 h p := fun p hp => (HVal8.out p hp).on (HB9.out.mono (by omega))
          have hone : ∀ c ∈ vs.flatMap (·.cs), ∃ a n k, c.2 = .slice a n k := fun c hc => by
            obtain ⟨p, hp, hc⟩ := List.mem_flatMap.1 hc
            obtain ⟨-, -, -, -, -, -, hcv⟩ := hval9 p hp
            obtain ⟨m, -, ⟨a, c', e, -⟩⟩ := hcv c hc
            exact ⟨a, _, c', e⟩
          have hunk : ∀ p ∈ vs, ∀ c ∈ p.cs, ∀ y ∈ c.1.list, unk P (namesP P) y = false := fun p hp c hc y hy => by
            have h1 := firstX_none HX.out _ (HPx.out p hp)
            have h2 := List.any_eq_false.1 h1 _ (HCode.out p hp c hc)
            have h3 := List.any_eq_false.1 (by simpa using h2) y hy
            simpa using h3
          have hfw := firstWith_any b B h (.slice ka j kc) vs (misB (procsM P) (vs.flatMap (·.cs))) (.func (.func 62) #[.pointer (some ⟨b, 0, none⟩)] #[]) 8 w9 c39 hkv9 (by rw [HNv.out]; omega) (by omega) (fun p hp => ⟨hval9 p hp, by have := HClen.out p hp; omega⟩) (fun p hp c hc w' bel => by
            obtain ⟨-, -, -, -, -, -, hcv⟩ := hval9 p hp
            obtain ⟨m, hm, hs⟩ := (hcv c hc).on (bel.mono (by omega))
            exact contains_mis b (misB (procsM P) (vs.flatMap (·.cs))) h c.2 m c.1.list w' (by have := HList.out p hp c hc; omega) hs hm (by have := bel.size; omega) fun y hy w2 b2' => by
              have b92 := bel.trans (b2'.mono bel.size)
              refine miscounts_any b B b2 b3 (cellsM P) (procsM P) cv (vs.flatMap (·.cs)) y w2 (hFS9.on b92) ((b92.cell (p := ⟨b, 7, none⟩) (block_lt c79)).trans c79) (hcv9.on b92) hone fun ho => ?_
              obtain ⟨k, h1, h2, -⟩ := call_known HAp.out HP.out HCsx.out (HAp.out.ins _ (HPx.out p hp) c.1 (HCode.out p hp c hc) y hy) (hunk p hp c hc y hy) ho
              exact ⟨k, h1, h2⟩)
          rw [mis_first HAp.out HP.out HCsx.out HX.out] at hfw
          have HFw := hide hfw
          have HFS9 := hide hFS9
          have HKv9 := hide hkv9
          have HC39 := hide c39
          have HC49 := hide c49
          clear hfw hFS9 hkv9 hcv9 hval9 hone hunk c39 c49 c79
          cases hY : firstX (fun x => x.procs.any (badC (namesP P) (P.flatMap fun x => x.procs))) P with
          | some m =>
            rw [hY] at HFw HLo
            have HRR := hide (show R = .inl (8, m) from HLo.out)
            clear hY HFw2
            have HFw2 : Hid (Calls Tryz.prog 60 _ w9 fun e w10 => e = Ending.returned (.iface 59 (.agg #[.string m, .int .i64 8])) ∧ Below w9.heap.size w9 w10) := hide HFw.out
            clear HFw
            go_wp2_with (go_at_call 60; refine HFw2.out.mono ?_; rintro e w10 ⟨rfl, b10⟩; have HB10 := hide b10; clear b10)
            go_ret
            refine ⟨HBw9.out.trans (HB10.out.mono (by omega)), ?_⟩
            rw [HRR.out]
            rfl
          | none =>
            rw [hY] at HFw HLo
            have HFw3 : Hid (Calls Tryz.prog 60 _ w9 fun e w10 => e = Ending.returned .nilIface ∧ Below w9.heap.size w9 w10) := hide HFw.out
            clear hY HFw HFw2
            go_upto_region 15 with (go_at_call 60; refine HFw3.out.mono ?_; rintro e w10 ⟨rfl, b10⟩; have HB10 := hide b10; have d4 := (b10.cell (p := ⟨b, 4, none⟩) (by show b < w9.heap.size; omega)).trans HC49.out; clear b10)
            have HBw10 := hide (HBw9.out.trans (HB10.out.mono (by omega)))
            by_cases hg : 3000 < GP
            · have HRR := hide (show R = .inl (15, main) by
                rw [HLo.out]
                exact if_pos hg)
              go_wp2
              go_ret
              refine ⟨HBw10.out, ?_⟩
              rw [HRR.out]
              rfl
            · have HRR := hide (show R = .inr o by
                rw [HLo.out]
                exact if_neg hg)
              have hg' : ¬ 3000 < GP := hg
              have HD4 := hide d4
              go_wp2
              go_ret
              refine ⟨HBw10.out, ?_⟩
              rw [HRR.out]
              refine ⟨rfl, HFine.out, by rw [HPd.out]; exact HFS9.out.on HB10.out, by rw [HPd.out, HGP.out]; exact HD4.out, by rw [HPd.out]; exact HX.out, _, (HB10.out.cell (p := ⟨b, 3, none⟩) (by show b < w9.heap.size; omega)).trans HC39.out, ?_⟩
              rw [HVs.out]
              exact HKv9.out.on HB10.out
end Go.Proofs.YtfbglokjehmgeaaGreatDoor
