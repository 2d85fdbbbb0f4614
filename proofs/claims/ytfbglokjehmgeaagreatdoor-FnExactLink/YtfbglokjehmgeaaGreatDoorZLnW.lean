/- The program's walk along needs. No condition. -/
import Derived.Test.YtfbglokjehmgeaaGreatDoorZLnN
import Derived.Test.YtfbglokjehmgeaaGreatDoorZLawZ
import Derived.Test.YtfbglokjehmgeaaGreatDoorZLkX
import Derived.LaidMore
import Derived.Deep.RegionWith
namespace Go.Proofs.YtfbglokjehmgeaaGreatDoor
open Go.ChangeShapes Go.WideShapes Go.ChangeAt Go.RowKit Go.Deep

theorem NS.below {w w' : World} {b B b1 gs : Nat} {lv : Value} {ys : List Value} {L : List ObjectD} {V : Nat → OV} {o : List Nat} {opn : List ByteArray} (h : NS w b B b1 gs lv ys L V o opn) (bel : Below w.heap.size w w') : NS w' b B b1 gs lv ys L V o opn := by
  obtain ⟨kv, x4, x5, x6, x7, e, hx, hM, hS, hO⟩ := h
  exact ⟨kv, x4, x5, x6, x7, e, (bel.block _ (Array.getElem?_eq_some_iff.1 hx).1).trans hx, hM.below bel, hS.on bel, hO.on bel⟩
theorem NS.on_heap {w w' : World} {b B b1 gs : Nat} {lv : Value} {ys : List Value} {L : List ObjectD} {V : Nat → OV} {o : List Nat} {opn : List ByteArray} (h : NS w b B b1 gs lv ys L V o opn) (e : w'.heap = w.heap) : NS w' b B b1 gs lv ys L V o opn := by
  obtain ⟨kv, x4, x5, x6, x7, e1, hx, hM, hS, hO⟩ := h
  exact ⟨kv, x4, x5, x6, x7, e1, by rw [e]; exact hx, hM.on (by rw [e]), hS.of_heap (fun k _ _ _ => by rw [e]), hO.of_heap (fun k _ _ _ => by rw [e])⟩
theorem FRow.still {D : Type} {F : FlatK D} {w : World} {B g n c : Nat} {l : List D} (h : FRow F w B (.slice (some ⟨g, 0, none⟩) n c) l) : ∀ j, w.frozen? ⟨g, j, none⟩ = false := by
  rcases h.2 with ⟨e, -⟩ | ⟨g', cap', cur, e, -, hg, -⟩
  · cases e
  · cases e
    exact (heapCells hg).2
/-- What the walk leaves: the order, or a fault and whose. -/
def NPost (b B b1 gs : Nat) (lv : Value) (ys : List Value) (L : List ObjectD) (V : Nat → OV) (opn : List ByteArray) (R : Res) (e : Ending) (w w' : World) : Prop := Fn b B gs w w' ∧ match R with
  | .inr o => e = .returned .nilIface ∧ NS w' b B b1 gs lv ys L V o opn
  | .inl (c, t) => e = .returned (.iface 59 (.agg #[.string t, .int .i64 c]))
def NeedC (a : Option Addr) (cp h : Nat) (L : List ObjectD) (V : Nat → OV) (b B b1 gs : Nat) (ys : List Value) (g : Nat) : Prop := ∀ (name : ByteArray) (o : List Nat) (opn : List ByteArray) (w : World),
    LV w h a cp L V → h ≤ B → B ≤ b → B ≤ gs → b1 ≠ gs → L.length ≤ 1000 → Dist L → (∀ x ∈ L, x.needs.length ≤ 1000) → NS w b B b1 gs (.slice a L.length cp) ys L V o opn → Good L o opn → opn.Nodup → (∀ z ∈ opn, (objAt L z).isSome = true) → opn.length + g = L.length + 1 →
    Calls Tryz.prog 58 #[.pointer (some ⟨b, 0, none⟩), .string name] w fun e w' => NPost b B b1 gs (.slice a L.length cp) ys L V opn (visD L g name o opn) e w w'
theorem Fn.old {b B gs K : Nat} {w w' : World} (h : Fn b B gs w w') (hb : B ≤ b) (hg : B ≤ gs) (hB : B ≤ w.heap.size) (hK : K ≤ B) : Below K w w' := h.below (by omega) (by omega) hK (by omega)
set_option maxRecDepth 100000 in
set_option maxHeartbeats 16000000 in
theorem need_step (a : Option Addr) (cp h : Nat) (L : List ObjectD) (V : Nat → OV) (b B b1 gs : Nat) (ys : List Value) (g : Nat) (ih : NeedC a cp h L V b B b1 gs ys g) : NeedC a cp h L V b B b1 gs ys (g + 1) := by
  intro name o opn w hlv hhB hBb hBg h1g hL hD hnb hns hgood hnd hkn hg
  have HLV := hide hlv
  have HD := hide hD
  have HNb := hide hnb
  have HGood := hide hgood
  have HNd := hide hnd
  have HKn := hide hkn
  have HNS := hide hns
  have HIH := hide ih
  have hopl := open_len hnd hkn
  obtain ⟨nL, hnL⟩ : ∃ k, L.length = k := ⟨_, rfl⟩
  have HNL := hide hnL
  obtain ⟨kv, x4, x5, x6, x7, hys, hx, hM, hS, hO⟩ := id hns
  have HYs := hide hys
  have HM := hide hM
  have HS := hide hS
  have HO := hide hO
  rw [hnL] at hx hL hg hopl ⊢
  have HX := hide hx
  have c1 : w.cell? ⟨b, 1, none⟩ = some (.map (some b1)) := (heapCells hx).1 1
  have hget := numM_get hD name
  have hbw : b < w.heap.size := (Array.getElem?_eq_some_iff.1 hx).1
  have hgsw : gs < w.heap.size := (hS.lt (k := gs) rfl).2
  clear hlv hD hnb hgood hnd hkn hns hys hM hS hO ih hnL
  cases ha : objAt L name with
  | none =>
    have HR : Hid (visD L (g + 1) name o opn = .inl (12, name)) := hide (by unfold visD; rw [ha])
    rw [ha] at hget
    have HGet := hide hget
    clear hget hx
    go_enter Tryz.func58, Tryz.ntmps58
    go_wp2_with (at_lookup; refine wpList_look_none sM_ok rfl _ _ rfl b1 (numM L) name rfl rfl HM.out HGet.out ?_)
    go_ret
    refine ⟨Fn.refl _ _ _ _, ?_⟩
    rw [HR.out]
    rfl
  | some k =>
    obtain ⟨hkL, hmod⟩ := objAt_lt ha
    have hk : k < nL := by rw [← HNL.out]; exact hkL
    have hst := HS.out.one_at zOk (k := k) (by rw [stOf_len]; exact hkL)
    obtain ⟨g', c', e', -, -, -, hst⟩ := hst
    rw [stOf_len] at e'
    cases e'
    have hst0 := hst 0 (by decide)
    rw [stOf_at, stAt_in hkL, hmod] at hst0
    have cS : w.cell? ⟨gs, k, none⟩ = some (.int .i64 (if o.contains k = true then 2 else if (firstAt (fun z => eqS z name) opn).isSome = true then 1 else 0)) := by simpa [zK] using hst0
    have fS := HS.out.still k
    have c2 : w.cell? ⟨b, 2, none⟩ = some (.slice (some ⟨gs, 0, none⟩) nL nL) := (heapCells hx).1 2
    rw [ha] at hget
    have HGet := hide (show sM.get (numM L) name = some (k : Int) from hget)
    have HMod := hide hmod
    clear hget hst hst0 hmod hx
    by_cases hc : o.contains k = true
    · have HR : Hid (visD L (g + 1) name o opn = .inr o) := hide (by unfold visD; rw [ha]; simp only []; rw [if_pos hc])
      rw [if_pos hc] at cS
      clear hc
      go_enter Tryz.func58, Tryz.ntmps58
      go_wp2_with (at_lookup; refine wpList_look_some sM_ok rfl _ _ rfl b1 (numM L) name rfl rfl HM.out k HGet.out ?_)
      go_ret
      refine ⟨Fn.refl _ _ _ _, ?_⟩
      rw [HR.out]
      exact ⟨rfl, by have := HNS.out; rw [HNL.out] at this; exact this⟩
    · have hnm : k ∉ o := by simpa using hc
      rw [if_neg hc] at cS
      cases hop : firstAt (fun z => eqS z name) opn with
      | some q =>
        have HR : Hid (visD L (g + 1) name o opn = .inl (18, name)) := hide (by unfold visD; rw [ha]; simp only []; rw [if_neg hc, hop]; rfl)
        rw [hop, if_pos (show (some q).isSome = true from rfl)] at cS
        clear hc
        go_enter Tryz.func58, Tryz.ntmps58
        go_wp2_with (at_lookup; refine wpList_look_some sM_ok rfl _ _ rfl b1 (numM L) name rfl rfl HM.out k HGet.out ?_)
        go_ret
        refine ⟨Fn.refl _ _ _ _, ?_⟩
        rw [HR.out]
        rfl
      | none =>
        have hR : visD L (g + 1) name o opn = endD k (needsD L (fun s o' => visD L g s o' (opn ++ [name])) name ((L[k]?).elim [] (·.needs)) o) := by
          conv => lhs; unfold visD
          rw [ha]
          simp only []
          rw [if_neg hc, hop]
          rfl
        have HR := hide hR
        have hno' : ∀ z ∈ opn, z ≠ name := fun z hz => eqS_no.1 (firstAt_no hop z hz)
        have HNo' := hide hno'
        rw [hop, if_neg (show ¬ (none : Option Nat).isSome = true by decide)] at cS
        clear hR hno' hc hop
        go_enter Tryz.func58, Tryz.ntmps58
        go_upto_region 10 with (at_lookup; refine wpList_look_some sM_ok rfl _ _ rfl b1 (numM L) name rfl rfl HM.out k HGet.out ?_)
        obtain ⟨wS, hwS⟩ : ∃ wS, w.setCell ⟨gs, k, none⟩ (.int .i64 1) = wS := ⟨_, rfl⟩
        have hgb : gs ≠ b := fun e => by
          have := HS.out.ty (k := gs) rfl
          rw [e, HX.out] at this
          obtain ⟨C, hC⟩ := this
          have := congrArg (fun o : Option Obj => match o with | some (.cells _ T _) => T | _ => 0) hC
          simp [zK] at this
        have hoS : ∀ j, j ≠ gs → wS.heap[j]? = w.heap[j]? := fun j hj => by rw [← hwS]; exact Below.heap_setCell _ _ _ _ hj
        have hSS : FRow zK wS B (.slice (some ⟨gs, 0, none⟩) L.length L.length) (stOf L o (opn ++ [name])) := by
          rw [← HMod.out, st_open HD.out hkL hnm, ← hwS]
          have := FRow.setAt zOk HS.out (i := k) (by rw [stOf_len]; exact hkL) 1
          simpa [setRow, zK] using this
        have hxS := (hoS b (Ne.symm hgb)).trans HX.out
        have hnsS : NS wS b B b1 gs (.slice a L.length cp) ys L V o (opn ++ [name]) := by
          refine ⟨kv, x4, x5, x6, x7, HYs.out, by rw [HNL.out]; exact hxS, HM.out.on (hoS _ h1g), hSS, HO.out.of_heap fun j _ _ ⟨C, hC⟩ => hoS j fun e => ?_⟩
          obtain ⟨C', hC'⟩ := HS.out.ty (k := gs) rfl
          rw [e, hC'] at hC
          have := congrArg (fun o : Option Obj => match o with | some (.cells _ T _) => T | _ => 0) hC
          simp [objK, zK] at this
        have hfS : Fn b B gs w wS := by rw [← hwS]; exact Fn.setS _ _ _ _ _ _
        have hbWS : B ≤ wS.heap.size := by have := hfS.size; omega
        have hlvS := HLV.out.on (hfS.old hBb hBg (by omega) hhB)
        obtain ⟨gb, of, rfl, g1, g2, g3⟩ := hlvS.row k hkL
        rw [HNL.out] at g1
        have hval := hlvS.val k hkL
        have hdat := hlvS.data k hkL
        obtain ⟨a2, n2c, a3, n3c, a4, n4c, p2, p3, p4⟩ := hval.form
        have d2 : wS.cell? ⟨gb, of + k * 5 + 2, none⟩ = some (V k).u2 := g3 2 (by decide)
        have z0 : wS.cell? ⟨b, 0, none⟩ = some (.slice (some ⟨gb, of, none⟩) nL cp) := (heapCells hxS).1 0
        rw [p2] at d2
        obtain ⟨ns, hns⟩ : ∃ ns, L[k].needs = ns := ⟨_, rfl⟩
        obtain ⟨nn, hnn⟩ : ∃ nn, ns.length = nn := ⟨_, rfl⟩
        have hnn1 : nn ≤ 1000 := by rw [← hnn, ← hns]; exact HNb.out _ (List.getElem_mem hkL)
        have hlk : L[k]? = some L[k] := List.getElem?_eq_getElem hkL
        obtain ⟨R, hRR⟩ : ∃ R, needsD L (fun s o' => visD L g s o' (opn ++ [name])) name ns o = R := ⟨_, rfl⟩
        have HFin : Hid (visD L (g + 1) name o opn = endD k R) := hide (by
          rw [HR.out, hlk]
          show endD k (needsD L _ name (L[k].needs) o) = _
          rw [hns, hRR])
        have hgood1 : Good L o (opn ++ [name]) := ⟨HGood.out.1, fun z hz j hj => by
          rcases List.mem_append.1 hz with hz | hz
          · exact HGood.out.2 z hz j hj
          · rw [List.mem_singleton] at hz
            rw [hz, ha] at hj
            cases hj
            exact hnm⟩
        have HNd1 : Hid ((opn ++ [name]).Nodup) := hide (by
          rw [List.nodup_append]
          exact ⟨HNd.out, by simp, fun x hx y hy => by rw [List.mem_singleton] at hy; rw [hy]; exact HNo'.out x hx⟩)
        have HKn1 : Hid (∀ z ∈ opn ++ [name], (objAt L z).isSome = true) := hide fun z hz => by
          rcases List.mem_append.1 hz with hz | hz
          · exact HKn.out z hz
          · rw [List.mem_singleton] at hz
            rw [hz, ha]
            rfl
        have HGg : Hid ((opn ++ [name]).length + g = nL + 1) := hide (by rw [List.length_append, List.length_singleton]; omega)
        have HlS := hide hnsS
        have HLVS := hide hlvS
        have HRR := hide hRR
        have HG1 := hide hgood1
        have HfS := hide hfS
        have HVal := hide hval
        have HDat := hide hdat
        have HNs := hide hns
        have HNn := hide hnn
        have hxn : (V k).x.needs = ns := by rw [hdat, hns]
        have HXn := hide hxn
        have HP2 : Hid ((V k).u2 = .slice a2 ns.length n2c) := hide (by rw [p2, hxn])
        rw [hxn, hnn] at d2
        rw [hwS]
        clear hlvS hnsS hfS hgood1 hRR hlk hval hdat hns hnn hxn p2 p3 p4 g3 c1 c2 cS fS HS HM HO HX hxS hoS hSS hwS hnm HNS HLV
        go_upto_region 11 with fail
        clear d2 z0
        go_loopw [53] (fun i wr => ∃ j : Nat, i = .int .i64 j ∧ j ≤ nn ∧ Hid (Fn b B gs wS wr) ∧ ∃ q : List Nat, Hid (NS wr b B b1 gs (.slice (some ⟨gb, of, none⟩) L.length cp) ys L V q (opn ++ [name])) ∧ Hid (Good L q (opn ++ [name]) ∧ needsD L (fun s o' => visD L g s o' (opn ++ [name])) name (ns.drop j) q = R)) (fun i _ => nn - (intOf i).toNat)
        case atStart => exact ⟨0, rfl, by omega, hide (Fn.refl _ _ _ _), o, HlS, hide ⟨HG1.out, HRR.out⟩⟩
        case round =>
          obtain ⟨j, rfl, hj, Hf, q, Hns, Hst⟩ := hrel
          obtain ⟨w8, rfl⟩ : ∃ w8, w8 = wr := ⟨_, rfl⟩
          have hs8 : B ≤ w8.heap.size := by have := Hf.out.size; omega
          have HLV8 := hide (HLVS.out.on (Hf.out.old hBb hBg hbWS hhB))
          by_cases hp : j < nn
          · have i1 : (j : Int) < nn := by omega
            have hjn : j < ns.length := by rw [HNn.out]; exact hp
            obtain ⟨m, hm, s2, -, -⟩ := HLV8.out.val k hkL
            rw [HXn.out] at s2
            obtain ⟨na, nc, e2, hrn⟩ := s2
            rw [HP2.out] at e2
            cases e2
            obtain ⟨nb, nq, rfl, r1, r2, -, ⟨z0, z1⟩, -⟩ := hrn j hjn
            rw [HNn.out] at r1
            simp only [Nat.add_zero] at z0 z1
            have HND := hide Hst.out.2
            have HGq := hide Hst.out.1
            obtain ⟨nd, hnde⟩ : ∃ nd, ns[j] = nd := ⟨_, rfl⟩
            have hdj : ns.drop j = nd :: ns.drop (j + 1) := by rw [List.drop_eq_getElem_cons hjn, hnde]
            rw [hnde] at z0 z1
            rw [hdj] at HND
            clear hrn hnde Hst hdj
            obtain ⟨md, pr⟩ := nd
            simp only [] at z0 z1
            obtain ⟨wv, hwv⟩ : ∃ wv, wv = w8.alloc (.cells #[.string md, .int .i64 pr] 80) := ⟨_, rfl⟩
            have bv : Below w8.heap.size w8 wv := by rw [hwv]; exact (Below.refl _ _).alloc (Nat.le_refl _) _
            have HBox : Hid (wv.heap[w8.heap.size]? = some (.cells #[.string md, .int .i64 pr] 80 (0, 0))) := hide (by rw [hwv]; exact Deep.blk_alloc_new w8 _)
            have hbx := HBox.out
            have hv := HIH.out md q (opn ++ [name]) wv (HLV8.out.on (bv.mono (by omega))) hhB hBb hBg h1g (by rw [HNL.out]; exact hL) HD.out HNb.out (Hns.out.below bv) HGq.out HNd1.out HKn1.out (by rw [HNL.out]; exact HGg.out)
            have HV := hide hv
            have HBv := hide bv
            have y0 : wv.cell? ⟨w8.heap.size, 0, none⟩ = some (.string md) := (heapCells hbx).1 0
            clear hv bv hbx
            go_upto_region 13 with fail
            rw [← hwv]
            clear hwv
            have hzv : w8.heap.size < wv.heap.size := (Array.getElem?_eq_some_iff.1 HBox.out).1
            cases hvis : visD L g md q (opn ++ [name]) with
            | inl ct =>
              obtain ⟨c1, t1⟩ := ct
              have hRl : R = .inl (c1, t1) := by
                have := HND.out
                unfold needsD at this
                simp only [] at this
                rw [hvis] at this
                exact this.symm
              have HRl := hide hRl
              rw [hvis] at HV
              clear hvis hRl z0 z1
              go_wp2_with (go_at_call 58; refine HV.out.mono ?_; rintro e w4 ⟨f4, rfl⟩)
              go_ret
              refine ⟨HfS.out.trans (Hf.out.trans ((Fn.of_below HBv.out).trans f4)), ?_⟩
              rw [HFin.out, HRl.out]
              rfl
            | inr q1 =>
              cases g with
              | zero =>
                have h1 := HGg.out
                have h2 := open_len HNd1.out HKn1.out
                rw [HNL.out] at h2
                omega
              | succ g =>
              obtain ⟨j1, hj1⟩ := vis_known hvis
              obtain ⟨hj1L, -⟩ := objAt_lt hj1
              have HGq1 := hide (vis_good HGq.out hvis)
              have hND : (if ((objAt L md).bind fun k => L[k]?).map (·.print) = some pr then needsD L (fun s o' => visD L (g + 1) s o' (opn ++ [name])) name (ns.drop (j + 1)) q1 else .inl (17, name)) = R := by
                have := HND.out
                unfold needsD at this
                simp only [] at this
                rw [hvis] at this
                exact this
              rw [hj1] at hND
              simp only [Option.bind_some, List.getElem?_eq_getElem hj1L, Option.map_some, Option.some.injEq] at hND
              have HND1 := hide hND
              have HGet1 : Hid (sM.get (numM L) md = some (j1 : Int)) := hide (by rw [numM_get HD.out, hj1]; rfl)
              rw [hvis] at HV
              clear hvis hND z0 z1
              go_upto_region 16 with (go_at_call 58; refine HV.out.mono ?_; rintro e w4 ⟨f4, rfl, hns4⟩)
              clear y0
              have h4s : wv.heap.size ≤ w4.heap.size := f4.size
              have f48 := (Fn.of_below HBv.out).trans f4
              have HLV4 := hide (HLV8.out.on (f48.old hBb hBg hs8 hhB))
              have hgs8 : gs < w8.heap.size := by have h1 := Hf.out.size; have h2 := HfS.out.size; omega
              have hb8 : b < w8.heap.size := by have h1 := Hf.out.size; have h2 := HfS.out.size; omega
              have hbox4 := (f4.block w8.heap.size hzv (by omega) (by omega) (.inr fun C fr e => by rw [HBox.out] at e; cases e)).trans HBox.out
              have y0 : w4.cell? ⟨w8.heap.size, 0, none⟩ = some (.string md) := (heapCells hbox4).1 0
              have y1 : w4.cell? ⟨w8.heap.size, 1, none⟩ = some (.int .i64 pr) := (heapCells hbox4).1 1
              have HF4 := hide (Hf.out.trans f48)
              have HNS4 := hide hns4
              obtain ⟨kv4, t4, t5, t6, t7, hys4, hx4, hM4, -, -⟩ := hns4
              rw [HNL.out] at hx4
              have z0 : w4.cell? ⟨b, 0, none⟩ = some (.slice (some ⟨gb, of, none⟩) nL cp) := (heapCells hx4).1 0
              have z1 : w4.cell? ⟨b, 1, none⟩ = some (.map (some b1)) := (heapCells hx4).1 1
              have hlk : ∀ q', (Instr.lookup 98 (.map (some b1)) (.string md) false).run Tryz.prog (w4.drewN q') = .ok (.int .i64 (j1 : Int)) (w4.drewN q') := fun q' => by
                have := GM.look1 sM_ok (hM4.on (w' := w4.drewN q') rfl) md
                rw [HGet1.out] at this
                exact this
              obtain ⟨gb', of', e, g1', -, g3⟩ := HLV4.out.row j1 hj1L
              cases e
              have hd1 := HLV4.out.data j1 hj1L
              have x1 : w4.cell? ⟨gb, of + j1 * 5 + 1, none⟩ = some (.int .i64 L[j1].print) := by rw [← hd1]; exact g3 1 (by decide)
              have hj1n : j1 < nL := by rw [← HNL.out]; exact hj1L
              have i2 : (j1 : Int) < nL := by omega
              obtain ⟨pj, hpj⟩ : ∃ pj, L[j1].print = pj := ⟨_, rfl⟩
              have HPj := hide hpj
              rw [hpj] at x1
              clear hbox4 f4 f48 hys4 hx4 hM4 g3 hd1 hpj g1'
              by_cases hpp : pj = pr
              · subst hpp
                have hRn : needsD L (fun s o' => visD L (g + 1) s o' (opn ++ [name])) name (ns.drop (j + 1)) q1 = R := by
                  have := HND1.out
                  rwa [HPj.out, if_pos rfl] at this
                have HRn := hide hRn
                clear hRn
                go_quiet (fail)
                go_wp2
                go_roundw
                case rel => exact ⟨j + 1, by go_num, by omega, hide (HF4.out.trans ⟨rfl, rfl, rfl, Nat.le_refl _, fun _ _ _ _ _ => rfl⟩), q1, hide (HNS4.out.on_heap rfl), hide ⟨HGq1.out, HRn.out⟩⟩
                case measure => simp [intOf]; omega
              · have hRn : R = .inl (17, name) := by
                  have := HND1.out
                  rw [HPj.out, if_neg hpp] at this
                  exact this.symm
                have HRn := hide hRn
                clear hRn
                go_quiet (fail)
                go_wp2
                go_ret
                refine ⟨HfS.out.trans (HF4.out.trans ⟨rfl, rfl, rfl, Nat.le_refl _, fun _ _ _ _ _ => rfl⟩), ?_⟩
                rw [HFin.out, HRn.out]
                rfl
          · have i1 : ¬ (j : Int) < nn := by omega
            obtain rfl : j = nn := by omega
            have hRq : R = .inr q := by
              have := Hst.out.2
              rw [List.drop_of_length_le (by rw [HNn.out]; exact Nat.le_refl _)] at this
              exact this.symm
            have HRq := hide hRq
            have HGq := hide Hst.out.1
            have hkq : k ∉ q := HGq.out.2 name (by simp) k ha
            have hql := HGq.out.1.len
            rw [HNL.out] at hql
            obtain ⟨kv8, t4, t5, t6, t7, hys8, hx8, hM8, hS8, hO8⟩ := Hns.out
            obtain ⟨ka, kc, rfl⟩ := hO8.form
            have hS8k := hS8.still k
            have hgs8 : gs < w8.heap.size := by have h1 := Hf.out.size; have h2 := HfS.out.size; omega
            have hb8 : b < w8.heap.size := by have h1 := Hf.out.size; have h2 := HfS.out.size; omega
            have hS8c := hS8.one_at zOk (k := k) (by rw [stOf_len]; exact hkL)
            obtain ⟨g', c', e', -, -, -, hst⟩ := hS8c
            rw [stOf_len] at e'
            cases e'
            have cS : w8.cell? ⟨gs, k, none⟩ = some (.int .i64 ((stOf L q (opn ++ [name]))[k]'(by rw [stOf_len]; exact hkL))) := by
              have := hst 0 (by decide)
              simpa [zK] using this
            generalize (stOf L q (opn ++ [name]))[k]'(by rw [stOf_len]; exact hkL) = stk at cS
            obtain ⟨nq, hnq⟩ : ∃ nq, (q.map V).length = nq := ⟨_, rfl⟩
            have HNq := hide hnq
            rw [hnq, HNL.out] at hx8
            have c2 : w8.cell? ⟨b, 2, none⟩ = some (.slice (some ⟨gs, 0, none⟩) nL nL) := (heapCells hx8).1 2
            have HX8 := hide hx8
            have HS8 := hide hS8
            have HO8 := hide hO8
            have HM8 := hide hM8
            have HYs8 := hide hys8
            have hnq1 : nq ≤ 1000 := by rw [← hnq, List.length_map]; omega
            clear hst hx8 hS8 hO8 hM8 hys8 hnq hRq Hst
            go_upto_region 20 with fail
            obtain ⟨W9, hW9⟩ : ∃ W9, w8.setCell ⟨gs, k, none⟩ (.int .i64 2) = W9 := ⟨_, rfl⟩
            have hoS : ∀ j, j ≠ gs → W9.heap[j]? = w8.heap[j]? := fun j hj => by rw [← hW9]; exact Below.heap_setCell _ _ _ _ hj
            have hs9 : W9.heap.size = w8.heap.size := by rw [← hW9]; simp [World.setCell]
            have hSS : FRow zK W9 B (.slice (some ⟨gs, 0, none⟩) L.length L.length) (stOf L (q ++ [k]) opn) := by
              rw [st_done HD.out hkL, HMod.out, ← hW9]
              have := FRow.setAt zOk HS8.out (i := k) (by rw [stOf_len]; exact hkL) 2
              simpa [setRow, zK] using this
            have hx9 := (hoS b (Ne.symm hgb)).trans HX8.out
            have hO9 : FRow objK W9 B (.slice ka nq kc) (q.map V) := by
              rw [← HNq.out]
              refine HO8.out.of_heap fun j _ _ ⟨C, hC⟩ => hoS j fun e => ?_
              obtain ⟨C', hC'⟩ := HS8.out.ty (k := gs) rfl
              rw [e, hC'] at hC
              have := congrArg (fun o : Option Obj => match o with | some (.cells _ T _) => T | _ => 0) hC
              simp [objK, zK] at this
            have hM9 := HM8.out.on (hoS _ h1g)
            have hf9 : Fn b B gs w8 W9 := by rw [← hW9]; exact Fn.setS _ _ _ _ _ _
            have HF9 := hide (Hf.out.trans hf9)
            have hs9B : B ≤ W9.heap.size := by omega
            have hb9 : b < W9.heap.size := by omega
            have hg9 : gb < W9.heap.size := by omega
            have HLV9 := hide (HLV8.out.on (hf9.old hBb hBg hs8 hhB))
            obtain ⟨gb', of', e, -, -, g3⟩ := HLV9.out.row k hkL
            cases e
            obtain ⟨a2', c2', a3', c3', a4', c4', p2, p3, p4⟩ := (HLV9.out.val k hkL).form
            have d0 : W9.cell? ⟨gb, of + k * 5, none⟩ = some (.string (V k).x.module) := g3 0 (by decide)
            have d1 : W9.cell? ⟨gb, of + k * 5 + 1, none⟩ = some (.int .i64 (V k).x.print) := g3 1 (by decide)
            have d2 : W9.cell? ⟨gb, of + k * 5 + 2, none⟩ = some (V k).u2 := g3 2 (by decide)
            have d3 : W9.cell? ⟨gb, of + k * 5 + 3, none⟩ = some (V k).u3 := g3 3 (by decide)
            have d4 : W9.cell? ⟨gb, of + k * 5 + 4, none⟩ = some (V k).u4 := g3 4 (by decide)
            have hcsV : objK.cs (V k) = [.string (V k).x.module, .int .i64 (V k).x.print, (V k).u2, (V k).u3, (V k).u4] := rfl
            rw [p2] at d2 hcsV
            rw [p3] at d3 hcsV
            rw [p4] at d4 hcsV
            generalize (V k).x.module = mo at *
            generalize (V k).x.print = pr at *
            generalize (V k).x.needs.length = l2 at *
            generalize (V k).x.globals.length = l3 at *
            generalize (V k).x.procs.length = l4 at *
            have HCs := hide hcsV
            have c3 : W9.cell? ⟨b, 3, none⟩ = some (.slice ka nq kc) := (heapCells hx9).1 3
            have c0 : W9.cell? ⟨b, 0, none⟩ = some (.slice (some ⟨gb, of, none⟩) nL cp) := (heapCells hx9).1 0
            have HX9 := hide hx9
            have HO9 := hide hO9
            have HSS := hide hSS
            have HM9 := hide hM9
            rw [hW9]
            clear hs9 hcsV p2 p3 p4 g3 hx9 hO9 hSS hM9 hf9 hoS hW9 cS c2 HS8 HO8 HM8 HX8 hS8k
            refine wp_region_z (S := fun w' => ∀ k o, k = b ∨ k = gb → w'.cell? ⟨k, o, none⟩ = W9.cell? ⟨k, o, none⟩) 16 (by kernel_rfl) (fun k o _ => rfl) (fun hHeld => ?_)
            refine wpAnyZ_take (i := 0) (v := ?_) rfl (by kernel_rfl) (by kernel_rfl) (by kernel_rfl) (by kernel_rfl) (fun _ _ _ h => h) (by rfl) ?_ hHeld ?_
            rotate_left
            · intro wS hSw
              go_simp
              rfl
            simp only [Act.put, List.setIfInBounds_toArray, List.set_cons_zero, List.set_cons_succ, List.getElem_toArray, List.getElem_cons_zero]
            refine wpAnyZ_take (i := 1) (v := ?_) rfl (by kernel_rfl) (by kernel_rfl) (by kernel_rfl) (by kernel_rfl) (fun _ _ _ h => h) (by rfl) ?_ hHeld ?_
            rotate_left
            · intro wS hSw
              go_simp
              rfl
            simp only [Act.put, List.setIfInBounds_toArray, List.set_cons_zero, List.set_cons_succ, List.getElem_toArray, List.getElem_cons_zero, List.getElem_cons_succ]
            refine wpAnyZ_take (i := 2) (v := ?_) rfl (by kernel_rfl) (by kernel_rfl) (by kernel_rfl) (by kernel_rfl) (fun _ _ _ h => h) (by rfl) ?_ hHeld ?_
            rotate_left
            · intro wS hSw
              go_simp
              rfl
            simp only [Act.put, List.setIfInBounds_toArray, List.set_cons_zero, List.set_cons_succ, List.getElem_toArray, List.getElem_cons_zero, List.getElem_cons_succ]
            refine wpAnyZ_take (i := 3) (v := ?_) rfl (by kernel_rfl) (by kernel_rfl) (by kernel_rfl) (by kernel_rfl) (fun _ _ _ h => h) (by rfl) ?_ hHeld ?_
            rotate_left
            · intro wS hSw
              go_simp
              rfl
            simp only [Act.put, List.setIfInBounds_toArray, List.set_cons_zero, List.set_cons_succ, List.getElem_toArray, List.getElem_cons_zero, List.getElem_cons_succ]
            refine wpAnyZ_take (i := 4) (v := ?_) rfl (by kernel_rfl) (by kernel_rfl) (by kernel_rfl) (by kernel_rfl) (fun _ _ _ h => h) (by rfl) ?_ hHeld ?_
            rotate_left
            · intro wS hSw
              have s0 := (hSw b 3 (.inl rfl)).trans c3
              go_simp
              rfl
            simp only [Act.put, List.setIfInBounds_toArray, List.set_cons_zero, List.set_cons_succ, List.getElem_toArray, List.getElem_cons_zero, List.getElem_cons_succ]
            refine wpAnyZ_take (i := 5) (v := ?_) rfl (by kernel_rfl) (by kernel_rfl) (by kernel_rfl) (by kernel_rfl) (fun _ _ _ h => h) (by rfl) ?_ hHeld ?_
            rotate_left
            · intro wS hSw
              go_simp
              rfl
            simp only [Act.put, List.setIfInBounds_toArray, List.set_cons_zero, List.set_cons_succ, List.getElem_toArray, List.getElem_cons_zero, List.getElem_cons_succ]
            refine wpAnyZ_take (i := 6) (v := ?_) rfl (by kernel_rfl) (by kernel_rfl) (by kernel_rfl) (by kernel_rfl) (fun _ _ _ h => h) (by rfl) ?_ hHeld ?_
            rotate_left
            · intro wS hSw
              go_simp
              rfl
            simp only [Act.put, List.setIfInBounds_toArray, List.set_cons_zero, List.set_cons_succ, List.getElem_toArray, List.getElem_cons_zero, List.getElem_cons_succ]
            refine wpAnyZ_take (i := 7) (v := ?_) rfl (by kernel_rfl) (by kernel_rfl) (by kernel_rfl) (by kernel_rfl) (fun _ _ _ h => h) (by rfl) ?_ hHeld ?_
            rotate_left
            · intro wS hSw
              go_simp
              rfl
            simp only [Act.put, List.setIfInBounds_toArray, List.set_cons_zero, List.set_cons_succ, List.getElem_toArray, List.getElem_cons_zero, List.getElem_cons_succ]
            refine wpAnyZ_take (i := 8) (v := ?_) rfl (by kernel_rfl) (by kernel_rfl) (by kernel_rfl) (by kernel_rfl) (fun _ _ _ h => h) (by rfl) ?_ hHeld ?_
            rotate_left
            · intro wS hSw
              have s0 := (hSw b 0 (.inl rfl)).trans c0
              go_simp
              rfl
            simp only [Act.put, List.setIfInBounds_toArray, List.set_cons_zero, List.set_cons_succ, List.getElem_toArray, List.getElem_cons_zero, List.getElem_cons_succ]
            refine wpAnyZ_take (i := 9) (v := ?_) rfl (by kernel_rfl) (by kernel_rfl) (by kernel_rfl) (by kernel_rfl) (fun _ _ _ h => h) (by rfl) ?_ hHeld ?_
            rotate_left
            · intro wS hSw
              go_simp
              rfl
            simp only [Act.put, List.setIfInBounds_toArray, List.set_cons_zero, List.set_cons_succ, List.getElem_toArray, List.getElem_cons_zero, List.getElem_cons_succ]
            refine wpAnyZ_take (i := 10) (v := ?_) rfl (by kernel_rfl) (by kernel_rfl) (by kernel_rfl) (by kernel_rfl) (fun _ _ _ h => h) (by rfl) ?_ hHeld ?_
            rotate_left
            · intro wS hSw
              go_simp
              rfl
            simp only [Act.put, List.setIfInBounds_toArray, List.set_cons_zero, List.set_cons_succ, List.getElem_toArray, List.getElem_cons_zero, List.getElem_cons_succ]
            refine wpAnyZ_take (i := 11) (v := ?_) rfl (by kernel_rfl) (by kernel_rfl) (by kernel_rfl) (by kernel_rfl) (fun _ _ _ h => h) (by rfl) ?_ hHeld ?_
            rotate_left
            · intro wS hSw
              have s0 := (hSw gb _ (.inr rfl)).trans d0; have s1 := (hSw gb _ (.inr rfl)).trans d1; have s2 := (hSw gb _ (.inr rfl)).trans d2; have s3 := (hSw gb _ (.inr rfl)).trans d3; have s4 := (hSw gb _ (.inr rfl)).trans d4
              go_simp
              rfl
            simp only [Act.put, List.setIfInBounds_toArray, List.set_cons_zero, List.set_cons_succ, List.getElem_toArray, List.getElem_cons_zero, List.getElem_cons_succ]
            refine wpAnyZ_one (i := 12) (by kernel_rfl) rfl (fun K hK => ?_)
            go_simp
            obtain ⟨W10, hW10⟩ : ∃ W10, W9.alloc (.cells #[.string mo, .int .i64 pr, .slice a2' l2 c2', .slice a3' l3 c3', .slice a4' l4 c4'] 48) = W10 := ⟨_, rfl⟩
            have b10 : Below W9.heap.size W9 W10 := by rw [← hW10]; exact (Below.refl _ _).alloc (Nat.le_refl _) _
            have hnew := flat_new objK W9 (V k) #[.string mo, .int .i64 pr, .slice a2' l2 c2', .slice a3' l3 c3', .slice a4' l4 c4'] 48 HCs.out.symm (b := W9.heap.size) rfl
            rw [hW10] at hnew
            rw [hW10]
            have hS10 : ∀ k o, k = b ∨ k = gb → W10.drew.cell? ⟨k, o, none⟩ = W9.cell? ⟨k, o, none⟩ := fun k o hk => b10.cell (p := ⟨k, o, none⟩) (by show k < W9.heap.size; rcases hk with e | e <;> omega)
            refine hK.out _ _ hS10 (fun hHeld => ?_)
            clear hK K
            try simp only [Act.put, List.setIfInBounds_toArray, List.set_cons_zero, List.set_cons_succ]
            refine wpAnyZ_one (i := 13) (by kernel_rfl) rfl (fun K hK => ?_)
            have HO10 := hide (HO9.out.on b10)
            refine step_flat objOk (by rfl) (.tmp 95) (.tmp 103) (by rfl) B (.slice ka nq kc) (q.map V) (by rfl) (HO10.out.of_heap fun _ _ _ _ => rfl) W9.heap.size (V k) (by rfl) hnew (by rw [HCs.out]; intro u hu; simp at hu; rcases hu with rfl | rfl | rfl | rfl | rfl <;> rfl) (by rw [List.length_map]; omega) (by show B ≤ W10.heap.size; have := b10.size; omega) ?_
            intro g6 c6 w5 h5 g5
            have hoX : ∀ j, j < W9.heap.size → OffO B W9 j → w5.heap[j]? = W9.heap[j]? := fun j hj ho => by
              refine (g5.block j (by show j < W10.heap.size; have := b10.size; omega) (fun e => ?_)).trans (b10.block j hj)
              rcases ho with ho | ho
              · exact absurd e (HO9.out.far ho)
              · obtain ⟨C, hC⟩ := HO9.out.ty e.symm
                exact ho C _ hC
            have hx5 := (hoX b hb9 (.inr fun C fr e => by rw [HX9.out] at e; cases e)).trans HX9.out
            have hg5 := hoX gb hg9 (.inl (by omega))
            have w3' : w5.cell? ⟨b, 3, none⟩ = some (.slice ka nq kc) := (heapCells hx5).1 3
            have wf' := (heapCells hx5).2 3
            have hS5 : ∀ k o, k = b ∨ k = gb → w5.cell? ⟨k, o, none⟩ = W9.cell? ⟨k, o, none⟩ := by
              intro k o hk
              rcases hk with e | e
              · rw [e]; exact World.cell?_of_block (hx5.trans HX9.out.symm)
              · rw [e]; exact World.cell?_of_block hg5
            have HHO := hide hoX
            have HX5 := hide hx5
            have H5 := hide h5
            have hF5 : Fn b B gs W9 w5 := ⟨g5.os.trans b10.os, g5.tape.trans b10.tape, g5.output.trans b10.output, Nat.le_trans b10.size g5.size, fun j hj _ _ ho => hoX j hj ho⟩
            have HF5 := hide hF5
            clear hoX hx5 hg5 g5 h5 hnew hW10 b10 hS10 hF5
            refine hK.out _ _ hS5 (fun hHeld => ?_)
            clear hS5 hK K
            try simp only [Act.put, List.setIfInBounds_toArray]
            refine wpAnyZ_one (i := 14) (by kernel_rfl) rfl (fun K hK => ?_)
            go_simp
            refine hK.out _ _ hHeld (fun hHeld => ?_)
            clear hK K
            try simp only [Act.put, List.setIfInBounds_toArray, List.set_cons_zero, List.set_cons_succ]
            refine wpAnyZ_one (i := 15) (by kernel_rfl) rfl (fun K hK => ?_)
            go_simp
            refine hK.out _ _ hHeld (fun hHeld => ?_)
            clear hK K
            try simp only [Act.put, List.setIfInBounds_toArray, List.set_cons_zero, List.set_cons_succ]
            refine wpAnyZ_last (by kernel_rfl) rfl (by kernel_rfl) (fun K hK => ?_)
            go_simp
            refine hK.out _ _ ?_
            clear hK K hHeld
            go_wp2
            go_ret
            refine ⟨HfS.out.trans (HF9.out.trans (HF5.out.trans (Fn.set _ _ _ _ _ _))), ?_⟩
            rw [HFin.out, HRq.out]
            have e := HYs8.out
            rw [HYs.out] at e
            simp only [List.cons.injEq, and_true] at e
            obtain ⟨rfl, rfl, rfl, rfl⟩ := e
            have hfar : ∀ j, j < W9.heap.size → j ≠ b → OffO B W9 j → (w5.setCell ⟨b, 3, none⟩ (.slice (some ⟨g6, 0, none⟩) (q.length + 1) c6)).heap[j]? = W9.heap[j]? := fun j hj hjb ho => (Below.heap_setCell _ _ _ _ hjb).trans (HHO.out j hj ho)
            have H1 : (w5.setCell ⟨b, 3, none⟩ (.slice (some ⟨g6, 0, none⟩) (q.length + 1) c6)).heap[b]? = some (.cells #[.slice (some ⟨gb, of, none⟩) L.length cp, .map (some b1), .slice (some ⟨gs, 0, none⟩) L.length L.length, .slice (some ⟨g6, 0, none⟩) (q.length + 1) c6, x4, x5, x6, x7] 106 (0, 0)) := by
              rw [HNL.out]
              exact block_set HX5.out _
            have H2 : GM sM (w5.setCell ⟨b, 3, none⟩ (.slice (some ⟨g6, 0, none⟩) (q.length + 1) c6)) b1 (numM L) := by
              obtain ⟨es, cl, hm, -⟩ := id HM9.out
              exact HM9.out.on (hfar b1 HM9.out.lt (fun e => by rw [e, HX9.out] at hm; cases hm) (.inr fun C fr e => by rw [hm] at e; cases e))
            have H3 : FRow zK (w5.setCell ⟨b, 3, none⟩ (.slice (some ⟨g6, 0, none⟩) (q.length + 1) c6)) B (.slice (some ⟨gs, 0, none⟩) L.length L.length) (stOf L (q ++ [k]) opn) :=
              HSS.out.of_heap fun j _ hj ⟨C, hC⟩ => hfar j hj (fun e => by rw [e, HX9.out] at hC; cases hC) (.inr fun C' fr e => by
                rw [hC] at e
                have := congrArg (fun o : Option Obj => match o with | some (.cells _ T _) => T | _ => 0) e
                simp [zK] at this)
            have H4 : FRow objK (w5.setCell ⟨b, 3, none⟩ (.slice (some ⟨g6, 0, none⟩) (q.length + 1) c6)) B (.slice (some ⟨g6, 0, none⟩) (q.length + 1) c6) ((q ++ [k]).map V) := by
              have h5 := H5.out
              rw [List.length_map] at h5
              rw [List.map_append]
              refine h5.of_heap fun j _ hj ⟨C, hC⟩ => Below.heap_setCell _ _ _ _ fun e => ?_
              have h6 := HX5.out
              rw [e] at hC
              change w5.heap[b]? = _ at hC
              rw [h6] at hC
              have := congrArg (fun o : Option Obj => match o with | some (.cells _ T _) => T | _ => 0) hC
              simp [objK] at this
            rw [← HNL.out]
            exact ⟨rfl, .slice (some ⟨g6, 0, none⟩) (q.length + 1) c6, x4, x5, x6, x7, HYs.out, H1, H2, H3, H4⟩
theorem need_any (a : Option Addr) (cp h : Nat) (L : List ObjectD) (V : Nat → OV) (b B b1 gs : Nat) (ys : List Value) : ∀ g, NeedC a cp h L V b B b1 gs ys g
  | 0 => fun name o opn w _ _ _ _ _ _ _ _ _ _ hnd hkn hg => by
    have := open_len hnd hkn
    omega
  | g + 1 => need_step a cp h L V b B b1 gs ys g (need_any a cp h L V b B b1 gs ys g)
end Go.Proofs.YtfbglokjehmgeaaGreatDoor
