/- Linking, the model's walk along needs. No condition. -/
import Derived.Test.YtfbglokjehmgeaaGreatDoorZLkW
namespace Go.Proofs.YtfbglokjehmgeaaGreatDoor
open Go.ChangeShapes Go.WideShapes Go.ChangeAt Go.RowKit Go.Deep

/-- What the walk leaves: the order, or a fault and whose. -/
def VisPost (L : List ObjectD) (b B : Nat) (lv : Value) (opn : List ByteArray) (g : Nat) (R : Res) (w w' : World) : Prop := Fb b B w w' ∧ match R with
  | .inr o => ∃ s, LS w' b B lv o opn 0 s
  | .inl (c, t) => c ≠ 0 ∧ ∃ o, o.length ≤ L.length + g ∧ LS w' b B lv o opn c t
def VisC (a : Option Addr) (cp : Nat) (m : Md) (L : List ObjectD) (b B : Nat) (g : Nat) : Prop := ∀ (name : ByteArray) (o : List Nat) (opn : List ByteArray) (s0 : ByteArray) (w : World),
    SlAt ObjectAt 5 w m (.slice a L.length cp) L → m.hi ≤ b → b < B → B ≤ w.heap.size → L.length ≤ 1000 → LS w b B (.slice a L.length cp) o opn 0 s0 → Good L o opn → opn.Nodup → (∀ z ∈ opn, (objAt L z).isSome = true) → opn.length + g = L.length + 1 →
    Calls Tryz.prog 46 #[.pointer (some ⟨b, 0, none⟩), .string name] w fun e w' => e = .returned (.tuple #[]) ∧ VisPost L b B (.slice a L.length cp) opn g (visD L g name o opn) w w'
theorem LS.cells {w : World} {b B : Nat} {lv : Value} {o : List Nat} {p : List ByteArray} {c : Int} {s : ByteArray} (h : LS w b B lv o p c s) : ∃ ov pv, (w.cell? ⟨b, 0, none⟩ = some lv ∧ w.cell? ⟨b, 1, none⟩ = some ov ∧ w.cell? ⟨b, 2, none⟩ = some pv ∧ w.cell? ⟨b, 3, none⟩ = some (.int .i64 c) ∧ w.cell? ⟨b, 4, none⟩ = some (.string s)) ∧ (∀ j, w.frozen? ⟨b, j, none⟩ = false) ∧ FRow intK w B ov o ∧ FRow strK w B pv p ∧ w.heap[b]? = some (.cells #[lv, ov, pv, .int .i64 c, .string s] 91 (0, 0)) := by
  obtain ⟨ov, pv, hx, ho, hp⟩ := h
  exact ⟨ov, pv, ⟨(heapCells hx).1 0, (heapCells hx).1 1, (heapCells hx).1 2, (heapCells hx).1 3, (heapCells hx).1 4⟩, (heapCells hx).2, ho, hp, hx⟩
set_option maxRecDepth 100000 in
set_option maxHeartbeats 16000000 in
theorem visit_step (a : Option Addr) (cp : Nat) (m : Md) (L : List ObjectD) (b B g : Nat) (ih : VisC a cp m L b B g) : VisC a cp m L b B (g + 1) := by
  intro name o opn s0 w hsl hm hb hB hL hls hgood hnd hkn hg
  have HS := hide hsl
  have HGood := hide hgood
  have HNd := hide hnd
  have HKn := hide hkn
  have hopl := open_len hnd hkn
  obtain ⟨nL, hnL⟩ : ∃ k, L.length = k := ⟨_, rfl⟩
  have HNL := hide hnL
  have HLs := hide hls
  obtain ⟨ov, pv, ⟨c0, c1, c2, c3, c4⟩, hfz, ho, hp, hx⟩ := hls.cells
  have HO := hide ho
  have HP := hide hp
  have HX := hide hx
  have HFz := hide hfz
  have HIdx : Hid (∀ w', SlAt ObjectAt 5 w' m (.slice a nL cp) L → ∀ s, Calls Tryz.prog 15 #[.slice a nL cp, .string s] w' fun e w2 => e = .returned (.int .i64 (idxI (objAt L s))) ∧ w2 = w') := hide fun w' h' s => by
    have := l05Object_any a cp m L s w' (by omega) (by rw [hnL]; exact h')
    rwa [hnL] at this
  obtain ⟨oa, oc, hov⟩ := ho.form
  obtain ⟨pa, pc, hpv⟩ := hp.form
  obtain ⟨no, hno⟩ : ∃ k, o.length = k := ⟨_, rfl⟩
  obtain ⟨np, hnp⟩ : ∃ k, opn.length = k := ⟨_, rfl⟩
  rw [hno] at hov
  rw [hnp] at hpv
  subst hov hpv
  have HNo := hide hno
  have HNp := hide hnp
  rw [hnL] at HS hL c0 HX HLs hg hopl ⊢
  have hgl : np ≤ nL := by rw [← hnp]; exact hopl
  have hol : no ≤ nL := by have := hgood.1.len; omega
  clear hsl hgood hnd hkn hopl hnL hls hfz ho hp hx hno hnp
  cases ha : objAt L name with
  | none =>
    have HR : Hid (visD L (g + 1) name o opn = .inl (12, name)) := hide (by unfold visD; rw [ha])
    have HF := hide (fail_any b B (.slice a nL cp) o opn s0 name 12 w hb HLs.out)
    go_enter Tryz.func46, Tryz.ntmps46
    go_wp2_with fail
    refine (HIdx.out _ HS.out name).mono ?_
    rintro e w1 ⟨rfl, rfl⟩
    rw [ha]
    unfold idxI
    go_wp2_with fail
    refine HF.out.mono ?_
    rintro e w2 ⟨rfl, h2, f2⟩
    have H2 := hide h2
    have F2 := hide f2
    clear h2 f2
    go_wp2
    refine bodyPost_ret (v := .tuple #[]) (results_none (by kernel_rfl) _ _ _) rfl ?_
    refine ⟨rfl, F2.out, ?_⟩
    rw [HR.out]
    exact ⟨by decide, o, by have := HNo.out; have := HNL.out; omega, H2.out⟩
  | some k =>
    obtain ⟨hkL, hmod⟩ := objAt_lt ha
    have hk : k < nL := by rw [← HNL.out]; exact hkL
    have HMod := hide hmod
    have HInt : Hid (∀ i (h : i < o.length), ∃ g', oa = some ⟨g', 0, none⟩ ∧ no ≤ oc ∧ w.cell? ⟨g', i, none⟩ = some (.int .i64 (o[i] : Int))) := hide fun i hi => by
      obtain ⟨g', c', e, q1, q2, q3, hc⟩ := HO.out.one_at intOk hi
      rw [HNo.out] at e q1
      cases e
      have := hc 0 (by decide)
      exact ⟨g', rfl, q1, by simpa [intK] using this⟩
    clear hmod
    by_cases hc : o.contains k = true
    · have HR : Hid (visD L (g + 1) name o opn = .inr o) := hide (by unfold visD; rw [ha]; simp only []; rw [if_pos hc])
      have hmem : k ∈ o := by simpa using hc
      go_enter Tryz.func46, Tryz.ntmps46
      go_wp2_with fail
      refine (HIdx.out _ HS.out name).mono ?_
      rintro e w1 ⟨rfl, rfl⟩
      rw [ha]
      unfold idxI
      have i0 : ¬ (k : Int) < 0 := by omega
      clear hc
      go_wp2
      go_loopw [5] (fun i wr => ∃ j : Nat, i = .int .i64 j ∧ j ≤ no ∧ Hid (∀ i (h : i < o.length), i < j → o[i] ≠ k) ∧ wr = w1) (fun i _ => no - (intOf i).toNat)
      case atStart => exact ⟨0, rfl, by omega, hide (fun i _ hi => absurd hi (by omega)), rfl⟩
      case round =>
        obtain ⟨j, rfl, hj, Hj, rfl⟩ := hrel
        by_cases hp : j < no
        · have i1 : (j : Int) < no := by omega
          have hjo : j < o.length := by rw [HNo.out]; exact hp
          obtain ⟨g', rfl, q1, q2⟩ := HInt.out j hjo
          obtain ⟨y, hy⟩ : ∃ y, o[j] = y := ⟨_, rfl⟩
          have HY := hide hy
          rw [hy] at q2
          clear hy
          by_cases e : y = k
          · subst e
            go_wp2
            refine bodyPost_ret (v := .tuple #[]) (results_none (by kernel_rfl) _ _ _) rfl ?_
            refine ⟨rfl, Fb.refl _ _ _, ?_⟩
            rw [HR.out]
            exact ⟨s0, HLs.out⟩
          · have e' : ¬ (y : Int) = k := by omega
            have HE := hide e
            clear e
            go_wp2
            go_roundw
            case rel =>
              refine ⟨j + 1, by go_num, by omega, hide fun i hi hij => ?_, trivial⟩
              by_cases c : i < j
              · exact Hj.out i hi c
              · obtain rfl : i = j := by omega
                rw [HY.out]
                exact HE.out
            case measure => simp [intOf]; omega
        · obtain ⟨i, hi, e⟩ := List.getElem_of_mem hmem
          exact absurd e (Hj.out i hi (by have := HNo.out; omega))
    · have hnm : k ∉ o := by simpa using hc
      have HPl := hide (l01Idx_any _ opn name B w HP.out (by have := HNp.out; omega))
      cases hop : firstAt (fun z => eqS z name) opn with
      | some q =>
      have HR : Hid (visD L (g + 1) name o opn = .inl (18, name)) := hide (by unfold visD; rw [ha]; simp only []; rw [if_neg hc, hop]; rfl)
      have HF := hide (fail_any b B (.slice a nL cp) o opn s0 name 18 w hb HLs.out)
      rw [hop] at HPl
      go_enter Tryz.func46, Tryz.ntmps46
      go_wp2_with fail
      refine (HIdx.out _ HS.out name).mono ?_
      rintro e w1 ⟨rfl, rfl⟩
      rw [ha]
      unfold idxI
      have i0 : ¬ (k : Int) < 0 := by omega
      clear hc
      go_wp2
      go_loopw [5] (fun i wr => ∃ j : Nat, i = .int .i64 j ∧ j ≤ no ∧ wr = w1) (fun i _ => no - (intOf i).toNat)
      case atStart => exact ⟨0, rfl, by omega, rfl⟩
      case round =>
        obtain ⟨j, rfl, hj, rfl⟩ := hrel
        by_cases hp : j < no
        · have i1 : (j : Int) < no := by omega
          have hjo : j < o.length := by rw [HNo.out]; exact hp
          obtain ⟨g', rfl, q1, q2⟩ := HInt.out j hjo
          have hne : o[j] ≠ k := fun e => hnm (by rw [← e]; exact List.getElem_mem hjo)
          obtain ⟨y, hy⟩ : ∃ y, o[j] = y := ⟨_, rfl⟩
          rw [hy] at q2 hne
          clear hy
          have e' : ¬ (y : Int) = k := by omega
          go_wp2
          go_roundw
          case rel => exact ⟨j + 1, by go_num, by omega, trivial⟩
          case measure => simp [intOf]; omega
        · have i1 : ¬ (j : Int) < no := by omega
          obtain rfl : j = no := by omega
          clear HInt
          have i2 : (0 : Int) ≤ q := by omega
          go_wp2_with fail
          refine HPl.out.mono ?_
          rintro e w2 ⟨rfl, rfl⟩
          unfold idxI
          go_wp2_with fail
          refine HF.out.mono ?_
          rintro e w2 ⟨rfl, h2, f2⟩
          have H2 := hide h2
          have F2 := hide f2
          clear h2 f2
          go_wp2
          refine bodyPost_ret (v := .tuple #[]) (results_none (by kernel_rfl) _ _ _) rfl ?_
          refine ⟨rfl, F2.out, ?_⟩
          rw [HR.out]
          exact ⟨by decide, o, by have := HNo.out; have := HNL.out; omega, H2.out⟩
      | none =>
      have hR : visD L (g + 1) name o opn = endD k (needsD L (fun s o' => visD L g s o' (opn ++ [name])) name ((L[k]?).elim [] (·.needs)) o) := by
        conv => lhs; unfold visD
        rw [ha]
        simp only []
        rw [if_neg hc, hop]
        rfl
      have HR := hide hR
      have hno' : ∀ z ∈ opn, z ≠ name := fun z hz => eqS_no.1 (firstAt_no hop z hz)
      have HNo' := hide hno'
      rw [hop] at HPl
      clear hR hno'
      go_enter Tryz.func46, Tryz.ntmps46
      go_wp2_with fail
      refine (HIdx.out _ HS.out name).mono ?_
      rintro e w1 ⟨rfl, rfl⟩
      rw [ha]
      unfold idxI
      have i0 : ¬ (k : Int) < 0 := by omega
      clear hc
      go_wp2
      go_loopw [5] (fun i wr => ∃ j : Nat, i = .int .i64 j ∧ j ≤ no ∧ wr = w1) (fun i _ => no - (intOf i).toNat)
      case atStart => exact ⟨0, rfl, by omega, rfl⟩
      case round =>
        obtain ⟨j, rfl, hj, rfl⟩ := hrel
        by_cases hp : j < no
        · have i1 : (j : Int) < no := by omega
          have hjo : j < o.length := by rw [HNo.out]; exact hp
          obtain ⟨g', rfl, q1, q2⟩ := HInt.out j hjo
          have hne : o[j] ≠ k := fun e => hnm (by rw [← e]; exact List.getElem_mem hjo)
          obtain ⟨y, hy⟩ : ∃ y, o[j] = y := ⟨_, rfl⟩
          rw [hy] at q2 hne
          clear hy
          have e' : ¬ (y : Int) = k := by omega
          go_wp2
          go_roundw
          case rel => exact ⟨j + 1, by go_num, by omega, trivial⟩
          case measure => simp [intOf]; omega
        · have i1 : ¬ (j : Int) < no := by omega
          obtain rfl : j = no := by omega
          clear HInt
          go_wp2_with fail
          refine HPl.out.mono ?_
          rintro e w2 ⟨rfl, rfl⟩
          unfold idxI
          obtain ⟨W, hW⟩ : ∃ W, W = w2.alloc (.cells #[.string name] 9) := ⟨_, rfl⟩
          have bW : Below w2.heap.size w2 W := by rw [hW]; exact (Below.refl _ _).alloc (Nat.le_refl _) _
          have HPw := hide (HP.out.on bW)
          have hNew := flat_new strK w2 name #[.string name] 9 rfl (b := w2.heap.size) rfl
          rw [← hW] at hNew
          have HNew := hide hNew
          have HLen : Hid (opn.length ≤ 100000000) := hide (by have := HNp.out; omega)
          have HXw := hide ((bW.block b (by omega)).trans HX.out)
          have HOw := hide (HO.out.on bW)
          have hWs : B ≤ W.heap.size := Nat.le_trans hB bW.size
          have HbW := hide bW
          have hbW : b < W.heap.size := Nat.lt_of_lt_of_le hb hWs
          have HPw' := HPw
          have hWs' := hWs
          rw [hW] at HNew HPw hWs
          clear hNew bW
          go_wp2_with (at_builtin
                       refine wp_append_flat strOk rfl _ _ rfl B (.slice pa np pc) opn rfl HPw.out w2.heap.size name rfl HNew.out (by intro z hz; simp [strK] at hz; subst hz; rfl) HLen.out hWs ?_
                       rw [← hW]
                       intro v' w10 hr10 g10
                       have hfarp := HP.out.far hb
                       have hx10 := (g10.block b hbW hfarp).trans HXw.out
                       have k2 : w10.cell? ⟨b, 2, none⟩ = some (.slice pa np pc) := (heapCells hx10).1 2
                       have z2 := (heapCells hx10).2 2
                       obtain ⟨pa', pc', hv'⟩ := hr10.form
                       rw [show (opn ++ [name]).length = np + 1 by rw [List.length_append, HNp.out]; rfl] at hv'
                       have HR10 := hide hr10
                       have HX10 := hide hx10
                       have HG10 := hide g10
                       subst hv'
                       clear hx10 hr10 g10 hfarp)
          obtain ⟨wS, hwS⟩ : ∃ wS, wS = w10.setCell ⟨b, 2, none⟩ (.slice pa' (np + 1) pc') := ⟨_, rfl⟩
          have hfS : Fb b B w2 wS := by
            rw [hwS]
            exact ((Fb.of_below HbW.out).trans (Fb.grown HPw'.out (.inr rfl) HG10.out)).trans (Fb.set _ _ _ _ _)
          have hlS : LS wS b B (.slice a nL cp) o (opn ++ [name]) 0 s0 := by
            rw [hwS]
            exact ⟨_, _, block_set HX10.out _, ((HOw.out.grow_row HPw'.out (by decide) HG10.out)).set_far hb _ _, HR10.out.set_far hb _ _⟩
          rw [← hwS]
          clear hwS
          have hlk : L[k]? = some L[k] := List.getElem?_eq_getElem hkL
          obtain ⟨ns, hns⟩ : ∃ ns, L[k].needs = ns := ⟨_, rfl⟩
          have HNs := hide hns
          obtain ⟨nn, hnn⟩ : ∃ nn, ns.length = nn := ⟨_, rfl⟩
          have HNn := hide hnn
          obtain ⟨R, hRR⟩ : ∃ R, needsD L (fun s o' => visD L g s o' (opn ++ [name])) name ns o = R := ⟨_, rfl⟩
          have HFin : Hid (visD L (g + 1) name o opn = endD k R) := hide (by
            rw [HR.out, hlk]
            show endD k (needsD L _ name (L[k].needs) o) = _
            rw [hns, hRR])
          have HRR := hide hRR
          have HfS := hide hfS
          have HlS := hide hlS
          have hgood1 : Good L o (opn ++ [name]) := ⟨HGood.out.1, fun z hz j hj => by
            rcases List.mem_append.1 hz with hz | hz
            · exact HGood.out.2 z hz j hj
            · rw [List.mem_singleton] at hz
              rw [hz, ha] at hj
              cases hj
              exact hnm⟩
          have HG1 := hide hgood1
          have HNd1 : Hid ((opn ++ [name]).Nodup) := hide (by
            rw [List.nodup_append]
            exact ⟨HNd.out, by simp, fun x hx y hy => by rw [List.mem_singleton] at hy; rw [hy]; exact HNo'.out x hx⟩)
          have HKn1 : Hid (∀ z ∈ opn ++ [name], (objAt L z).isSome = true) := hide fun z hz => by
            rcases List.mem_append.1 hz with hz | hz
            · exact HKn.out z hz
            · rw [List.mem_singleton] at hz
              rw [hz, ha]
              rfl
          have hgg : (opn ++ [name]).length + g = nL + 1 := by rw [List.length_append, List.length_singleton]; omega
          have HGg := hide hgg
          clear hfS hlS hRR hns hnn hlk hgood1 hgg c0 c1 c2 c3 c4 HFz HX k2 z2 HXw HOw HPw HPw' HNew HX10 HR10 HG10 HO HP HbW hW
          go_loopw [6] (fun i wr => ∃ j : Nat, i = .int .i64 j ∧ j ≤ nn ∧ Hid (Fb b B w2 wr) ∧ ∃ (c : Int) (t : ByteArray) (q : List Nat), Hid (LS wr b B (.slice a nL cp) q (opn ++ [name]) c t) ∧ Hid ((c = 0 ∧ Good L q (opn ++ [name]) ∧ needsD L (fun s o' => visD L g s o' (opn ++ [name])) name (ns.drop j) q = R) ∨ (c ≠ 0 ∧ q.length ≤ nL + g ∧ R = .inl (c, t)))) (fun i _ => nn - (intOf i).toNat)
          case atStart => exact ⟨0, rfl, by omega, HfS, 0, s0, o, HlS, hide (.inl ⟨rfl, HG1.out, HRR.out⟩)⟩
          case round =>
            obtain ⟨j, rfl, hj, Hfb, c, t, q, Hls, Hst⟩ := hrel
            obtain ⟨ov', pv', ⟨e0, e1, e2, e3, e4⟩, hfz', ho', hp', hx'⟩ := Hls.out.cells
            obtain ⟨pa2, pc2, hpv2⟩ := hp'.form
            rw [show (opn ++ [name]).length = np + 1 by rw [List.length_append, HNp.out]; rfl] at hpv2
            obtain ⟨oa2, oc2, hov2⟩ := ho'.form
            subst hpv2 hov2
            have HO' := hide ho'
            have HP' := hide hp'
            have HX' := hide hx'
            have HFz' := hide hfz'
            have HSr := hide (HS.out.same ObjectAt.stays (Hfb.out.same hm hb hB))
            obtain ⟨a', c', e', hr⟩ := HSr.out
            rw [HNL.out] at e'
            cases e'
            obtain ⟨ob, oo, rfl, g1, g2, -, ⟨m0, m1⟩, ⟨-, -, hbn, -, -⟩, u2, u3, u4, ⟨d2, -, -⟩, s2, -, -⟩ := hr k hkL
            rw [HNs.out, HNn.out] at hbn
            unfold maxLen at hbn
            rw [HNs.out] at s2
            obtain ⟨na, nc, rfl, hrn⟩ := s2
            rw [HNn.out] at d2
            rw [HNL.out] at g1
            clear hr ho' hp' hx' hfz' m0 m1
            have hk5 : (k : Int) < nL := by omega
            by_cases hc0 : c = 0
            · subst hc0
              obtain ⟨hgq, hnd'⟩ : Good L q (opn ++ [name]) ∧ needsD L (fun s o' => visD L g s o' (opn ++ [name])) name (ns.drop j) q = R := by
                rcases Hst.out with h | ⟨h, -⟩
                · exact h.2
                · exact absurd rfl h
              by_cases hp : j < nn
              · have i1 : (j : Int) < nn := by omega
                have hjn : j < ns.length := by rw [HNn.out]; exact hp
                obtain ⟨nb, nq, rfl, r1, r2, -, ⟨z0, z1⟩, -⟩ := hrn j hjn
                rw [HNn.out] at r1
                simp only [Nat.add_zero] at z0 z1
                rw [List.drop_eq_getElem_cons hjn] at hnd'
                have HND := hide hnd'
                obtain ⟨nd, hnde⟩ : ∃ nd, ns[j] = nd := ⟨_, rfl⟩
                rw [hnde] at z0 z1 HND
                clear hrn hnd' hnde
                obtain ⟨md, pr⟩ := nd
                simp only [] at z0 z1
                obtain ⟨wv, hwv⟩ : ∃ wv, wv = wr.alloc (.cells #[.string md, .int .i64 pr] 80) := ⟨_, rfl⟩
                have bv : Below wr.heap.size wr wv := by rw [hwv]; exact (Below.refl _ _).alloc (Nat.le_refl _) _
                have HBox : Hid (wv.heap[wr.heap.size]? = some (.cells #[.string md, .int .i64 pr] 80 (0, 0))) := hide (by rw [hwv]; exact Deep.blk_alloc_new wr _)
                have hsr : B ≤ wr.heap.size := Nat.le_trans hB Hfb.out.size
                have HGq := hide hgq
                have hv := ih md q (opn ++ [name]) t wv (by rw [HNL.out]; exact HSr.out.on ObjectAt.stays (bv.mono (by omega))) hm hb (Nat.le_trans hsr bv.size) (by rw [HNL.out]; exact hL) (by rw [HNL.out]; exact Hls.out.below bv) hgq HNd1.out HKn1.out (by rw [HNL.out]; exact HGg.out)
                rw [HNL.out] at hv
                have HV := hide hv
                have HBv := hide bv
                clear hv bv hgq
                go_wp2_with fail
                rw [← hwv]
                clear hwv
                refine HV.out.mono ?_
                rintro e w4 ⟨rfl, f4, h4⟩
                have hbr : b < wr.heap.size := Nat.lt_of_lt_of_le hb hsr
                have hzv : wr.heap.size < wv.heap.size := (Array.getElem?_eq_some_iff.1 HBox.out).1
                have hbox4 := (f4.block wr.heap.size hzv (by omega) (.inr ⟨_, _, _, HBox.out, by decide, by decide⟩)).trans HBox.out
                have x0 : w4.cell? ⟨wr.heap.size, 0, none⟩ = some (.string md) := (heapCells hbox4).1 0
                have x1 : w4.cell? ⟨wr.heap.size, 1, none⟩ = some (.int .i64 pr) := (heapCells hbox4).1 1
                have f04 : Fb b B w2 w4 := Hfb.out.trans ((Fb.of_below HBv.out).trans f4)
                have HF04 := hide f04
                have hNDu : needsD L (fun s o' => visD L g s o' (opn ++ [name])) name (⟨md, pr⟩ :: ns.drop (j + 1)) q = R := HND.out
                unfold needsD at hNDu
                simp only [] at hNDu
                clear hbox4 f4 f04 e0 e1 e2 e3 e4 d2 z0 z1
                cases hv : visD L g md q (opn ++ [name]) with
                | inl ct =>
                  obtain ⟨c1, t1⟩ := ct
                  rw [hv] at h4 hNDu
                  obtain ⟨hc1, o4, hl4, h4⟩ := h4
                  rw [HNL.out] at hl4
                  have HSt4 : Hid ((c1 = 0 ∧ Good L o4 (opn ++ [name]) ∧ needsD L (fun s o' => visD L g s o' (opn ++ [name])) name (ns.drop (j + 1)) o4 = R) ∨ (c1 ≠ 0 ∧ o4.length ≤ nL + g ∧ R = .inl (c1, t1))) := hide (.inr ⟨hc1, hl4, hNDu.symm⟩)
                  have H4 := hide h4
                  obtain ⟨ov4, pv4, ⟨y0, y1, y2, y3, y4⟩, -, -, -, -⟩ := h4.cells
                  clear h4 hNDu hl4
                  go_wp2
                  go_quiet (fail)
                  go_wp2
                  go_roundw
                  case rel => exact ⟨j + 1, by go_num, by omega, hide ⟨HF04.out.os, HF04.out.tape, HF04.out.output, HF04.out.size, HF04.out.block⟩, c1, t1, o4, H4.out, HSt4⟩
                  case measure => simp [intOf]; omega
                | inr q1 =>
                  rw [hv] at h4 hNDu
                  obtain ⟨s1, h4⟩ := h4
                  have H4 := hide h4
                  obtain ⟨ov4, pv4, ⟨y0, y1, y2, y3, y4⟩, hfz4, -, -, -⟩ := h4.cells
                  have hg1 : ∃ g', g = g' + 1 := by
                    cases g with
                    | zero => have h1 := open_len HNd1.out HKn1.out; have h2 := HGg.out; have h3 := HNL.out; omega
                    | succ g' => exact ⟨g', rfl⟩
                  obtain ⟨k2, hk2⟩ : ∃ k2, objAt L md = some k2 := by
                    obtain ⟨g', rfl⟩ := hg1
                    exact vis_known hv
                  obtain ⟨hk2L, -⟩ := objAt_lt hk2
                  have hk2n : (k2 : Int) < nL := by have := HNL.out; omega
                  have HS4 := hide (HS.out.same ObjectAt.stays (HF04.out.same hm hb hB))
                  have HIx : Hid (∀ w' : World, w'.heap = w4.heap → Calls Tryz.prog 15 #[.slice (some ⟨ob, oo, none⟩) nL cp, .string md] w' fun e w2 => e = .returned (.int .i64 (k2 : Int)) ∧ w2 = w') := hide fun w' eh => by
                    have := HIdx.out w' (HS4.out.same ObjectAt.stays fun k _ _ => by rw [eh]) md
                    rw [hk2] at this
                    exact this
                  obtain ⟨a', c', e', hr⟩ := HS4.out
                  rw [HNL.out] at e'
                  cases e'
                  obtain ⟨ob2, oo2, e', -, -, -, ⟨-, m1⟩, -⟩ := hr k2 hk2L
                  cases e'
                  obtain ⟨pr2, hpr2⟩ : ∃ p, L[k2].print = p := ⟨_, rfl⟩
                  rw [hpr2] at m1
                  have m2 : w4.cell? ⟨ob, oo + k2 * 5 + 1, none⟩ = some (.int .i64 pr2) := m1
                  clear m1
                  have hl2 : L[k2]? = some L[k2] := List.getElem?_eq_getElem hk2L
                  have HGq1 := hide (vis_good HGq.out hv)
                  rw [hk2] at hNDu
                  simp only [Option.bind_some, hl2, Option.map_some, hpr2] at hNDu
                  clear hr h4 hv hl2 hg1
                  by_cases hpp : pr2 = pr
                  · subst hpp
                    rw [if_pos rfl] at hNDu
                    have HN4 := hide hNDu
                    clear hNDu
                    go_wp2
                    go_quiet ((go_at_call 15; refine Calls.quiet_of_same (HIx.out _ rfl)))
                    go_wp2
                    go_roundw
                    case rel => exact ⟨j + 1, by go_num, by omega, hide ⟨HF04.out.os, HF04.out.tape, HF04.out.output, HF04.out.size, HF04.out.block⟩, 0, s1, q1, H4.out, hide (.inl ⟨rfl, HGq1.out, HN4.out⟩)⟩
                    case measure => simp [intOf]; omega
                  · have HN4 : Hid (R = .inl (17, name)) := hide (by
                      rw [← hNDu, if_neg (fun e => hpp (Option.some.inj e))])
                    have HFl := hide (fun w' (eh : w'.heap = w4.heap) => fail_any b B (.slice (some ⟨ob, oo, none⟩) nL cp) q1 (opn ++ [name]) s1 name 17 w' hb (show LS w' b B (.slice (some ⟨ob, oo, none⟩) nL cp) q1 (opn ++ [name]) 0 s1 by
                      obtain ⟨o', p', z1, z2, z3⟩ := H4.out
                      exact ⟨o', p', by rw [eh]; exact z1, z2.of_heap fun k _ _ _ => by rw [eh], z3.of_heap fun k _ _ _ => by rw [eh]⟩))
                    have hq1l : q1.length ≤ nL + g := by have h1 := HGq1.out.1.len; have h2 := HNL.out; omega
                    have HQl := hide hq1l
                    clear hNDu hq1l
                    go_wp2
                    go_quiet ((go_at_call 15; refine Calls.quiet_of_same (HIx.out _ rfl)))
                    go_wp2_with fail
                    refine (HFl.out (w4.drewN nq) rfl).mono ?_
                    rintro e w6 ⟨rfl, h6, f6⟩
                    have H6 := hide h6
                    have F6 : Hid (Fb b B w2 w6) := hide (HF04.out.trans ⟨f6.os, f6.tape, f6.output, f6.size, f6.block⟩)
                    clear h6 f6
                    go_wp2
                    go_roundw
                    case rel => exact ⟨j + 1, by go_num, by omega, F6, 17, name, q1, H6, hide (.inr ⟨by decide, HQl.out, HN4.out⟩)⟩
                    case measure => simp [intOf]; omega
              · have i1 : ¬ (j : Int) < nn := by omega
                have HRq := hide hnd'
                have HQb : Hid (q.length ≤ nL + g) := hide (by have h1 := hgq.1.len; have h2 := HNL.out; omega)
                clear hnd' hgq
                have hl1 : (opn ++ [name]).length = np + 1 := by rw [List.length_append, HNp.out]; rfl
                obtain ⟨gp, rfl, hcp⟩ : ∃ gp, pa2 = some ⟨gp, 0, none⟩ ∧ np + 1 ≤ pc2 := by
                  rcases HP'.out.2 with ⟨e, -⟩ | ⟨g', cap', cur, e, -, -, h3, -⟩
                  · cases e
                  · rw [hl1] at e h3
                    cases e
                    exact ⟨_, rfl, h3⟩
                have f2 := HFz'.out 2
                clear hrn hl1
                go_wp2
                go_region
                obtain ⟨w5, hw5⟩ : ∃ w5, w5 = (wr.setCell ⟨b, 2, none⟩ (.slice (some ⟨gp, 0, none⟩) np pc2)).drew := ⟨_, rfl⟩
                have hx5 : w5.heap[b]? = some (.cells #[.slice (some ⟨ob, oo, none⟩) nL cp, .slice oa2 q.length oc2, .slice (some ⟨gp, 0, none⟩) np pc2, .int .i64 0, .string t] 91 (0, 0)) := by rw [hw5]; exact block_set HX'.out _
                have ho5 : FRow intK w5 B (.slice oa2 q.length oc2) q := by rw [hw5]; exact HO'.out.set_far hb _ _
                have hp5 : FRow strK w5 B (.slice (some ⟨gp, 0, none⟩) np pc2) opn := by rw [hw5]; exact (FRow.pop strOk HP'.out).set_far hb _ _
                have f5 : Fb b B w2 w5 := by rw [hw5]; exact (Hfb.out.trans (Fb.set _ _ _ _ _)).drew
                have y1 : w5.cell? ⟨b, 1, none⟩ = some (.slice oa2 q.length oc2) := (heapCells hx5).1 1
                have hs5 : B ≤ w5.heap.size := Nat.le_trans hB f5.size
                rw [← hw5]
                clear hw5 e0 e1 e2 e3 e4 d2 f2
                obtain ⟨w6, hw6⟩ : ∃ w6, w6 = w5.alloc (.cells #[.int .i64 (k : Int)] 3) := ⟨_, rfl⟩
                have b6 : Below w5.heap.size w5 w6 := by rw [hw6]; exact (Below.refl _ _).alloc (Nat.le_refl _) _
                have hnew := flat_new intK w5 k #[.int .i64 (k : Int)] 3 rfl (b := w5.heap.size) rfl
                rw [← hw6] at hnew
                have HNew := hide hnew
                have HO6 := hide (ho5.on b6)
                have HO6' := HO6
                have HP6 := hide (hp5.on b6)
                have HX6 := hide ((b6.block b (by omega)).trans hx5)
                have F6 := hide (f5.trans (Fb.of_below b6))
                have hs6 : B ≤ w6.heap.size := Nat.le_trans hs5 b6.size
                have hb6 : b < w6.heap.size := by omega
                have HQ6 : Hid (q.length ≤ 100000000) := hide (by have := HQb.out; omega)
                rw [hw6] at HNew HO6 hs6
                clear hx5 ho5 hp5 f5 hnew b6
                go_wp2_with (at_builtin
                             refine wp_append_flat intOk rfl _ _ rfl B (.slice oa2 q.length oc2) q rfl HO6.out w5.heap.size k rfl HNew.out (by intro z hz; simp [intK] at hz; subst hz; rfl) HQ6.out hs6 ?_
                             rw [← hw6]
                             intro v7 w7 hr7 g7
                             have hx7 := (g7.block b hb6 (HO6'.out.far hb)).trans HX6.out
                             have k1 : w7.cell? ⟨b, 1, none⟩ = some (.slice oa2 q.length oc2) := (heapCells hx7).1 1
                             have z1 := (heapCells hx7).2 1
                             have hp7 := HP6.out.grow_row HO6'.out (by decide) g7
                             have F7 := hide (F6.out.trans (Fb.grown HO6'.out (.inl rfl) g7))
                             obtain ⟨oa7, oc7, hv7⟩ := hr7.form
                             have HR7 := hide hr7
                             have HX7 := hide hx7
                             have HP7 := hide hp7
                             obtain ⟨n7, hn7⟩ : ∃ n7, (q ++ [k]).length = n7 := ⟨_, rfl⟩
                             rw [hn7] at hv7
                             subst hv7
                             clear hx7 hr7 g7 hp7 hn7)
                go_end0
                refine ⟨rfl, F7.out.trans (Fb.set _ _ _ _ _), ?_⟩
                have HLS : LS (w7.setCell ⟨b, 1, none⟩ (.slice oa7 n7 oc7)) b B (.slice (some ⟨ob, oo, none⟩) nL cp) (q ++ [k]) opn 0 t := ⟨.slice oa7 n7 oc7, .slice (some ⟨gp, 0, none⟩) np pc2, block_set HX7.out (.slice oa7 n7 oc7), HR7.out.set_far hb _ _, HP7.out.set_far hb _ _⟩
                have hRq : R = .inr q := by
                  have := HRq.out
                  rw [List.drop_of_length_le (by have := HNn.out; omega)] at this
                  exact this.symm
                rw [HFin.out, hRq]
                exact ⟨t, HLS⟩
            · have HRc : Hid (q.length ≤ nL + g ∧ R = .inl (c, t)) := hide (by
                rcases Hst.out with h | h
                · exact absurd h.1 hc0
                · exact h.2)
              have HQb : Hid (q.length ≤ nL + g) := hide HRc.out.1
              have HC0 := hide hc0
              by_cases hp : j < nn
              · have i1 : (j : Int) < nn := by omega
                have hl1 : (opn ++ [name]).length = np + 1 := by rw [List.length_append, HNp.out]; rfl
                obtain ⟨gp, rfl, hcp⟩ : ∃ gp, pa2 = some ⟨gp, 0, none⟩ ∧ np + 1 ≤ pc2 := by
                  rcases HP'.out.2 with ⟨e, -⟩ | ⟨g', cap', cur, e, -, -, h3, -⟩
                  · cases e
                  · rw [hl1] at e h3
                    cases e
                    exact ⟨_, rfl, h3⟩
                have f2 := HFz'.out 2
                clear hrn hl1
                go_wp2
                go_region
                obtain ⟨w5, hw5⟩ : ∃ w5, w5 = (wr.setCell ⟨b, 2, none⟩ (.slice (some ⟨gp, 0, none⟩) np pc2)).drew := ⟨_, rfl⟩
                have hx5 : w5.heap[b]? = some (.cells #[.slice (some ⟨ob, oo, none⟩) nL cp, .slice oa2 q.length oc2, .slice (some ⟨gp, 0, none⟩) np pc2, .int .i64 c, .string t] 91 (0, 0)) := by rw [hw5]; exact block_set HX'.out _
                have ho5 : FRow intK w5 B (.slice oa2 q.length oc2) q := by rw [hw5]; exact HO'.out.set_far hb _ _
                have hp5 : FRow strK w5 B (.slice (some ⟨gp, 0, none⟩) np pc2) opn := by rw [hw5]; exact (FRow.pop strOk HP'.out).set_far hb _ _
                have f5 : Fb b B w2 w5 := by rw [hw5]; exact (Hfb.out.trans (Fb.set _ _ _ _ _)).drew
                have y1 : w5.cell? ⟨b, 1, none⟩ = some (.slice oa2 q.length oc2) := (heapCells hx5).1 1
                have hs5 : B ≤ w5.heap.size := Nat.le_trans hB f5.size
                rw [← hw5]
                clear hw5 e0 e1 e2 e3 e4 d2 f2
                obtain ⟨w6, hw6⟩ : ∃ w6, w6 = w5.alloc (.cells #[.int .i64 (k : Int)] 3) := ⟨_, rfl⟩
                have b6 : Below w5.heap.size w5 w6 := by rw [hw6]; exact (Below.refl _ _).alloc (Nat.le_refl _) _
                have hnew := flat_new intK w5 k #[.int .i64 (k : Int)] 3 rfl (b := w5.heap.size) rfl
                rw [← hw6] at hnew
                have HNew := hide hnew
                have HO6 := hide (ho5.on b6)
                have HO6' := HO6
                have HP6 := hide (hp5.on b6)
                have HX6 := hide ((b6.block b (by omega)).trans hx5)
                have F6 := hide (f5.trans (Fb.of_below b6))
                have hs6 : B ≤ w6.heap.size := Nat.le_trans hs5 b6.size
                have hb6 : b < w6.heap.size := by omega
                have HQ6 : Hid (q.length ≤ 100000000) := hide (by have := HQb.out; omega)
                rw [hw6] at HNew HO6 hs6
                clear hx5 ho5 hp5 f5 hnew b6
                go_wp2_with (at_builtin
                             refine wp_append_flat intOk rfl _ _ rfl B (.slice oa2 q.length oc2) q rfl HO6.out w5.heap.size k rfl HNew.out (by intro z hz; simp [intK] at hz; subst hz; rfl) HQ6.out hs6 ?_
                             rw [← hw6]
                             intro v7 w7 hr7 g7
                             have hx7 := (g7.block b hb6 (HO6'.out.far hb)).trans HX6.out
                             have k1 : w7.cell? ⟨b, 1, none⟩ = some (.slice oa2 q.length oc2) := (heapCells hx7).1 1
                             have z1 := (heapCells hx7).2 1
                             have hp7 := HP6.out.grow_row HO6'.out (by decide) g7
                             have F7 := hide (F6.out.trans (Fb.grown HO6'.out (.inl rfl) g7))
                             obtain ⟨oa7, oc7, hv7⟩ := hr7.form
                             have HR7 := hide hr7
                             have HX7 := hide hx7
                             have HP7 := hide hp7
                             obtain ⟨n7, hn7⟩ : ∃ n7, (q ++ [k]).length = n7 := ⟨_, rfl⟩
                             rw [hn7] at hv7
                             subst hv7
                             clear hx7 hr7 g7 hp7 hn7)
                go_end0
                refine ⟨rfl, F7.out.trans (Fb.set _ _ _ _ _), ?_⟩
                have HLS : LS (w7.setCell ⟨b, 1, none⟩ (.slice oa7 n7 oc7)) b B (.slice (some ⟨ob, oo, none⟩) nL cp) (q ++ [k]) opn c t := ⟨.slice oa7 n7 oc7, .slice (some ⟨gp, 0, none⟩) np pc2, block_set HX7.out (.slice oa7 n7 oc7), HR7.out.set_far hb _ _, HP7.out.set_far hb _ _⟩
                obtain ⟨hq, hRc⟩ := HRc.out
                rw [HFin.out, hRc]
                exact ⟨HC0.out, q ++ [k], by have h1 := HNL.out; rw [List.length_append, List.length_singleton]; omega, HLS⟩
              · have i1 : ¬ (j : Int) < nn := by omega
                have hl1 : (opn ++ [name]).length = np + 1 := by rw [List.length_append, HNp.out]; rfl
                obtain ⟨gp, rfl, hcp⟩ : ∃ gp, pa2 = some ⟨gp, 0, none⟩ ∧ np + 1 ≤ pc2 := by
                  rcases HP'.out.2 with ⟨e, -⟩ | ⟨g', cap', cur, e, -, -, h3, -⟩
                  · cases e
                  · rw [hl1] at e h3
                    cases e
                    exact ⟨_, rfl, h3⟩
                have f2 := HFz'.out 2
                clear hrn hl1
                go_wp2
                go_region
                obtain ⟨w5, hw5⟩ : ∃ w5, w5 = (wr.setCell ⟨b, 2, none⟩ (.slice (some ⟨gp, 0, none⟩) np pc2)).drew := ⟨_, rfl⟩
                have hx5 : w5.heap[b]? = some (.cells #[.slice (some ⟨ob, oo, none⟩) nL cp, .slice oa2 q.length oc2, .slice (some ⟨gp, 0, none⟩) np pc2, .int .i64 c, .string t] 91 (0, 0)) := by rw [hw5]; exact block_set HX'.out _
                have ho5 : FRow intK w5 B (.slice oa2 q.length oc2) q := by rw [hw5]; exact HO'.out.set_far hb _ _
                have hp5 : FRow strK w5 B (.slice (some ⟨gp, 0, none⟩) np pc2) opn := by rw [hw5]; exact (FRow.pop strOk HP'.out).set_far hb _ _
                have f5 : Fb b B w2 w5 := by rw [hw5]; exact (Hfb.out.trans (Fb.set _ _ _ _ _)).drew
                have y1 : w5.cell? ⟨b, 1, none⟩ = some (.slice oa2 q.length oc2) := (heapCells hx5).1 1
                have hs5 : B ≤ w5.heap.size := Nat.le_trans hB f5.size
                rw [← hw5]
                clear hw5 e0 e1 e2 e3 e4 d2 f2
                obtain ⟨w6, hw6⟩ : ∃ w6, w6 = w5.alloc (.cells #[.int .i64 (k : Int)] 3) := ⟨_, rfl⟩
                have b6 : Below w5.heap.size w5 w6 := by rw [hw6]; exact (Below.refl _ _).alloc (Nat.le_refl _) _
                have hnew := flat_new intK w5 k #[.int .i64 (k : Int)] 3 rfl (b := w5.heap.size) rfl
                rw [← hw6] at hnew
                have HNew := hide hnew
                have HO6 := hide (ho5.on b6)
                have HO6' := HO6
                have HP6 := hide (hp5.on b6)
                have HX6 := hide ((b6.block b (by omega)).trans hx5)
                have F6 := hide (f5.trans (Fb.of_below b6))
                have hs6 : B ≤ w6.heap.size := Nat.le_trans hs5 b6.size
                have hb6 : b < w6.heap.size := by omega
                have HQ6 : Hid (q.length ≤ 100000000) := hide (by have := HQb.out; omega)
                rw [hw6] at HNew HO6 hs6
                clear hx5 ho5 hp5 f5 hnew b6
                go_wp2_with (at_builtin
                             refine wp_append_flat intOk rfl _ _ rfl B (.slice oa2 q.length oc2) q rfl HO6.out w5.heap.size k rfl HNew.out (by intro z hz; simp [intK] at hz; subst hz; rfl) HQ6.out hs6 ?_
                             rw [← hw6]
                             intro v7 w7 hr7 g7
                             have hx7 := (g7.block b hb6 (HO6'.out.far hb)).trans HX6.out
                             have k1 : w7.cell? ⟨b, 1, none⟩ = some (.slice oa2 q.length oc2) := (heapCells hx7).1 1
                             have z1 := (heapCells hx7).2 1
                             have hp7 := HP6.out.grow_row HO6'.out (by decide) g7
                             have F7 := hide (F6.out.trans (Fb.grown HO6'.out (.inl rfl) g7))
                             obtain ⟨oa7, oc7, hv7⟩ := hr7.form
                             have HR7 := hide hr7
                             have HX7 := hide hx7
                             have HP7 := hide hp7
                             obtain ⟨n7, hn7⟩ : ∃ n7, (q ++ [k]).length = n7 := ⟨_, rfl⟩
                             rw [hn7] at hv7
                             subst hv7
                             clear hx7 hr7 g7 hp7 hn7)
                go_end0
                refine ⟨rfl, F7.out.trans (Fb.set _ _ _ _ _), ?_⟩
                have HLS : LS (w7.setCell ⟨b, 1, none⟩ (.slice oa7 n7 oc7)) b B (.slice (some ⟨ob, oo, none⟩) nL cp) (q ++ [k]) opn c t := ⟨.slice oa7 n7 oc7, .slice (some ⟨gp, 0, none⟩) np pc2, block_set HX7.out (.slice oa7 n7 oc7), HR7.out.set_far hb _ _, HP7.out.set_far hb _ _⟩
                obtain ⟨hq, hRc⟩ := HRc.out
                rw [HFin.out, hRc]
                exact ⟨HC0.out, q ++ [k], by have h1 := HNL.out; rw [List.length_append, List.length_singleton]; omega, HLS⟩
theorem visit_any (a : Option Addr) (cp : Nat) (m : Md) (L : List ObjectD) (b B : Nat) : ∀ g, VisC a cp m L b B g
  | 0 => fun name o opn s0 w _ _ _ _ _ _ _ hnd hkn hg => by
    have := open_len hnd hkn
    omega
  | g + 1 => visit_step a cp m L b B g (visit_any a cp m L b B g)
end Go.Proofs.YtfbglokjehmgeaaGreatDoor
