/- The program reads a code. No condition. -/
import Derived.Test.YtpaljmhoojpbdaaDoorZRdO1
namespace Go.Proofs.YtpaljmhoojpbdaaDoor
open Go.ChangeShapes Go.WideShapes Go.ChangeAt Go.RowKit Go.Deep

def insRs : Nat → List Int → List Int
  | 0, r => r
  | j + 1, r => inR (insRs j r)
def insL : Nat → List Int → List InsD
  | 0, _ => []
  | j + 1, r => insL j r ++ [rdIns (insRs j r)]
/-- How many are read, at most k: till the bytes end. -/
def insN : Nat → List Int → Nat
  | 0, _ => 0
  | k + 1, r => if r.length = 0 then 0 else insN k (inR r) + 1
theorem insRs_in : ∀ (j : Nat) {r : List Int}, (∀ y ∈ r, 0 ≤ y ∧ y ≤ 255) → ∀ y ∈ insRs j r, 0 ≤ y ∧ y ≤ 255
  | 0, _, h => h
  | j + 1, _, h => inR_in (insRs_in j h)
theorem insRs_len : ∀ (j : Nat) (r : List Int), (insRs j r).length ≤ r.length
  | 0, _ => Nat.le_refl _
  | j + 1, r => Nat.le_trans (inR_len _) (insRs_len j r)
theorem insL_len : ∀ (j : Nat) (r : List Int), (insL j r).length = j
  | 0, _ => rfl
  | j + 1, r => by rw [insL, List.length_append, insL_len j r]; rfl
theorem insN_le : ∀ (k : Nat) (r : List Int), insN k r ≤ k
  | 0, _ => Nat.le_refl _
  | k + 1, r => by
    rw [insN]
    split
    · omega
    · have := insN_le k (inR r); omega
theorem insN_some {k : Nat} {r : List Int} (h : r.length ≠ 0) : insN (k + 1) r = insN k (inR r) + 1 := by rw [insN, if_neg h]
theorem insN_none {k : Nat} {r : List Int} (h : r.length = 0) : insN k r = 0 := by
  cases k with
  | zero => rfl
  | succ k => rw [insN, if_pos h]
def cdMany (r : List Int) : Nat := (rdP (((tR r).drop 1).drop 3)).toNat
def cdR (r : List Int) : List Int := (((tR r).drop 1).drop 3).drop 2
def rdCode (r : List Int) : CodeD := ⟨tT r, hd (tR r), rdP ((tR r).drop 1), hd (((tR r).drop 1).drop 2), insL (insN (cdMany r) (cdR r)) (cdR r)⟩
def coR (r : List Int) : List Int := insRs (insN (cdMany r) (cdR r)) (cdR r)
theorem rdP_in {r : List Int} (h : ∀ y ∈ r, 0 ≤ y ∧ y ≤ 255) : 0 ≤ rdP r ∧ rdP r ≤ 65535 := by
  have h0 := hd_in h
  have h1 := hd_in (drop_in h 1)
  unfold rdP
  omega
theorem cdR_in {r : List Int} (h : ∀ y ∈ r, 0 ≤ y ∧ y ≤ 255) : ∀ y ∈ cdR r, 0 ≤ y ∧ y ≤ 255 := drop_in (drop_in (drop_in (tR_in h) 1) 3) 2
theorem coR_in {r : List Int} (h : ∀ y ∈ r, 0 ≤ y ∧ y ≤ 255) : ∀ y ∈ coR r, 0 ≤ y ∧ y ≤ 255 := insRs_in _ (cdR_in h)
theorem cdR_len (r : List Int) : (cdR r).length ≤ r.length := by
  have := tR_len r
  unfold cdR
  simp only [List.length_drop]
  omega
theorem coR_len (r : List Int) : (coR r).length ≤ r.length := Nat.le_trans (insRs_len _ _) (cdR_len r)
def slen : Option Value → Nat
  | some (.slice _ n _) => n
  | _ => 0
theorem code_cells {w : World} {b : Nat} {x0 : ByteArray} {x1 x2 x3 : Int} {x4 : Value} (h : w.heap[b]? = some (.cells #[.string x0, .int .i64 x1, .int .i64 x2, .int .i64 x3, x4] 30 (0, 0))) :
    (w.cell? ⟨b, 0, none⟩ = some (.string x0) ∧ w.cell? ⟨b, 1, none⟩ = some (.int .i64 x1) ∧ w.cell? ⟨b, 2, none⟩ = some (.int .i64 x2) ∧ w.cell? ⟨b, 3, none⟩ = some (.int .i64 x3) ∧ w.cell? ⟨b, 4, none⟩ = some x4) ∧ ∀ j, w.frozen? ⟨b, j, none⟩ = false :=
  ⟨⟨(heapCells h).1 0, (heapCells h).1 1, (heapCells h).1 2, (heapCells h).1 3, (heapCells h).1 4⟩, (heapCells h).2⟩
set_option maxRecDepth 100000 in
set_option maxHeartbeats 8000000 in
theorem readCode_any (R : Nat) (m : Md) (r : List Int) (w : World) (hl : r.length ≤ 1000000) (h : RS w R m r) :
    Calls Tryd.prog 117 #[.pointer (some ⟨R, 0, none⟩)] w fun e w' => (∃ v, e = .returned (.agg #[.string (rdCode r).name, .int .i64 (rdCode r).params, .int .i64 (rdCode r).cells, .int .i64 (rdCode r).result, v]) ∧ FRow insK w' w.heap.size v (rdCode r).list) ∧ RS w' R m (coR r) ∧ Fr R w w' := by
  have HR := hide h
  have HIN := hide h.in
  have hRw : R < w.heap.size := by obtain ⟨_, _, h1, _⟩ := h; exact block_lt h1
  have HL := hide hl
  clear h
  obtain ⟨w0, hw0⟩ : ∃ w0, w0 = w.alloc (.cells #[.string ⟨#[]⟩, .int .i64 0, .int .i64 0, .int .i64 0, .slice none 0 0] 30) := ⟨_, rfl⟩
  have hb0 : Below w.heap.size w w0 := by rw [hw0]; exact (Below.refl _ _).alloc (Nat.le_refl _) _
  have hs0 : w0.heap.size = w.heap.size + 1 := by rw [hw0]; simp
  have HY0 := hide (show w0.heap[w.heap.size]? = some (.cells #[.string ⟨#[]⟩, .int .i64 0, .int .i64 0, .int .i64 0, .slice none 0 0] 30 (0, 0)) by rw [hw0]; exact Deep.blk_alloc_new w _)
  have F00 := hide (show FrB R w.heap.size w w0 from .of_below hb0)
  have HR0 := hide (HR.out.on hb0)
  obtain ⟨nm, hnm⟩ : ∃ x, tT r = x := ⟨_, rfl⟩
  obtain ⟨r1, e1⟩ : ∃ x, tR r = x := ⟨_, rfl⟩
  obtain ⟨pp, hpp⟩ : ∃ x, hd r1 = x := ⟨_, rfl⟩
  obtain ⟨r2, e2⟩ : ∃ x, r1.drop 1 = x := ⟨_, rfl⟩
  obtain ⟨ce, hce⟩ : ∃ x, rdP r2 = x := ⟨_, rfl⟩
  obtain ⟨rr, hrr⟩ : ∃ x, hd (r2.drop 2) = x := ⟨_, rfl⟩
  obtain ⟨r4, e4⟩ : ∃ x, r2.drop 3 = x := ⟨_, rfl⟩
  obtain ⟨r5, e5⟩ : ∃ x, r4.drop 2 = x := ⟨_, rfl⟩
  have i1 : ∀ y ∈ r1, 0 ≤ y ∧ y ≤ 255 := by rw [← e1]; exact tR_in HIN.out
  have i2 : ∀ y ∈ r2, 0 ≤ y ∧ y ≤ 255 := by rw [← e2]; exact drop_in i1 _
  have i4 : ∀ y ∈ r4, 0 ≤ y ∧ y ≤ 255 := by rw [← e4]; exact drop_in i2 _
  have i5 : ∀ y ∈ r5, 0 ≤ y ∧ y ≤ 255 := by rw [← e5]; exact drop_in i4 _
  obtain ⟨N, hN⟩ : ∃ N : Nat, rdP r4 = N := ⟨(rdP r4).toNat, by have := rdP_in i4; omega⟩
  have HN := hide hN
  have HNl : Hid (N ≤ 65535) := hide (by have := rdP_in i4; omega)
  have l1 : r1.length ≤ 1000000 := by rw [← e1]; exact Nat.le_trans (tR_len r) hl
  have l2 : r2.length ≤ 1000000 := by rw [← e2, List.length_drop]; omega
  have l4 : r4.length ≤ 1000000 := by rw [← e4, List.length_drop]; omega
  have l5 : r5.length ≤ 1000000 := by rw [← e5, List.length_drop]; omega
  have HC1 : Hid (cdMany r = N) := hide (by unfold cdMany; rw [e1, e2, e4, hN]; rfl)
  have HC2 : Hid (cdR r = r5) := hide (by unfold cdR; rw [e1, e2, e4, e5])
  have HC3 : Hid (rdCode r = ⟨nm, pp, ce, rr, insL (insN N r5) r5⟩) := hide (by unfold rdCode; rw [HC1.out, HC2.out, e1, e2, hnm, hpp, hce, hrr])
  have HC4 : Hid (coR r = insRs (insN N r5) r5) := hide (by unfold coR; rw [HC1.out, HC2.out])
  have E1 := hide e1
  have E2 := hide e2
  have E4 := hide e4
  have E5 := hide e5
  have I5 := hide i5
  have Hnm := hide hnm
  have Hpp := hide hpp
  have Hce := hide hce
  have Hrr := hide hrr
  have L1 := hide l1
  have L2 := hide l2
  have L4 := hide l4
  have L5 := hide l5
  clear e1 e2 e4 e5 i1 i2 i4 i5 hnm hpp hce hrr hN l1 l2 l4 l5
  go_enter Tryd.func117, Tryd.ntmps117
  go_wp2_with fail
  rw [← hw0]
  clear hw0 hb0
  refine (readByte_any R m r w0 (by omega) HR0.out).mono ?_
  rintro e w1 ⟨rfl, h1, o1⟩
  have HR1 := hide h1
  clear h1
  go_wp2_with fail
  refine (readText_tR R m r _ (by omega) HIN.out HR1.out).mono ?_
  rintro e w2 ⟨rfl, h2, o2⟩
  rw [Hnm.out]
  rw [E1.out] at h2
  have HR2 := hide h2
  clear h2 HR1
  go_wp2_with fail
  refine (readByte_any R m r1 _ (by have := L1.out; omega) HR2.out).mono ?_
  rintro e w3 ⟨rfl, h3, o3⟩
  rw [Hpp.out]
  rw [E2.out] at h3
  have HR3 := hide h3
  clear h3 HR2
  go_wp2_with fail
  refine (readPair_any R m r2 _ (by have := L2.out; omega) HR3.out).mono ?_
  rintro e w4 ⟨rfl, h4, o4⟩
  rw [Hce.out]
  have HR4 := hide h4
  clear h4 HR3
  go_wp2_with fail
  refine (readByte_any R m (r2.drop 2) _ (by have := L2.out; rw [List.length_drop]; omega) HR4.out).mono ?_
  rintro e w5 ⟨rfl, h5, o5⟩
  rw [Hrr.out]
  rw [List.drop_drop] at h5
  have HR5 : Hid (RS w5 R m r4) := hide (by rw [← E4.out]; exact h5)
  have oo : Only R w0 w5 := o1.trans (o2.trans (o3.trans (o4.trans o5)))
  have hs5 : w5.heap.size = w.heap.size + 1 := oo.size.trans hs0
  have F5 := hide (FrB.of_only (B := w.heap.size + 1) oo)
  clear h5 HR4 o1 o2 o3 o4 o5 oo
  go_wp2_with fail
  have bX : Below w5.heap.size w5 (w5.alloc (.cells #[.string nm, .int .i64 pp, .int .i64 ce, .int .i64 rr, .slice none 0 0] 30)) := (Below.refl _ _).alloc (Nat.le_refl _) _
  have hx5 : (w5.alloc (.cells #[.string nm, .int .i64 pp, .int .i64 ce, .int .i64 rr, .slice none 0 0] 30)).heap[w.heap.size + 1]? = some (.cells #[.string nm, .int .i64 pp, .int .i64 ce, .int .i64 rr, .slice none 0 0] 30 (0, 0)) := by
    have := Deep.blk_alloc_new w5 (.cells #[.string nm, .int .i64 pp, .int .i64 ce, .int .i64 rr, .slice none 0 0] 30)
    rwa [hs5] at this
  refine (readPair_any R m r4 _ (by have := L4.out; omega) (HR5.out.on bX)).mono ?_
  rintro e w6 ⟨rfl, h6, o6⟩
  rw [HN.out]
  rw [E5.out] at h6
  have hq : (w.heap.size + 1) ≠ R := by omega
  have HX6 := hide ((o6.block _ hq).trans hx5)
  have F6 := hide ((F5.out.trans (.of_below (bX.mono (by omega)))).trans (.of_only o6))
  have hs6 : w6.heap.size = w.heap.size + 2 := by rw [o6.size]; simp [hs5]
  have HR6 := hide h6
  clear h6 o6 HR5 hs5 F5 bX hx5
  go_wp2_with fail
  go_loopw [] (fun wr => ∃ (j : Nat) (v : Value), j ≤ N ∧ Hid (insN N r5 = j + insN (N - j) (insRs j r5)) ∧ Hid (wr.heap[w.heap.size + 1]? = some (.cells #[.string nm, .int .i64 pp, .int .i64 ce, .int .i64 rr, v] 30 (0, 0))) ∧ Hid (FRow insK wr (w.heap.size + 2) v (insL j r5)) ∧ Hid (RS wr R m (insRs j r5)) ∧ Hid (FrB R (w.heap.size + 1) w0 wr) ∧ w.heap.size + 2 ≤ wr.heap.size) (fun wr => N - slen (wr.cell? ⟨w.heap.size + 1, 4, none⟩))
  case atStart => exact ⟨0, _, by omega, hide (by rw [Nat.zero_add]; rfl), HX6, hide (FRow.nil _ _ _), HR6, F6, by omega⟩
  case round =>
    obtain ⟨j, v, hj, Hc, Hx, Hi, Hr, Hf, hsz⟩ := hrel
    obtain ⟨va, vc, rfl⟩ := Hi.out.form
    rw [insL_len] at Hi Hx
    obtain ⟨⟨-, -, -, -, k4⟩, -⟩ := code_cells Hx.out
    by_cases c1 : j < N
    · have c1' : (j : Int) < N := by omega
      obtain ⟨rv, ⟨rg, ro, rc, rfl, hrc⟩, kr, -, -, -⟩ := id Hr.out
      by_cases c2 : (insRs j r5).length = 0
      · have HJ : Hid (insN N r5 = j) := hide (by rw [Hc.out, insN_none c2]; rfl)
        have hyy := (Hf.out.block w.heap.size (by omega) (by omega)).trans HY0.out
        obtain ⟨⟨p0, p1, p2, p3, p4⟩, -⟩ := code_cells Hx.out
        obtain ⟨⟨q0, q1, q2, q3, q4⟩, s⟩ := code_cells hyy
        have s0 := s 0
        have s1 := s 1
        have s2 := s 2
        have s3 := s 3
        have s4 := s 4
        rw [c2] at kr
        clear s hyy c2 k4 hrc
        go_wp2
        refine bodyPost_ret (v := .agg #[.string nm, .int .i64 pp, .int .i64 ce, .int .i64 rr, .slice va j vc]) (by simp [results, Tryd.results117, go_sem, q0, q1, q2, q3, q4]) rfl ?_
        have oz := Only.trans (Only.trans (Only.trans (Only.trans (Only.set w.heap.size 0 wr (.string nm)) (Only.set w.heap.size 1 _ (.int .i64 pp))) (Only.set w.heap.size 2 _ (.int .i64 ce))) (Only.set w.heap.size 3 _ (.int .i64 rr))) (Only.set w.heap.size 4 _ (.slice va j vc))
        have bz := oz.below (Nat.le_refl _)
        refine ⟨⟨.slice va j vc, by rw [HC3.out], ?_⟩, by rw [HC4.out, HJ.out]; exact Hr.out.below bz hRw, ?_⟩
        · rw [HC3.out, HJ.out]
          exact (Hi.out.of_heap fun k hk _ _ => oz.block k (by omega)).le (by omega)
        · have F := F00.out.trans (FrB.trans ⟨Hf.out.os, Hf.out.tape, Hf.out.output, Hf.out.size, fun k hk hr => Hf.out.block k (by omega) hr⟩ (FrB.of_below bz))
          exact ⟨F.os, F.tape, F.output, F.size, F.block⟩
      · have c2' : (0 : Int) < (insRs j r5).length := by omega
        have HJ : Hid (insN N r5 = (j + 1) + insN (N - (j + 1)) (insRs (j + 1) r5)) := hide (by
          rw [Hc.out, show N - j = (N - (j + 1)) + 1 by omega, insN_some c2]
          show j + (insN (N - (j + 1)) (inR (insRs j r5)) + 1) = _
          rw [insRs]
          omega)
        have hLk : (insRs j r5).length ≤ 1099511627776 := by have := insRs_len j r5; have := L5.out; omega
        have hcall := readIns_any R m (insRs j r5) wr.drew hLk (Hr.out.on (Below.refl _ _).drew)
        obtain ⟨it, hit⟩ : ∃ it, rdIns (insRs j r5) = it := ⟨_, rfl⟩
        rw [hit] at hcall
        have HIT := hide hit
        obtain ⟨y0, y1, y2, t3, t4⟩ := it
        simp only [] at hcall
        have HC := hide hcall
        have HJl : Hid ((insL j r5).length ≤ 1000000) := hide (by rw [insL_len]; have := HNl.out; omega)
        clear hcall hit hLk hrc c2
        go_wp2_with fail
        go_region_law (first
          | (refine step_flat insOk (by rfl) _ _ (by rfl) (w.heap.size + 2) (.slice va j vc) (insL j r5) (by rfl) (Hi.out.of_heap fun k hk hk2 _ => HA.out.2.2.1 k (by omega) hk2) w1.heap.size ⟨y0, y1, y2, t3, t4⟩ (by rfl) (flat_new insK w1 ⟨y0, y1, y2, t3, t4⟩ _ _ rfl rfl) (ins_one _) (Nat.le_trans HJl.out (by decide)) (by simp; omega) ?_
             intro g cap w2 ho hg
             have hx2 := (hg.block (w.heap.size + 1) (by simp; omega) (Hi.out.far (by omega))).trans HA.out.2.2.2
             have c2 : w2.cell? ⟨w.heap.size + 1, 4, none⟩ = some (.slice va j vc) := (heapCells hx2).1 4
             have z2 := (heapCells hx2).2 4
             have HG := hide (And.intro ho (And.intro hg hx2))
             clear ho hg hx2)
          | (go_simp
             go_at_call 122
             refine HC.out.mono ?_
             rintro e w1 ⟨rfl, h1, fr1⟩
             have hsz1 : w.heap.size + 2 ≤ w1.heap.size := Nat.le_trans hsz fr1.size
             have hlo : ∀ k, w.heap.size + 1 ≤ k → k < wr.heap.size → (w1.alloc (.cells #[.int .i64 y0, .int .i64 y1, .int .i64 y2, .string t3, .string t4] 94)).heap[k]? = wr.heap[k]? := fun k hk hk2 => (Below.heap_alloc _ _ _ (Nat.lt_of_lt_of_le hk2 fr1.size)).trans (fr1.block k hk2 (by omega))
             have hxa := (hlo (w.heap.size + 1) (by omega) (by omega)).trans Hx.out
             have d1 : w1.cell? ⟨w.heap.size + 1, 4, none⟩ = some (.slice va j vc) := (heapCells ((fr1.block (w.heap.size + 1) (by show w.heap.size + 1 < wr.heap.size; omega) (by omega)).trans Hx.out)).1 4
             have d1a : (w1.alloc (.cells #[.int .i64 y0, .int .i64 y1, .int .i64 y2, .string t3, .string t4] 94)).cell? ⟨w.heap.size + 1, 4, none⟩ = some (.slice va j vc) := (heapCells hxa).1 4
             have HA := hide (And.intro h1 (And.intro fr1 (And.intro hlo hxa)))
             clear h1 fr1 hlo hxa)
          | fail)
        all_goals
          obtain ⟨ho, hg, hx2⟩ := HG.out
          obtain ⟨h1, fr1, hlo, hxa⟩ := HA.out
          have bA : Below (w.heap.size + 1) w1 (w1.alloc (.cells #[.int .i64 y0, .int .i64 y1, .int .i64 y2, .string t3, .string t4] 94)) := (Below.refl _ _).alloc (by omega) _
          have bB : Below (w.heap.size + 1) w1 w2 := Below.grown bA hg (by simp; omega) (fun k hk => by have := (Hi.out.lt hk).1; omega)
          have bC : Below (w.heap.size + 1) w1 (w2.setCell ⟨w.heap.size + 1, 4, none⟩ (.slice (some ⟨g, 0, none⟩) ((insL j r5).length + 1) cap)) := bB.setCell (p := ⟨w.heap.size + 1, 4, none⟩) (Nat.le_refl _) _
          have HP := hide (FRow.of_heap (w' := w2.setCell ⟨w.heap.size + 1, 4, none⟩ (.slice (some ⟨g, 0, none⟩) ((insL j r5).length + 1) cap)) ho fun k hk _ _ => Below.heap_setCell _ _ _ _ (by show k ≠ w.heap.size + 1; omega))
          have HX5 := hide (block_set hx2 (o := 4) (.slice (some ⟨g, 0, none⟩) ((insL j r5).length + 1) cap))
          have HR5 := hide (h1.below bC (by omega))
          have HF5 := hide (((Hf.out.trans (.of_below (Below.refl _ _).drew)).trans (fr1.frB (by show w.heap.size + 1 ≤ wr.heap.size; omega))).trans (.of_below bC))
          have hs5 := bC.size
          have HM5 : Hid (FRow insK (w2.setCell ⟨w.heap.size + 1, 4, none⟩ (.slice (some ⟨g, 0, none⟩) ((insL j r5).length + 1) cap)) (w.heap.size + 2) (.slice (some ⟨g, 0, none⟩) ((insL j r5).length + 1) cap) (insL (j + 1) r5)) := hide (by rw [insL, HIT.out]; exact HP.out)
          have z5 : (w2.setCell ⟨w.heap.size + 1, 4, none⟩ (.slice (some ⟨g, 0, none⟩) ((insL j r5).length + 1) cap)).cell? ⟨w.heap.size + 1, 4, none⟩ = some (.slice (some ⟨g, 0, none⟩) ((insL j r5).length + 1) cap) := World.cell?_setCell_same _ _ _ c2
          have Z5 := hide z5
          clear ho hg hx2 h1 fr1 hlo hxa bA bB bC z5
          go_wp2_with fail
          go_roundw
          case rel => exact ⟨j + 1, _, by omega, HJ, HX5, HM5, HR5, HF5, by omega⟩
          case measure =>
            rw [Z5.out, k4]
            show N - ((insL j r5).length + 1) < N - j
            rw [insL_len]
            omega
    · have c1' : ¬ (j : Int) < N := by omega
      have HJ : Hid (insN N r5 = j) := hide (by rw [Hc.out, show N - j = 0 by omega]; rfl)
      have hyy := (Hf.out.block w.heap.size (by omega) (by omega)).trans HY0.out
      obtain ⟨⟨p0, p1, p2, p3, p4⟩, -⟩ := code_cells Hx.out
      obtain ⟨⟨q0, q1, q2, q3, q4⟩, s⟩ := code_cells hyy
      have s0 := s 0
      have s1 := s 1
      have s2 := s 2
      have s3 := s 3
      have s4 := s 4
      clear s hyy k4
      go_wp2
      refine bodyPost_ret (v := .agg #[.string nm, .int .i64 pp, .int .i64 ce, .int .i64 rr, .slice va j vc]) (by simp [results, Tryd.results117, go_sem, q0, q1, q2, q3, q4]) rfl ?_
      have oz := Only.trans (Only.trans (Only.trans (Only.trans (Only.set w.heap.size 0 wr (.string nm)) (Only.set w.heap.size 1 _ (.int .i64 pp))) (Only.set w.heap.size 2 _ (.int .i64 ce))) (Only.set w.heap.size 3 _ (.int .i64 rr))) (Only.set w.heap.size 4 _ (.slice va j vc))
      have bz := oz.below (Nat.le_refl _)
      refine ⟨⟨.slice va j vc, by rw [HC3.out], ?_⟩, by rw [HC4.out, HJ.out]; exact Hr.out.below bz hRw, ?_⟩
      · rw [HC3.out, HJ.out]
        exact (Hi.out.of_heap fun k hk _ _ => oz.block k (by omega)).le (by omega)
      · have F := F00.out.trans (FrB.trans ⟨Hf.out.os, Hf.out.tape, Hf.out.output, Hf.out.size, fun k hk hr => Hf.out.block k (by omega) hr⟩ (FrB.of_below bz))
        exact ⟨F.os, F.tape, F.output, F.size, F.block⟩
end Go.Proofs.YtpaljmhoojpbdaaDoor
