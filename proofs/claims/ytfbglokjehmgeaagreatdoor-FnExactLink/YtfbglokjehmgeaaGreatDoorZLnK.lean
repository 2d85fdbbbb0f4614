/- The program's image. No condition. -/
import Derived.Test.YtfbglokjehmgeaaGreatDoorZLnJ
import Derived.Test.YtfbglokjehmgeaaGreatDoorZLnI
import Derived.Test.YtfbglokjehmgeaaGreatDoorZLkI
namespace Go.Proofs.YtfbglokjehmgeaaGreatDoor
open Go.ChangeShapes Go.WideShapes Go.ChangeAt Go.RowKit Go.Deep

/-- A code, numbers for names, by the maps. -/
def codeI (C P : ML PK) (c : CodeD) : CodeD := ⟨c.name, c.params, c.cells, c.result, c.list.map (insP C P)⟩
def imCodes (C P : ML PK) (vs : List OV) : List CodeD := vs.flatMap fun p => p.cs.map fun c => codeI C P c.1
def imNames (vs : List OV) : List ByteArray := vs.flatMap fun p => p.cs.map fun c => dotN p.x.module c.1.name
def imStarts : List OV → Nat → List Int
  | [], _ => []
  | p :: r, k => (((k + p.cs.length : Nat) : Int) - 1) :: imStarts r (k + p.cs.length)
theorem imStarts_app (Q : List OV) : ∀ (k : Nat) (x : OV), imStarts (Q ++ [x]) k = imStarts Q k ++ [((k + (Q.flatMap fun y => y.cs).length + x.cs.length : Nat) : Int) - 1] := by
  induction Q with
  | nil => intro k x; simp [imStarts]
  | cons y r ih =>
    intro k x
    rw [List.cons_append, imStarts, ih, imStarts]
    simp only [List.flatMap_cons, List.length_append, List.cons_append]
    congr 3
    omega
theorem imStarts_len : ∀ (Q : List OV) (k : Nat), (imStarts Q k).length = Q.length
  | [], _ => rfl
  | x :: r, k => by rw [imStarts, List.length_cons, List.length_cons, imStarts_len]
theorem imCodes_len (C P : ML PK) (Q : List OV) : (imCodes C P Q).length = (Q.flatMap fun y => y.cs).length := by
  induction Q with
  | nil => rfl
  | cons y r ih =>
    unfold imCodes at ih ⊢
    rw [List.flatMap_cons, List.flatMap_cons, List.length_append, List.length_append, ih, List.length_map]
theorem imNames_len (Q : List OV) : (imNames Q).length = (Q.flatMap fun y => y.cs).length := by
  induction Q with
  | nil => rfl
  | cons y r ih =>
    unfold imNames at ih ⊢
    rw [List.flatMap_cons, List.flatMap_cons, List.length_append, List.length_append, ih, List.length_map]
theorem flatCs_bound {Q : List OV} {d : Nat} (h : ∀ p ∈ Q, p.cs.length ≤ d) : (Q.flatMap fun y => y.cs).length ≤ d * Q.length := by
  induction Q with
  | nil => simp
  | cons y r ih =>
    have h1 := ih fun z hz => h z (List.mem_cons_of_mem _ hz)
    have h2 := h y (List.mem_cons_self ..)
    rw [List.flatMap_cons, List.length_append, List.length_cons, Nat.mul_succ]
    omega
/-- What stands while the image is made. -/
def IP (w : World) (n : Int) (pv nv sv : Value) (cl : List CV) (N : List ByteArray) (S : List Int) (wr : World) : Prop :=
  wr.heap[w.heap.size]? = some (.cells #[.int .i64 0, .slice none 0 0, .slice none 0 0, .slice none 0 0] 28 (0, 0)) ∧ wr.heap[w.heap.size + 1]? = some (.cells #[.int .i64 n, pv, nv, sv] 28 (0, 0)) ∧ KRow wr (w.heap.size + 2) pv cl ∧ FRow strK wr (w.heap.size + 2) nv N ∧ FRow zK wr (w.heap.size + 2) sv S ∧ Below w.heap.size w wr
section
variable {w : World} {n : Int} {pv nv sv : Value} {cl : List CV} {N : List ByteArray} {S : List Int} {wr wA w5 w' : World}
theorem IP.below (h : IP w n pv nv sv cl N S wr) (bel : Below wr.heap.size wr w') : IP w n pv nv sv cl N S w' := by
  obtain ⟨h1, h2, h3, h4, h5, h6⟩ := h
  exact ⟨(bel.block _ (Array.getElem?_eq_some_iff.1 h1).1).trans h1, (bel.block _ (Array.getElem?_eq_some_iff.1 h2).1).trans h2, h3.on bel, h4.on bel, h5.on bel, h6.trans (bel.mono h6.size)⟩
theorem IP.lt (h : IP w n pv nv sv cl N S wr) : w.heap.size + 1 < wr.heap.size := (Array.getElem?_eq_some_iff.1 h.2.1).1
theorem KRow.block (h : KRow wr (w.heap.size + 2) pv cl) {k : Nat} (e : pv.ownBlock = some k) : w.heap.size + 2 ≤ k ∧ ∃ C, wr.heap[k]? = some (.cells C 86 (0, 0)) := ⟨(h.1.lt e).1, h.1.ty e⟩
/-- A code more. -/
theorem IP.push {v' u : Value} {y : CodeD} (h : IP w n pv nv sv cl N S wr) (hA : Below wr.heap.size wr wA) (hu : FRow insK wA wr.heap.size u y.list) (hg : wA.grownBy w5 pv.ownBlock) (ho : FRow codeK w5 (w.heap.size + 2) v' (cl ++ [(y, u)])) : IP w n v' nv sv (cl ++ [(y, u)]) N S (w5.setCell ⟨w.heap.size + 1, 1, none⟩ v') := by
  have hl := h.lt
  obtain ⟨h1, h2, h3, h4, h5, h6⟩ := h
  have hsA := hA.size
  have hfar : ∀ k, k < wr.heap.size → some k ≠ pv.ownBlock → w5.heap[k]? = wr.heap[k]? := fun k hk hne => (hg.block k (by omega) hne).trans (hA.block k hk)
  have hlow : ∀ k, k < w.heap.size + 2 → w5.heap[k]? = wr.heap[k]? := fun k hk => hfar k (by omega) (h3.1.far hk)
  have hset : ∀ k, k ≠ w.heap.size + 1 → (w5.setCell ⟨w.heap.size + 1, 1, none⟩ v').heap[k]? = w5.heap[k]? := fun k hk => Below.heap_setCell _ _ _ _ hk
  have hb : Below w.heap.size w w5 := (h6.trans (hA.mono h6.size)).grown hg (by omega) fun k hk => by have := (h3.1.lt hk).1; omega
  have hk := KRow.push h3 (fun k _ hk _ => hA.block k hk) hu (by omega) hg ho
  refine ⟨(hset _ (by omega)).trans ((hlow _ (by omega)).trans h1), block_set ((hlow _ (by omega)).trans h2) _, hk.of_heap fun k hk _ _ => hset k (by omega), ?_, ?_, hb.setCell (p := ⟨w.heap.size + 1, 1, none⟩) (by show w.heap.size ≤ w.heap.size + 1; omega) _⟩
  · exact (h4.of_heap fun k _ hk ⟨C, hC⟩ => hfar k hk (h3.1.far_ty hC (by decide))).of_heap fun k hk _ _ => hset k (by omega)
  · exact (h5.of_heap fun k _ hk ⟨C, hC⟩ => hfar k hk (h3.1.far_ty hC (by decide))).of_heap fun k hk _ _ => hset k (by omega)
/-- A name more. -/
theorem IP.name {v' : Value} {s : ByteArray} (h : IP w n pv nv sv cl N S wr) (hA : Below wr.heap.size wr wA) (hg : wA.grownBy w5 nv.ownBlock) (ho : FRow strK w5 (w.heap.size + 2) v' (N ++ [s])) : IP w n pv v' sv cl (N ++ [s]) S (w5.setCell ⟨w.heap.size + 1, 2, none⟩ v') := by
  have hl := h.lt
  obtain ⟨h1, h2, h3, h4, h5, h6⟩ := h
  have hsA := hA.size
  have hfar : ∀ k, k < wr.heap.size → some k ≠ nv.ownBlock → w5.heap[k]? = wr.heap[k]? := fun k hk hne => (hg.block k (by omega) hne).trans (hA.block k hk)
  have hlow : ∀ k, k < w.heap.size + 2 → w5.heap[k]? = wr.heap[k]? := fun k hk => hfar k (by omega) (h4.far hk)
  have hset : ∀ k, k ≠ w.heap.size + 1 → (w5.setCell ⟨w.heap.size + 1, 2, none⟩ v').heap[k]? = w5.heap[k]? := fun k hk => Below.heap_setCell _ _ _ _ hk
  have hb : Below w.heap.size w w5 := (h6.trans (hA.mono h6.size)).grown hg (by omega) fun k hk => by have := (h4.lt hk).1; omega
  refine ⟨(hset _ (by omega)).trans ((hlow _ (by omega)).trans h1), block_set ((hlow _ (by omega)).trans h2) _, ?_, ho.of_heap fun k hk _ _ => hset k (by omega), ?_, hb.setCell (p := ⟨w.heap.size + 1, 2, none⟩) (by show w.heap.size ≤ w.heap.size + 1; omega) _⟩
  · exact (h3.of_heap fun k _ hk ⟨C, T, hC, hT⟩ => hfar k hk (h4.far_ty hC (by rcases hT with e | e <;> rw [e] <;> decide))).of_heap fun k hk _ _ => hset k (by omega)
  · exact (h5.of_heap fun k _ hk ⟨C, hC⟩ => hfar k hk (h4.far_ty hC (by decide))).of_heap fun k hk _ _ => hset k (by omega)
/-- A start more. -/
theorem IP.start {v' : Value} {s : Int} (h : IP w n pv nv sv cl N S wr) (hA : Below wr.heap.size wr wA) (hg : wA.grownBy w5 sv.ownBlock) (ho : FRow zK w5 (w.heap.size + 2) v' (S ++ [s])) : IP w n pv nv v' cl N (S ++ [s]) (w5.setCell ⟨w.heap.size + 1, 3, none⟩ v') := by
  have hl := h.lt
  obtain ⟨h1, h2, h3, h4, h5, h6⟩ := h
  have hsA := hA.size
  have hfar : ∀ k, k < wr.heap.size → some k ≠ sv.ownBlock → w5.heap[k]? = wr.heap[k]? := fun k hk hne => (hg.block k (by omega) hne).trans (hA.block k hk)
  have hlow : ∀ k, k < w.heap.size + 2 → w5.heap[k]? = wr.heap[k]? := fun k hk => hfar k (by omega) (h5.far hk)
  have hset : ∀ k, k ≠ w.heap.size + 1 → (w5.setCell ⟨w.heap.size + 1, 3, none⟩ v').heap[k]? = w5.heap[k]? := fun k hk => Below.heap_setCell _ _ _ _ hk
  have hb : Below w.heap.size w w5 := (h6.trans (hA.mono h6.size)).grown hg (by omega) fun k hk => by have := (h5.lt hk).1; omega
  refine ⟨(hset _ (by omega)).trans ((hlow _ (by omega)).trans h1), block_set ((hlow _ (by omega)).trans h2) _, ?_, ?_, ho.of_heap fun k hk _ _ => hset k (by omega), hb.setCell (p := ⟨w.heap.size + 1, 3, none⟩) (by show w.heap.size ≤ w.heap.size + 1; omega) _⟩
  · exact (h3.of_heap fun k _ hk ⟨C, T, hC, hT⟩ => hfar k hk (h5.far_ty hC (by rcases hT with e | e <;> rw [e] <;> decide))).of_heap fun k hk _ _ => hset k (by omega)
  · exact (h4.of_heap fun k _ hk ⟨C, hC⟩ => hfar k hk (h5.far_ty hC (by decide))).of_heap fun k hk _ _ => hset k (by omega)
end
set_option maxRecDepth 100000 in
set_option maxHeartbeats 16000000 in
theorem implImage_any (b b2 b3 B h : Nat) (C P : ML PK) (kv : Value) (vs : List OV) (G : Int) (w : World) (hF : FS w b b2 b3 C P) (h3 : w.cell? ⟨b, 3, none⟩ = some kv) (h4 : w.cell? ⟨b, 4, none⟩ = some (.int .i64 G)) (hk : FRow objK w B kv vs) (hvs : vs.length ≤ 1000) (hhw : h ≤ w.heap.size)
    (hv : ∀ p ∈ vs, OVal w h p ∧ p.cs.length ≤ 100 ∧ p.x.module.size ≤ 1000 ∧ ∀ c ∈ p.cs, c.1.name.size ≤ 1000 ∧ c.1.list.length ≤ 100000 ∧ 0 < c.1.list.length) :
    Calls Tryz.prog 25 #[.pointer (some ⟨b, 0, none⟩)] w fun e w' => (∃ qa ql qc na nl nc sa sl sc, e = .returned (.agg #[.int .i64 G, .slice qa ql qc, .slice na nl nc, .slice sa sl sc]) ∧ IRows w' w.heap.size (.slice qa ql qc) (.slice na nl nc) (.slice sa sl sc) (imCodes C P vs) (imNames vs) (imStarts vs 0)) ∧ Below w.heap.size w w' := by
  have hmix : Tryz.prog.follows .mixedOrders = true := by kernel_rfl
  have HF := hide hF
  have HV := hide hv
  have HK := hide hk
  obtain ⟨ka, kc, rfl⟩ := hk.form
  obtain ⟨n, hn⟩ : ∃ n, vs.length = n := ⟨_, rfl⟩
  have HN := hide hn
  rw [hn] at h3 hvs
  obtain ⟨W1, hW1⟩ : ∃ W1, w.alloc (.cells #[.int .i64 0, .slice none 0 0, .slice none 0 0, .slice none 0 0] 28) = W1 := ⟨_, rfl⟩
  obtain ⟨W2, hW2⟩ : ∃ W2, W1.alloc (.cells #[.int .i64 G, .slice none 0 0, .slice none 0 0, .slice none 0 0] 28) = W2 := ⟨_, rfl⟩
  have b1 : Below w.heap.size w W1 := by rw [← hW1]; exact (Below.refl _ _).alloc (Nat.le_refl _) _
  have b2' : Below W1.heap.size W1 W2 := by rw [← hW2]; exact (Below.refl _ _).alloc (Nat.le_refl _) _
  have s1 : W1.heap.size = w.heap.size + 1 := by rw [← hW1]; simp
  have x1 := Deep.blk_alloc_new w (.cells #[.int .i64 0, .slice none 0 0, .slice none 0 0, .slice none 0 0] 28)
  rw [hW1] at x1
  have x2 := Deep.blk_alloc_new W1 (.cells #[.int .i64 G, .slice none 0 0, .slice none 0 0, .slice none 0 0] 28)
  rw [hW2, s1] at x2
  have hI : IP w G (.slice none 0 0) (.slice none 0 0) (.slice none 0 0) [] [] [] W2 := ⟨(b2'.block _ (Array.getElem?_eq_some_iff.1 x1).1).trans x1, x2, KRow.nil _ _, FRow.nil _ _ _, FRow.nil _ _ _, b1.trans (b2'.mono b1.size)⟩
  have HI := hide hI
  have HB2 := hide hI.2.2.2.2.2
  have HS1 := hide s1
  have HW1 := hide hW1
  have HW2 := hide hW2
  have c4 := (b1.cell (p := ⟨b, 4, none⟩) (block_lt h4)).trans h4
  have c3 := (HB2.out.cell (p := ⟨b, 3, none⟩) (block_lt h3)).trans h3
  clear hF hv hk hn b1 b2' s1 x1 x2 hI hW1 hW2 h3 h4
  go_enter Tryz.func25, Tryz.ntmps25
  go_upto_region 1 with fail
  rw [HW1.out]
  go_upto_region 2 with fail
  rw [HW2.out, HS1.out]
  clear c4
  go_upto_region 3 with fail
  clear c3
  go_loopw [18] (fun iv wr => ∃ (k : Nat) (pv nv sv : Value) (cl : List CV), iv = .int .i64 k ∧ k ≤ n ∧ Hid (IP w G pv nv sv cl (imNames (vs.take k)) (imStarts (vs.take k) 0) wr) ∧ Hid (cl.map Prod.fst = imCodes C P (vs.take k))) (fun iv _ => n - (intOf iv).toNat)
  case atStart => exact ⟨0, _, _, _, [], rfl, by omega, HI, hide rfl⟩
  case round =>
    obtain ⟨k, pv, nv, sv, cl, rfl, hk, Hi, Hc⟩ := hrel
    obtain ⟨w8, rfl⟩ : ∃ w8, w8 = wr := ⟨_, rfl⟩
    have Hb : Hid (Below w.heap.size w w8) := hide Hi.out.2.2.2.2.2
    have hcl := congrArg List.length Hc.out
    rw [List.length_map, imCodes_len] at hcl
    have hclb := flatCs_bound (Q := vs.take k) (d := 100) fun p hp => (HV.out p (List.mem_of_mem_take hp)).2.1
    by_cases hp : k < n
    · have i1 : (k : Int) < n := by omega
      have hkl : k < vs.length := by rw [HN.out]; exact hp
      have hlt : (vs.take k).length = k := by rw [List.length_take]; omega
      rw [hlt] at hclb
      obtain ⟨hov, hcsl, hms, hcs⟩ := HV.out _ (List.getElem_mem hkl)
      obtain ⟨gk, kc', e, hkc, -, hgk, hrow⟩ := HK.out.one_at objOk hkl
      rw [HN.out] at e hkc
      cases e
      have htk : vs.take (k + 1) = vs.take k ++ [vs[k]] := List.take_succ_eq_append_getElem hkl
      obtain ⟨p, hp'⟩ : ∃ p, vs[k] = p := ⟨_, rfl⟩
      rw [hp'] at hov hrow hcsl hms hcs htk
      have HTk := hide htk
      obtain ⟨a2, c2, a3, c3, a4, c4, p2, p3, p4⟩ := hov.form
      have hol := hov.len
      have d0 : w8.cell? ⟨gk, k * 5, none⟩ = some (.string p.x.module) := (Hb.out.cell (p := ⟨gk, _, none⟩) hgk).trans (hrow 0 (by decide))
      have d1 : w8.cell? ⟨gk, k * 5 + 1, none⟩ = some (.int .i64 p.x.print) := (Hb.out.cell (p := ⟨gk, _, none⟩) hgk).trans (hrow 1 (by decide))
      have d2 : w8.cell? ⟨gk, k * 5 + 2, none⟩ = some p.u2 := (Hb.out.cell (p := ⟨gk, _, none⟩) hgk).trans (hrow 2 (by decide))
      have d3 : w8.cell? ⟨gk, k * 5 + 3, none⟩ = some p.u3 := (Hb.out.cell (p := ⟨gk, _, none⟩) hgk).trans (hrow 3 (by decide))
      have d4 : w8.cell? ⟨gk, k * 5 + 4, none⟩ = some p.u4 := (Hb.out.cell (p := ⟨gk, _, none⟩) hgk).trans (hrow 4 (by decide))
      rw [p2] at d2
      rw [p3] at d3
      rw [p4] at d4
      obtain ⟨-, -, -, -, -, hvr, hcv⟩ := hov
      rw [p4] at hvr
      have HVr := hide hvr
      have HCv := hide hcv
      have HCs := hide hcs
      obtain ⟨mo, hmo⟩ : ∃ q, p.x.module = q := ⟨_, rfl⟩
      obtain ⟨n4, hn4⟩ : ∃ q, p.x.procs.length = q := ⟨_, rfl⟩
      have HMo := hide hmo
      rw [hmo] at d0 hms
      rw [hn4] at d4 hol HVr
      rw [hol] at hcsl
      have HOl := hide hol
      generalize p.x.print = pr at *
      generalize p.x.needs.length = l2 at *
      generalize p.x.globals.length = l3 at *
      obtain ⟨W5, hW5⟩ : ∃ W5, w8.alloc (.cells #[.string mo, .int .i64 pr, .slice a2 l2 c2, .slice a3 l3 c3, .slice a4 n4 c4] 48) = W5 := ⟨_, rfl⟩
      have b5 : Below w8.heap.size w8 W5 := by rw [← hW5]; exact (Below.refl _ _).alloc (Nat.le_refl _) _
      have x5 := Deep.blk_alloc_new w8 (.cells #[.string mo, .int .i64 pr, .slice a2 l2 c2, .slice a3 l3 c3, .slice a4 n4 c4] 48)
      rw [hW5] at x5
      have HX5 := hide x5
      have HB5 := hide b5
      have HW5 := hide hW5
      have HI5 := hide (Hi.out.below b5)
      have hi8 := Hi.out.lt
      have z4 : W5.cell? ⟨w8.heap.size, 4, none⟩ = some (.slice a4 n4 c4) := (heapCells x5).1 4
      have hszw : w.heap.size ≤ w8.heap.size := Hb.out.size
      have Hcl : Hid (cl.length ≤ 100 * k) := hide (by omega)
      clear hp' htk hrow p2 p3 p4 hvr hcv hcs hmo hn4 hol x5 b5 hW5 hcl hclb hlt
      go_upto_region 5 with fail
      rw [HW5.out]
      clear d0 d1 d2 d3 d4
      go_upto_region 6 with fail
      clear z4
      go_loopw [25] (fun iv wr => ∃ (j : Nat) (pv' nv' : Value) (cl' : List CV), iv = .int .i64 j ∧ j ≤ n4 ∧ Hid (IP w G pv' nv' sv cl' (imNames (vs.take k) ++ (p.cs.take j).map fun c => dotN mo c.1.name) (imStarts (vs.take k) 0) wr) ∧ Hid (cl'.map Prod.fst = imCodes C P (vs.take k) ++ (p.cs.take j).map fun c => codeI C P c.1) ∧ Hid (wr.heap[w8.heap.size]? = some (.cells #[.string mo, .int .i64 pr, .slice a2 l2 c2, .slice a3 l3 c3, .slice a4 n4 c4] 48 (0, 0)))) (fun iv _ => n4 - (intOf iv).toNat)
      case atStart => exact ⟨0, pv, nv, cl, rfl, by omega, hide (by rw [List.take_zero, List.map_nil, List.append_nil]; exact HI5.out), hide (by rw [List.take_zero, List.map_nil, List.append_nil]; exact Hc.out), HX5⟩
      case round =>
        obtain ⟨j, pv', nv', cl', rfl, hj, Hij, Hcj, Hbx⟩ := hrel
        obtain ⟨w6, rfl⟩ : ∃ w6, w6 = wr := ⟨_, rfl⟩
        by_cases hq : j < n4
        · have i2 : (j : Int) < n4 := by omega
          have hjc : j < p.cs.length := by rw [HOl.out]; exact hq
          have hb6 := Hij.out.2.2.2.2.2
          have hl6 := Hij.out.lt
          obtain ⟨a', c', e4, hrn⟩ := HVr.out.on (hb6.mono hhw)
          rw [HOl.out] at e4
          cases e4
          obtain ⟨nb, nq, rfl, r1, r2, r3⟩ := hrn j hjc
          rw [HOl.out] at r1
          have hcvj := (HCv.out _ (List.getElem_mem hjc)).on (hb6.mono hhw)
          obtain ⟨hnm, hll, h0⟩ := HCs.out _ (List.getElem_mem hjc)
          have htj : p.cs.take (j + 1) = p.cs.take j ++ [p.cs[j]] := List.take_succ_eq_append_getElem hjc
          have hcl' := congrArg List.length Hcj.out
          rw [List.length_map, List.length_append, List.length_map, List.length_take, imCodes_len] at hcl'
          have hclb := flatCs_bound (Q := vs.take k) (d := 100) fun p hp => (HV.out p (List.mem_of_mem_take hp)).2.1
          rw [List.length_take] at hclb
          have hclc : cl'.length ≤ 10000000 := by omega
          obtain ⟨cd, hcd⟩ : ∃ cd, p.cs[j] = cd := ⟨_, rfl⟩
          rw [hcd] at r3 hcvj hnm hll h0 htj
          obtain ⟨mc, -, ⟨la, lc, el, -⟩⟩ := id hcvj
          have k0 : w6.cell? ⟨nb, nq + j * 5, none⟩ = some (.string cd.1.name) := r3 0 (by decide)
          have k1 : w6.cell? ⟨nb, nq + j * 5 + 1, none⟩ = some (.int .i64 cd.1.params) := r3 1 (by decide)
          have k2 : w6.cell? ⟨nb, nq + j * 5 + 2, none⟩ = some (.int .i64 cd.1.cells) := r3 2 (by decide)
          have k3 : w6.cell? ⟨nb, nq + j * 5 + 3, none⟩ = some (.int .i64 cd.1.result) := r3 3 (by decide)
          have k4 : w6.cell? ⟨nb, nq + j * 5 + 4, none⟩ = some cd.2 := r3 4 (by decide)
          rw [el] at k4
          have HTj : Hid ((p.cs.take (j + 1)).map (fun c => codeI C P c.1) = (p.cs.take j).map (fun c => codeI C P c.1) ++ [codeI C P cd.1] ∧ (p.cs.take (j + 1)).map (fun c => dotN mo c.1.name) = (p.cs.take j).map (fun c => dotN mo c.1.name) ++ [dotN mo cd.1.name]) := hide (by rw [htj]; simp)
          have HCall : Hid (∀ w', Below w6.heap.size w6 w' → Calls Tryz.prog 68 #[.pointer (some ⟨b, 0, none⟩), .agg #[.string cd.1.name, .int .i64 cd.1.params, .int .i64 cd.1.cells, .int .i64 cd.1.result, .slice la cd.1.list.length lc]] w' fun e w2 => (∃ g cap, e = .returned (.agg #[.string cd.1.name, .int .i64 cd.1.params, .int .i64 cd.1.cells, .int .i64 cd.1.result, .slice (some ⟨g, 0, none⟩) cd.1.list.length cap]) ∧ Hid (FRow insK w2 w'.heap.size (.slice (some ⟨g, 0, none⟩) cd.1.list.length cap) (codeI C P cd.1).list)) ∧ Below w'.heap.size w' w2) := hide fun w' bel => by
            have := code_any b b2 b3 h C P cd w' ((HF.out.on hb6).on bel) (by have h1 := hb6.size; have h2 := bel.size; omega) (hcvj.on (bel.mono (by have := hb6.size; omega))) hnm hll h0
            rw [el] at this
            exact this
          have hcs5 : ∀ u, codeK.cs (codeI C P cd.1, u) = [.string cd.1.name, .int .i64 cd.1.params, .int .i64 cd.1.cells, .int .i64 cd.1.result, u] := fun _ => rfl
          obtain ⟨cI, hcI⟩ : ∃ cI, codeI C P cd.1 = cI := ⟨_, rfl⟩
          rw [hcI] at HTj HCall hcs5
          generalize cd.1.name = cn at *
          generalize cd.1.params = cp at *
          generalize cd.1.cells = cc at *
          generalize cd.1.result = cr at *
          generalize cd.1.list.length = ll at *
          have HCs5 := hide hcs5
          have HCnm := hide hnm
          obtain ⟨pa, pc, hpv⟩ := Hij.out.2.2.1.1.form
          subst hpv
          have HK6 := hide Hij.out.2.2.1.1
          obtain ⟨nl, hnl⟩ : ∃ nl, cl'.length = nl := ⟨_, rfl⟩
          have HNl := hide hnl
          rw [hnl] at hclc Hij HK6
          have m1' : w6.cell? ⟨w.heap.size + 1, 1, none⟩ = some (.slice pa nl pc) := (heapCells Hij.out.2.1).1 1
          clear hrn hcd r3 htj el hcvj hnm hll h0 hcs5 hcI hnl hcl' hclb
          go_upto_region 8 with fail
          obtain ⟨W7, hW7⟩ : ∃ W7, w6.alloc (.cells #[.string cn, .int .i64 cp, .int .i64 cc, .int .i64 cr, .slice la ll lc] 86) = W7 := ⟨_, rfl⟩
          have b7 : Below w6.heap.size w6 W7 := by rw [← hW7]; exact (Below.refl _ _).alloc (Nat.le_refl _) _
          have x7 := Deep.blk_alloc_new w6 (.cells #[.string cn, .int .i64 cp, .int .i64 cc, .int .i64 cr, .slice la ll lc] 86)
          rw [hW7] at x7
          rw [hW7]
          have e0 : W7.cell? ⟨w6.heap.size, 0, none⟩ = some (.string cn) := (heapCells x7).1 0
          have e1 : W7.cell? ⟨w6.heap.size, 1, none⟩ = some (.int .i64 cp) := (heapCells x7).1 1
          have e2 : W7.cell? ⟨w6.heap.size, 2, none⟩ = some (.int .i64 cc) := (heapCells x7).1 2
          have e3 : W7.cell? ⟨w6.heap.size, 3, none⟩ = some (.int .i64 cr) := (heapCells x7).1 3
          have e4 : W7.cell? ⟨w6.heap.size, 4, none⟩ = some (.slice la ll lc) := (heapCells x7).1 4
          have m1 := (b7.cell (p := ⟨w.heap.size + 1, 1, none⟩) hl6).trans m1'
          have hs7 : w6.heap.size < W7.heap.size := (Array.getElem?_eq_some_iff.1 x7).1
          have hl7 : w.heap.size + 1 < W7.heap.size := by omega
          have HB7 := hide b7
          have HX7 := hide x7
          have HIm := hide (Hij.out.below b7)
          clear k0 k1 k2 k3 k4 m1' hW7 b7 x7
          refine wp_region_z (S := fun w' => ∀ k o, k = w.heap.size + 1 ∨ k = w6.heap.size → w'.cell? ⟨k, o, none⟩ = W7.cell? ⟨k, o, none⟩) 8 hmix (fun k o _ => rfl) (fun hHeld => ?_)
          refine wpAnyZ_take (i := 0) (v := ?_) rfl (by kernel_rfl) (by kernel_rfl) (by kernel_rfl) (by kernel_rfl) (fun _ _ _ h => h) (by rfl) ?_ hHeld ?_
          rotate_left
          · intro wS hSw
            go_simp
            rfl
          simp only [Act.put, List.setIfInBounds_toArray, List.set_cons_zero, List.set_cons_succ, List.getElem_toArray, List.getElem_cons_zero]
          refine wpAnyZ_take (i := 1) (v := ?_) rfl (by kernel_rfl) (by kernel_rfl) (by kernel_rfl) (by kernel_rfl) (fun _ _ _ h => h) (by rfl) ?_ hHeld ?_
          rotate_left
          · intro wS hSw
            have s0 := (hSw (w.heap.size + 1) 1 (.inl rfl)).trans m1
            go_simp
            rfl
          simp only [Act.put, List.setIfInBounds_toArray, List.set_cons_zero, List.set_cons_succ, List.getElem_toArray, List.getElem_cons_zero, List.getElem_cons_succ]
          refine wpAnyZ_take (i := 2) (v := ?_) rfl (by kernel_rfl) (by kernel_rfl) (by kernel_rfl) (by kernel_rfl) (fun _ _ _ h => h) (by rfl) ?_ hHeld ?_
          rotate_left
          · intro wS hSw
            go_simp
            rfl
          simp only [Act.put, List.setIfInBounds_toArray, List.set_cons_zero, List.set_cons_succ, List.getElem_toArray, List.getElem_cons_zero, List.getElem_cons_succ]
          refine wpAnyZ_take (i := 3) (v := ?_) rfl (by kernel_rfl) (by kernel_rfl) (by kernel_rfl) (by kernel_rfl) (fun _ _ _ h => h) (by rfl) ?_ hHeld ?_
          rotate_left
          · intro wS hSw
            have s0 := (hSw w6.heap.size 0 (.inr rfl)).trans e0; have s1 := (hSw w6.heap.size 1 (.inr rfl)).trans e1; have s2 := (hSw w6.heap.size 2 (.inr rfl)).trans e2; have s3 := (hSw w6.heap.size 3 (.inr rfl)).trans e3; have s4 := (hSw w6.heap.size 4 (.inr rfl)).trans e4
            go_simp
            rfl
          simp only [Act.put, List.setIfInBounds_toArray, List.set_cons_zero, List.set_cons_succ, List.getElem_toArray, List.getElem_cons_zero, List.getElem_cons_succ]
          refine wpAnyZ_one (i := 4) (by kernel_rfl) rfl (fun K hK => ?_)
          go_simp
          go_at_call 68
          refine (HCall.out W7.drew (HB7.out.trans (Below.refl _ _).drew)).mono ?_
          rintro e w9 ⟨⟨g, cap, rfl, HG⟩, b9⟩
          have HB9 := hide (show Below W7.heap.size W7 w9 from (Below.refl _ _).drew.trans b9)
          refine hK.out _ _ (fun k o hk => HB9.out.cell (p := ⟨k, o, none⟩) (by show k < W7.heap.size; rcases hk with e | e <;> omega)) (fun hHeld => ?_)
          clear hK K b9
          try simp only [Act.put, List.setIfInBounds_toArray, List.set_cons_zero, List.set_cons_succ]
          refine wpAnyZ_one (i := 5) (by kernel_rfl) rfl (fun K hK => ?_)
          go_simp
          obtain ⟨W10, hW10⟩ : ∃ W10, w9.alloc (.cells #[.string cn, .int .i64 cp, .int .i64 cc, .int .i64 cr, .slice (some ⟨g, 0, none⟩) ll cap] 86) = W10 := ⟨_, rfl⟩
          have b10 : Below w9.heap.size w9 W10 := by rw [← hW10]; exact (Below.refl _ _).alloc (Nat.le_refl _) _
          have hnew := flat_new codeK w9 (cI, .slice (some ⟨g, 0, none⟩) ll cap) #[.string cn, .int .i64 cp, .int .i64 cc, .int .i64 cr, .slice (some ⟨g, 0, none⟩) ll cap] 86 (HCs5.out _).symm (b := w9.heap.size) rfl
          rw [hW10] at hnew
          rw [hW10]
          have hA7 : Below W7.heap.size W7 W10 := HB9.out.trans (b10.mono HB9.out.size)
          have hA6 : Below w6.heap.size w6 W10 := HB7.out.trans (hA7.mono HB7.out.size)
          have HA7 := hide hA7
          have HA6 := hide hA6
          have HU10 : Hid (FRow insK W10 w6.heap.size (.slice (some ⟨g, 0, none⟩) ll cap) cI.list) := hide ((HG.out.on b10).le (by show w6.heap.size ≤ W7.heap.size; omega))
          refine hK.out _ _ (fun k o hk => hA7.cell (p := ⟨k, o, none⟩) (by show k < W7.heap.size; rcases hk with e | e <;> omega)) (fun hHeld => ?_)
          clear hK K hA7 hA6
          try simp only [Act.put, List.setIfInBounds_toArray, List.set_cons_zero, List.set_cons_succ]
          refine wpAnyZ_one (i := 6) (by kernel_rfl) rfl (fun K hK => ?_)
          refine step_flat codeOk (by rfl) (.tmp 30) (.tmp 34) (by rfl) (w.heap.size + 2) (.slice pa nl pc) cl' (by rfl) (HK6.out.on HA6.out) w9.heap.size (cI, .slice (some ⟨g, 0, none⟩) ll cap) (by rfl) hnew (code_one _ rfl) (by rw [HNl.out]; omega) (by have h1 := HA6.out.size; omega) ?_
          rw [HNl.out]
          intro g6 c6 w5 h5 g5
          have hfarK : ∀ k, k < W10.heap.size → some k ≠ (Value.slice pa nl pc).ownBlock → w5.heap[k]? = W10.heap[k]? := fun k hk hne => g5.block k hk hne
          have hbx5 : w5.heap[w6.heap.size]? = _ := (hfarK w6.heap.size (by have := HA7.out.size; omega) (fun e => by have := (HK6.out.lt e.symm).2; omega)).trans ((HA7.out.block _ hs7).trans HX7.out)
          have hx5 : w5.heap[w.heap.size + 1]? = _ := (hfarK _ (by have := HA7.out.size; omega) (HK6.out.far (by omega))).trans ((HA6.out.block _ hl6).trans Hij.out.2.1)
          have hbo5 : w5.heap[w8.heap.size]? = _ := (hfarK _ (by have := HA6.out.size; have := (Array.getElem?_eq_some_iff.1 Hbx.out).1; omega) (HK6.out.far_ty Hbx.out (by decide))).trans ((HA6.out.block _ (Array.getElem?_eq_some_iff.1 Hbx.out).1).trans Hbx.out)
          have hcell1 : w5.cell? ⟨w.heap.size + 1, 1, none⟩ = some (.slice pa nl pc) := (heapCells hx5).1 1
          have hfz1 := (heapCells hx5).2 1
          have hS5 : ∀ k o, k = w.heap.size + 1 ∨ k = w6.heap.size → w5.cell? ⟨k, o, none⟩ = W7.cell? ⟨k, o, none⟩ := by
            intro k o hk
            rcases hk with e | e
            · rw [e]; exact World.cell?_of_block (hx5.trans HIm.out.2.1.symm)
            · rw [e]; exact World.cell?_of_block (hbx5.trans HX7.out.symm)
          have HIP := hide (Hij.out.push HA6.out HU10.out g5 h5)
          have HBX5 : Hid ((w5.setCell ⟨w.heap.size + 1, 1, none⟩ (.slice (some ⟨g6, 0, none⟩) (nl + 1) c6)).heap[w6.heap.size]? = some (.cells #[.string cn, .int .i64 cp, .int .i64 cc, .int .i64 cr, .slice la ll lc] 86 (0, 0))) := hide ((Below.heap_setCell _ _ _ _ (by show w6.heap.size ≠ w.heap.size + 1; omega)).trans hbx5)
          have HBO5 : Hid ((w5.setCell ⟨w.heap.size + 1, 1, none⟩ (.slice (some ⟨g6, 0, none⟩) (nl + 1) c6)).heap[w8.heap.size]? = some (.cells #[.string mo, .int .i64 pr, .slice a2 l2 c2, .slice a3 l3 c3, .slice (some ⟨nb, nq, none⟩) n4 c4] 48 (0, 0))) := hide ((Below.heap_setCell _ _ _ _ (by show w8.heap.size ≠ w.heap.size + 1; omega)).trans hbo5)
          clear hfarK hbx5 hx5 hbo5 h5 g5 hnew hW10 b10
          refine hK.out _ _ hS5 (fun hHeld => ?_)
          clear hS5 hK K
          try simp only [Act.put, List.setIfInBounds_toArray]
          refine wpAnyZ_take (i := 7) (v := ?_) rfl (by kernel_rfl) (by kernel_rfl) (by kernel_rfl) (by kernel_rfl) (fun _ _ _ h => h) (by rfl) ?_ hHeld ?_
          rotate_left
          · intro wS hSw
            go_simp
            rfl
          simp only [Act.put, List.setIfInBounds_toArray, List.set_cons_zero, List.set_cons_succ, List.getElem_toArray, List.getElem_cons_zero, List.getElem_cons_succ]
          refine wpAnyZ_last (by kernel_rfl) rfl (by kernel_rfl) (fun K hK => ?_)
          go_simp
          refine hK.out _ _ ?_
          clear hK K hHeld hcell1 hfz1 e0 e1 e2 e3 e4 m1
          generalize w5.setCell ⟨w.heap.size + 1, 1, none⟩ (.slice (some ⟨g6, 0, none⟩) (nl + 1) c6) = W11 at *
          obtain ⟨na9, nc9, hnv⟩ := HIP.out.2.2.2.1.form
          subst hnv
          have HN9 := hide HIP.out.2.2.2.1
          have hnN : (imNames (vs.take k) ++ (p.cs.take j).map fun c => dotN mo c.1.name).length ≤ 10000000 := by
            have h1 := imNames_len (vs.take k)
            have h2 := flatCs_bound (Q := vs.take k) (d := 100) fun p hp => (HV.out p (List.mem_of_mem_take hp)).2.1
            rw [List.length_take] at h2
            rw [List.length_append, List.length_map, List.length_take, h1]
            omega
          obtain ⟨NN, hNN⟩ : ∃ NN, (imNames (vs.take k) ++ (p.cs.take j).map fun c => dotN mo c.1.name) = NN := ⟨_, rfl⟩
          have HNN := hide hNN
          rw [hNN] at HN9 hnN HIP
          obtain ⟨nn9, hnn9⟩ : ∃ q, NN.length = q := ⟨_, rfl⟩
          have HNn9 := hide hnn9
          rw [hnn9] at HIP
          rw [hnn9] at HN9 hnN
          have m2 : W11.cell? ⟨w.heap.size + 1, 2, none⟩ = some (.slice na9 nn9 nc9) := (heapCells HIP.out.2.1).1 2
          have mf := (heapCells HIP.out.2.1).2 2
          have v0 : W11.cell? ⟨w6.heap.size, 0, none⟩ = some (.string cn) := (heapCells HBX5.out).1 0
          have o0 : W11.cell? ⟨w8.heap.size, 0, none⟩ = some (.string mo) := (heapCells HBO5.out).1 0
          obtain ⟨N1, hN1⟩ : ∃ N1, mo ++ ⟨#[46]⟩ = N1 := ⟨_, rfl⟩
          obtain ⟨N2, hN2⟩ : ∃ N2, N1 ++ cn = N2 := ⟨_, rfl⟩
          have t1 : ¬ 9223372036854775807 < mo.size + 1 := by omega
          have hN1s : N1.size = mo.size + 1 := by rw [← hN1, ByteArray.size_append]; rfl
          have t2 : ¬ 9223372036854775807 < N1.size + cn.size := by have := HCnm.out; omega
          have hdot : dotN mo cn = N2 := by unfold dotN; rw [hN1, hN2]
          have HDot := hide hdot
          have hW11 : w.heap.size + 1 < W11.heap.size := HIP.out.lt
          obtain ⟨W12, hW12⟩ : ∃ W12, W11.alloc (.cells #[.string N2] 9) = W12 := ⟨_, rfl⟩
          have b12 : Below W11.heap.size W11 W12 := by rw [← hW12]; exact (Below.refl _ _).alloc (Nat.le_refl _) _
          have hnew := flat_new strK W11 N2 #[.string N2] 9 rfl (b := W11.heap.size) rfl
          rw [hW12] at hnew
          have HNew := hide hnew
          have HW12 := hide hW12
          have HN12 := hide (HN9.out.on b12)
          have HB12 := hide b12
          have hs12 : w.heap.size + 2 ≤ W12.heap.size := by have := b12.size; omega
          clear hNN hnn9 hN1s hdot hW12 b12 hnew
          go_wp2_with (at_builtin; rw [HW12.out]; refine wp_append_flat strOk rfl _ _ rfl (w.heap.size + 2) (.slice na9 nn9 nc9) NN rfl HN12.out W11.heap.size N2 rfl HNew.out (by intro z hz; simp [strK] at hz; subst hz; rfl) (by rw [HNn9.out]; omega) hs12 ?_; intro v13 w13 h13 g13; have hx13 := (g13.block (w.heap.size + 1) (by omega) (HN12.out.far (by omega))).trans ((HB12.out.block _ hW11).trans HIP.out.2.1); have hbo13 : w13.heap[w8.heap.size]? = _ := (g13.block w8.heap.size (by have h1 := (Array.getElem?_eq_some_iff.1 HBO5.out).1; have h2 := HB12.out.size; omega) (HN12.out.far_ty ((HB12.out.block _ (Array.getElem?_eq_some_iff.1 HBO5.out).1).trans HBO5.out) (by decide))).trans ((HB12.out.block _ (Array.getElem?_eq_some_iff.1 HBO5.out).1).trans HBO5.out); have mm2 : w13.cell? ⟨w.heap.size + 1, 2, none⟩ = some (.slice na9 nn9 nc9) := (heapCells hx13).1 2; have mmf := (heapCells hx13).2 2; have HIQ := hide (IP.name HIP.out HB12.out g13 h13); have HBOQ : Hid ((w13.setCell ⟨w.heap.size + 1, 2, none⟩ v13).heap[w8.heap.size]? = _) := hide ((Below.heap_setCell _ _ _ _ (by show w8.heap.size ≠ w.heap.size + 1; omega)).trans hbo13); obtain ⟨va13, vc13, hv13⟩ := h13.form; rw [List.length_append, List.length_singleton] at hv13; subst hv13; clear hx13 hbo13 g13 h13)
          go_roundw
          case rel =>
            refine ⟨j + 1, .slice (some ⟨g6, 0, none⟩) (nl + 1) c6, .slice va13 (NN.length + 1) vc13, cl' ++ [(cI, .slice (some ⟨g, 0, none⟩) ll cap)], by go_num, by omega, hide ?_, hide ?_, HBOQ⟩
            · rw [HTj.out.2, HDot.out, ← List.append_assoc, HNN.out]
              exact HIQ.out
            · rw [HTj.out.1, List.map_append, Hcj.out, ← List.append_assoc]
              rfl
          case measure => simp [intOf]; omega
        · have i2 : ¬ (j : Int) < n4 := by omega
          obtain rfl : j = n4 := by omega
          have hall : p.cs.take j = p.cs := List.take_of_length_le (by rw [HOl.out]; exact Nat.le_refl _)
          have hi := Hij.out
          have hc := Hcj.out
          rw [hall] at hi hc
          have hlen : cl'.length = ((vs.take k).flatMap fun y => y.cs).length + j := by
            have := congrArg List.length hc
            rw [List.length_map, List.length_append, List.length_map, imCodes_len, HOl.out] at this
            exact this
          have hclb := flatCs_bound (Q := vs.take k) (d := 100) fun p hp => (HV.out p (List.mem_of_mem_take hp)).2.1
          rw [List.length_take] at hclb
          have HNs : Hid (imNames (vs.take (k + 1)) = imNames (vs.take k) ++ p.cs.map fun c => dotN mo c.1.name) := hide (by
            rw [HTk.out]
            unfold imNames
            rw [List.flatMap_append, ← HMo.out]
            simp)
          have HCs2 : Hid (imCodes C P (vs.take (k + 1)) = imCodes C P (vs.take k) ++ p.cs.map fun c => codeI C P c.1) := hide (by
            rw [HTk.out]
            unfold imCodes
            rw [List.flatMap_append]
            simp)
          have HSt : Hid (imStarts (vs.take (k + 1)) 0 = imStarts (vs.take k) 0 ++ [((cl'.length : Nat) : Int) - 1]) := hide (by
            rw [HTk.out, imStarts_app, hlen, Nat.zero_add, HOl.out])
          obtain ⟨nl, hnl⟩ : ∃ nl, cl'.length = nl := ⟨_, rfl⟩
          have hnlb : nl ≤ 10000000 := by omega
          obtain ⟨pa, pc, hpv⟩ := hi.2.2.1.1.form
          subst hpv
          obtain ⟨sa, sc, hsv⟩ := hi.2.2.2.2.1.form
          subst hsv
          rw [hnl] at hi HSt
          obtain ⟨ns, hns⟩ : ∃ ns, (imStarts (vs.take k) 0).length = ns := ⟨_, rfl⟩
          have hnsb : ns ≤ 1000 := by rw [← hns, imStarts_len, List.length_take]; omega
          have HNs9 := hide hns
          have HZ := hide hi.2.2.2.2.1
          have m1 : w6.cell? ⟨w.heap.size + 1, 1, none⟩ = some (.slice pa nl pc) := (heapCells hi.2.1).1 1
          have m3 : w6.cell? ⟨w.heap.size + 1, 3, none⟩ = some (.slice sa ns sc) := by rw [← hns]; exact (heapCells hi.2.1).1 3
          rw [hns] at HZ hi
          have mf := (heapCells hi.2.1).2 3
          have hl6 := hi.lt
          have HI6 := hide hi
          have HC6 := hide hc
          have hwr : wrap64 ((nl : Int) - 1) = (nl : Int) - 1 := by unfold wrap64; omega
          obtain ⟨W12, hW12⟩ : ∃ W12, w6.alloc (.cells #[.int .i64 ((nl : Int) - 1)] 3) = W12 := ⟨_, rfl⟩
          have b12 : Below w6.heap.size w6 W12 := by rw [← hW12]; exact (Below.refl _ _).alloc (Nat.le_refl _) _
          have hnew := flat_new zK w6 ((nl : Int) - 1) #[.int .i64 ((nl : Int) - 1)] 3 rfl (b := w6.heap.size) rfl
          rw [hW12] at hnew
          have HNew := hide hnew
          have HW12 := hide hW12
          have HN12 := hide (HZ.out.on b12)
          have HB12 := hide b12
          have hs12 : w.heap.size + 2 ≤ W12.heap.size := by have := b12.size; omega
          clear hall hi hc hlen hclb hnl hns hW12 b12 hnew
          go_wp2_with (at_builtin; rw [HW12.out]; refine wp_append_flat zOk rfl _ _ rfl (w.heap.size + 2) (.slice sa ns sc) (imStarts (vs.take k) 0) rfl HN12.out w6.heap.size ((nl : Int) - 1) rfl HNew.out (by intro z hz; simp [zK] at hz; subst hz; rfl) (by rw [HNs9.out]; omega) hs12 ?_; intro v13 w13 h13 g13; have hx13 := (g13.block (w.heap.size + 1) (by have := HB12.out.size; omega) (HN12.out.far (by omega))).trans ((HB12.out.block _ hl6).trans HI6.out.2.1); have mm3 : w13.cell? ⟨w.heap.size + 1, 3, none⟩ = some (.slice sa ns sc) := (heapCells hx13).1 3; have mmf := (heapCells hx13).2 3; have HIQ := hide (IP.start HI6.out HB12.out g13 h13); obtain ⟨va13, vc13, hv13⟩ := h13.form; rw [List.length_append, List.length_singleton] at hv13; subst hv13; clear hx13 g13 h13)
          go_roundw
          case rel =>
            refine ⟨k + 1, .slice pa nl pc, nv', .slice va13 ((imStarts (vs.take k) 0).length + 1) vc13, cl', by go_num, by omega, hide ?_, hide ?_⟩
            · rw [HNs.out, HSt.out]
              exact HIQ.out
            · rw [HCs2.out]
              exact HC6.out
          case measure => simp [intOf]; omega
    · have i1 : ¬ (k : Int) < n := by omega
      obtain rfl : k = n := by omega
      have hall : vs.take k = vs := List.take_of_length_le (by rw [HN.out]; exact Nat.le_refl _)
      have hi := Hi.out
      have hc := Hc.out
      rw [hall] at hi hc
      obtain ⟨e1, e2, e3, e4, e5, e6⟩ := id hi
      obtain ⟨pa, pc, hpv⟩ := e3.1.form
      obtain ⟨na, nc, hnv⟩ := e4.form
      obtain ⟨sa, sc, hsv⟩ := e5.form
      subst hpv hnv hsv
      obtain ⟨ln1, hl1⟩ : ∃ q, cl.length = q := ⟨_, rfl⟩
      obtain ⟨ln2, hl2⟩ : ∃ q, (imNames vs).length = q := ⟨_, rfl⟩
      obtain ⟨ln3, hl3⟩ : ∃ q, (imStarts vs 0).length = q := ⟨_, rfl⟩
      rw [hl1, hl2, hl3] at e2
      rw [hl1] at e3
      rw [hl2] at e4
      rw [hl3] at e5
      have c0 : w8.cell? ⟨w.heap.size + 1, 0, none⟩ = some (.int .i64 G) := (heapCells e2).1 0
      have c1 : w8.cell? ⟨w.heap.size + 1, 1, none⟩ = some (.slice pa ln1 pc) := (heapCells e2).1 1
      have c2 : w8.cell? ⟨w.heap.size + 1, 2, none⟩ = some (.slice na ln2 nc) := (heapCells e2).1 2
      have c3 : w8.cell? ⟨w.heap.size + 1, 3, none⟩ = some (.slice sa ln3 sc) := (heapCells e2).1 3
      have d0 := (heapCells e1).1 0
      have d1 := (heapCells e1).1 1
      have d2 := (heapCells e1).1 2
      have d3 := (heapCells e1).1 3
      have g0 := (heapCells e1).2 0
      have g1 := (heapCells e1).2 1
      have g2 := (heapCells e1).2 2
      have g3 := (heapCells e1).2 3
      have hoth : ∀ j, j ≠ w.heap.size → (setRow w8 w.heap.size 0 [.int .i64 G, .slice pa ln1 pc, .slice na ln2 nc, .slice sa ln3 sc]).heap[j]? = w8.heap[j]? := fun j hj => setRow_other _ _ _ _ _ hj
      have hx9 : (setRow w8 w.heap.size 0 [.int .i64 G, .slice pa ln1 pc, .slice na ln2 nc, .slice sa ln3 sc]).heap[w.heap.size]? = some (.cells #[.int .i64 G, .slice pa ln1 pc, .slice na ln2 nc, .slice sa ln3 sc] 28 (0, 0)) := setRow_heap _ e1
      have hir : IRows (setRow w8 w.heap.size 0 [.int .i64 G, .slice pa ln1 pc, .slice na ln2 nc, .slice sa ln3 sc]) w.heap.size (.slice pa ln1 pc) (.slice na ln2 nc) (.slice sa ln3 sc) (imCodes C P vs) (imNames vs) (imStarts vs 0) :=
        ⟨⟨cl, hc, (e3.of_heap fun j hj _ _ => hoth j (by omega)).le (by omega)⟩, (e4.of_heap fun j hj _ _ => hoth j (by omega)).le (by omega), (e5.of_heap fun j hj _ _ => hoth j (by omega)).le (by omega)⟩
      have hb9 : Below w.heap.size w (setRow w8 w.heap.size 0 [.int .i64 G, .slice pa ln1 pc, .slice na ln2 nc, .slice sa ln3 sc]) := setRow_below _ e6 (Nat.le_refl _)
      have HX9 := hide hx9
      have HIR := hide hir
      have HB9 := hide hb9
      clear hall hi hc e1 e2 e3 e4 e5 e6 hl1 hl2 hl3 hoth hx9 hir hb9
      go_wp2
      change bodyPost _ _ _ _ _ (setRow w8 w.heap.size 0 [.int .i64 G, .slice pa ln1 pc, .slice na ln2 nc, .slice sa ln3 sc])
      clear c0 c1 c2 c3 d0 d1 d2 d3 g0 g1 g2 g3
      generalize setRow w8 w.heap.size 0 [.int .i64 G, .slice pa ln1 pc, .slice na ln2 nc, .slice sa ln3 sc] = wF at *
      have r0 : wF.cell? ⟨w.heap.size, 0, none⟩ = some (.int .i64 G) := (heapCells HX9.out).1 0
      have r1 : wF.cell? ⟨w.heap.size, 1, none⟩ = some (.slice pa ln1 pc) := (heapCells HX9.out).1 1
      have r2 : wF.cell? ⟨w.heap.size, 2, none⟩ = some (.slice na ln2 nc) := (heapCells HX9.out).1 2
      have r3 : wF.cell? ⟨w.heap.size, 3, none⟩ = some (.slice sa ln3 sc) := (heapCells HX9.out).1 3
      refine bodyPost_ret (v := .agg #[.int .i64 G, .slice pa ln1 pc, .slice na ln2 nc, .slice sa ln3 sc]) (by simp [results, Tryz.results25, go_sem, r0, r1, r2, r3]) rfl ?_
      exact ⟨⟨pa, ln1, pc, na, ln2, nc, sa, ln3, sc, rfl, HIR.out⟩, HB9.out⟩
end Go.Proofs.YtfbglokjehmgeaaGreatDoor
