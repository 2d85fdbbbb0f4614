/- Linking, the model's way of objects that are right: what it answers. No condition. -/
import Derived.Test.YtfbglokjehmgeaaGreatDoorZLkI
import Derived.Test.YtfbglokjehmgeaaGreatDoorZLkM
import Derived.BigRegion
namespace Go.Proofs.YtfbglokjehmgeaaGreatDoor
open Go.ChangeShapes Go.WideShapes Go.ChangeAt Go.RowKit Go.Deep

/-- Alike but for a text that no fault has set. -/
def Alk (x y : Int × ByteArray) : Prop := x.1 = y.1 ∧ (x.1 ≠ 0 → x.2 = y.2)
theorem resF_alk {P : List ObjectD} {N : List ByteArray} {mo : ByteArray} : ∀ {l : List InsD} {x y : Int × ByteArray}, Alk x y → Alk (resF P N mo l x) (resF P N mo l y)
  | [], _, _, h => h
  | z :: r, x, y, h => by
    unfold resF
    refine resF_alk ?_
    by_cases hc : unk P N z = true ∧ x.1 = 0
    · rw [if_pos hc, if_pos ⟨hc.1, h.1 ▸ hc.2⟩]
      exact ⟨rfl, fun _ => rfl⟩
    · rw [if_neg hc, if_neg (fun k => hc ⟨k.1, h.1.trans k.2⟩)]
      exact h
theorem resC_alk {P : List ObjectD} {N : List ByteArray} {mo : ByteArray} : ∀ {l : List CodeD} {x y : Int × ByteArray}, Alk x y → Alk (resC P N mo l x) (resC P N mo l y)
  | [], _, _, h => h
  | c :: r, x, y, h => by
    rw [resC_cons, resC_cons]
    exact resC_alk (resF_alk h)
theorem resO_alk {P : List ObjectD} {N : List ByteArray} : ∀ {l : List ObjectD} {x y : Int × ByteArray}, Alk x y → Alk (resO P N l x) (resO P N l y)
  | [], _, _, h => h
  | z :: r, x, y, h => by
    unfold resO
    by_cases hc : x.1 = 0
    · rw [if_pos hc, if_pos (h.1 ▸ hc)]
      exact resO_alk (resC_alk h)
    · rw [if_neg hc, if_neg (fun k => hc (h.1.trans k))]
      exact h
theorem alk_zero (s t : ByteArray) : Alk (0, s) (0, t) := ⟨rfl, fun h => absurd rfl h⟩
/-- What is linked, or the fault and whose. -/
def linkO (L : List ObjectD) (main : ByteArray) (o : List Nat) : Res :=
  if (resO (objsOf L o) (namesP (objsOf L o)) (objsOf L o) (0, ⟨#[]⟩)).1 ≠ 0 then .inl (resO (objsOf L o) (namesP (objsOf L o)) (objsOf L o) (0, ⟨#[]⟩))
  else if (fitP (namesP (objsOf L o)) ((objsOf L o).flatMap fun x => x.procs) (objsOf L o)).toList.isEmpty = false then .inl (8, fitP (namesP (objsOf L o)) ((objsOf L o).flatMap fun x => x.procs) (objsOf L o))
  else if 3000 < gsumP (objsOf L o) 0 then .inl (15, main) else .inr o
def linkF (L : List ObjectD) (main : ByteArray) : Res :=
  match visD L (L.length + 1) main [] [] with
  | .inl e => .inl e
  | .inr o => linkO L main o
def LinkPost (L : List ObjectD) (w : World) (R : Res) (e : Ending) (w' : World) : Prop := Below w.heap.size w w' ∧ match R with
  | .inl (c, t) => e = .returned (.tuple #[.agg #[.int .i64 0, .slice none 0 0, .slice none 0 0, .slice none 0 0], .string t, .int .i64 c])
  | .inr o => ∃ qa ql qc na nl nc sa sl sc, e = .returned (.tuple #[.agg #[.int .i64 (gsumP (objsOf L o) 0), .slice qa ql qc, .slice na nl nc, .slice sa sl sc], .string ⟨#[]⟩, .int .i64 0]) ∧ IRows w' w.heap.size (.slice qa ql qc) (.slice na nl nc) (.slice sa sl sc) (codesR (objsOf L o) (namesP (objsOf L o)) (objsOf L o)) (namesP (objsOf L o)) (starts (objsOf L o) 0)
theorem Fb.below {b B K : Nat} {w w' : World} (h : Fb b B w w') (hb : K ≤ b) (hB : b < B) (hK : K ≤ w.heap.size) : Below K w w' := ⟨h.os, h.tape, h.output, h.size, fun k hk => h.block k (by omega) (by omega) (.inl (by omega))⟩
theorem below_far {K b : Nat} {w w' : World} (h : w.grownBy w' (some b)) (hb : K ≤ b) (hK : K ≤ w.heap.size) : Below K w w' := ⟨h.os, h.tape, h.output, h.size, fun k hk => h.block k (by omega) (fun e => by cases e; omega)⟩
theorem IRows.of_heap {w w' : World} {B : Nat} {pv nv sv : Value} {C : List CodeD} {N : List ByteArray} {S : List Int} (h : IRows w B pv nv sv C N S) (hk : ∀ k, B ≤ k → k < w.heap.size → w'.heap[k]? = w.heap[k]?) : IRows w' B pv nv sv C N S := by
  obtain ⟨⟨cl, e, h1⟩, h2, h3⟩ := h
  exact ⟨⟨cl, e, h1.of_heap fun k a b _ => hk k a b⟩, h2.of_heap fun k a b _ => hk k a b, h3.of_heap fun k a b _ => hk k a b⟩
theorem IRows.le {w : World} {B K : Nat} {pv nv sv : Value} {C : List CodeD} {N : List ByteArray} {S : List Int} (h : IRows w B pv nv sv C N S) (hc : K ≤ B) : IRows w K pv nv sv C N S := by
  obtain ⟨⟨cl, e, h1⟩, h2, h3⟩ := h
  exact ⟨⟨cl, e, h1.le hc⟩, h2.le hc, h3.le hc⟩
/-- Four cells of a block stored anew. -/
def set4 (w : World) (k : Nat) (y0 y1 y2 y3 : Value) : World := (((w.setCell ⟨k, 0, none⟩ y0).setCell ⟨k, 1, none⟩ y1).setCell ⟨k, 2, none⟩ y2).setCell ⟨k, 3, none⟩ y3
theorem set4_cells {w : World} {k : Nat} {x0 x1 x2 x3 y0 y1 y2 y3 : Value} {T : TypeId} (h : w.heap[k]? = some (.cells #[x0, x1, x2, x3] T (0, 0))) : (set4 w k y0 y1 y2 y3).cell? ⟨k, 0, none⟩ = some y0 ∧ (set4 w k y0 y1 y2 y3).cell? ⟨k, 1, none⟩ = some y1 ∧ (set4 w k y0 y1 y2 y3).cell? ⟨k, 2, none⟩ = some y2 ∧ (set4 w k y0 y1 y2 y3).cell? ⟨k, 3, none⟩ = some y3 := by
  have hx : (set4 w k y0 y1 y2 y3).heap[k]? = some (.cells #[y0, y1, y2, y3] T (0, 0)) := block_set (block_set (block_set (block_set h _) _) _) _
  exact ⟨(heapCells hx).1 0, (heapCells hx).1 1, (heapCells hx).1 2, (heapCells hx).1 3⟩
theorem set4_below {w0 w : World} {B k : Nat} {y0 y1 y2 y3 : Value} (h : Below B w0 w) (hk : B ≤ k) : Below B w0 (set4 w k y0 y1 y2 y3) := (((h.setCell (p := ⟨k, 0, none⟩) hk _).setCell (p := ⟨k, 1, none⟩) hk _).setCell (p := ⟨k, 2, none⟩) hk _).setCell (p := ⟨k, 3, none⟩) hk _
theorem set4_other {w : World} {k j : Nat} {y0 y1 y2 y3 : Value} (h : j ≠ k) : (set4 w k y0 y1 y2 y3).heap[j]? = w.heap[j]? := by
  unfold set4
  rw [Below.heap_setCell _ _ _ _ h, Below.heap_setCell _ _ _ _ h, Below.heap_setCell _ _ _ _ h, Below.heap_setCell _ _ _ _ h]
set_option maxRecDepth 20000 in
set_option maxHeartbeats 16000000 in
theorem l05Link_any (a : Option Addr) (cp : Nat) (m : Md) (L : List ObjectD) (main : ByteArray) (w : World) (h : SlAt ObjectAt 5 w m (.slice a L.length cp) L) (hm : m.hi ≤ w.heap.size) (hL : L.length ≤ 1000) (hT : ∀ x ∈ L, Tiny x) (hps : ∀ x ∈ L, 0 < x.procs.length) :
    Calls Tryz.prog 16 #[.slice a L.length cp, .string main] w fun e w' => LinkPost L w (linkF L main) e w' := by
  obtain ⟨V, hV⟩ : ∃ V, visD L (L.length + 1) main [] [] = V := ⟨_, rfl⟩
  have HV := hide hV
  obtain ⟨W1, hW1⟩ : ∃ W1, (w.alloc (.cells #[.int .i64 0, .slice none 0 0, .slice none 0 0, .slice none 0 0] 28)).alloc (.cells #[.slice a L.length cp, .slice none 0 0, .slice none 0 0, .int .i64 0, .string ⟨#[]⟩] 91) = W1 := ⟨_, rfl⟩
  have HW1 := hide hW1
  have hs1 : W1.heap.size = w.heap.size + 2 := by rw [← hW1, World.size_alloc, World.size_alloc]
  have b1 : Below w.heap.size w W1 := by rw [← hW1]; exact ((Below.refl _ _).alloc (Nat.le_refl _) _).alloc (by rw [World.size_alloc]; omega) _
  have hx1 : W1.heap[w.heap.size + 1]? = some (.cells #[.slice a L.length cp, .slice none 0 0, .slice none 0 0, .int .i64 0, .string ⟨#[]⟩] 91 (0, 0)) := by
    rw [← hW1]
    have := Deep.blk_alloc_new (w.alloc (.cells #[.int .i64 0, .slice none 0 0, .slice none 0 0, .slice none 0 0] 28)) (.cells #[.slice a L.length cp, .slice none 0 0, .slice none 0 0, .int .i64 0, .string ⟨#[]⟩] 91)
    rwa [World.size_alloc] at this
  have hx0 : W1.heap[w.heap.size]? = some (.cells #[.int .i64 0, .slice none 0 0, .slice none 0 0, .slice none 0 0] 28 (0, 0)) := by
    rw [← hW1]
    exact (((Below.refl _ _).alloc (Nat.le_refl _) _).block w.heap.size (by rw [World.size_alloc]; omega)).trans (Deep.blk_alloc_new w _)
  have hS1 := h.on ObjectAt.stays (b1.mono hm)
  have HVis : Hid (Calls Tryz.prog 46 #[.pointer (some ⟨w.heap.size + 1, 0, none⟩), .string main] W1 fun e w' => e = .returned (.tuple #[]) ∧ VisPost L (w.heap.size + 1) (w.heap.size + 2) (.slice a L.length cp) [] (L.length + 1) V W1 w') := hide (by
    rw [← hV]
    exact visit_any a cp m L (w.heap.size + 1) (w.heap.size + 2) (L.length + 1) main [] [] ⟨#[]⟩ W1 hS1 (by omega) (by omega) (by omega) hL ⟨_, _, hx1, FRow.nil _ _ _, FRow.nil _ _ _⟩ ⟨⟨List.nodup_nil, fun k hk => by cases hk⟩, fun z hz => by cases hz⟩ List.nodup_nil (fun z hz => by cases hz) (by simp))
  have HB1 := hide b1
  have HX0 := hide hx0
  have HS1 := hide hS1
  have HTi := hide hT
  have HPs := hide hps
  have HM := hide hm
  unfold linkF
  rw [hV]
  obtain ⟨nL, hnL⟩ : ∃ k, L.length = k := ⟨_, rfl⟩
  have HNL := hide hnL
  rw [hnL] at HW1 HVis HS1 hL ⊢
  clear hx1 hx0 hS1 hV b1 hT hps h hnL hW1
  have h1 : w.heap.size < W1.heap.size := by omega
  go_enter Tryz.func16, Tryz.ntmps16
  go_wp2_with fail
  rw [HW1.out]
  refine HVis.out.mono ?_
  rintro e w2 ⟨rfl, hf, hvp⟩
  have hx2 : w2.heap[w.heap.size]? = some (.cells #[.int .i64 0, .slice none 0 0, .slice none 0 0, .slice none 0 0] 28 (0, 0)) := (hf.block w.heap.size h1 (by omega) (.inl (by omega))).trans HX0.out
  have b2 : Below w.heap.size w w2 := HB1.out.trans (hf.below (by omega) (by omega) (by omega))
  have hs2 := hf.size
  have HF := hide hf
  have HX2 := hide hx2
  have HB2 := hide b2
  clear hf hx2 b2
  cases V with
  | inl ct =>
    obtain ⟨c, t⟩ := ct
    obtain ⟨hc0, o, -, ov, pv, hls, -⟩ := hvp
    obtain ⟨y0, y1⟩ := heapCells hls
    have c3 : w2.cell? ⟨w.heap.size + 1, 3, none⟩ = some (.int .i64 c) := y0 3
    have c4 : w2.cell? ⟨w.heap.size + 1, 4, none⟩ = some (.string t) := y0 4
    obtain ⟨z0, z1⟩ := heapCells HX2.out
    have d0 : w2.cell? ⟨w.heap.size, 0, none⟩ = some (.int .i64 0) := z0 0
    have d1 : w2.cell? ⟨w.heap.size, 1, none⟩ = some (.slice none 0 0) := z0 1
    have d2 : w2.cell? ⟨w.heap.size, 2, none⟩ = some (.slice none 0 0) := z0 2
    have d3 : w2.cell? ⟨w.heap.size, 3, none⟩ = some (.slice none 0 0) := z0 3
    have f0 := z1 0
    have f1 := z1 1
    have f2 := z1 2
    have f3 := z1 3
    have hcb : (c == 0) = false := by simpa using hc0
    clear y0 y1 z0 z1 hls HF HVis HX0 HS1
    go_wp2_with fail
    go_region_held3 (fun w' => w'.cell? ⟨w.heap.size + 1, 3, none⟩ = some (.int .i64 c) ∧ w'.cell? ⟨w.heap.size + 1, 4, none⟩ = some (.string t))
      (first
        | (go_split_ands; exact ⟨c3, c4⟩)
        | go_keep
        | fail)
      (fail)
    all_goals
      go_wp2_with fail
      obtain ⟨r0, r1, r2, r3⟩ := set4_cells (y0 := .int .i64 0) (y1 := .slice none 0 0) (y2 := .slice none 0 0) (y3 := .slice none 0 0) HX2.out
      have hbF := (set4_below (y0 := .int .i64 0) (y1 := .slice none 0 0) (y2 := .slice none 0 0) (y3 := .slice none 0 0) HB2.out (Nat.le_refl _)).drew
      change bodyPost _ _ _ _ _ (set4 w2 w.heap.size (.int .i64 0) (.slice none 0 0) (.slice none 0 0) (.slice none 0 0)).drew
      have r0 : (set4 w2 w.heap.size (.int .i64 0) (.slice none 0 0) (.slice none 0 0) (.slice none 0 0)).drew.cell? ⟨w.heap.size, 0, none⟩ = _ := r0
      have r1 : (set4 w2 w.heap.size (.int .i64 0) (.slice none 0 0) (.slice none 0 0) (.slice none 0 0)).drew.cell? ⟨w.heap.size, 1, none⟩ = _ := r1
      have r2 : (set4 w2 w.heap.size (.int .i64 0) (.slice none 0 0) (.slice none 0 0) (.slice none 0 0)).drew.cell? ⟨w.heap.size, 2, none⟩ = _ := r2
      have r3 : (set4 w2 w.heap.size (.int .i64 0) (.slice none 0 0) (.slice none 0 0) (.slice none 0 0)).drew.cell? ⟨w.heap.size, 3, none⟩ = _ := r3
      generalize (set4 w2 w.heap.size (.int .i64 0) (.slice none 0 0) (.slice none 0 0) (.slice none 0 0)).drew = wF at *
      refine bodyPost_ret (v := .tuple #[.agg #[.int .i64 0, .slice none 0 0, .slice none 0 0, .slice none 0 0], .string t, .int .i64 c]) (by simp [results, Tryz.results16, go_sem, r0, r1, r2, r3]) rfl ⟨hbF, rfl⟩
  | inr o =>
    obtain ⟨s1, hls⟩ := hvp
    have hg := vis_good (L := L) (g := L.length + 1) (name := main) (o := []) (o' := o) (opn := []) ⟨⟨List.nodup_nil, fun k hk => by cases hk⟩, fun z hz => by cases hz⟩ HV.out
    have HKn : Hid (∀ k ∈ o, k < L.length) := hide hg.1.2
    have hol : o.length ≤ 1000 := by
      have := pigeon (r := List.range L.length) hg.1.1 (fun x hx => List.mem_range.2 (hg.1.2 x hx))
      rw [List.length_range] at this
      rw [← HNL.out] at hL
      omega
    have HOl := hide hol
    have hS2 := HS1.out.same ObjectAt.stays (HF.out.same (lo := m.lo) (hi := m.hi) (by omega) (by omega) (by omega))
    have HS2 := hide hS2
    have HIm : Hid (Calls Tryz.prog 47 #[.pointer (some ⟨w.heap.size + 1, 0, none⟩)] w2 _) := hide (by
      have h9 := hS2
      rw [← HNL.out] at h9
      have hl9 := hls
      rw [← HNL.out] at hl9
      exact image_any a cp m L (w.heap.size + 1) (w.heap.size + 2) o [] s1 w2 h9 (by omega) (by omega) (by omega) (by rw [HNL.out]; exact hL) HTi.out hl9 HKn.out hol)
    rw [HNL.out] at HIm
    obtain ⟨R, hR⟩ : ∃ R, resO (objsOf L o) (namesP (objsOf L o)) (objsOf L o) (0, s1) = R := ⟨_, rfl⟩
    have HAl := hide (resO_alk (P := objsOf L o) (N := namesP (objsOf L o)) (l := objsOf L o) (alk_zero s1 ⟨#[]⟩))
    rw [hR] at HIm HAl
    obtain ⟨ov, pv, ⟨c0, c1, c2, c3, c4⟩, -, -, -, -⟩ := hls.cells
    clear hls hg hol hS2 hR
    go_wp2_with fail
    refine HIm.out.mono ?_
    rintro e w3 ⟨qa, ql, qc, na, nl, nc, sa, sl, sc, rfl, hl3, g3, hrows⟩
    clear c0 c1 c2 c3 c4
    have hx3 : w3.heap[w.heap.size]? = some (.cells #[.int .i64 0, .slice none 0 0, .slice none 0 0, .slice none 0 0] 28 (0, 0)) := (g3.block w.heap.size (by omega) (fun e => by have := Option.some.inj e; omega)).trans HX2.out
    have b3 : Below w.heap.size w w3 := HB2.out.trans (below_far g3 (by omega) (by omega))
    have hs3 := g3.size
    obtain ⟨W4, hW4⟩ : ∃ W4, w3.alloc (.cells #[.int .i64 (gsumP (objsOf L o) 0), .slice qa ql qc, .slice na nl nc, .slice sa sl sc] 28) = W4 := ⟨_, rfl⟩
    have hs4 : W4.heap.size = w3.heap.size + 1 := by rw [← hW4, World.size_alloc]
    have b34 : Below w3.heap.size w3 W4 := by rw [← hW4]; exact (Below.refl _ _).alloc (Nat.le_refl _) _
    have hx4 : W4.heap[w.heap.size]? = some (.cells #[.int .i64 0, .slice none 0 0, .slice none 0 0, .slice none 0 0] 28 (0, 0)) := (b34.block _ (by omega)).trans hx3
    have hk4 : W4.heap[w3.heap.size]? = some (.cells #[.int .i64 (gsumP (objsOf L o) 0), .slice qa ql qc, .slice na nl nc, .slice sa sl sc] 28 (0, 0)) := by rw [← hW4]; exact Deep.blk_alloc_new w3 _
    have b4 : Below w.heap.size w W4 := b3.trans (b34.mono (by omega))
    have hS4 : SlAt ObjectAt 5 W4 m (.slice a nL cp) L := HS2.out.same ObjectAt.stays (((Same.of_below (lo := m.lo) (below_far g3 (by omega) (by omega) : Below w.heap.size w2 w3) hm)).trans (Same.of_below b34 (by omega)))
    have hl4 : ∃ ov pv, LX W4 (w.heap.size + 1) (w.heap.size + 2) (.slice a nL cp) ov pv o [] R.1 R.2 := by
      obtain ⟨ov, pv, hlx⟩ := hl3.lx
      exact ⟨ov, pv, hlx.below b34⟩
    obtain ⟨ov4, pv4, hl4⟩ := hl4
    have HRw := hide (fun h0 => hrows h0)
    have HE4 := hide hW4
    have HB4 := hide b4
    have HX4 := hide hx4
    have HK4 := hide hk4
    have HS4 := hide hS4
    have HL4 := hide hl4
    have HG3 := hide g3
    have H34 := hide b34
    obtain ⟨y0, -⟩ := heapCells hl4.1
    have c3 : W4.cell? ⟨w.heap.size + 1, 3, none⟩ = some (.int .i64 R.1) := y0 3
    have c4 : W4.cell? ⟨w.heap.size + 1, 4, none⟩ = some (.string R.2) := y0 4
    have c1 : W4.cell? ⟨w.heap.size + 1, 1, none⟩ = some ov4 := y0 1
    obtain ⟨rc, rt⟩ := R
    have hrf : rc = (resO (objsOf L o) (namesP (objsOf L o)) (objsOf L o) (0, ⟨#[]⟩)).1 := HAl.out.1
    simp only [] at c3 c4 HL4 HRw
    have hk3b : w3.heap.size < W4.heap.size := by omega
    clear hx3 b3 hW4 b4 hx4 hk4 hS4 hl4 hl3 hrows g3 b34 y0 HIm hs4 hs1
    by_cases hr0 : rc = 0
    · subst hr0
      have HLo : Hid (linkO L main o = if (fitP (namesP (objsOf L o)) ((objsOf L o).flatMap fun x => x.procs) (objsOf L o)).toList.isEmpty = false then .inl (8, fitP (namesP (objsOf L o)) ((objsOf L o).flatMap fun x => x.procs) (objsOf L o)) else if 3000 < gsumP (objsOf L o) 0 then .inl (15, main) else .inr o) := hide (by unfold linkO; rw [← hrf]; exact if_neg (by simp))
      clear hrf
      have HFi : Hid (Calls Tryz.prog 48 #[.slice a L.length cp, ov4] W4 _) := hide (by
        have h9 := HS4.out
        rw [← HNL.out] at h9
        exact fit_any a cp m L ov4 o (w.heap.size + 2) W4 h9 (Nat.le_trans HM.out HB4.out.size) (by rw [HNL.out]; exact hL) HTi.out HPs.out HL4.out.2.1 HKn.out HOl.out)
      rw [HNL.out] at HFi
      generalize fitP (namesP (objsOf L o)) ((objsOf L o).flatMap fun x => x.procs) (objsOf L o) = FT at *
      go_upto_region 6 with fail
      rw [HE4.out]
      go_wp2_with fail
      refine HFi.out.mono ?_
      rintro e w5 ⟨rfl, b5⟩
      have hx5 : w5.heap[w.heap.size]? = some (.cells #[.int .i64 0, .slice none 0 0, .slice none 0 0, .slice none 0 0] 28 (0, 0)) := (b5.block _ (by omega)).trans HX4.out
      have hk5 : w5.heap[w3.heap.size]? = some (.cells #[.int .i64 (gsumP (objsOf L o) 0), .slice qa ql qc, .slice na nl nc, .slice sa sl sc] 28 (0, 0)) := (b5.block _ hk3b).trans HK4.out
      have hb5 : Below w.heap.size w w5 := HB4.out.trans (b5.mono HB4.out.size)
      have hl5 := HL4.out.below b5
      have h5 : w.heap.size < w5.heap.size := (Array.getElem?_eq_some_iff.1 hx5).1
      have h51 : w.heap.size + 1 < w5.heap.size := (Array.getElem?_eq_some_iff.1 hl5.1).1
      have h52 : w.heap.size + 2 ≤ w5.heap.size := by omega
      obtain ⟨y0, -⟩ := heapCells hl5.1
      clear c1 c3 c4
      have c3 : w5.cell? ⟨w.heap.size + 1, 3, none⟩ = some (.int .i64 0) := y0 3
      have HX5 := hide hx5
      have HK5 := hide hk5
      have HB5 := hide hb5
      have HL5 := hide hl5.ls
      have HB45 := hide b5
      clear hx5 hk5 hb5 hl5 b5 y0
      obtain ⟨x0, x1⟩ := heapCells HK5.out
      have g0 : w5.cell? ⟨w3.heap.size, 0, none⟩ = some (.int .i64 (gsumP (objsOf L o) 0)) := x0 0
      have g1 : w5.cell? ⟨w3.heap.size, 1, none⟩ = some (.slice qa ql qc) := x0 1
      have g2 : w5.cell? ⟨w3.heap.size, 2, none⟩ = some (.slice na nl nc) := x0 2
      have g4 : w5.cell? ⟨w3.heap.size, 3, none⟩ = some (.slice sa sl sc) := x0 3
      clear x0 x1
      cases hF : FT.toList.isEmpty with
      | false =>
        have HLk : Hid (linkO L main o = .inl (8, FT)) := hide (by rw [HLo.out, if_pos hF])
        go_wp2_with fail
        refine (fail_any (w.heap.size + 1) (w.heap.size + 2) (.slice a nL cp) o [] rt FT 8 w5 (by omega) HL5.out).mono ?_
        rintro e w6 ⟨rfl, hl6, hf6⟩
        have hx6 := (hf6.block w.heap.size h5 (by omega) (.inl (by omega))).trans HX5.out
        have HX6 := hide hx6
        have HB6 := hide (HB5.out.trans (hf6.below (by omega) (by omega) (by omega)))
        obtain ⟨ov6, pv6, hl6, -⟩ := hl6
        obtain ⟨y0, -⟩ := heapCells hl6
        clear c3 g0 g1 g2 g4 hx6 hf6
        have c3 : w6.cell? ⟨w.heap.size + 1, 3, none⟩ = some (.int .i64 8) := y0 3
        have c4 : w6.cell? ⟨w.heap.size + 1, 4, none⟩ = some (.string FT) := y0 4
        clear y0 hl6
        obtain ⟨z0, z1⟩ := heapCells HX6.out
        have d0 : w6.cell? ⟨w.heap.size, 0, none⟩ = some (.int .i64 0) := z0 0
        have d1 : w6.cell? ⟨w.heap.size, 1, none⟩ = some (.slice none 0 0) := z0 1
        have d2 : w6.cell? ⟨w.heap.size, 2, none⟩ = some (.slice none 0 0) := z0 2
        have d3 : w6.cell? ⟨w.heap.size, 3, none⟩ = some (.slice none 0 0) := z0 3
        have f0 := z1 0
        have f1 := z1 1
        have f2 := z1 2
        have f3 := z1 3
        clear z0 z1
        go_wp2_with fail
        go_region_held3 (fun w' => w'.cell? ⟨w.heap.size + 1, 3, none⟩ = some (.int .i64 8) ∧ w'.cell? ⟨w.heap.size + 1, 4, none⟩ = some (.string FT))
          (first
            | (go_split_ands; exact ⟨c3, c4⟩)
            | go_keep
            | fail)
          (fail)
        all_goals
          go_wp2_with fail
          obtain ⟨r0, r1, r2, r3⟩ := set4_cells (y0 := .int .i64 0) (y1 := .slice none 0 0) (y2 := .slice none 0 0) (y3 := .slice none 0 0) HX6.out
          have hbF := (set4_below (y0 := .int .i64 0) (y1 := .slice none 0 0) (y2 := .slice none 0 0) (y3 := .slice none 0 0) HB6.out (Nat.le_refl _)).drew
          change bodyPost _ _ _ _ _ (set4 w6 w.heap.size (.int .i64 0) (.slice none 0 0) (.slice none 0 0) (.slice none 0 0)).drew
          have r0 : (set4 w6 w.heap.size (.int .i64 0) (.slice none 0 0) (.slice none 0 0) (.slice none 0 0)).drew.cell? ⟨w.heap.size, 0, none⟩ = _ := r0
          have r1 : (set4 w6 w.heap.size (.int .i64 0) (.slice none 0 0) (.slice none 0 0) (.slice none 0 0)).drew.cell? ⟨w.heap.size, 1, none⟩ = _ := r1
          have r2 : (set4 w6 w.heap.size (.int .i64 0) (.slice none 0 0) (.slice none 0 0) (.slice none 0 0)).drew.cell? ⟨w.heap.size, 2, none⟩ = _ := r2
          have r3 : (set4 w6 w.heap.size (.int .i64 0) (.slice none 0 0) (.slice none 0 0) (.slice none 0 0)).drew.cell? ⟨w.heap.size, 3, none⟩ = _ := r3
          generalize (set4 w6 w.heap.size (.int .i64 0) (.slice none 0 0) (.slice none 0 0) (.slice none 0 0)).drew = wF at *
          refine bodyPost_ret (v := .tuple #[.agg #[.int .i64 0, .slice none 0 0, .slice none 0 0, .slice none 0 0], .string FT, .int .i64 8]) (by simp [results, Tryz.results16, go_sem, r0, r1, r2, r3]) rfl ?_
          rw [HLk.out]
          exact ⟨hbF, rfl⟩
      | true =>
        by_cases hgs : 3000 < gsumP (objsOf L o) 0
        · have HLk : Hid (linkO L main o = .inl (15, main)) := hide (by rw [HLo.out, if_neg (by rw [hF]; decide), if_pos hgs])
          go_wp2_with fail
          refine (fail_any (w.heap.size + 1) (w.heap.size + 2) (.slice a nL cp) o [] rt main 15 w5 (by omega) HL5.out).mono ?_
          rintro e w6 ⟨rfl, hl6, hf6⟩
          have hx6 := (hf6.block w.heap.size h5 (by omega) (.inl (by omega))).trans HX5.out
          have HX6 := hide hx6
          have HB6 := hide (HB5.out.trans (hf6.below (by omega) (by omega) (by omega)))
          obtain ⟨ov6, pv6, hl6, -⟩ := hl6
          obtain ⟨y0, -⟩ := heapCells hl6
          clear c3 g0 g1 g2 g4 hx6 hf6
          have c3 : w6.cell? ⟨w.heap.size + 1, 3, none⟩ = some (.int .i64 15) := y0 3
          have c4 : w6.cell? ⟨w.heap.size + 1, 4, none⟩ = some (.string main) := y0 4
          clear y0 hl6
          obtain ⟨z0, z1⟩ := heapCells HX6.out
          have d0 : w6.cell? ⟨w.heap.size, 0, none⟩ = some (.int .i64 0) := z0 0
          have d1 : w6.cell? ⟨w.heap.size, 1, none⟩ = some (.slice none 0 0) := z0 1
          have d2 : w6.cell? ⟨w.heap.size, 2, none⟩ = some (.slice none 0 0) := z0 2
          have d3 : w6.cell? ⟨w.heap.size, 3, none⟩ = some (.slice none 0 0) := z0 3
          have f0 := z1 0
          have f1 := z1 1
          have f2 := z1 2
          have f3 := z1 3
          clear z0 z1
          go_wp2_with fail
          go_region_held3 (fun w' => w'.cell? ⟨w.heap.size + 1, 3, none⟩ = some (.int .i64 15) ∧ w'.cell? ⟨w.heap.size + 1, 4, none⟩ = some (.string main))
            (first
              | (go_split_ands; exact ⟨c3, c4⟩)
              | go_keep
              | fail)
            (fail)
          all_goals
            go_wp2_with fail
            obtain ⟨r0, r1, r2, r3⟩ := set4_cells (y0 := .int .i64 0) (y1 := .slice none 0 0) (y2 := .slice none 0 0) (y3 := .slice none 0 0) HX6.out
            have hbF := (set4_below (y0 := .int .i64 0) (y1 := .slice none 0 0) (y2 := .slice none 0 0) (y3 := .slice none 0 0) HB6.out (Nat.le_refl _)).drew
            change bodyPost _ _ _ _ _ (set4 w6 w.heap.size (.int .i64 0) (.slice none 0 0) (.slice none 0 0) (.slice none 0 0)).drew
            have r0 : (set4 w6 w.heap.size (.int .i64 0) (.slice none 0 0) (.slice none 0 0) (.slice none 0 0)).drew.cell? ⟨w.heap.size, 0, none⟩ = _ := r0
            have r1 : (set4 w6 w.heap.size (.int .i64 0) (.slice none 0 0) (.slice none 0 0) (.slice none 0 0)).drew.cell? ⟨w.heap.size, 1, none⟩ = _ := r1
            have r2 : (set4 w6 w.heap.size (.int .i64 0) (.slice none 0 0) (.slice none 0 0) (.slice none 0 0)).drew.cell? ⟨w.heap.size, 2, none⟩ = _ := r2
            have r3 : (set4 w6 w.heap.size (.int .i64 0) (.slice none 0 0) (.slice none 0 0) (.slice none 0 0)).drew.cell? ⟨w.heap.size, 3, none⟩ = _ := r3
            generalize (set4 w6 w.heap.size (.int .i64 0) (.slice none 0 0) (.slice none 0 0) (.slice none 0 0)).drew = wF at *
            refine bodyPost_ret (v := .tuple #[.agg #[.int .i64 0, .slice none 0 0, .slice none 0 0, .slice none 0 0], .string main, .int .i64 15]) (by simp [results, Tryz.results16, go_sem, r0, r1, r2, r3]) rfl ?_
            rw [HLk.out]
            exact ⟨hbF, rfl⟩
        · have HLk : Hid (linkO L main o = .inr o) := hide (by rw [HLo.out, if_neg (by rw [hF]; decide), if_neg hgs])
          obtain ⟨z0, z1⟩ := heapCells HX5.out
          have d0 : w5.cell? ⟨w.heap.size, 0, none⟩ = some (.int .i64 0) := z0 0
          have d1 : w5.cell? ⟨w.heap.size, 1, none⟩ = some (.slice none 0 0) := z0 1
          have d2 : w5.cell? ⟨w.heap.size, 2, none⟩ = some (.slice none 0 0) := z0 2
          have d3 : w5.cell? ⟨w.heap.size, 3, none⟩ = some (.slice none 0 0) := z0 3
          have f0 := z1 0
          have f1 := z1 1
          have f2 := z1 2
          have f3 := z1 3
          clear z0 z1
          have hs23 := HG3.out.size
          have hrF : IRows (set4 w5 w.heap.size (.int .i64 (gsumP (objsOf L o) 0)) (.slice qa ql qc) (.slice na nl nc) (.slice sa sl sc)) w.heap.size (.slice qa ql qc) (.slice na nl nc) (.slice sa sl sc) (codesR (objsOf L o) (namesP (objsOf L o)) (objsOf L o)) (namesP (objsOf L o)) (starts (objsOf L o) 0) := by
            refine IRows.le (B := w2.heap.size) ((HRw.out (by first | rfl | trivial)).of_heap fun k hk1 hk2 => ?_) (by omega)
            rw [set4_other (by omega)]
            exact (HB45.out.block k (Nat.lt_of_lt_of_le hk2 H34.out.size)).trans (H34.out.block k hk2)
          have HRF := hide hrF
          clear hrF
          go_wp2_with fail
          obtain ⟨r0, r1, r2, r3⟩ := set4_cells (y0 := .int .i64 (gsumP (objsOf L o) 0)) (y1 := .slice qa ql qc) (y2 := .slice na nl nc) (y3 := .slice sa sl sc) HX5.out
          have hbF := set4_below (y0 := .int .i64 (gsumP (objsOf L o) 0)) (y1 := .slice qa ql qc) (y2 := .slice na nl nc) (y3 := .slice sa sl sc) HB5.out (Nat.le_refl _)
          change bodyPost _ _ _ _ _ (set4 w5 w.heap.size (.int .i64 (gsumP (objsOf L o) 0)) (.slice qa ql qc) (.slice na nl nc) (.slice sa sl sc))
          generalize set4 w5 w.heap.size (.int .i64 (gsumP (objsOf L o) 0)) (.slice qa ql qc) (.slice na nl nc) (.slice sa sl sc) = wF at *
          refine bodyPost_ret (v := .tuple #[.agg #[.int .i64 (gsumP (objsOf L o) 0), .slice qa ql qc, .slice na nl nc, .slice sa sl sc], .string ⟨#[]⟩, .int .i64 0]) (by simp [results, Tryz.results16, go_sem, r0, r1, r2, r3]) rfl ?_
          rw [HLk.out]
          exact ⟨hbF, _, _, _, _, _, _, _, _, _, rfl, HRF.out⟩
    · have HLk : Hid (linkO L main o = .inl (rc, rt)) := hide (by
        unfold linkO
        rw [if_pos (by rw [← hrf]; exact hr0)]
        have h2 : rt = _ := HAl.out.2 hr0
        rw [hrf, h2])
      have hcb : (rc == 0) = false := by simpa using hr0
      clear hrf HRw HS4 HK4 HG3
      obtain ⟨z0, z1⟩ := heapCells HX4.out
      have d0 : W4.cell? ⟨w.heap.size, 0, none⟩ = some (.int .i64 0) := z0 0
      have d1 : W4.cell? ⟨w.heap.size, 1, none⟩ = some (.slice none 0 0) := z0 1
      have d2 : W4.cell? ⟨w.heap.size, 2, none⟩ = some (.slice none 0 0) := z0 2
      have d3 : W4.cell? ⟨w.heap.size, 3, none⟩ = some (.slice none 0 0) := z0 3
      have f0 := z1 0
      have f1 := z1 1
      have f2 := z1 2
      have f3 := z1 3
      clear z0 z1
      go_upto_region 6 with fail
      rw [HE4.out]
      go_wp2_with fail
      go_region_held3 (fun w' => w'.cell? ⟨w.heap.size + 1, 3, none⟩ = some (.int .i64 rc) ∧ w'.cell? ⟨w.heap.size + 1, 4, none⟩ = some (.string rt))
        (first
          | (go_split_ands; exact ⟨c3, c4⟩)
          | go_keep
          | fail)
        (fail)
      all_goals
        go_wp2_with fail
        obtain ⟨r0, r1, r2, r3⟩ := set4_cells (y0 := .int .i64 0) (y1 := .slice none 0 0) (y2 := .slice none 0 0) (y3 := .slice none 0 0) HX4.out
        have hbF := (set4_below (y0 := .int .i64 0) (y1 := .slice none 0 0) (y2 := .slice none 0 0) (y3 := .slice none 0 0) HB4.out (Nat.le_refl _)).drew
        change bodyPost _ _ _ _ _ (set4 W4 w.heap.size (.int .i64 0) (.slice none 0 0) (.slice none 0 0) (.slice none 0 0)).drew
        have r0 : (set4 W4 w.heap.size (.int .i64 0) (.slice none 0 0) (.slice none 0 0) (.slice none 0 0)).drew.cell? ⟨w.heap.size, 0, none⟩ = _ := r0
        have r1 : (set4 W4 w.heap.size (.int .i64 0) (.slice none 0 0) (.slice none 0 0) (.slice none 0 0)).drew.cell? ⟨w.heap.size, 1, none⟩ = _ := r1
        have r2 : (set4 W4 w.heap.size (.int .i64 0) (.slice none 0 0) (.slice none 0 0) (.slice none 0 0)).drew.cell? ⟨w.heap.size, 2, none⟩ = _ := r2
        have r3 : (set4 W4 w.heap.size (.int .i64 0) (.slice none 0 0) (.slice none 0 0) (.slice none 0 0)).drew.cell? ⟨w.heap.size, 3, none⟩ = _ := r3
        generalize (set4 W4 w.heap.size (.int .i64 0) (.slice none 0 0) (.slice none 0 0) (.slice none 0 0)).drew = wF at *
        refine bodyPost_ret (v := .tuple #[.agg #[.int .i64 0, .slice none 0 0, .slice none 0 0, .slice none 0 0], .string rt, .int .i64 rc]) (by simp [results, Tryz.results16, go_sem, r0, r1, r2, r3]) rfl ?_
        rw [HLk.out]
        exact ⟨hbF, rfl⟩
end Go.Proofs.YtfbglokjehmgeaaGreatDoor
