/- FnExactLink: at every list of objects and every text the program's Link answers as the model's, image, text and code; the answer is memory of its own; the arguments are as they were. The table of words and the type of errors are premises. -/
import Derived.Test.YtfbglokjehmgeaaGreatDoorZMapG
import Derived.Test.YtfbglokjehmgeaaGreatDoorZToSepS
import Derived.Test.YtfbglokjehmgeaaGreatDoorZMrkO
namespace Go.Proofs.YtfbglokjehmgeaaGreatDoor
open Go.ChangeShapes Go.WideShapes Go.ChangeAt Go.RowKit Go.PlainAid Go.Deep

theorem Out.tch {lo hi : Nat} {w w' : World} (h : Out lo hi w w') : Tch (fun k => lo ≤ k ∧ k < hi) w w' :=
  ⟨h.os, h.tape, h.output, h.size, fun k hk hs => h.block k hk (by omega), fun b o ⟨⟨z, hz⟩, hf⟩ => ⟨h.alive _ _ _ hz, (h.free _ _ (block_lt hz)).trans hf⟩⟩
theorem Tch.blk {S : Nat → Prop} {w w' : World} (t : Tch S w w') {b : Nat} (hb : ¬ S b) {o : Obj} (h : w.heap[b]? = some o) : w'.heap[b]? = some o := (t.block b (Array.getElem?_eq_some_iff.1 h).1 hb).trans h
theorem wsum_mem {α : Type} (f : α → Nat) {l : List α} {x : α} (h : x ∈ l) : f x ≤ wsum f l := by
  unfold wsum
  induction l with
  | nil => cases h
  | cons y r ih =>
    rw [List.map_cons, List.sum_cons]
    rcases List.mem_cons.1 h with e | e
    · subst e; omega
    · have := ih e; omega
theorem sm_of_wsum {L : List ObjectD} (h : wsum objW L ≤ 1048576) : ∀ x ∈ L, ObjectSm x := by
  intro x hx
  have h1 := wsum_mem objW hx
  have h2 : objW x = x.needs.length + x.globals.length + x.procs.length + wsum codeW x.procs := rfl
  refine ⟨by omega, by omega, by omega, fun y hy => ?_⟩
  have h3 := wsum_mem codeW hy
  have h4 : codeW y = y.list.length := rfl
  unfold CodeSm
  omega
set_option maxRecDepth 100000 in
set_option maxHeartbeats 16000000 in
theorem linkLaw_any (a : Option Addr) (c : Nat) (m : Md) (L : List ObjectD) (main : ByteArray) (w : World) (h : SlAt ObjectAt 5 w m (.slice a L.length c) L) (hm : m.hi ≤ w.heap.size) (hLm : L.length ≤ maxLen) (hmn : main.size ≤ maxLen) (t : TypeId) (fr : Nat × Nat) (hg : w.heap[1]? = some (.cells keyRow t fr))
    (hE : w.cell? ⟨0, 0, none⟩ = some (.iface 152 (.agg #[.pointer (some ⟨6, 56, none⟩)]))) :
    Calls Tryz.prog 3 #[.slice a L.length c, .string main] w fun e w' => e = .returned (.bool true) ∧ Below w.heap.size w w' := by
  have hfit := link_fit main h
  obtain ⟨R, hR⟩ : ∃ R, linkR L main = R := ⟨_, rfl⟩
  rw [hR] at hfit
  obtain ⟨X, hX⟩ : ∃ X, resD L R = X := ⟨_, rfl⟩
  rw [hX] at hfit
  obtain ⟨G, hGl⟩ : ∃ G, X.globals = G := ⟨_, rfl⟩
  obtain ⟨T, hT⟩ : ∃ T, resT R = T := ⟨_, rfl⟩
  obtain ⟨C, hC⟩ : ∃ C, resN R = C := ⟨_, rfl⟩
  obtain ⟨n, hn⟩ : ∃ n, L.length = n := ⟨_, rfl⟩
  have HSz : Hid (∀ left : Int, left = 1048576 → Calls Tryz.prog 4 #[.slice a n c, .int .i64 left] w fun e w' => (∃ k : Int, e = .returned (.int .i64 k) ∧ -1 ≤ k ∧ k ≤ left ∧ (0 ≤ k → (L.length : Int) + (wsum objW L : Int) + k ≤ left)) ∧ Below w.heap.size w w') := hide fun left hle => by
    have := szObjectS_w (.slice a L.length c) m L left w (by omega) (by omega) hLm h hm
    rw [hn] at this ⊢
    exact this
  have HTo : Hid (wsum objW L ≤ 1048576 → n ≤ 1048576 → ∀ w', Below w.heap.size w w' → Calls Tryz.prog 6 #[.slice a n c] w' fun e w2 => (∃ g, e = .returned (.slice (some ⟨g, 0, none⟩) n n) ∧ Hid (g = w'.heap.size) ∧ ∃ b, Hid (OSep w2 g b L)) ∧ Below w'.heap.size w' w2) := hide fun hw hn2 w' bel => by
    have := toObjectS_sep (.slice a L.length c) m L w' (by omega) (sm_of_wsum hw) (h.on ObjectAt.stays (bel.mono hm)) (Nat.le_trans hm bel.size)
    rw [hn] at this
    exact this.mono fun e w2 ⟨⟨e1, b, o1⟩, b1⟩ => ⟨⟨_, e1, hide rfl, b, o1⟩, b1⟩
  have HSp : Hid (n ≤ 1048576 → ∀ w' g b, OSep w' g b L → Calls Tryz.prog 5 #[.slice (some ⟨g, 0, none⟩) n n, .string main] w' fun e w2 => (∃ qa ql qc na nl nc sa sl sc, e = .returned (.tuple #[.agg #[.int .i64 G, .slice qa ql qc, .slice na nl nc, .slice sa sl sc], .string T, .int .i64 C]) ∧ Hid (IRows w2 w'.heap.size (.slice qa ql qc) (.slice na nl nc) (.slice sa sl sc) X.procs X.names X.start)) ∧ Below w'.heap.size w' w2) := hide fun hn2 w' g b ho => by
    have hs' := ho.slat (c := n) (by omega)
    have := specLink_any (some ⟨g, 0, none⟩) n ⟨g, w'.heap.size, true⟩ L main w' hs' (Nat.le_refl _) (by omega) hmn
    rw [hn, hR] at this
    refine this.mono fun e w2 h2 => ?_
    have := link_form h2
    rw [hX, hGl, hT, hC] at this
    exact this
  have HIm : Hid (n ≤ 1048576 → ∀ w' g b, Below w.heap.size w w' → OSep w' g b L → Calls Tryz.prog 7 #[.slice (some ⟨g, 0, none⟩) n n, .string main] w' fun e w2 => (∃ qa ql qc na nl nc sa sl sc, e = .returned (.tuple #[.agg #[.int .i64 G, .slice qa ql qc, .slice na nl nc, .slice sa sl sc], .string T, .int .i64 C]) ∧ Hid (IRows w2 w'.heap.size (.slice qa ql qc) (.slice na nl nc) (.slice sa sl sc) X.procs X.names X.start)) ∧ Below w'.heap.size w' w2) := hide fun hn2 w' g b bel ho => by
    have hs' := ho.slat (c := n) (by omega)
    have := implLink_any (some ⟨g, 0, none⟩) n ⟨g, w'.heap.size, true⟩ L main w' hs' (Nat.le_refl _) (by omega) hmn t fr ((bel.block 1 (Array.getElem?_eq_some_iff.1 hg).1).trans hg) ((bel.cell (p := ⟨0, 0, none⟩) (block_lt hE)).trans hE)
    rw [hn, hR] at this
    refine this.mono fun e w2 h2 => ?_
    have := link_form h2
    rw [hX, hGl, hT, hC] at this
    exact this
  have HV : Hid (∀ w' B pv nv sv, IRows w' B pv nv sv X.procs X.names X.start → ImageVal w' ⟨B, w'.heap.size, false⟩ (.agg #[.int .i64 G, pv, nv, sv]) X) := hide fun w' B pv nv sv hr => by
    rw [← hGl]
    exact irows_val hr hfit
  have HFit := hide hfit
  have HN := hide hn
  unfold maxLen at hmn hLm
  rw [hn] at hLm ⊢
  clear hX hT hC hGl hg hE h hm hn hfit hR
  by_cases hbig : 1048576 < main.size
  · have i0 : (1048576 : Int) < main.size := by omega
    go_enter Tryz.func3, Tryz.ntmps3
    go_wp2
    go_ret
    exact ⟨rfl, Below.refl _ _⟩
  have i0 : ¬ (1048576 : Int) < main.size := by omega
  go_enter Tryz.func3, Tryz.ntmps3
  go_wp2_with fail
  refine (HSz.out _ rfl).mono ?_
  rintro e w00 ⟨⟨k, rfl, hk1, hk2, hk3⟩, b00⟩
  by_cases hk : k < 0
  · go_wp2
    go_ret
    exact ⟨rfl, b00⟩
  have hkk := hk3 (by omega)
  have hnl : n ≤ 1048576 := by have := HN.out; omega
  have hwl : wsum objW L ≤ 1048576 := by omega
  have HTo2 := hide (HTo.out hwl hnl)
  have HSp2 := hide (HSp.out hnl)
  have HIm2 := hide (HIm.out hnl)
  have HWL := hide hwl
  clear HTo HSp HIm HSz hk3 hkk hwl
  go_wp2_with fail
  refine (HTo2.out _ b00).mono ?_
  rintro e w1 ⟨⟨g1, rfl, HG1, bb1, ho1⟩, b1'⟩
  have b1 : Below w.heap.size w w1 := b00.trans (b1'.mono b00.size)
  clear b1' b00
  go_wp2_with fail
  refine (HSp2.out _ _ _ ho1.out).mono ?_
  rintro e w2 ⟨⟨va, vn, vc, ga, gn, gc, pa, pn, pc, rfl, hi0⟩, b2⟩
  have hb2 : Below w.heap.size w w2 := b1.trans (b2.mono b1.size)
  have h12 : w1.heap.size ≤ w2.heap.size := b2.size
  have h01 : w.heap.size ≤ w1.heap.size := b1.size
  have HF2 := hide (HV.out _ _ _ _ _ hi0.out)
  clear b1 b2 ho1 hi0 HG1
  go_wp2_with fail
  have bX2 : Below w2.heap.size w2 (w2.alloc (.cells #[.int .i64 G, .slice va vn vc, .slice ga gn gc, .slice pa pn pc] 28)) := (Below.refl _ _).alloc (Nat.le_refl _) _
  have hp3 := Deep.blk_alloc_new w2 (.cells #[.int .i64 G, .slice va vn vc, .slice ga gn gc, .slice pa pn pc] 28)
  refine (HTo2.out _ (hb2.trans (bX2.mono hb2.size))).mono ?_
  rintro e w4 ⟨⟨g4, rfl, HG4, bb, ho4⟩, b4⟩
  have h4g : g4 = w2.heap.size + 1 := by rw [HG4.out]; simp
  have hg4 := hide h4g
  have hb24 : Below w2.heap.size w2 w4 := bX2.trans (b4.mono (by simp))
  have hb4 : Below w.heap.size w w4 := hb2.trans (hb24.mono hb2.size)
  have hp4 := (b4.block w2.heap.size (by simp)).trans hp3
  have HP4 := hide hp4
  have hbb := ho4.out
  have h24 : w2.heap.size + 2 ≤ w4.heap.size := by
    obtain ⟨Cx, hx, -⟩ := ho4.out
    have := (Array.getElem?_eq_some_iff.1 hx).1
    omega
  have hbn : bb L.length ≤ w4.heap.size := by
    obtain ⟨Cx, -, -, -, -, hx, -⟩ := ho4.out
    exact hx
  have hBN := hide hbn
  have HF4 := hide (HF2.out.on hb24)
  clear bX2 hp3 b4 hb24 hp4 h4g HG4 HF2 hbb hbn
  go_wp2_with fail
  refine (HIm2.out _ _ _ hb4 ho4.out).mono ?_
  rintro e w5 ⟨⟨ua, un, uc, ya, yn, yc, za, zn, zc, rfl, hi5⟩, b5⟩
  have h45 : w4.heap.size ≤ w5.heap.size := b5.size
  obtain ⟨w6, hw6⟩ : ∃ w6, w6 = w5.alloc (.cells #[.int .i64 G, .slice ua un uc, .slice ya yn yc, .slice za zn zc] 28) := ⟨_, rfl⟩
  have b56 : Below w5.heap.size w5 w6 := by rw [hw6]; exact (Below.refl _ _).alloc (Nat.le_refl _) _
  have b46 : Below w4.heap.size w4 w6 := b5.trans (b56.mono h45)
  have hp6 : w6.heap[w5.heap.size]? = some (.cells #[.int .i64 G, .slice ua un uc, .slice ya yn yc, .slice za zn zc] 28 (0, 0)) := by
    rw [hw6]
    exact Deep.blk_alloc_new w5 _
  have hp3 := (b46.block w2.heap.size (by omega)).trans HP4.out
  obtain ⟨⟨x0, x1, x2, x3⟩, -⟩ := img_cells hp3
  obtain ⟨⟨y0, y1, y2, y3⟩, -⟩ := img_cells hp6
  have HPX := hide hp3
  have HPY := hide hp6
  have HI6 := hide (hi5.out.of_heap (fun k _ hk => b56.block k hk))
  have HO6 := hide (ho4.out.on b46)
  have HF6 := hide (HF4.out.on (b46.mono (show w2.heap.size ≤ w4.heap.size by omega)))
  obtain ⟨Lc, hma⟩ := hi5.out.ma HFit.out
  have HV5 : Hid (∀ k, MS (.slice ua un uc) (.slice ya yn yc) (.slice za zn zc) Lc k → w4.heap.size ≤ k ∧ k < w5.heap.size) := hide hma.lt
  have HMA := hide (hma.tch (S := fun _ => False) (Tch.of_below b56) (fun _ _ e => e))
  have HB5 := hide hma.bound
  have HB6' := hide (And.intro hma.m1 (And.intro hma.m2 (And.intro hma.m3 hma.mi)))
  have hb6 : Below w.heap.size w w6 := hb4.trans (b46.mono hb4.size)
  have HB6 := hide hb6
  have h56 : w5.heap.size < w6.heap.size := (Array.getElem?_eq_some_iff.1 hp6).1
  have HFA : Hid (∀ w', Below w6.heap.size w6 w' → ImageVal w' ⟨w1.heap.size, w2.heap.size, false⟩ (.agg #[.int .i64 G, .slice va vn vc, .slice ga gn gc, .slice pa pn pc]) X) := hide fun w' bel => HF6.out.on (bel.mono (by show w2.heap.size ≤ _; omega))
  have HFB : Hid (∀ w', Below w6.heap.size w6 w' → ImageVal w' ⟨w4.heap.size, w'.heap.size, false⟩ (.agg #[.int .i64 G, .slice ua un uc, .slice ya yn yc, .slice za zn zc]) X) := hide fun w' bel => HV.out _ _ _ _ _ (HI6.out.of_heap (fun k _ hk => bel.block k hk))
  clear b5 b56 b46 hp3 hp6 hi5 ho4 hb4 hb6 hma HF4 HP4
  have HW6 := hide hw6
  rw [hw6] at x0 x1 x2 x3 y0 y1 y2 y3
  clear hw6
  go_wp2_with fail
  rw [← HW6.out]
  refine (eqImage_same _ _ _ _ X _ (HFB.out _ (Below.refl _ _)) (HFA.out _ (Below.refl _ _)) (Nat.le_refl _) (by show w2.heap.size ≤ _; omega)).mono ?_
  rintro e w7 ⟨rfl, b7⟩
  clear x0 x1 x2 x3 y0 y1 y2 y3
  go_wp2_with fail
  refine (HTo2.out _ (HB6.out.trans (b7.mono HB6.out.size))).mono ?_
  rintro e w8 ⟨⟨g8, rfl, HG8, b8b, ho8⟩, b8⟩
  have b68 : Below w6.heap.size w6 w8 := b7.trans (b8.mono b7.size)
  have HS8 := hide ((HO6.out.on b68).slat (c := n) (by have := HN.out; omega))
  have HS8' := hide (ho8.out.slat (c := n) (by have := HN.out; omega))
  have HEqS : Hid (Calls Tryz.prog 9 #[.slice (some ⟨g4, 0, none⟩) n n, .slice (some ⟨g8, 0, none⟩) n n] w8 fun e w' => e = .returned (.bool true) ∧ Below w8.heap.size w8 w') := hide (by
    have := eqObjectS_same _ _ _ _ L w8 (by unfold maxLen; have := HN.out; omega) HS8.out HS8'.out (Nat.le_refl _) (Nat.le_refl _)
    rw [HN.out] at this
    exact this)
  clear b7 b8 HS8 HS8' HG8 ho8
  go_wp2_with fail
  refine HEqS.out.mono ?_
  rintro e w9 ⟨rfl, b9⟩
  have b69 : Below w6.heap.size w6 w9 := b68.trans (b9.mono b68.size)
  have hlv := (HO6.out.on b69).live
  have hmk := markObjectS_w g4 n bb L w9 (by have := HN.out; omega) HWL.out hlv.1 hlv.2.1 hlv.2.2
  rw [HN.out] at hmk
  have HMK := hide hmk
  have B69 := hide b69
  clear b68 b69 b9 hmk hlv HEqS
  go_wp2_with fail
  refine HMK.out.mono ?_
  rintro e w10 ⟨⟨K0, rfl, hK0⟩, t10'⟩
  have t10 : Tch (fun k => g4 ≤ k ∧ k < w4.heap.size) w9 w10 := t10'.tch.wid fun k e => ⟨e.1, Nat.lt_of_lt_of_le e.2 (by have := hBN.out; rw [HN.out] at this; exact this)⟩
  have HT10 : Hid (Tch (fun k => g4 ≤ k ∧ k < w4.heap.size) w6 w10) := hide ((Tch.of_below B69.out).trans t10)
  have h610 : w6.heap.size ≤ w10.heap.size := HT10.out.size
  have hz : ¬ K0 < 0 := by omega
  obtain ⟨⟨x0, x1, x2, x3⟩, -⟩ := img_cells (HT10.out.blk (by have := hg4.out; omega) HPX.out)
  obtain ⟨⟨y0, y1, y2, y3⟩, -⟩ := img_cells (HT10.out.blk (by have := hg4.out; omega) HPY.out)
  have HI10 : Hid (IRows w10 w4.heap.size (.slice ua un uc) (.slice ya yn yc) (.slice za zn zc) X.procs X.names X.start) := hide ((HI6.out.of_heap (fun k _ hk => B69.out.block k hk)).of_heap fun k hk hk2 => t10.block k hk2 (by omega))
  have HMA10 := hide (HMA.out.tch HT10.out (fun k hk e => by have := HV5.out k hk; omega))
  have HFA10 := hide ((HFA.out _ B69.out).same (w' := w10) fun k hk hk2 => t10.block k (by have := B69.out.size; simp at hk2; omega) (by have := hg4.out; simp at hk2; omega))
  clear t10 t10' HMK HMA hK0
  go_wp2_with fail
  refine (eqImage_same _ _ _ _ X _ (HV.out _ _ _ _ _ HI10.out) HFA10.out (Nat.le_refl _) (by show w2.heap.size ≤ _; omega)).mono ?_
  rintro e w11 ⟨rfl, b11⟩
  clear x0 x1 x2 x3 y0 y1 y2 y3
  have HT11 : Hid (Tch (fun k => g4 ≤ k ∧ k < w4.heap.size) w6 w11) := hide (HT10.out.trans (Tch.of_below b11))
  obtain ⟨⟨y0, y1, y2, y3⟩, -⟩ := img_cells (HT11.out.blk (by have := hg4.out; omega) HPY.out)
  have hKb := HB5.out
  have hmi := markImage_mk G _ _ _ Lc _ _ w4.heap.size w11 (HMA10.out.tch (S := fun _ => False) (Tch.of_below b11) (fun _ _ e => e))
  have HHE : Hid (∀ w', MkI w' (.slice ua un uc) (.slice ya yn yc) (.slice za zn zc) Lc X.names.length X.start.length → Calls Tryz.prog 12 #[.agg #[.int .i64 G, .slice ua un uc, .slice ya yn yc, .slice za zn zc], .int .i64 1] w' fun e w2 => e = .returned (.int .i64 (iAt Lc X.names.length X.start.length)) ∧ Below w'.heap.size w' w2) := hide fun w' hm => heldImage_mk G _ _ _ Lc _ _ w' HB5.out HB6'.out.1 HB6'.out.2.1 HB6'.out.2.2.1 HB6'.out.2.2.2 hm
  have hKx : 0 ≤ iAt Lc X.names.length X.start.length := by
    have : iAt Lc X.names.length X.start.length = cAt Lc 1 Lc.length + (X.names.length : Int) + (X.start.length : Int) := rfl
    omega
  generalize iAt Lc X.names.length X.start.length = K at *
  have hK0 : ¬ K < 0 := by omega
  have HMI := hide hmi
  clear hmi hKb HI10 HFA10 b11 HMA10 hKx
  go_wp2_with fail
  refine HMI.out.mono ?_
  rintro e w12 ⟨rfl, hm12, t12⟩
  clear y0 y1 y2 y3
  have HM12 := hide hm12
  have HT12 : Hid (Tch (fun k => g4 ≤ k ∧ k < w5.heap.size) w6 w12) := hide ((HT11.out.wid fun k e => ⟨e.1, Nat.lt_of_lt_of_le e.2 h45⟩).trans (t12.wid fun k e => ⟨by have := (HV5.out k e).1; have := hg4.out; omega, (HV5.out k e).2⟩))
  obtain ⟨⟨y0, y1, y2, y3⟩, -⟩ := img_cells (HT12.out.blk (by have := hg4.out; omega) HPY.out)
  clear t12 hm12 HMI
  go_wp2_with fail
  refine (HHE.out _ HM12.out).mono ?_
  rintro e w13 ⟨rfl, b13⟩
  clear y0 y1 y2 y3
  have HM13 := hide (HM12.out.on b13)
  have HT13 := hide (HT12.out.trans (Tch.of_below b13))
  have hb13 : Below w.heap.size w w13 := HB6.out.trans (HT13.out.below HB6.out.size (fun k hk e => by have := hg4.out; omega))
  clear b13
  go_wp2_with fail
  refine (HTo2.out _ hb13).mono ?_
  rintro e w14 ⟨⟨g14, rfl, -, b14b, ho14⟩, b14⟩
  have hb14 : Below w.heap.size w w14 := hb13.trans (b14.mono hb13.size)
  have HM14 := hide (HM13.out.on b14)
  have HT14 := hide (HT13.out.trans (Tch.of_below b14))
  clear b14 hb13
  go_wp2_with fail
  refine (HIm2.out _ _ _ hb14 ho14.out).mono ?_
  rintro e w15 ⟨⟨ta, tn, tc, ra, rn, rc, qa, qn, qc, rfl, hi15⟩, b15⟩
  obtain ⟨w16, hw16⟩ : ∃ w16, w16 = w15.alloc (.cells #[.int .i64 G, .slice ta tn tc, .slice ra rn rc, .slice qa qn qc] 28) := ⟨_, rfl⟩
  have b156 : Below w15.heap.size w15 w16 := by rw [hw16]; exact (Below.refl _ _).alloc (Nat.le_refl _) _
  have b146 : Below w14.heap.size w14 w16 := b15.trans (b156.mono b15.size)
  have hp16 : w16.heap[w15.heap.size]? = some (.cells #[.int .i64 G, .slice ta tn tc, .slice ra rn rc, .slice qa qn qc] 28 (0, 0)) := by
    rw [hw16]
    exact Deep.blk_alloc_new w15 _
  have HT16 := hide (HT14.out.trans (Tch.of_below b146))
  have HM16 := hide (HM14.out.on b146)
  have hb16 : Below w.heap.size w w16 := hb14.trans (b146.mono hb14.size)
  have HB16 := hide hb16
  obtain ⟨⟨x0, x1, x2, x3⟩, -⟩ := img_cells (HT16.out.blk (by have := hg4.out; omega) HPX.out)
  obtain ⟨⟨y0, y1, y2, y3⟩, -⟩ := img_cells hp16
  have HFA16 := hide (HF6.out.same (w' := w16) fun k hk hk2 => HT16.out.block k (by simp at hk2; omega) (by have := hg4.out; simp at hk2; omega))
  have HFB16 := hide (HV.out _ _ _ _ _ (hi15.out.of_heap (fun k _ hk => b156.block k hk)))
  have h6 := HT16.out.size
  have HW16 := hide hw16
  rw [hw16] at x0 x1 x2 x3 y0 y1 y2 y3
  clear hw16 hp16 b15 b156 b146 hi15 ho14 hb14 hb16
  go_wp2_with fail
  rw [← HW16.out]
  refine (eqImage_same _ _ _ _ X _ HFB16.out HFA16.out (Nat.le_refl _) (by show w2.heap.size ≤ _; omega)).mono ?_
  rintro e w17 ⟨rfl, b17⟩
  clear x0 x1 x2 x3 y0 y1 y2 y3
  have HT17 := hide (HT16.out.trans (Tch.of_below b17))
  have HM17 := hide (HM16.out.on b17)
  have hb17 : Below w.heap.size w w17 := HB16.out.trans (b17.mono HB16.out.size)
  obtain ⟨⟨y0, y1, y2, y3⟩, -⟩ := img_cells (HT17.out.blk (by have := hg4.out; omega) HPY.out)
  clear b17 HFA16 HFB16
  go_wp2_with fail
  refine (HHE.out _ HM17.out).mono ?_
  rintro e w18 ⟨rfl, b18⟩
  go_wp2
  go_ret
  exact ⟨rfl, hb17.trans (b18.mono hb17.size)⟩
end Go.Proofs.YtfbglokjehmgeaaGreatDoor
