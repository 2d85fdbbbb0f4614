/- FnFaces: an interface's print is that of its bytes, and one byte changed is no other interface with the same print. Listed: the program's table of words, tied. No other condition. -/
import Derived.Test.YtoomnimbokbadaaDoorZRdMain
import Derived.Test.YtoomnimbokbadaaDoorZFaceA
import Derived.Test.YtoomnimbokbadaaDoorZSumInj
import Derived.Test.YtoomnimbokbadaaDoorZLawAt
import Derived.Test.YtoomnimbokbadaaDoorZToFace
import Derived.Test.YtoomnimbokbadaaDoorCards
import Derived.Test.YtoomnimbokbadaaDoorTie
import Derived.LaidMore
import Derived.Lay
import Derived.Stop.Joined
import Derived.SevenTiedAt
namespace Go.Proofs.YtoomnimbokbadaaDoor
open Go.ChangeShapes Go.WideShapes Go.ChangeAt Go.RowKit Go.PlainAid Go.Deep

set_option maxHeartbeats 4000000 in
theorem faceOf_any (w : World) : Calls Tryd.prog 8 #[] w fun e w' => (∃ a c, e = .returned (.agg #[.string ⟨#[65]⟩, .slice a 5 c]) ∧ FacAt w' ⟨w.heap.size, w'.heap.size, false⟩ (.agg #[.string ⟨#[65]⟩, .slice a 5 c]) faceA) ∧ Below w.heap.size w w' := by
  go_enter Tryd.func8, Tryd.ntmps8
  go_wp2_with fail
  refine (l03A_any _).mono ?_
  rintro e w1 ⟨⟨u, rfl, hf⟩, b1⟩
  obtain ⟨u', e, -, -, a, c, rfl, -⟩ := id hf
  have e' : Value.slice a 5 c = u := by
    have := congrArg (fun v => match v with | .agg xs => xs[1]? | _ => none) e
    simp at this
    exact this.symm
  subst e'
  have hl : w.heap.size < w1.heap.size := by have := b1.size; simp at this; omega
  have hy := (b1.block w.heap.size (by simp)).trans (Deep.blk_alloc_new w (.cells #[.string ⟨#[]⟩, .slice none 0 0] 25))
  have q0 : w1.cell? ⟨w.heap.size, 0, none⟩ = some (.string ⟨#[]⟩) := (heapCells hy).1 0
  have q1 : w1.cell? ⟨w.heap.size, 1, none⟩ = some (.slice none 0 0) := (heapCells hy).1 1
  have s0 := (heapCells hy).2 0
  have s1 := (heapCells hy).2 1
  have HF := hide hf
  have B1 : Hid (Below w.heap.size w w1) := hide (((Below.refl _ _).alloc (Nat.le_refl _) _).trans (b1.mono (by simp)))
  clear hy e hf b1
  go_wp2
  refine bodyPost_ret (v := .agg #[.string ⟨#[65]⟩, .slice a 5 c]) (by simp [results, Tryd.results8, go_sem, q0, q1]) rfl ?_
  have oz := Only.trans (Only.set w.heap.size 0 w1 (.string ⟨#[65]⟩)) (Only.set w.heap.size 1 _ (.slice a 5 c))
  refine ⟨⟨a, c, rfl, ?_⟩, B1.out.trans (oz.below (Nat.le_refl _))⟩
  have h2 := HF.out.same (w' := (w1.setCell ⟨w.heap.size, 0, none⟩ (.string ⟨#[65]⟩)).setCell ⟨w.heap.size, 1, none⟩ (.slice a 5 c)) (fun k hk _ => oz.block k (by simp at hk; omega))
  obtain ⟨u2, e2, g1, g2, g3⟩ := h2
  exact ⟨u2, e2, g1, g2, g3.wid ItmAt.widens (by simp) (by simp [World.setCell]) rfl⟩
theorem faceA_len : (facBytes faceA).length = 78 := by decide +kernel
theorem own_cell {w : World} {B g n c : Nat} {l : List Int} {k : Nat} {y : Int} (h : Own w B (.slice (some ⟨g, 0, none⟩) n c) l) (hk : k < l.length) (hy : l[k] = y) : w.cell? ⟨g, k, none⟩ = some (.int .u8 y) := by
  have := World.ownsRow.cells (g := g) h rfl k (.int .u8 y) (by unfold bc; simp [hk, hy])
  rwa [add_plain, Nat.zero_add] at this
theorem Own.setByte {w : World} {B g n c : Nat} {l : List Int} {k : Nat} (h : Own w B (.slice (some ⟨g, 0, none⟩) n c) l) (y : Int) : Own (w.setCell ⟨g, k, none⟩ (.int .u8 y)) B (.slice (some ⟨g, 0, none⟩) n c) (l.set k y) := by
  have hn : n = l.length := by
    rcases h.2 with ⟨e, -⟩ | ⟨_, _, _, e, -⟩
    · cases e
    · cases e; rfl
  subst hn
  have := (World.ownsRow.stored h k (.int .u8 y)).1
  unfold Own
  rw [List.length_set, show bc (l.set k y) = (bc l).set k (.int .u8 y) from by unfold bc; rw [List.map_set]]
  exact this
theorem own_cap {w : World} {B : Nat} {a : Option Addr} {n c : Nat} {l : List Int} (h : Own w B (.slice a n c) l) : l.length ≤ c := by
  rcases h.2 with ⟨e, e2⟩ | ⟨g, cap, cur, e, -, -, hc, -⟩
  · cases e
    rw [e2]
    exact Nat.zero_le _
  · cases e
    exact hc
theorem wrap_u8 (x : Int) : IntKind.u8.wrap x = x % 256 := by
  rfl
theorem wrap_u8_in (x : Int) : 0 ≤ IntKind.u8.wrap x ∧ IntKind.u8.wrap x ≤ 255 := by
  rw [wrap_u8]
  omega
theorem stored_ne {y : Int} {k2 : Nat} (_y0 : 0 ≤ y) (_y1 : y ≤ 255) (h : k2 < 255) : IntKind.u8.wrap (y + IntKind.u8.wrap (IntKind.i64.wrap (1 + (k2 : Int)))) ≠ y := by
  have e : IntKind.i64.wrap (1 + (k2 : Int)) = 1 + (k2 : Int) := IntWalk.i64_in _ (by omega)
  rw [e, wrap_u8, wrap_u8]
  omega
set_option maxRecDepth 100000 in
set_option maxHeartbeats 2000000 in
theorem faces_any (a0 a1 : Option Addr) (l0 c0 l1 c1 : Nat) (w : World) (hl0 : l0 ≤ 1048576) (hl1 : l1 ≤ 1048576) (h0 : RowB w a0 l0) (h1 : RowB w a1 l1) (t : TypeId) (fr : Nat × Nat) (hg : w.heap[0]? = some (.cells keyRow t fr)) :
    Calls Tryd.prog 3 #[.slice a0 l0 c0, .slice a1 l1 c1] w fun e w' => e = .returned (.bool true) ∧ Below w.heap.size w w' := by
  have i0 : ¬ (1048576 : Int) < l0 := by omega
  have i1 : ¬ (1048576 : Int) < l1 := by omega
  have hgl := (Array.getElem?_eq_some_iff.1 hg).1
  have HG := hide hg
  have H0 := hide h0
  have H1 := hide h1
  clear hg h0 h1
  go_enter Tryd.func3, Tryd.ntmps3
  go_wp2_with fail
  refine (faceOf_any w).mono ?_
  rintro e w1 ⟨⟨a, c, rfl, hf⟩, b1⟩
  have HF1 := hide hf
  have hs1 := b1.size
  have HB1 := hide b1
  clear hf b1
  go_wp2_with fail
  have bX : Below w1.heap.size w1 (w1.alloc (.cells #[.string ⟨#[65]⟩, .slice a 5 c] 25)) := (Below.refl _ _).alloc (Nat.le_refl _) _
  have hx2 := Deep.blk_alloc_new w1 (.cells #[.string ⟨#[65]⟩, .slice a 5 c] 25)
  have HG2 := hide ((bX.block 0 (by omega)).trans ((HB1.out.block _ hgl).trans HG.out))
  refine (implBytes_any _ _ faceA _ (HF1.out.on bX) (by simp) t fr HG2.out).mono ?_
  rintro e w3 ⟨⟨u, rfl, ho⟩, b3⟩
  rw [faceA_right] at ho ⊢
  simp only [if_true] at ho ⊢
  obtain ⟨g, c3, rfl, hg3, hgl3⟩ := World.ownsRow.form ho (by rw [faceA_len]; decide)
  have hb13 : Below w1.heap.size w1 w3 := bX.trans (b3.mono (by simp))
  have hx3 := (b3.block w1.heap.size (by simp)).trans hx2
  have p0 : w3.cell? ⟨w1.heap.size, 0, none⟩ = some (.string ⟨#[65]⟩) := (heapCells hx3).1 0
  have p1 : w3.cell? ⟨w1.heap.size, 1, none⟩ = some (.slice a 5 c) := (heapCells hx3).1 1
  have HO3 := hide ho
  have HX3 := hide hx3
  have HB3 := hide hb13
  have hsz3 := b3.size
  simp at hg3 hsz3
  clear bX hx2 ho b3 hx3 hb13
  go_wp2_with fail
  refine (implPrintOf_any _ _ faceA _ (HF1.out.on HB3.out) HB3.out.size t fr ((HB3.out.block 0 (by omega)).trans ((HB1.out.block _ hgl).trans HG.out))).mono ?_
  rintro e w4 ⟨rfl, b4⟩
  have p40 := (b4.cell (p := ⟨w1.heap.size, 0, none⟩) (by show w1.heap.size < _; omega)).trans p0
  have p41 := (b4.cell (p := ⟨w1.heap.size, 1, none⟩) (by show w1.heap.size < _; omega)).trans p1
  have hC : prC faceA = 0 := by unfold prC; rw [faceA_right]; rfl
  rw [hC]
  have hsz4 := b4.size
  have HB4 := hide b4
  clear b4 p0 p1 hC
  go_wp2_with fail
  refine (specPrintOf_any _ _ faceA _ (HF1.out.on (HB3.out.trans (HB4.out.mono (by omega)))) (by show w1.heap.size ≤ _; omega)).mono ?_
  rintro e w5 ⟨rfl, b5⟩
  obtain ⟨pv, hpv⟩ : ∃ x, prV faceA = x := ⟨_, rfl⟩
  have HPV := hide hpv
  rw [hpv]
  have hsz5 := b5.size
  have HB5 := hide b5
  have HO5 := hide ((HO3.out.on HB4.out).on HB5.out)
  obtain ⟨lb, hlb⟩ : ∃ x, facBytes faceA = x := ⟨_, rfl⟩
  have HLB := hide hlb
  have hlen : lb.length = 78 := by rw [← hlb]; exact faceA_len
  rw [hlb] at HO5 ⊢
  rw [hlen]
  clear b5 hpv p40 p41 hlb
  have HBw5 : Hid (Below w.heap.size w w5) := hide (HB1.out.trans ((HB3.out.mono hs1).trans ((HB4.out.mono (by omega)).trans (HB5.out.mono (by omega)))))
  have HAt1 : Hid (∀ w', Below w.heap.size w w' → Calls Tryd.prog 12 #[.slice a1 l1 c1, .int .i64 0, .int .i64 78] w' fun e w'' => (∃ k : Nat, k < 78 ∧ e = .returned (.int .i64 k)) ∧ Below w'.heap.size w' w'') := hide fun w' b => at_any a1 l1 c1 0 78 w' (H1.out.on b) (by omega) (by omega) (by omega)
  have HAt2 : Hid (∀ w', Below w.heap.size w w' → Calls Tryd.prog 12 #[.slice a0 l0 c0, .int .i64 1, .int .i64 255] w' fun e w'' => (∃ k : Nat, k < 255 ∧ e = .returned (.int .i64 k)) ∧ Below w'.heap.size w' w'') := hide fun w' b => at_any a0 l0 c0 1 255 w' (H0.out.on b) (by omega) (by omega) (by omega)
  have hlen' := hide hlen
  have Hin : Hid (∀ y ∈ lb, 0 ≤ y ∧ y ≤ 255) := by refine hide ?_; rw [← HLB.out]; exact facBytes_in _
  clear hlen
  go_wp2
  go_region_with (first
    | (have hB6 := B6
       clear hB6
       go_at_call 12
       refine (HAt2.out _ (HBw5.out.trans (((Below.refl _ _).drew).trans (B6.out.mono (by show w.heap.size ≤ w5.heap.size; omega))))).mono ?_
       rintro e w7 ⟨⟨k2, hk2, rfl⟩, b7⟩
       have HO7 := hide (HO6.out.on b7)
       have d7 : w7.cell? ⟨g, k1, none⟩ = some (.int .u8 y) := own_cell HO7.out hk1' HY.out
       have z7 := World.ownsRow.frozenAt HO7.out k1
       have hj1 : (0 : Int) ≤ (k2 : Int) := by omega
       have hj2 : (k2 : Int) < 255 := by omega
       have B7 := hide b7
       clear b7)
    | (go_at_call 12
       refine (HAt1.out _ (HBw5.out.trans ((Below.refl _ _).drew))).mono ?_
       rintro e w6 ⟨⟨k1, hk1, rfl⟩, b6⟩
       have hk1' : k1 < lb.length := by rw [hlen'.out]; exact hk1
       have hi1 : (0 : Int) ≤ (k1 : Int) := by omega
       have hi2 : (k1 : Int) < 78 := by omega
       obtain ⟨y, hy⟩ : ∃ y, lb[k1] = y := ⟨_, rfl⟩
       have hy2 := Hin.out _ (List.getElem_mem hk1')
       rw [hy] at hy2
       obtain ⟨y0, y1⟩ := hy2
       have HY := hide hy
       have HO6 := hide (HO5.out.on (((Below.refl _ _).drew).trans b6))
       have d6 : w6.cell? ⟨g, k1, none⟩ = some (.int .u8 y) := own_cell HO6.out hk1' hy
       have B6 := hide b6
       clear b6 hy)
    | fail)
  all_goals
    have hne := stored_ne y0 y1 hk2
    have hin := wrap_u8_in (y + IntKind.u8.wrap (IntKind.i64.wrap (1 + (k2 : Int))))
    obtain ⟨y', hy'⟩ : ∃ z, IntKind.u8.wrap (y + IntKind.u8.wrap (IntKind.i64.wrap (1 + (k2 : Int)))) = z := ⟨_, rfl⟩
    rw [hy'] at hne hin ⊢
    clear hy' d7 z7 d6
    obtain ⟨w8, hw8⟩ : ∃ w8, w8 = w7.setCell ⟨g, k1, none⟩ (.int .u8 y') := ⟨_, rfl⟩
    have ho8 : Own w8 (w1.heap.size + 1) (.slice (some ⟨g, 0, none⟩) lb.length c3) (lb.set k1 y') := by
      rw [hw8]
      have := HO7.out.setByte (k := k1) y'
      rwa [World.size_alloc] at this
    have hb57 : Below w5.heap.size w5 w7 := (((Below.refl _ _).drew).trans (B6.out)).trans (B7.out.mono (by have := B6.out.size; exact this))
    have hb58 : Below w.heap.size w w8 := by
      rw [hw8]
      exact (HBw5.out.trans (hb57.mono (by omega))).setCell (p := ⟨g, k1, none⟩) (by show w.heap.size ≤ g; omega) _
    rw [← hw8]
    have hin' : ∀ z ∈ lb.set k1 y', 0 ≤ z ∧ z ≤ 255 := fun z hz => by
      rcases List.mem_or_eq_of_mem_set hz with h | h
      · exact Hin.out z h
      · rw [h]; exact hin
    have hl8 : (lb.set k1 y').length = 78 := by rw [List.length_set]; exact hlen'.out
    have hc8 := own_cap ho8
    have hrd := implRead_any g 0 c3 _ (lb.set k1 y') w8 (by rw [List.length_set]; exact ho8.slat hin') hc8 (Nat.le_refl _) (by rw [hl8]; decide) t fr ((hb58.block _ hgl).trans HG.out)
    rw [hl8] at hrd
    have HRD := hide hrd
    have hsum := sum_set hk1' Hin.out hin.1 hin.2 (by rw [HY.out]; exact hne)
    have HB8 := hide hb58
    have hs8 := hb58.size
    obtain ⟨l', hl'⟩ : ∃ l', lb.set k1 y' = l' := ⟨_, rfl⟩
    rw [hl'] at hl8 hsum
    simp only [hl'] at HRD
    have HI8 : Hid (∀ z ∈ l', 0 ≤ z ∧ z ≤ 255) := hide (by rw [← hl']; exact hin')
    have HL8 := hide hl8
    have HSM := hide hsum
    clear hrd hsum hb58 hb57 ho8 hin' hc8 hl8 hl' hw8 hne hin HO7 HO6 HAt1 HAt2 B6 B7 HY y0 y1
    go_wp2_with fail
    refine HRD.out.mono ?_
    rintro e w9 ⟨⟨v, L, rfl, hi, hm9⟩, b9⟩
    obtain ⟨va, vn, vc, rfl⟩ := irow_form hi
    have hs9 := b9.size
    have HB9 := hide b9
    clear b9
    by_cases hok : rdOk l' = true
    · have hV : rdV l' = rdFac l' := by unfold rdV; rw [if_pos ⟨by rw [HL8.out]; decide, hok⟩]
      have hC : rdC l' = 0 := by unfold rdC; rw [if_pos (by rw [HL8.out]; decide), hok]; rfl
      rw [hV] at hm9 ⊢
      rw [hC]
      have hok2 : facB (rdFac l') = true ∧ facBytes (rdFac l') = l' := by
        unfold rdOk at hok
        simpa using hok
      have hpv : prV (rdFac l') = sumF l' := by unfold prV; rw [hok2.1, hok2.2]; rfl
      have hpc : prC (rdFac l') = 0 := by unfold prC; rw [hok2.1]; rfl
      have hsm := rdFac_small HI8.out
      have HF9 := hide (facat_of_row hi hm9 hsm.1 hsm.2)
      obtain ⟨qv, hqv⟩ : ∃ q, prV (rdFac l') = q := ⟨_, rfl⟩
      have hq : Hid ((qv != pv) = true) := by
        refine hide (bne_iff_ne.2 ?_)
        rw [← hqv, hpv, ← HPV.out]
        have : prV faceA = sumF lb := by unfold prV; rw [faceA_right, ← HLB.out]; rfl
        rw [this]
        exact HSM.out
      have HP9 : Hid (∀ w', Below w9.heap.size w9 w' → Calls Tryd.prog 10 #[.agg #[.string (rdFac l').module, .slice va vn vc]] w' fun e w2 => e = .returned (.tuple #[.int .i64 qv, .int .i64 0]) ∧ Below w'.heap.size w' w2) := hide fun w' b => by
        have := implPrintOf_any _ _ (rdFac l') w' (HF9.out.on b) b.size t fr ((b.block 0 (by omega)).trans ((HB9.out.block _ (by omega)).trans ((HB8.out.block _ hgl).trans HG.out)))
        rwa [hqv, hpc] at this
      obtain ⟨md, hmd⟩ : ∃ md, (rdFac l').module = md := ⟨_, rfl⟩
      rw [hmd] at HP9 ⊢
      clear hm9 hi hok hok2 hV hC hpv hpc hsm hqv hmd HF9
      go_wp2_with fail
      refine (HP9.out _ ((Below.refl _ _).alloc (Nat.le_refl _) _)).mono ?_
      rintro e w10 ⟨rfl, b10⟩
      go_wp2
      go_ret
      exact ⟨(show Ending.returned (.bool (qv != pv)) = .returned (.bool true) by rw [hq.out]), HB8.out.trans ((HB9.out.mono hs8).trans ((((Below.refl _ _).alloc (Nat.le_refl _) _).trans (b10.mono (by simp))).mono (by omega)))⟩
    · have hC : rdC l' = 3 := by unfold rdC; rw [if_pos (by rw [HL8.out]; decide), if_neg hok]
      rw [hC]
      obtain ⟨md, hmd⟩ : ∃ md, (rdV l').module = md := ⟨_, rfl⟩
      rw [hmd]
      clear hm9 hi hok hC hmd
      go_wp2
      go_ret
      exact ⟨rfl, HB8.out.trans ((HB9.out.mono hs8).trans (((Below.refl _ _).alloc (Nat.le_refl _) _).mono (by omega)))⟩

/-- What a walk is told of a slice of bytes that came in. -/
def IsRow (k : IntKind) (w : World) (a : Option Addr) (len cap : Nat) (zs : List Int) : Prop :=
  (a = none ∧ len = 0 ∧ cap = 0 ∧ zs = []) ∨
  ∃ x, a = some x ∧ len ≤ cap ∧ cap ≤ maxLen ∧ zs.length = cap ∧ (∀ i, i < zs.length → w.cell? (x.add i) = some (.int k (zs.getD i 0))) ∧ ∀ n ∈ zs, (Lit.int k n).wf = true
theorem IsRow.rowB {w : World} {a : Option Addr} {len cap : Nat} {zs : List Int} (h : IsRow .u8 w a len cap zs) (hl : len ≤ 1048576) : RowB w a len := by
  refine ⟨hl, fun j hj => ?_⟩
  rcases h with ⟨-, e, -⟩ | ⟨⟨b, o, spot⟩, rfl, hlc, -, hz, hc, hw⟩
  · omega
  have hj' : j < zs.length := by omega
  have h0 := hc j hj'
  have hs : spot = none := by
    have := World.cell?_spot (hc 0 (by omega))
    simpa [Addr.add] using this
  subst hs
  rw [add_plain] at h0
  have hm : zs.getD j 0 ∈ zs := by
    rw [List.getD_eq_getElem?_getD, List.getElem?_eq_getElem hj']
    exact List.getElem_mem hj'
  have hwf := hw _ hm
  simp only [Lit.wf, Bool.and_eq_true, decide_eq_true_eq] at hwf
  exact ⟨b, o, _, rfl, block_lt h0, h0, hwf.1, hwf.2⟩
theorem fnFaces_plainList : (Rows.fnFacesRow.laid.filter fun x => x.2.handleName?.isNone) = Rows.fnFacesRow.laid := by kernel_rfl
set_option maxRecDepth 100000 in
set_option maxHeartbeats 2000000 in
theorem fnFaces_core (a0 : Option Addr) (l0 c0 : Nat) (z0 : List Int) (a1 : Option Addr) (l1 c1 : Nat) (z1 : List Int) (w : World) (h0 : IsRow .u8 w a0 l0 c0 z0) (h1 : IsRow .u8 w a1 l1 c1 z1) (hL : laidMetH Tryd.prog Rows.fnFacesRow.laid w) :
    Calls Tryd.prog 3 #[.slice a0 l0 c0, .slice a1 l1 c1] w fun e w' => e = .returned (.bool true) ∧ Below w.heap.size w w' := by
  obtain ⟨t, fr, hg⟩ := row_of_laid (zs := keys) (name := "loop.example/g00168/impl.keyWords") hL fnFaces_plainList (by rw [← keys_laid]; simp [Rows.fnFacesRow]) gKeys gKeysType Tryd.underlying100 Tryd.underlying9 (by kernel_rfl) (by kernel_rfl)
  by_cases m0 : l0 ≤ 1048576
  · by_cases m1 : l1 ≤ 1048576
    · exact faces_any a0 a1 l0 c0 l1 c1 w m0 m1 (h0.rowB m0) (h1.rowB m1) t fr hg
    · have i0 : ¬ (1048576 : Int) < l0 := by omega
      have i1 : (1048576 : Int) < l1 := by omega
      clear hg hL h0 h1 m0 m1
      go_enter Tryd.func3, Tryd.ntmps3
      go_wp2
      go_ret
      exact ⟨rfl, Below.refl _ _⟩
  · have i0 : (1048576 : Int) < l0 := by omega
    clear hg hL h0 h1 m0
    go_enter Tryd.func3, Tryd.ntmps3
    go_wp2
    go_ret
    exact ⟨rfl, Below.refl _ _⟩

theorem fnFaces_door (os : Os) (args : Array Value) : laidMetH Tryd.prog Rows.fnFacesRow.laid ((World.doorLaid Tryd.prog 400 os).forCall (fun _ _ => 0) ⟨#[], args, []⟩).memory :=
  laidMetH_of_parts3 (fuel := 8) (laidMet_of_run' 8 (by kernel_rfl) (by kernel_rfl)) (by kernel_rfl) (by kernel_rfl)

set_option maxRecDepth 100000 in
theorem fnFaces_lifted (os : Os) (started : os.Started) (H : Type) (enc : TypeId × Value → H) :
    ReturnsInHanded {} Tryd.checked os 3 .any (fun w args => (Rows.fnFacesSpec.pre enc Tryd.prog Tryd.f3 [] false w args ∧ laidMetH Tryd.prog Rows.fnFacesRow.laid w) ∧ sizedMet enc Tryd.prog Tryd.f3 (OpenSpec.ofChange Rows.fnFacesSpec) false w args)
      (Rows.fnFacesSpec.post enc Tryd.prog Tryd.f3 false true false false) := by
  refine returnsInHanded_of_change_and (C := Tryd.checked) (X := fun w _ => laidMetH Tryd.prog Rows.fnFacesRow.laid w) (fun _ _ _ hh h => h.of_heap hh) (show ownKnob Tryd.prog.godebug = none by kernel_rfl) started (by kernel_rfl) Tryd.func3
    (ChangeSpec.witness_shaped (enc := enc) (C := Tryd.checked) (os := os) (X := fun w _ => laidMetH Tryd.prog Rows.fnFacesRow.laid w) false (World.doorLaid Tryd.prog 400 os) #[.slice none 0 0, .slice none 0 0] 8 rfl (World.shaped_of_RefB (by kernel_rfl) (by kernel_rfl)) (by kernel_rfl) (by kernel_rfl) (by kernel_rfl) (fnFaces_door os _)) ?_
  intro W base args ds gs before hval0 hW _ _ hL _
  have hval : ∀ (j : Nat) t v, Tryd.f3.params[j]? = some t → args[j]? = some v → Value.okWide Tryd.prog W .any base t v := hval0
  have hW' := hW
  obtain ⟨p, q, hA0, hV, rfl, hfz, hnd⟩ := hW
  have hA : DataW.TrodAll enc Tryd.prog W 0 (fun _ => true) true Tryd.f3.params.toList args.toList ds p := hA0
  rw [Tryd.params3] at hA hval
  obtain ⟨v0, v1, d0, d1, q0, q1, rfl, rfl, rfl, h0, h1⟩ := trodAll_two hA
  have hgl := vars_len hV
  obtain ⟨g0, rfl⟩ : ∃ g0, gs = [g0] := by
    match gs, hgl with
    | [g0], _ => exact ⟨_, rfl⟩
  obtain ⟨a0, len0, cap0, rfl⟩ := okWide_slice Tryd.underlying22 (hval 0 22 v0 rfl rfl)
  obtain ⟨z0, b0⟩ : ∃ zs, IsRow .u8 W a0 len0 cap0 zs := by
    obtain ⟨fuel, hf⟩ := h0
    rcases open_ints Tryd.underlying22 Tryd.underlying5 (by kernel_rfl) hf with ⟨hcs, _⟩ | ⟨x, l, c, zs, hcs, _, hl, hm, hz, _, hcell, hwz⟩
    · simp [Value.cells] at hcs
      obtain ⟨rfl, rfl, rfl⟩ := hcs
      exact ⟨[], .inl ⟨rfl, rfl, rfl, rfl⟩⟩
    · simp [Value.cells] at hcs
      obtain ⟨rfl, rfl, rfl⟩ := hcs
      exact ⟨zs, .inr ⟨_, rfl, hl, hm, by simpa using hz, hcell, hwz⟩⟩
  obtain ⟨a1, len1, cap1, rfl⟩ := okWide_slice Tryd.underlying22 (hval 1 22 v1 rfl rfl)
  obtain ⟨z1, b1⟩ : ∃ zs, IsRow .u8 W a1 len1 cap1 zs := by
    obtain ⟨fuel, hf⟩ := h1
    rcases open_ints Tryd.underlying22 Tryd.underlying5 (by kernel_rfl) hf with ⟨hcs, _⟩ | ⟨x, l, c, zs, hcs, _, hl, hm, hz, _, hcell, hwz⟩
    · simp [Value.cells] at hcs
      obtain ⟨rfl, rfl, rfl⟩ := hcs
      exact ⟨[], .inl ⟨rfl, rfl, rfl, rfl⟩⟩
    · simp [Value.cells] at hcs
      obtain ⟨rfl, rfl, rfl⟩ := hcs
      exact ⟨zs, .inr ⟨_, rfl, hl, hm, by simpa using hz, hcell, hwz⟩⟩
  clear hA0 hval0
  refine (fnFaces_core a0 len0 cap0 z0 a1 len1 cap1 z1 W b0 b1 hL).mono fun e W' ⟨he, bel⟩ => ?_
  subst he
  exact ⟨_, rfl, law_post (show laidOutB Tryd.prog = true by kernel_rfl) (by kernel_rfl) (by kernel_rfl) rfl Tryd.underlying4 hW' rfl bel⟩

theorem fnFaces_holds : Rows.FnFacesSaid :=
  OpenClaim.holds_of_wide 3 Tryd.f3 rfl rfl rfl rfl rfl rfl rfl ⟨rfl, rfl, rfl, rfl, rfl⟩ rfl rfl rfl rfl rfl (by kernel_rfl) Tryd.func3 (by kernel_rfl)
    (of_decide_eq_true (by kernel_rfl)) (by unfold Func.isWrapper; first | (rw [if_pos (by decide +kernel)]; kernel_rfl) | (rw [if_neg (by decide +kernel)]; exact ⟨rfl, rfl⟩))
    (fun os started H enc _ => fnFaces_lifted os started H enc)
#print axioms fnFaces_holds

theorem fnFaces_plain (f : FuncId) (fn : Func) (hf : Tryd.pinned.checked.prog.funcNamed "loop.example/g00168/laws.FnFaces" = some f) (hfn : Tryd.pinned.checked.prog.funcs[f]? = some fn) :
    false = Tryd.pinned.checked.prog.looks [] ∧ ∀ (j : Nat) t, fn.params[j]? = some t → Tryd.pinned.checked.prog.wantsStandIn t = false := by
  obtain rfl : f = 3 := Option.some.inj ((show Tryd.prog.funcNamed "loop.example/g00168/laws.FnFaces" = some 3 by kernel_rfl).symm.trans hf) |>.symm
  obtain rfl : fn = Tryd.f3 := (Option.some.inj (Tryd.func3.symm.trans hfn)).symm
  refine ⟨by kernel_rfl, fun j t ht => ?_⟩
  rw [Tryd.params3] at ht
  have hm : t ∈ [22] := by
    have hm0 := Array.mem_of_getElem? ht
    simpa using hm0
  have hall : ([22].all fun u => !Tryd.prog.wantsStandIn u) = true := by kernel_rfl
  exact (show Tryd.prog.wantsStandIn t = false by simpa using List.all_eq_true.1 hall t hm)

theorem fnFaces_card : Rows.FnFacesCardSaid :=
  Claim7.holds_tied_plain_at .later [] _ _ _ _ fnFaces_holds (fun _ h => by cases h) (by kernel_rfl) (fun _ h => by cases h) fnFaces_row_tie rfl ⟨rfl, rfl⟩ (by kernel_rfl) rfl fnFaces_plain (by kernel_rfl)
#print axioms fnFaces_card

end Go.Proofs.YtoomnimbokbadaaDoor
