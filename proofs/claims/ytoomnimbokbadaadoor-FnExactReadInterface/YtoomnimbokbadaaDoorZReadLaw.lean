/- FnExactReadInterface: at every row of bytes the program's ReadInterface answers as the model's, interface and code; the answer is memory of its own; the bytes are as they were. Listed: the program's table of words, tied. No other condition. -/
import Derived.Test.YtoomnimbokbadaaDoorZMRead
import Derived.Test.YtoomnimbokbadaaDoorZHeldI
import Derived.Test.YtoomnimbokbadaaDoorZFacEq
import Derived.Test.YtoomnimbokbadaaDoorZMarkB
import Derived.Test.YtoomnimbokbadaaDoorZToFace
import Derived.Test.YtoomnimbokbadaaDoorCards
import Derived.Test.YtoomnimbokbadaaDoorTie
import Derived.LaidMore
import Derived.Lay
import Derived.Stop.Joined
import Derived.SevenTiedAt
namespace Go.Proofs.YtoomnimbokbadaaDoor
open Go.ChangeShapes Go.WideShapes Go.ChangeAt Go.RowKit Go.PlainAid Go.Deep

def IsRow (k : IntKind) (w : World) (a : Option Addr) (len cap : Nat) (zs : List Int) : Prop :=
  (a = none ∧ len = 0 ∧ cap = 0 ∧ zs = []) ∨ ∃ x, a = some x ∧ len ≤ cap ∧ cap ≤ maxLen ∧ zs.length = cap ∧ (∀ i, i < zs.length → w.cell? (x.add i) = some (.int k (zs.getD i 0))) ∧ ∀ n ∈ zs, (Lit.int k n).wf = true
/-- The argument's bytes, read. -/
def ArgB (w : World) (a : Option Addr) (l : List Int) : Prop := ∀ i (h : i < l.length), ∃ b o, a = some ⟨b, o, none⟩ ∧ w.cell? ⟨b, o + i, none⟩ = some (.int .u8 l[i])
theorem ArgB.on {w w' : World} {a : Option Addr} {l : List Int} (h : ArgB w a l) (bel : Below w.heap.size w w') : ArgB w' a l := fun i hi => by
  obtain ⟨b, o, e, h1⟩ := h i hi
  exact ⟨b, o, e, (bel.cell (p := ⟨b, o + i, none⟩) (block_lt h1)).trans h1⟩
theorem u8_wf {y : Int} (h : (Lit.int .u8 y).wf = true) : 0 ≤ y ∧ y ≤ 255 := by
  simp only [Lit.wf, Bool.and_eq_true, decide_eq_true_eq] at h
  exact h
theorem IsRow.argB {w : World} {a : Option Addr} {len cap : Nat} {zs : List Int} (h : IsRow .u8 w a len cap zs) : ∃ l : List Int, l.length = len ∧ (∀ y ∈ l, 0 ≤ y ∧ y ≤ 255) ∧ ArgB w a l := by
  rcases h with ⟨rfl, rfl, rfl, rfl⟩ | ⟨⟨b, o, s⟩, rfl, h1, -, h2, hc, hw⟩
  · exact ⟨[], rfl, fun y hy => (by cases hy), fun i hi => absurd hi (by simp)⟩
  · refine ⟨zs.take len, by rw [List.length_take]; omega, fun y hy => u8_wf (hw y (List.mem_of_mem_take hy)), fun i hi => ?_⟩
    have hi' : i < zs.length := by rw [List.length_take] at hi; omega
    have h0 := hc i hi'
    rw [List.getD_eq_getElem?_getD, List.getElem?_eq_getElem hi'] at h0
    have hs : s = none := by
      have h00 := hc 0 (by omega)
      have := World.cell?_spot h00
      simpa [Addr.add] using this
    subst hs
    rw [add_plain] at h0
    exact ⟨b, o, rfl, by rw [List.getElem_take]; exact h0⟩
set_option maxHeartbeats 2000000 in
theorem toByteS_any (a : Option Addr) (c : Nat) (l : List Int) (w : World) (hl : l.length ≤ 1048576) (h : ArgB w a l) :
    Calls Tryd.prog 25 #[.slice a l.length c] w fun e w' => e = .returned (.slice (some ⟨w.heap.size, 0, none⟩) l.length l.length) ∧ Own w' w.heap.size (.slice (some ⟨w.heap.size, 0, none⟩) l.length l.length) l ∧ Below w.heap.size w w' := by
  have H := hide h
  obtain ⟨n, hn⟩ : ∃ n, l.length = n := ⟨_, rfl⟩
  have HN := hide hn
  rw [hn] at hl ⊢
  clear h hn
  have hmk := run_make_many (P := Tryd.prog) 22 5 (.int .u8 0) 1 1 Tryd.underlying22 (by kernel_rfl) n (by omega) (by omega)
  go_enter Tryd.func25, Tryd.ntmps25
  go_wp2
  go_loopw [4] (fun i wr => ∃ (k : Nat) (C : Array Value), i = .int .i64 k ∧ k ≤ n ∧ wr.heap[w.heap.size]? = some (.cells C 5 (0, 0)) ∧ C.size = n ∧ Hid (∀ i (h : i < l.length), i < k → C[i]? = some (.int .u8 l[i])) ∧ Below w.heap.size w wr) (fun i _ => n - (intOf i).toNat)
  case atStart => exact ⟨0, _, rfl, by omega, Deep.blk_alloc_new _ _, by rw [size_madeCells], hide (fun i _ hi => absurd hi (by omega)), (Below.refl _ _).alloc (Nat.le_refl _) _⟩
  case round =>
    obtain ⟨k, C, rfl, hk, hC, hsz, Hs, hbw⟩ := hrel
    by_cases hp : k < n
    · have i1 : (k : Int) < n := by omega
      obtain ⟨y, hy⟩ : ∃ y, l[k]'(by rw [HN.out]; exact hp) = y := ⟨_, rfl⟩
      obtain ⟨b, o, rfl, c0⟩ := H.out k (by rw [HN.out]; exact hp)
      have c0' := (hbw.cell (p := ⟨b, o + k, none⟩) (block_lt c0)).trans c0
      rw [hy] at c0'
      have HY := hide hy
      obtain ⟨s1, s2⟩ := heapCells hC
      obtain ⟨y0, d0⟩ : ∃ y, wr.cell? ⟨w.heap.size, k, none⟩ = some y := by rw [s1]; exact ⟨_, Array.getElem?_eq_getElem (by omega)⟩
      have f0 := s2 k
      have HC := hide hC
      clear s1 s2 hC c0 hy
      go_wp2
      go_roundw
      case rel =>
        refine ⟨k + 1, _, by go_num, by omega, block_set HC.out _, by simpa using hsz, hide fun i hi hik => ?_, hbw.setCell (p := ⟨w.heap.size, k, none⟩) (Nat.le_refl _) _⟩
        by_cases e : i < k
        · rw [Array.getElem?_setIfInBounds_ne (by omega)]
          exact Hs.out i hi e
        · obtain rfl : i = k := by omega
          rw [Array.getElem?_setIfInBounds_self_of_lt (by omega), HY.out]
      case measure => simp [intOf]; omega
    · have i1 : ¬ (k : Int) < n := by omega
      obtain rfl : k = n := by omega
      go_wp2
      go_ret
      refine ⟨rfl, ⟨by rw [bc_len, HN.out, Nat.mul_one], .inr ⟨w.heap.size, k, C, by rw [HN.out], Nat.le_refl _, hC, by rw [HN.out]; exact Nat.le_refl _, by unfold maxLen; omega, by omega, ?_⟩⟩, hbw⟩
      have e : C.toList = bc l := by
        apply List.ext_getElem?
        intro i
        by_cases hi : i < l.length
        · rw [Array.getElem?_toList, Hs.out i hi (by rw [← HN.out]; exact hi)]
          unfold bc
          simp [hi]
        · have hN := HN.out
          rw [List.getElem?_eq_none (l := C.toList) (by simp; omega), List.getElem?_eq_none (l := bc l) (by rw [bc_len]; omega)]
      rw [e, List.take_of_length_le (by rw [bc_len]; omega)]
theorem rdV_small {l : List Int} (h : ∀ y ∈ l, 0 ≤ y ∧ y ≤ 255) : (rdV l).module.size ≤ maxLen ∧ (rdV l).items.length ≤ 255 := by
  unfold rdV
  split
  · refine ⟨(rdFac_small h).1, ?_⟩
    show (rdIts _ _).length ≤ 255
    rw [rdIts_len]
    have := hd_in (drop_in h (4 + mdL l))
    unfold itN
    omega
  · exact ⟨Nat.zero_le _, Nat.zero_le _⟩
theorem Own.al {w : World} {B g n c : Nat} {l : List Int} (h : Own w B (.slice (some ⟨g, 0, none⟩) n c) l) : ∀ i, i < l.length → Al w g i := by
  intro i hi
  obtain ⟨a, c', e, hb⟩ := h.at
  cases e
  obtain ⟨g', e', -, -, h1, h2⟩ := hb i hi
  cases e'
  exact ⟨⟨_, h1⟩, h2⟩
set_option maxRecDepth 100000 in
set_option maxHeartbeats 16000000 in
theorem readLaw_any (a : Option Addr) (c : Nat) (l : List Int) (w : World) (hl : l.length ≤ 1048576) (hin : ∀ y ∈ l, 0 ≤ y ∧ y ≤ 255) (h : ArgB w a l) (t : TypeId) (fr : Nat × Nat) (hg : w.heap[0]? = some (.cells keyRow t fr)) :
    Calls Tryd.prog 6 #[.slice a l.length c] w fun e w' => e = .returned (.bool true) ∧ Below w.heap.size w w' := by
  obtain ⟨n, hn⟩ : ∃ n, l.length = n := ⟨_, rfl⟩
  have hsm := rdV_small hin
  obtain ⟨x, hx⟩ : ∃ x, rdV l = x := ⟨_, rfl⟩
  rw [hx] at hsm
  obtain ⟨s, its⟩ := x
  obtain ⟨fc, hfc⟩ : ∃ fc, rdC l = fc := ⟨_, rfl⟩
  have HTo : Hid (∀ w', Below w.heap.size w w' → Calls Tryd.prog 25 #[.slice a n c] w' fun e w2 => (∃ g, e = .returned (.slice (some ⟨g, 0, none⟩) n n) ∧ Hid (g = w'.heap.size) ∧ Hid (Own w2 w'.heap.size (.slice (some ⟨g, 0, none⟩) n n) l)) ∧ Below w'.heap.size w' w2) := hide fun w' bel => by
    have := toByteS_any a c l w' hl (h.on bel)
    rw [hn] at this
    exact this.mono fun e w2 ⟨e1, o1, b1⟩ => ⟨⟨_, e1, rfl, o1⟩, b1⟩
  have HSp : Hid (∀ w' g B, Own w' B (.slice (some ⟨g, 0, none⟩) n n) l → Calls Tryd.prog 24 #[.slice (some ⟨g, 0, none⟩) n n] w' fun e w2 => (∃ v L, e = .returned (.tuple #[.agg #[.string s, v], .int .i64 fc]) ∧ Hid (IRow w2 w'.heap.size v L) ∧ Hid (L.map Prod.fst = its)) ∧ Below w'.heap.size w' w2) := hide fun w' g B ho => by
    have hs := Own.slat ho hin
    rw [← hn] at hs
    have := specRead_any g 0 l.length ⟨B, w'.heap.size, false⟩ l w' hs (Nat.le_refl _) (Nat.le_refl _) (by omega)
    rw [hn] at this
    refine this.mono fun e w2 ⟨⟨v, L, e1, h1, h2⟩, b⟩ => ⟨⟨v, L, ?_, h1, ?_⟩, b⟩
    · rw [e1, hx, hfc]
    · refine hide ?_
      rw [h2, hx]
  have HIm : Hid (∀ w' g B, Below w.heap.size w w' → Own w' B (.slice (some ⟨g, 0, none⟩) n n) l → Calls Tryd.prog 13 #[.slice (some ⟨g, 0, none⟩) n n] w' fun e w2 => (∃ v L, e = .returned (.tuple #[.agg #[.string s, v], .int .i64 fc]) ∧ Hid (IRow w2 w'.heap.size v L) ∧ Hid (L.map Prod.fst = its)) ∧ Below w'.heap.size w' w2) := hide fun w' g B bel ho => by
    have hs := Own.slat ho hin
    rw [← hn] at hs
    have := implRead_any g 0 l.length ⟨B, w'.heap.size, false⟩ l w' hs (Nat.le_refl _) (Nat.le_refl _) (by omega) t fr ((bel.block 0 (Array.getElem?_eq_some_iff.1 hg).1).trans hg)
    rw [hn] at this
    refine this.mono fun e w2 ⟨⟨v, L, e1, h1, h2⟩, b⟩ => ⟨⟨v, L, ?_, h1, ?_⟩, b⟩
    · rw [e1, hx, hfc]
    · refine hide ?_
      rw [h2, hx]
  have HSm := hide hsm
  have hnl : n ≤ 1048576 := by omega
  have HN := hide hn
  rw [hn]
  have i0 : ¬ (1048576 : Int) < n := by omega
  clear hx hfc hg h hl hn hsm
  go_enter Tryd.func6, Tryd.ntmps6
  go_wp2_with fail
  refine (HTo.out _ (Below.refl _ _)).mono ?_
  rintro e w1 ⟨⟨g1, rfl, -, ho1⟩, b1⟩
  go_wp2_with fail
  refine (HSp.out _ _ _ ho1.out).mono ?_
  rintro e w2 ⟨⟨v0, L0, rfl, hi0, hm0⟩, b2⟩
  obtain ⟨va, vn, vc, rfl⟩ := irow_form hi0.out
  have hb2 : Below w.heap.size w w2 := b1.trans (b2.mono b1.size)
  have h12 : w1.heap.size ≤ w2.heap.size := b2.size
  have h01 : w.heap.size ≤ w1.heap.size := b1.size
  have HF2 := hide (facat_of_row (x := ⟨s, its⟩) hi0.out hm0.out HSm.out.1 (Nat.le_trans HSm.out.2 (by decide)))
  simp only [] at HF2
  clear b1 b2 ho1 hi0 hm0
  go_wp2_with fail
  have bX2 : Below w2.heap.size w2 (w2.alloc (.cells #[.string s, .slice va vn vc] 25)) := (Below.refl _ _).alloc (Nat.le_refl _) _
  have hp3 := Deep.blk_alloc_new w2 (.cells #[.string s, .slice va vn vc] 25)
  refine (HTo.out _ (hb2.trans (bX2.mono hb2.size))).mono ?_
  rintro e w4 ⟨⟨g4, rfl, HG4, ho4⟩, b4⟩
  have h4g : g4 = w2.heap.size + 1 := by rw [HG4.out]; simp
  have hg4 := hide h4g
  have hb24 : Below w2.heap.size w2 w4 := bX2.trans (b4.mono (by simp))
  have hb4 : Below w.heap.size w w4 := hb2.trans (hb24.mono hb2.size)
  have hp4 := (b4.block w2.heap.size (by simp)).trans hp3
  have HP4 := hide hp4
  have h24 : w2.heap.size + 2 ≤ w4.heap.size := by
    obtain ⟨a4, c4, e4, hb4'⟩ := ho4.out.at
    have := b4.size
    have hlt : g4 < w4.heap.size := by
      rcases ho4.out.2 with ⟨e, -⟩ | ⟨g', cap, cur, e, -, hg', -⟩
      · cases e
      · cases e; exact (Array.getElem?_eq_some_iff.1 hg').1
    omega
  have HF4 := hide (HF2.out.on hb24)
  clear bX2 hp3 b4 hb24 hp4 h4g HG4 HF2
  go_wp2_with fail
  refine (HIm.out _ _ _ hb4 ho4.out).mono ?_
  rintro e w5 ⟨⟨v5, L5, rfl, hi5, hm5⟩, b5⟩
  obtain ⟨ua, un, uc, rfl⟩ := irow_form hi5.out
  have h45 : w4.heap.size ≤ w5.heap.size := b5.size
  obtain ⟨w6, hw6⟩ : ∃ w6, w6 = w5.alloc (.cells #[.string s, .slice ua un uc] 25) := ⟨_, rfl⟩
  have b56 : Below w5.heap.size w5 w6 := by rw [hw6]; exact (Below.refl _ _).alloc (Nat.le_refl _) _
  have b46 : Below w4.heap.size w4 w6 := b5.trans (b56.mono h45)
  have hp6 : w6.heap[w5.heap.size]? = some (.cells #[.string s, .slice ua un uc] 25 (0, 0)) := by
    rw [hw6]
    exact Deep.blk_alloc_new w5 (.cells #[.string s, .slice ua un uc] 25)
  have hp3 := (b46.block w2.heap.size (by omega)).trans HP4.out
  have x0 : w6.cell? ⟨w2.heap.size, 0, none⟩ = some (.string s) := (heapCells hp3).1 0
  have x1 : w6.cell? ⟨w2.heap.size, 1, none⟩ = some (.slice va vn vc) := (heapCells hp3).1 1
  have y0 : w6.cell? ⟨w5.heap.size, 0, none⟩ = some (.string s) := (heapCells hp6).1 0
  have y1 : w6.cell? ⟨w5.heap.size, 1, none⟩ = some (.slice ua un uc) := (heapCells hp6).1 1
  have HP3 := hide hp3
  have HP6 := hide hp6
  have HI6 := hide (hi5.out.on b56)
  have HO6 := hide (ho4.out.on b46)
  have HF6 := hide (HF4.out.on (b46.mono (show w2.heap.size ≤ w4.heap.size by omega)))
  have HV5 : Hid ((∀ k, (Value.slice ua un uc).ownBlock = some k → k < w5.heap.size) ∧ ∀ p ∈ L5, ∀ k, p.2.ownBlock = some k → k < w5.heap.size) := hide ⟨fun k e => (hi5.out.1.lt k e).2, fun p hp k e => (World.ownsRow.lt (hi5.out.2.1 p hp).1 k e).2⟩
  have hb6 : Below w.heap.size w w6 := hb4.trans (b46.mono hb4.size)
  have HB6 := hide hb6
  have h56 : w5.heap.size < w6.heap.size := (Array.getElem?_eq_some_iff.1 hp6).1
  have hll : L5.length ≤ 255 := by
    have := congrArg List.length hm5.out
    rw [List.length_map] at this
    rw [this]
    exact HSm.out.2
  have HLL := hide hll
  have HPL : Hid (∀ p ∈ L5, p.1.params.length ≤ 255) := hide fun p hp => (hi5.out.2.1 p hp).2.2.2.2.2.2.1
  have HFA : Hid (∀ w', Below w6.heap.size w6 w' → FacAt w' ⟨w1.heap.size, w2.heap.size, false⟩ (.agg #[.string s, .slice va vn vc]) ⟨s, its⟩) := hide fun w' bel => HF6.out.on (bel.mono (by show w2.heap.size ≤ _; omega))
  have HFB : Hid (∀ w', Below w6.heap.size w6 w' → FacAt w' ⟨w4.heap.size, w'.heap.size, false⟩ (.agg #[.string s, .slice ua un uc]) ⟨s, its⟩) := hide fun w' bel =>
    facat_of_row (x := ⟨s, its⟩) (HI6.out.on bel) hm5.out HSm.out.1 (Nat.le_trans HSm.out.2 (by decide))
  clear b5 b56 b46 hp3 hp6 hi5 ho4 hb4 hb6 hll HF4 HP4
  have HW6 := hide hw6
  have X0 := hide x0
  have X1 := hide x1
  have Y0 := hide y0
  have Y1 := hide y1
  rw [hw6] at x0 x1 y0 y1
  clear hw6
  go_wp2_with fail
  rw [← HW6.out]
  refine (eqInterface_same _ _ _ _ ⟨s, its⟩ _ (HFB.out _ (Below.refl _ _)) (HFA.out _ (Below.refl _ _)) (Nat.le_refl _) (by show w2.heap.size ≤ _; omega)).mono ?_
  rintro e w7 ⟨rfl, b7⟩
  clear x0 x1 y0 y1
  go_wp2_with fail
  refine (HTo.out _ (HB6.out.trans (b7.mono HB6.out.size))).mono ?_
  rintro e w8 ⟨⟨g8, rfl, -, ho8⟩, b8⟩
  have b68 : Below w6.heap.size w6 w8 := b7.trans (b8.mono b7.size)
  have B68 := hide b68
  clear b7 b8
  go_wp2_with fail
  refine (eqByteS_same _ _ _ _ l _ (by have := HN.out; omega) (HO6.out.on b68) ho8.out).mono ?_
  rintro e w9 ⟨rfl, b9⟩
  have b69 : Below w6.heap.size w6 w9 := b68.trans (b9.mono b68.size)
  have HO9 := hide (HO6.out.on b69)
  have hmk := markByteS_tch g4 n l w9 (by have := HN.out; omega) HO9.out.al
  rw [HN.out] at hmk
  have HMK := hide hmk
  have B69 := hide b69
  have hz : ¬ 1 + (n : Int) < 0 := by omega
  clear b68 b69 b9 ho8 hmk B68
  go_wp2_with fail
  refine HMK.out.mono ?_
  rintro e w10 ⟨rfl, t10⟩
  have HT10 : Hid (Tch (fun k => k = g4) w6 w10) := hide ((Tch.of_below B69.out).trans t10)
  have h610 : w6.heap.size ≤ w10.heap.size := HT10.out.size
  have k0 := HT10.out.cell (by have := hg4.out; omega) X0.out
  have k1 := HT10.out.cell (by have := hg4.out; omega) X1.out
  have k2 := HT10.out.cell (by have := hg4.out; omega) Y0.out
  have k3 := HT10.out.cell (by have := hg4.out; omega) Y1.out
  have HI10 : Hid (IRow w10 w4.heap.size (.slice ua un uc) L5) := hide ((HI6.out.on B69.out).of_heap fun k hk hk2 => t10.block k hk2 (by have := hg4.out; omega))
  have HFA10 := hide ((HFA.out _ B69.out).same (w' := w10) fun k hk hk2 => t10.block k (by have := B69.out.size; simp at hk2; omega) (by have := hg4.out; simp at hk2; omega))
  clear t10 HMK HO9
  go_wp2_with fail
  refine (eqInterface_same _ _ _ _ ⟨s, its⟩ _ (facat_of_row (x := ⟨s, its⟩) HI10.out hm5.out HSm.out.1 (Nat.le_trans HSm.out.2 (by decide))) HFA10.out (Nat.le_refl _) (by show w2.heap.size ≤ _; omega)).mono ?_
  rintro e w11 ⟨rfl, b11⟩
  have HT11 : Hid (Tch (fun k => k = g4) w6 w11) := hide (HT10.out.trans (Tch.of_below b11))
  have l2 := HT11.out.cell (by have := hg4.out; omega) Y0.out
  have l3 := HT11.out.cell (by have := hg4.out; omega) Y1.out
  have hKb := kAt_bound HPL.out L5.length (Nat.le_refl _)
  have hmi := markInterface_mk s _ w4.heap.size L5 w11 w5.heap.size HLL.out (HI10.out.on b11) HV5.out.1 HV5.out.2
  have HHE : Hid (∀ w', MkI w' (.slice ua un uc) L5 → Calls Tryd.prog 26 #[.agg #[.string s, .slice ua un uc], .int .i64 1] w' fun e w2 => e = .returned (.int .i64 (kAt L5 L5.length)) ∧ Below w'.heap.size w' w2) := hide fun w' hm => heldInterface_mk s _ L5 w' HLL.out HPL.out hm
  generalize kAt L5 L5.length = K at *
  have hK0 : ¬ K < 0 := by omega
  have HMI := hide hmi
  clear hmi hKb k0 k1 k2 k3 HI10 HFA10 b11
  go_wp2_with fail
  refine HMI.out.mono ?_
  rintro e w12 ⟨rfl, hm12, t12⟩
  have HM12 := hide hm12
  have HT12 : Hid (Tch (fun k => k = g4 ∨ (w4.heap.size ≤ k ∧ k < w5.heap.size)) w6 w12) := hide ((HT11.out.wid fun k e => .inl e).trans (t12.wid fun k e => .inr e))
  have l2' := HT12.out.cell (by have := hg4.out; omega) Y0.out
  have l3' := HT12.out.cell (by have := hg4.out; omega) Y1.out
  clear l2 l3 t12 hm12 HMI
  go_wp2_with fail
  refine (HHE.out _ HM12.out).mono ?_
  rintro e w13 ⟨rfl, b13⟩
  have HM13 := hide (HM12.out.on b13)
  have HT13 := hide (HT12.out.trans (Tch.of_below b13))
  have hb13 : Below w.heap.size w w13 := HB6.out.trans (HT13.out.below HB6.out.size (fun k hk e => by have := hg4.out; omega))
  have HB13 := hide hb13
  clear l2' l3' b13
  go_wp2_with fail
  refine (HTo.out _ hb13).mono ?_
  rintro e w14 ⟨⟨g14, rfl, -, ho14⟩, b14⟩
  have hb14 : Below w.heap.size w w14 := hb13.trans (b14.mono hb13.size)
  have HM14 := hide (HM13.out.on b14)
  have HT14 := hide (HT13.out.trans (Tch.of_below b14))
  clear b14 hb13
  go_wp2_with fail
  refine (HIm.out _ _ _ hb14 ho14.out).mono ?_
  rintro e w15 ⟨⟨v15, L15, rfl, hi15, hm15⟩, b15⟩
  obtain ⟨ta, tn, tc, rfl⟩ := irow_form hi15.out
  obtain ⟨w16, hw16⟩ : ∃ w16, w16 = w15.alloc (.cells #[.string s, .slice ta tn tc] 25) := ⟨_, rfl⟩
  have b156 : Below w15.heap.size w15 w16 := by rw [hw16]; exact (Below.refl _ _).alloc (Nat.le_refl _) _
  have b146 : Below w14.heap.size w14 w16 := b15.trans (b156.mono b15.size)
  have hp16 : w16.heap[w15.heap.size]? = some (.cells #[.string s, .slice ta tn tc] 25 (0, 0)) := by
    rw [hw16]
    exact Deep.blk_alloc_new w15 (.cells #[.string s, .slice ta tn tc] 25)
  have HT16 := hide (HT14.out.trans (Tch.of_below b146))
  have HM16 := hide (HM14.out.on b146)
  have hb16 : Below w.heap.size w w16 := hb14.trans (b146.mono hb14.size)
  have HB16 := hide hb16
  have m0 := HT16.out.cell (by have := hg4.out; omega) X0.out
  have m1 := HT16.out.cell (by have := hg4.out; omega) X1.out
  have m2 : w16.cell? ⟨w15.heap.size, 0, none⟩ = some (.string s) := (heapCells hp16).1 0
  have m3 : w16.cell? ⟨w15.heap.size, 1, none⟩ = some (.slice ta tn tc) := (heapCells hp16).1 1
  have HFA16 := hide (HF6.out.same (w' := w16) fun k hk hk2 => HT16.out.block k (by simp at hk2; omega) (by have := hg4.out; simp at hk2; omega))
  have HFB16 := hide (facat_of_row (x := ⟨s, its⟩) (hi15.out.on b156) hm15.out HSm.out.1 (Nat.le_trans HSm.out.2 (by decide)))
  have h6 := HT16.out.size
  have HW16 := hide hw16
  rw [hw16] at m0 m1 m2 m3
  clear hw16 hp16 b15 b156 b146 hi15 hm15 ho14 hb14 hb16
  go_wp2_with fail
  rw [← HW16.out]
  refine (eqInterface_same _ _ _ _ ⟨s, its⟩ _ HFB16.out HFA16.out (Nat.le_refl _) (by show w2.heap.size ≤ _; omega)).mono ?_
  rintro e w17 ⟨rfl, b17⟩
  have HT17 := hide (HT16.out.trans (Tch.of_below b17))
  have HM17 := hide (HM16.out.on b17)
  have hb17 : Below w.heap.size w w17 := HB16.out.trans (b17.mono HB16.out.size)
  have n2 := HT17.out.cell (by have := hg4.out; omega) Y0.out
  have n3 := HT17.out.cell (by have := hg4.out; omega) Y1.out
  clear m0 m1 m2 m3 b17 HFA16 HFB16
  go_wp2_with fail
  refine (HHE.out _ HM17.out).mono ?_
  rintro e w18 ⟨rfl, b18⟩
  go_wp2
  go_ret
  exact ⟨rfl, hb17.trans (b18.mono hb17.size)⟩
theorem fnExactReadInterface_plainList : (Rows.fnExactReadInterfaceRow.laid.filter fun x => x.2.handleName?.isNone) = Rows.fnExactReadInterfaceRow.laid := by kernel_rfl
theorem fnExactReadInterface_core (a : Option Addr) (len cap : Nat) (z : List Int) (w : World) (h : IsRow .u8 w a len cap z) (hL : laidMetH Tryd.prog Rows.fnExactReadInterfaceRow.laid w) :
    Calls Tryd.prog 6 #[.slice a len cap] w fun e w' => e = .returned (.bool true) ∧ Below w.heap.size w w' := by
  obtain ⟨t, fr, hg⟩ := row_of_laid (zs := keys) (name := "loop.example/g00168/impl.keyWords") hL fnExactReadInterface_plainList (by rw [← keys_laid]; simp [Rows.fnExactReadInterfaceRow]) gKeys gKeysType Tryd.underlying100 Tryd.underlying9 (by kernel_rfl) (by kernel_rfl)
  by_cases m0 : len ≤ 1048576
  · obtain ⟨l, rfl, hin, hA⟩ := h.argB
    exact readLaw_any a cap l w m0 hin hA t fr hg
  · have i0 : (1048576 : Int) < len := by omega
    clear hg hL h m0
    go_enter Tryd.func6, Tryd.ntmps6
    go_wp2
    go_ret
    exact ⟨rfl, Below.refl _ _⟩

theorem fnExactReadInterface_door (os : Os) (args : Array Value) : laidMetH Tryd.prog Rows.fnExactReadInterfaceRow.laid ((World.doorLaid Tryd.prog 400 os).forCall (fun _ _ => 0) ⟨#[], args, []⟩).memory :=
  laidMetH_of_parts3 (fuel := 8) (laidMet_of_run' 8 (by kernel_rfl) (by kernel_rfl)) (by kernel_rfl) (by kernel_rfl)

set_option maxRecDepth 100000 in
theorem fnExactReadInterface_lifted (os : Os) (started : os.Started) (H : Type) (enc : TypeId × Value → H) :
    ReturnsInHanded {} Tryd.checked os 6 .any (fun w args => (Rows.fnExactReadInterfaceSpec.pre enc Tryd.prog Tryd.f6 [] false w args ∧ laidMetH Tryd.prog Rows.fnExactReadInterfaceRow.laid w) ∧ sizedMet enc Tryd.prog Tryd.f6 (OpenSpec.ofChange Rows.fnExactReadInterfaceSpec) false w args)
      (Rows.fnExactReadInterfaceSpec.post enc Tryd.prog Tryd.f6 false true false false) := by
  refine returnsInHanded_of_change_and (C := Tryd.checked) (X := fun w _ => laidMetH Tryd.prog Rows.fnExactReadInterfaceRow.laid w) (fun _ _ _ hh h => h.of_heap hh) (show ownKnob Tryd.prog.godebug = none by kernel_rfl) started (by kernel_rfl) Tryd.func6
    (ChangeSpec.witness_shaped (enc := enc) (C := Tryd.checked) (os := os) (X := fun w _ => laidMetH Tryd.prog Rows.fnExactReadInterfaceRow.laid w) false (World.doorLaid Tryd.prog 400 os) #[.slice none 0 0] 8 rfl (World.shaped_of_RefB (by kernel_rfl) (by kernel_rfl)) (by kernel_rfl) (by kernel_rfl) (by kernel_rfl) (fnExactReadInterface_door os _)) ?_
  intro W base args ds gs before hval0 hW _ _ hL _
  have hval : ∀ (j : Nat) t v, Tryd.f6.params[j]? = some t → args[j]? = some v → Value.okWide Tryd.prog W .any base t v := hval0
  have hW' := hW
  obtain ⟨p, q, hA0, hV, rfl, hfz, hnd⟩ := hW
  have hA : DataW.TrodAll enc Tryd.prog W 0 (fun _ => true) true Tryd.f6.params.toList args.toList ds p := hA0
  rw [Tryd.params6] at hA hval
  obtain ⟨v0, d0, rfl, rfl, h0⟩ := trodAll_one hA
  have hgl := vars_len hV
  obtain ⟨g0, rfl⟩ : ∃ g0, gs = [g0] := by
    match gs, hgl with
    | [g0], _ => exact ⟨_, rfl⟩
  obtain ⟨a0, len0, cap0, rfl⟩ := okWide_slice Tryd.underlying22 (hval 0 22 v0 rfl rfl)
  obtain ⟨z0, b0⟩ : ∃ zs, IsRow .u8 W a0 len0 cap0 zs := by
    obtain ⟨fuel, hf⟩ := h0
    rcases open_ints Tryd.underlying22 Tryd.underlying5 (by kernel_rfl) hf with ⟨hcs, _⟩ | ⟨x, l, c, zs, hcs, _, hl, hm, hz, _, hcell, hwz⟩
    · simp [Value.cells] at hcs
      obtain ⟨rfl, rfl, rfl⟩ := hcs
      exact ⟨[], .inl ⟨rfl, rfl, rfl, rfl⟩⟩
    · simp [Value.cells] at hcs
      obtain ⟨rfl, rfl, rfl⟩ := hcs
      exact ⟨zs, .inr ⟨_, rfl, hl, hm, by simpa using hz, hcell, hwz⟩⟩
  clear hA0 hval0
  refine (fnExactReadInterface_core a0 len0 cap0 z0 W b0 hL).mono fun e W' ⟨he, bel⟩ => ?_
  subst he
  exact ⟨_, rfl, law_post (show laidOutB Tryd.prog = true by kernel_rfl) (by kernel_rfl) (by kernel_rfl) rfl Tryd.underlying4 hW' rfl bel⟩

theorem fnExactReadInterface_holds : Rows.FnExactReadInterfaceSaid :=
  OpenClaim.holds_of_wide 6 Tryd.f6 rfl rfl rfl rfl rfl rfl rfl ⟨rfl, rfl, rfl, rfl, rfl⟩ rfl rfl rfl rfl rfl (by kernel_rfl) Tryd.func6 (by kernel_rfl)
    (of_decide_eq_true (by kernel_rfl)) (by unfold Func.isWrapper; first | (rw [if_pos (by decide +kernel)]; kernel_rfl) | (rw [if_neg (by decide +kernel)]; exact ⟨rfl, rfl⟩))
    (fun os started H enc _ => fnExactReadInterface_lifted os started H enc)
#print axioms fnExactReadInterface_holds

theorem fnExactReadInterface_plain (f : FuncId) (fn : Func) (hf : Tryd.pinned.checked.prog.funcNamed "loop.example/g00168/laws.FnExactReadInterface" = some f) (hfn : Tryd.pinned.checked.prog.funcs[f]? = some fn) :
    false = Tryd.pinned.checked.prog.looks [] ∧ ∀ (j : Nat) t, fn.params[j]? = some t → Tryd.pinned.checked.prog.wantsStandIn t = false := by
  obtain rfl : f = 6 := Option.some.inj ((show Tryd.prog.funcNamed "loop.example/g00168/laws.FnExactReadInterface" = some 6 by kernel_rfl).symm.trans hf) |>.symm
  obtain rfl : fn = Tryd.f6 := (Option.some.inj (Tryd.func6.symm.trans hfn)).symm
  refine ⟨by kernel_rfl, fun j t ht => ?_⟩
  rw [Tryd.params6] at ht
  have hm : t ∈ [22] := by
    have hm0 := Array.mem_of_getElem? ht
    simpa using hm0
  have hall : ([22].all fun u => !Tryd.prog.wantsStandIn u) = true := by kernel_rfl
  exact (show Tryd.prog.wantsStandIn t = false by simpa using List.all_eq_true.1 hall t hm)

theorem fnExactReadInterface_card : Rows.FnExactReadInterfaceCardSaid :=
  Claim7.holds_tied_plain_at .later [] _ _ _ _ fnExactReadInterface_holds (fun _ h => by cases h) (by kernel_rfl) (fun _ h => by cases h) fnExactReadInterface_row_tie rfl ⟨rfl, rfl⟩ (by kernel_rfl) rfl fnExactReadInterface_plain (by kernel_rfl)
#print axioms fnExactReadInterface_card

end Go.Proofs.YtoomnimbokbadaaDoor
