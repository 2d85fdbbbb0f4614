/- ReadInterface: the program's answer over its bytes. No condition. -/
import Derived.Test.YtoomnimbokbadaaDoorZRdEq
import Derived.Test.YtoomnimbokbadaaDoorZPrintOf
namespace Go.Proofs.YtoomnimbokbadaaDoor
open Go.RowKit

def rdOk (l : List Int) : Bool := facB (rdFac l) && decide (facBytes (rdFac l) = l)
def rdV (l : List Int) : Fac := if l.length ≤ 65536 ∧ rdOk l = true then rdFac l else ⟨⟨#[]⟩, []⟩
def rdC (l : List Int) : Int := if l.length ≤ 65536 then (if rdOk l = true then 0 else 3) else 2
theorem facat_of_row {w : World} {B : Nat} {v : Value} {L : List IV} {x : Fac} (h : IRow w B v L) (hL : L.map Prod.fst = x.items) (h1 : x.module.size ≤ maxLen) (h2 : x.items.length ≤ maxLen) : FacAt w ⟨B, w.heap.size, false⟩ (.agg #[.string x.module, v]) x :=
  ⟨v, rfl, h1, h2, by rw [← hL]; exact h.slat⟩
theorem rdFac_small {l : List Int} (h : ∀ y ∈ l, 0 ≤ y ∧ y ≤ 255) : (rdFac l).module.size ≤ maxLen ∧ (rdFac l).items.length ≤ maxLen := by
  have h1 := hd_in (drop_in h 3)
  have h2 := hd_in (drop_in h (4 + mdL l))
  constructor
  · show (bs _).size ≤ maxLen
    rw [bs_size, List.length_take]
    have : mdL l ≤ 255 := by unfold mdL; omega
    unfold maxLen
    omega
  · show (rdIts _ _).length ≤ maxLen
    rw [rdIts_len]
    unfold itN maxLen
    omega
set_option maxRecDepth 100000 in
set_option maxHeartbeats 8000000 in
theorem implRead_any (g o c : Nat) (m : Md) (l : List Int) (w : World) (h : SlAt BAt 1 w m (.slice (some ⟨g, o, none⟩) l.length c) l) (hc : l.length ≤ c) (hm : m.hi ≤ w.heap.size) (hl : l.length ≤ 1099511627776) (t : TypeId) (fr : Nat × Nat) (hg : w.heap[0]? = some (.cells keyRow t fr)) :
    Calls Tryd.prog 13 #[.slice (some ⟨g, o, none⟩) l.length c] w fun e w' => (∃ v L, e = .returned (.tuple #[.agg #[.string (rdV l).module, v], .int .i64 (rdC l)]) ∧ IRow w' w.heap.size v L ∧ L.map Prod.fst = (rdV l).items) ∧ Below w.heap.size w w' := by
  have HS := hide h
  have Hin : Hid (∀ y ∈ l, 0 ≤ y ∧ y ≤ 255) := by
    refine hide fun y hy => ?_
    obtain ⟨a, cc, -, hr⟩ := h
    obtain ⟨i, hi, rfl⟩ := List.getElem_of_mem hy
    obtain ⟨b, o', -, -, -, -, h1⟩ := hr i hi
    exact h1.2
  have HG := hide hg
  have hgl := (Array.getElem?_eq_some_iff.1 hg).1
  clear h hg
  obtain ⟨n, hn⟩ : ∃ n, l.length = n := ⟨_, rfl⟩
  have HN := hide hn
  rw [hn] at HS hc hl
  rw [hn]
  by_cases c1 : 65536 < n
  · have i1 : (65536 : Int) < n := by omega
    have hV : rdV l = ⟨⟨#[]⟩, []⟩ := by unfold rdV; rw [if_neg (by omega)]
    have hC : rdC l = 2 := by unfold rdC; rw [if_neg (by omega)]
    rw [hV, hC]
    go_enter Tryd.func13, Tryd.ntmps13
    go_wp2
    refine bodyPost_ret (v := .tuple #[.agg #[.string ⟨#[]⟩, .slice none 0 0], .int .i64 2]) (by simp [results, Tryd.results13, go_sem]) rfl ?_
    exact ⟨⟨_, [], rfl, IRow.nil _ _, rfl⟩, (Below.refl _ _).alloc (Nat.le_refl _) _⟩
  · have i1 : ¬ (65536 : Int) < n := by omega
    obtain ⟨w0, hw0⟩ : ∃ w0, w0 = (w.alloc (.cells #[.string ⟨#[]⟩, .slice none 0 0] 25)).alloc (.cells #[.slice (some ⟨g, o, none⟩) n c] 51) := ⟨_, rfl⟩
    have hb0 : Below w.heap.size w w0 := by rw [hw0]; exact ((Below.refl _ _).alloc (Nat.le_refl _) _).alloc (by simp) _
    have hs0 : w0.heap.size = w.heap.size + 2 := by rw [hw0]; simp
    have hy0 : w0.heap[w.heap.size]? = some (.cells #[.string ⟨#[]⟩, .slice none 0 0] 25 (0, 0)) := by
      rw [hw0, Below.heap_alloc _ _ _ (by simp)]
      exact Deep.blk_alloc_new w (.cells #[.string ⟨#[]⟩, .slice none 0 0] 25)
    have hr0 : w0.heap[w.heap.size + 1]? = some (.cells #[.slice (some ⟨g, o, none⟩) n c] 51 (0, 0)) := by
      rw [hw0]
      have := Deep.blk_alloc_new (w.alloc (.cells #[.string ⟨#[]⟩, .slice none 0 0] 25)) (.cells #[.slice (some ⟨g, o, none⟩) n c] 51)
      rwa [World.size_alloc] at this
    have HS0 := hide (HS.out.on BAt.stays (hb0.mono hm))
    have k0 : w0.cell? ⟨w.heap.size + 1, 0, none⟩ = some (.slice (some ⟨g, o, none⟩) n c) := (heapCells hr0).1 0
    have HR0 : Hid (RS w0 (w.heap.size + 1) m l) := hide ⟨_, ⟨g, o, c, by rw [HN.out], by rw [HN.out]; exact hc⟩, k0, (heapCells hr0).2 0, HS0.out, by omega⟩
    have HY0 := hide hy0
    have HB0 := hide hb0
    go_enter Tryd.func13, Tryd.ntmps13
    go_wp2_with fail
    rw [← hw0]
    clear hw0 hb0 hr0 hy0 k0
    refine (readInterface_any (w.heap.size + 1) m l w0 (by rw [HN.out]; exact hl) HR0.out).mono ?_
    rintro e w1 ⟨⟨v, L, rfl, hi, hm1⟩, fr1⟩
    obtain ⟨va, vn, vc, rfl⟩ := irow_form hi
    have hsm := rdFac_small Hin.out
    obtain ⟨x, hx⟩ : ∃ x, rdFac l = x := ⟨_, rfl⟩
    have HX := hide hx
    rw [hx] at hm1 hsm
    rw [hx]
    have HF := hide (facat_of_row hi hm1 hsm.1 hsm.2)
    obtain ⟨md, its⟩ := x
    simp only []
    have hs1 : w.heap.size + 2 ≤ w1.heap.size := by have := fr1.size; omega
    have HY1 := hide ((fr1.block w.heap.size (by omega) (by omega)).trans HY0.out)
    have HS1 := hide (HS0.out.same BAt.stays fun k _ hk => fr1.block k (by omega) (by omega))
    have HG1 := hide ((fr1.block 0 (by omega) (by omega)).trans ((HB0.out.block _ hgl).trans HG.out))
    have HI := hide hi
    have HM1 := hide hm1
    have HFR := hide fr1
    clear hi hm1 hsm hx fr1 HR0 HS0
    go_wp2_with fail
    have bX : Below w1.heap.size w1 (w1.alloc (.cells #[.string md, .slice va vn vc] 25)) := (Below.refl _ _).alloc (Nat.le_refl _) _
    have hx4 := Deep.blk_alloc_new w1 (.cells #[.string md, .slice va vn vc] 25)
    refine (implBytes_any _ _ ⟨md, its⟩ _ (HF.out.on bX) (by simp) t fr ((bX.block _ (by omega)).trans HG1.out)).mono ?_
    rintro e w3 ⟨⟨u, rfl, ho⟩, b3⟩
    have b13 : Below w1.heap.size w1 w3 := bX.trans (b3.mono (by simp))
    have hx5 := (b3.block w1.heap.size (by simp)).trans hx4
    have p0 : w3.cell? ⟨w1.heap.size, 0, none⟩ = some (.string md) := (heapCells hx5).1 0
    have p1 : w3.cell? ⟨w1.heap.size, 1, none⟩ = some (.slice va vn vc) := (heapCells hx5).1 1
    have hy3 := (b13.block w.heap.size (by omega)).trans HY1.out
    have q0 : w3.cell? ⟨w.heap.size, 0, none⟩ = some (.string ⟨#[]⟩) := (heapCells hy3).1 0
    have q1 : w3.cell? ⟨w.heap.size, 1, none⟩ = some (.slice none 0 0) := (heapCells hy3).1 1
    have s0 := (heapCells hy3).2 0
    have s1 := (heapCells hy3).2 1
    have HS3 := hide (HS1.out.on BAt.stays (b13.mono (by omega)))
    have HI3 := hide (HI.out.on b13)
    have HB3 : Hid (Below w.heap.size w w3) := hide (HB0.out.trans ((show Below w.heap.size w0 w1 from ⟨HFR.out.os, HFR.out.tape, HFR.out.output, HFR.out.size, fun k hk => HFR.out.block k (by omega) (by omega)⟩).trans (b13.mono (by omega))))
    clear hx4 hx5 hy3 bX b3 b13 HS1 HI
    have fin : ∀ (a b : Value), Below w.heap.size w ((w3.setCell ⟨w.heap.size, 0, none⟩ a).setCell ⟨w.heap.size, 1, none⟩ b) := fun a b => (HB3.out.setCell (p := ⟨w.heap.size, 0, none⟩) (Nat.le_refl _) _).setCell (p := ⟨w.heap.size, 1, none⟩) (Nat.le_refl _) _
    have hle : l.length ≤ 65536 := by rw [HN.out]; omega
    have HFin := hide fin
    clear fin
    cases hfb : facB ⟨md, its⟩ with
    | false =>
      have hOk : rdOk l = false := by unfold rdOk; rw [HX.out, hfb]; rfl
      have hV : Hid (rdV l = ⟨⟨#[]⟩, []⟩) := by refine hide ?_; unfold rdV; rw [hOk, if_neg (by simp)]
      have hC : Hid (rdC l = 3) := by refine hide ?_; unfold rdC; rw [if_pos hle, hOk]; rfl
      clear hfb ho hOk hle
      go_wp2
      refine bodyPost_ret (v := .tuple #[.agg #[.string ⟨#[]⟩, .slice none 0 0], .int .i64 3]) (by simp [results, Tryd.results13, go_sem, q0, q1]) rfl ?_
      exact ⟨⟨_, [], by rw [hV.out, hC.out], IRow.nil _ _, by rw [hV.out]; rfl⟩, HFin.out _ _⟩
    | true =>
      rw [hfb] at ho
      simp only [if_true] at ho ⊢
      obtain ⟨g4, c4, rfl, -, -⟩ := World.ownsRow.form ho (facBytes_len hfb).2
      have e1 := conv_text (Own.slat ho (facBytes_in _))
      have e2 := conv_text HS3.out
      by_cases heq : facBytes ⟨md, its⟩ = l
      · have hOk : rdOk l = true := by unfold rdOk; rw [HX.out, hfb, heq]; simp
        have HV : Hid (rdV l = ⟨md, its⟩) := by refine hide ?_; unfold rdV; rw [if_pos ⟨hle, hOk⟩, HX.out]
        have HC : Hid (rdC l = 0) := by refine hide ?_; unfold rdC; rw [if_pos hle, hOk]; rfl
        have HD : Hid (decide (bs (facBytes ⟨md, its⟩) = bs l) = true) := by refine hide ?_; rw [heq]; simp
        have HE1 := hide e1
        have HE2 := hide e2
        clear hfb ho hOk hle heq e1 e2
        go_wp2_with (go_at_call 33; refine (bytesEqual_any w3 _ _ _ _ _ _ _ _ _ _ HE1.out HE2.out).mono ?_; rintro e w4 ⟨rfl, rfl⟩; rw [HD.out])
        refine bodyPost_ret (v := .tuple #[.agg #[.string md, .slice va vn vc], .int .i64 0]) (by simp [results, Tryd.results13, go_sem, q0, q1]) rfl ?_
        refine ⟨⟨_, L, by rw [HV.out, HC.out], ?_, by rw [HV.out]; exact HM1.out⟩, HFin.out _ _⟩
        have oz := Only.trans (Only.set w.heap.size 0 w3 (.string md)) (Only.set w.heap.size 1 _ (.slice va vn vc))
        exact (HI3.out.of_heap fun j hj _ => oz.block j (by omega)).le (by omega)
      · have hOk : rdOk l = false := by unfold rdOk; rw [HX.out, hfb]; simp [heq]
        have HV : Hid (rdV l = ⟨⟨#[]⟩, []⟩) := by refine hide ?_; unfold rdV; rw [hOk, if_neg (by simp)]
        have HC : Hid (rdC l = 3) := by refine hide ?_; unfold rdC; rw [if_pos hle, hOk]; rfl
        have HD : Hid (decide (bs (facBytes ⟨md, its⟩) = bs l) = false) := by refine hide ?_; rw [decide_eq_false]; exact fun e => heq ((bs_inj (facBytes_in _) Hin.out).1 e)
        have HE1 := hide e1
        have HE2 := hide e2
        clear hfb ho hOk hle heq e1 e2
        go_wp2_with (go_at_call 33; refine (bytesEqual_any w3 _ _ _ _ _ _ _ _ _ _ HE1.out HE2.out).mono ?_; rintro e w4 ⟨rfl, rfl⟩; rw [HD.out])
        refine bodyPost_ret (v := .tuple #[.agg #[.string ⟨#[]⟩, .slice none 0 0], .int .i64 3]) (by simp [results, Tryd.results13, go_sem, q0, q1]) rfl ?_
        exact ⟨⟨_, [], by rw [HV.out, HC.out], IRow.nil _ _, by rw [HV.out]; rfl⟩, HFin.out _ _⟩
end Go.Proofs.YtoomnimbokbadaaDoor
