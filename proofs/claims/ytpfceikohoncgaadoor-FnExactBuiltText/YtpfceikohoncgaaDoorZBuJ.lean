/- The program's BuiltText answers 'buT' and 'buC'. Listed: the program's table of words, the library's powers of ten. -/
import Derived.Test.YtpfceikohoncgaaDoorZBuI
import Derived.Test.YtpfceikohoncgaaDoorZBuA
namespace Go.Proofs.YtpfceikohoncgaaDoor
open Go.ChangeShapes Go.WideShapes Go.ChangeAt Go.RowKit Go.PlainAid Go.Deep

theorem join_le : ∀ (l : List ByteArray), (∀ s ∈ l, s.size ≤ 40) → (Lib.join (l.map (·.data.toList)) [32]).length ≤ 41 * l.length
  | [], _ => by simp [Lib.join_nil]
  | s :: r, h => by
    have h1 := tail_size r fun x hx => h x (List.mem_cons_of_mem _ hx)
    have h2 := h s (List.mem_cons_self ..)
    have h3 := ba_len s
    rw [List.map_cons, Lib.join_cons, List.length_append, List.length_cons]
    omega
theorem fault_line {w : World} {b : Nat} {T : TypeId} {n : Nat} {p : Int} {mo : ByteArray} (hp : I64 p) (hm : mo.size ≤ 40) (hb : w.heap.size = b) :
    Calls Tryd.prog 18 #[.slice (some ⟨b, 0, none⟩) 4 4] (w.alloc (.cells #[.string ⟨#[101, 114, 114, 111, 114]⟩, .string (wordB n), .string mo, .string (itoaB p)] T)) fun e w' => e = .returned (.string (lineB (faultL n p mo))) ∧ Below w.heap.size w w' := by
  subst hb
  have hz : ∀ s ∈ faultL n p mo, s.size ≤ 40 := by
    intro s hs
    have h1 := wordB_size n
    have h2 := itoaB_size hp
    unfold faultL at hs
    simp only [Int.toNat_natCast, List.mem_cons, List.not_mem_nil, or_false] at hs
    rcases hs with rfl | rfl | rfl | rfl
    · decide
    · omega
    · omega
    · omega
  have hj := join_le _ hz
  refine (lineOf_any w.heap.size 0 4 4 (faultL n p mo) (w.alloc (.cells #[.string ⟨#[101, 114, 114, 111, 114]⟩, .string (wordB n), .string mo, .string (itoaB p)] T)) rfl (fun j x hx => ?_) (show w.heap.size < (w.alloc _).heap.size by simp) (by show 4 ≤ _; omega) (Nat.le_refl _) (Nat.le_trans hj (by show 41 * 4 ≤ _; omega))).mono fun _ _ ⟨x, y⟩ => ⟨x, ((Below.refl _ _).alloc (Nat.le_refl _) _).trans (y.mono (show w.heap.size ≤ (w.alloc _).heap.size by simp))⟩
  have hc := (heapCells (Deep.blk_alloc_new w (.cells #[.string ⟨#[101, 114, 114, 111, 114]⟩, .string (wordB n), .string mo, .string (itoaB p)] T))).1
  match j, hx with
  | 0, hx => cases hx; exact hc 0
  | 1, hx => cases hx; exact hc 1
  | 2, hx => cases hx; exact hc 2
  | 3, hx => cases hx; exact hc 3
theorem built_line {w : World} {B g n4 N cap : Nat} {made : List StringD} (hn : n4 ≤ 1048576) (hl : made.length ≤ 20) (hz : ∀ s ∈ made, s.size ≤ 40) (hN : N = 2 + made.length) (h : SRow w B (.slice (some ⟨g, 0, none⟩) N cap) (builtL n4 made)) :
    Calls Tryd.prog 18 #[.slice (some ⟨g, 0, none⟩) N cap] w fun e w' => e = .returned (.string (lineB (builtL n4 made))) ∧ Below w.heap.size w w' := by
  have hln : (builtL n4 made).length = N := by rw [hN]; unfold builtL; simp; omega
  have hz2 : ∀ s ∈ builtL n4 made, s.size ≤ 40 := by
    intro s hs
    have h2 := itoaB_size (n := n4) ⟨by omega, by omega⟩
    unfold builtL at hs
    simp only [List.mem_cons] at hs
    rcases hs with rfl | rfl | hs
    · decide
    · omega
    · exact hz s hs
  have hj := join_le _ hz2
  obtain ⟨g', c', e, -, hlt, hc, -⟩ := SRow.at h (by omega)
  cases e
  have hcap : (builtL n4 made).length ≤ cap := by
    rcases h.2 with ⟨e, -⟩ | ⟨g', cap', cur, e, _, _, hnc, _⟩
    · cases e
    · cases e; omega
  refine lineOf_any g 0 cap _ (builtL n4 made) w rfl (fun j x hx => ?_) hlt (by omega) (by omega) (by omega)
  obtain ⟨hjl, rfl⟩ := List.getElem?_eq_some_iff.1 hx
  rw [Nat.zero_add]
  exact hc j hjl
set_option maxRecDepth 100000 in
set_option maxHeartbeats 4000000 in
theorem implBuiltText_any (c p gv : Int) (mo : ByteArray) (p4 : Option Addr) (n4 c4 : Nat) (u5 u6 u7 : Value) (m : Md) (made : List StringD) (w : World) (hc : I64 c) (hp : I64 p) (hn : n4 ≤ 1048576) (hl : made.length ≤ 1048576) (hmo : mo.size ≤ maxLen) (hu : SlAt StringAt 1 w m u7 made) (hm : m.hi ≤ w.heap.size) (hT : BuTabs w) :
    Calls Tryd.prog 7 #[.agg #[.int .i64 c, .int .i64 p, .string mo, .int .i64 gv, .slice p4 n4 c4, u5, u6, u7]] w fun e w' => e = .returned (.tuple #[.string (buT c p mo n4 made), .int .i64 (buC c mo made)]) ∧ Below w.heap.size w w' := by
  unfold maxLen at hmo
  have HU := hide hu
  have HM := hide hm
  obtain ⟨pa, pc, rfl, -⟩ := hu
  obtain ⟨nm, hnm⟩ : ∃ k, made.length = k := ⟨_, rfl⟩
  have HN := hide hnm
  rw [hnm] at hl HU ⊢
  have hb : Below w.heap.size w (w.alloc (.cells #[.int .i64 c, .int .i64 p, .string mo, .int .i64 gv, .slice p4 n4 c4, u5, u6, .slice pa nm pc] 36)) := (Below.refl _ _).alloc (Nat.le_refl _) _
  have HB := hide hb
  have HTb := hide (hT.on hb)
  have HCo : Hid (∀ w', Below w.heap.size w w' → Calls Tryd.prog 17 #[.slice pa nm pc, .func (.func 16) #[] #[]] w' fun e w2 => e = .returned (.bool (made.any longB)) ∧ w2 = w') := hide fun w' bel => containsLong_any _ m made w' (by rw [hnm]; omega) (HU.out.on StringAt.stays (bel.mono HM.out))
  have HBad : Hid (¬ BuOK c mo made → buT c p mo n4 made = ⟨#[]⟩ ∧ buC c mo made = 1) := hide fun h => bu_bad h
  clear hb hm
  by_cases hc18 : c < 0 ∨ 19 ≤ c
  · have HW := hide (fun w' => implWord_off c hc18 w')
    obtain ⟨a1, a2⟩ := HBad.out (fun h => by have := h.1; omega)
    rw [a1, a2]
    clear a1 a2 hnm hc18 hT
    go_enter Tryd.func7, Tryd.ntmps7
    go_wp2_with (go_at_call 15; refine (HW.out _).mono ?_; rintro e w3 ⟨rfl, rfl⟩)
    go_ret2
    exact ⟨rfl, HB.out⟩
  · obtain ⟨n, rfl⟩ := Int.eq_ofNat_of_zero_le (show 0 ≤ c by omega)
    have hn19 : n < 19 := by omega
    have HW : Hid (∀ w', BuTabs w' → Calls Tryd.prog 15 #[.int .i64 n] w' fun e w2 => e = .returned (.string (wordB n)) ∧ w2 = w') := hide fun w' hT' => implWord_in n hn19 w' hT'
    have hw0 := wordB_ne2 hn19
    have HFl : Hid (mo.size ≤ 40 → ∀ b w' T, w'.heap.size = b → Calls Tryd.prog 18 #[.slice (some ⟨b, 0, none⟩) 4 4] (w'.alloc (.cells #[.string ⟨#[101, 114, 114, 111, 114]⟩, .string (wordB n), .string mo, .string (itoaB p)] T)) fun e w2 => e = .returned (.string (lineB (faultL n p mo))) ∧ Below w'.heap.size w' w2) := hide fun h40 b w' T e => fault_line hp h40 e
    have HIt := hide (fun w' (hT' : BuTabs w') => itoa_any p hp w' hT')
    have HOk : Hid (n ≠ 0 → BuOK n mo made → buT n p mo n4 made = lineB (faultL n p mo) ∧ buC n mo made = 0) := hide fun h0 h => by
      obtain ⟨a, b⟩ := bu_ok (p := p) (n := n4) h
      exact ⟨by rw [a]; unfold buL; rw [if_neg (by omega)], b⟩
    have HOk0 : Hid (n = 0 → BuOK n mo made → buT n p mo n4 made = lineB (builtL n4 made) ∧ buC n mo made = 0) := hide fun h0 h => by
      obtain ⟨a, b⟩ := bu_ok (p := p) (n := n4) h
      exact ⟨by rw [a]; unfold buL; rw [if_pos (by omega)], b⟩
    generalize wordB n = W at *
    clear hT hc hp
    have HTL := hide (fun w' => tooLong_any mo w')
    cases g40 : longB mo with
    | true =>
      obtain ⟨a1, a2⟩ := HBad.out (fun h => by have := h.2.2.1; simp only [longB, decide_eq_true_eq] at g40; omega)
      rw [a1, a2]
      rw [g40] at HTL
      clear a1 a2 hnm hc18 g40
      go_enter Tryd.func7, Tryd.ntmps7
      go_wp2_with (first
        | (go_at_call 15; refine (HW.out _ HTb.out).mono ?_; rintro e w3 ⟨rfl, rfl⟩)
        | (go_at_call 16; refine (HTL.out _).mono ?_; rintro e w3 ⟨rfl, rfl⟩))
      go_ret2
      exact ⟨rfl, HB.out⟩
    | false =>
      have h40 : mo.size ≤ 40 := by simp only [longB, decide_eq_false_iff_not] at g40; omega
      rw [g40] at HTL
      by_cases h20 : 20 < nm
      · have i1 : (20 : Int) < nm := by omega
        obtain ⟨a1, a2⟩ := HBad.out (fun h => by have := h.2.1; omega)
        rw [a1, a2]
        clear a1 a2 hnm hc18 g40 h20
        go_enter Tryd.func7, Tryd.ntmps7
        go_wp2_with (first
          | (go_at_call 15; refine (HW.out _ HTb.out).mono ?_; rintro e w3 ⟨rfl, rfl⟩)
          | (go_at_call 16; refine (HTL.out _).mono ?_; rintro e w3 ⟨rfl, rfl⟩))
        go_ret2
        exact ⟨rfl, HB.out⟩
      · have i1 : ¬ (20 : Int) < nm := by omega
        cases gm : made.any longB with
        | true =>
          obtain ⟨a1, a2⟩ := HBad.out (fun h => by
            obtain ⟨s, hs, hsl⟩ := List.any_eq_true.1 gm
            have := h.2.2.2 s hs
            simp only [longB, decide_eq_true_eq] at hsl
            omega)
          rw [a1, a2]
          rw [gm] at HCo
          clear a1 a2 hnm hc18 g40 h20 gm
          go_enter Tryd.func7, Tryd.ntmps7
          go_wp2_with (first
            | (go_at_call 15; refine (HW.out _ HTb.out).mono ?_; rintro e w3 ⟨rfl, rfl⟩)
            | (go_at_call 16; refine (HTL.out _).mono ?_; rintro e w3 ⟨rfl, rfl⟩)
            | (go_at_call 17; refine (HCo.out _ HB.out).mono ?_; rintro e w3 ⟨rfl, rfl⟩))
          go_ret2
          exact ⟨rfl, HB.out⟩
        | false =>
          have hall : ∀ s ∈ made, s.size ≤ 40 := fun s hs => by
            have := List.any_eq_false.1 gm s hs
            simp only [longB, decide_eq_true_eq] at this
            omega
          have hok : BuOK n mo made := ⟨⟨by omega, by omega⟩, by omega, h40, hall⟩
          rw [gm] at HCo
          by_cases h0 : n = 0
          · subst h0
            obtain ⟨a1, a2⟩ := HOk0.out rfl hok
            rw [a1, a2]
            have hI4 : I64 (n4 : Int) := ⟨by omega, by omega⟩
            have HI4 : Hid (∀ w', BuTabs w' → Calls Tryd.prog 19 #[.int .i64 n4] w' fun e w2 => e = .returned (.string (itoaB n4)) ∧ Below w'.heap.size w' w2) := hide fun w' hT' => itoa_any n4 hI4 w' hT'
            have HLn : Hid (∀ (w' : World) B g N cap, N = 2 + made.length → SRow w' B (.slice (some ⟨g, 0, none⟩) N cap) (⟨#[98, 117, 105, 108, 116]⟩ :: itoaB n4 :: made) → Calls Tryd.prog 18 #[.slice (some ⟨g, 0, none⟩) N cap] w' fun e w2 => e = .returned (.string (lineB (builtL n4 made))) ∧ Below w'.heap.size w' w2) := hide fun w' B g N cap hN hr => built_line hn (by omega) hall hN hr
            have H20 : Hid (made.length ≤ 20) := hide (by omega)
            have hx : (w.alloc (.cells #[.int .i64 0, .int .i64 p, .string mo, .int .i64 gv, .slice p4 n4 c4, u5, u6, .slice pa nm pc] 36)).heap[w.heap.size]? = some (.cells #[.int .i64 0, .int .i64 p, .string mo, .int .i64 gv, .slice p4 n4 c4, u5, u6, .slice pa nm pc] 36 (0, 0)) := Deep.blk_alloc_new _ _
            generalize lineB (builtL n4 made) = LN at *
            generalize itoaB (n4 : Int) = D at *
            simp only [Int.natCast_zero] at *
            clear a1 a2 hnm hc18 g40 h20 gm hok hall HBad HOk HOk0 hl hn hmo hn19 h40 HFl HIt hI4
            obtain ⟨W0, hW0⟩ : ∃ W0, w.alloc (.cells #[.int .i64 0, .int .i64 p, .string mo, .int .i64 gv, .slice p4 n4 c4, u5, u6, .slice pa nm pc] 36) = W0 := ⟨_, rfl⟩
            have HE := hide hW0
            rw [hW0] at hx HB HTb
            have hlt : w.heap.size < W0.heap.size := (Array.getElem?_eq_some_iff.1 hx).1
            have k4 := (heapCells hx).1 4
            have k7 := (heapCells hx).1 7
            clear hx hW0
            go_enter Tryd.func7, Tryd.ntmps7
            go_wp2_with (first
              | (go_at_call 15; rw [HE.out]; refine (HW.out _ HTb.out).mono ?_; rintro e w3 ⟨rfl, hq⟩; subst w3; rw [← HE.out])
              | (go_at_call 16; refine (HTL.out _).mono ?_; rintro e w3 ⟨rfl, rfl⟩)
              | (go_at_call 17; rw [HE.out]; refine (HCo.out _ HB.out).mono ?_; rintro e w3 ⟨rfl, hq⟩; subst w3; rw [← HE.out]))
            rw [HE.out]
            go_region_held3 (fun w' => w'.cell? ⟨w.heap.size, 4, none⟩ = some (.slice p4 n4 c4) ∧ w'.cell? ⟨w.heap.size, 7, none⟩ = some (.slice pa nm pc))
              (first
                | (go_split_ands; refine ⟨?_, ?_⟩ <;> assumption)
                | (go_split_ands; exact ⟨k4, k7⟩)
                | (go_split_ands; exact ⟨j4, j7⟩)
                | (go_split_ands; exact ⟨(bA.cell (p := ⟨w.heap.size, 4, none⟩) hl3).trans j4, (bA.cell (p := ⟨w.heap.size, 7, none⟩) hl3).trans j7⟩)
                | (go_split_ands; exact ⟨q4, q7⟩)
                | (go_split_ands; exact ⟨i4, i7⟩))
              ((first
                | (go_at_call 19; refine (HI4.out W0.drew (HTb.out.on (Below.refl _ _).drew)).mono ?_; rintro e w3 ⟨rfl, b3⟩; have hl3 : w.heap.size < w3.heap.size := Nat.lt_of_lt_of_le hlt b3.size; have j4 := (b3.cell (p := ⟨w.heap.size, 4, none⟩) hlt).trans k4; have j7 := (b3.cell (p := ⟨w.heap.size, 7, none⟩) hlt).trans k7; have HB3 := hide (HB.out.drew.trans (b3.mono (Nat.le_of_lt hlt))); have bA : Below w3.heap.size w3 (w3.alloc (.cells #[.string ⟨#[98, 117, 105, 108, 116]⟩, .string D] 9)) := (Below.refl _ _).alloc (Nat.le_refl _) _)
                | (refine step_append_made (by rfl) _ _ (by rfl) w3.heap.size (.slice (some ⟨w3.heap.size, 0, none⟩) 2 2) (.slice pa nm pc) [⟨#[98, 117, 105, 108, 116]⟩, D] made m (by rfl) (by rfl) (two_row w3 _ _) (Nat.zero_lt_succ _) (show SlAt StringAt 1 (w3.alloc (.cells #[.string ⟨#[98, 117, 105, 108, 116]⟩, .string D] 9)) m (.slice pa nm pc) made from HU.out.on StringAt.stays ((HB3.out.trans (bA.mono (Nat.le_of_lt hl3))).mono HM.out)) (by have := H20.out; show 2 + made.length ≤ _; omega) bA.size ?_; intro g5 c5 w5 h5 gr5; have b5 := grown_far (two_row w3 ⟨#[98, 117, 105, 108, 116]⟩ D) gr5 bA.size; have q4 := (b5.cell (p := ⟨w.heap.size, 4, none⟩) hl3).trans ((bA.cell (p := ⟨w.heap.size, 4, none⟩) hl3).trans j4); have q7 := (b5.cell (p := ⟨w.heap.size, 7, none⟩) hl3).trans ((bA.cell (p := ⟨w.heap.size, 7, none⟩) hl3).trans j7); have HB5 := hide (HB3.out.trans ((bA.trans b5).mono (Nat.le_of_lt hl3))); have H5 := hide h5; have hl5 : w.heap.size < w5.heap.size := Nat.lt_of_lt_of_le hl3 (Nat.le_trans bA.size b5.size))
                | (go_at_call 18; refine (HLn.out w5 _ _ _ _ rfl H5.out).mono ?_; rintro e w6 ⟨rfl, b6⟩; have i4 := (b6.cell (p := ⟨w.heap.size, 4, none⟩) hl5).trans q4; have i7 := (b6.cell (p := ⟨w.heap.size, 7, none⟩) hl5).trans q7; have HB6 := hide (HB5.out.trans (b6.mono (Nat.le_of_lt hl5))))
                | fail))
            all_goals
              go_wp2_with fail
              go_ret2
              exact ⟨rfl, HB6.out⟩
          · obtain ⟨a1, a2⟩ := HOk.out h0 hok
            rw [a1, a2]
            have HFl := hide (HFl.out h40)
            have j0 : ((n : Int) == 0) = false := by simpa using h0
            have hx : (w.alloc (.cells #[.int .i64 n, .int .i64 p, .string mo, .int .i64 gv, .slice p4 n4 c4, u5, u6, .slice pa nm pc] 36)).heap[w.heap.size]? = some (.cells #[.int .i64 n, .int .i64 p, .string mo, .int .i64 gv, .slice p4 n4 c4, u5, u6, .slice pa nm pc] 36 (0, 0)) := Deep.blk_alloc_new _ _
            generalize lineB (faultL n p mo) = LN at *
            generalize itoaB p = D at *
            clear a1 a2 hnm hc18 g40 h20 gm hok hall HBad HOk HOk0 h0 hl hn hmo HU HN hn19 h40
            obtain ⟨W0, hW0⟩ : ∃ W0, w.alloc (.cells #[.int .i64 n, .int .i64 p, .string mo, .int .i64 gv, .slice p4 n4 c4, u5, u6, .slice pa nm pc] 36) = W0 := ⟨_, rfl⟩
            have HE := hide hW0
            rw [hW0] at hx HB HTb
            have hlt : w.heap.size < W0.heap.size := (Array.getElem?_eq_some_iff.1 hx).1
            have k1 := (heapCells hx).1 1
            have k2 := (heapCells hx).1 2
            clear hx hW0
            go_enter Tryd.func7, Tryd.ntmps7
            go_wp2_with (first
              | (go_at_call 15; rw [HE.out]; refine (HW.out _ HTb.out).mono ?_; rintro e w3 ⟨rfl, hq⟩; subst w3; rw [← HE.out])
              | (go_at_call 16; refine (HTL.out _).mono ?_; rintro e w3 ⟨rfl, rfl⟩)
              | (go_at_call 17; rw [HE.out]; refine (HCo.out _ HB.out).mono ?_; rintro e w3 ⟨rfl, hq⟩; subst w3; rw [← HE.out]))
            rw [HE.out]
            go_region_held3 (fun w' => w'.cell? ⟨w.heap.size, 1, none⟩ = some (.int .i64 p) ∧ w'.cell? ⟨w.heap.size, 2, none⟩ = some (.string mo))
              (first
                | (go_split_ands; refine ⟨?_, ?_⟩ <;> assumption)
                | (go_split_ands; exact ⟨k1, k2⟩)
                | (go_split_ands; exact ⟨j1, j2⟩)
                | (go_split_ands; exact ⟨(bA.cell (p := ⟨w.heap.size, 1, none⟩) hl3).trans j1, (bA.cell (p := ⟨w.heap.size, 2, none⟩) hl3).trans j2⟩)
                | (go_split_ands; exact ⟨i1, i2⟩))
              ((first
                | (go_at_call 19; refine (HIt.out W0.drew (HTb.out.on (Below.refl _ _).drew)).mono ?_; rintro e w3 ⟨rfl, b3⟩; have hl3 : w.heap.size < w3.heap.size := Nat.lt_of_lt_of_le hlt b3.size; have j1 := (b3.cell (p := ⟨w.heap.size, 1, none⟩) hlt).trans k1; have j2 := (b3.cell (p := ⟨w.heap.size, 2, none⟩) hlt).trans k2; have HB3 := hide (HB.out.drew.trans (b3.mono (Nat.le_of_lt hlt))); have bA : Below w3.heap.size w3 (w3.alloc (.cells #[.string ⟨#[101, 114, 114, 111, 114]⟩, .string W, .string mo, .string D] 9)) := (Below.refl _ _).alloc (Nat.le_refl _) _)
                | (go_at_call 18; refine (HFl.out _ w3 _ rfl).mono ?_; rintro e w5 ⟨rfl, b5⟩; have i1 := (b5.cell (p := ⟨w.heap.size, 1, none⟩) hl3).trans j1; have i2 := (b5.cell (p := ⟨w.heap.size, 2, none⟩) hl3).trans j2; have HB5 := hide (HB3.out.trans (b5.mono (Nat.le_of_lt hl3))))
                | fail))
            all_goals
              go_wp2_with fail
              go_ret2
              exact ⟨rfl, HB5.out⟩
end Go.Proofs.YtpfceikohoncgaaDoor
