/- The model reads an object: the walk. No condition. -/
import Derived.Test.YtpaljmhoojpbdaaDoorZObS
import Derived.Test.YtpaljmhoojpbdaaDoorZObSpec
import Derived.Deep.RegionHeld3
import Derived.Deep.Cut
import Derived.BigRegion
namespace Go.Proofs.YtpaljmhoojpbdaaDoor
open Go.ChangeShapes Go.WideShapes Go.ChangeAt Go.RowKit Go.Deep

theorem LrPost.no {l : List Int} {w w' : World} (h : mdOkO l = false) (hb : Below w.heap.size w w') : LrPost l w (.returned (.tuple #[.agg #[.string ⟨#[]⟩, .int .i64 0, .slice none 0 0, .slice none 0 0, .slice none 0 0], .bool false])) w' :=
  ⟨_, _, _, _, _, _, _, _, _, _, _, by rw [h], (fun e => by rw [h] at e; cases e), hb⟩
set_option maxRecDepth 100000 in
set_option maxHeartbeats 16000000 in
theorem l04Read_any (g o c : Nat) (m : Md) (l : List Int) (w : World) (h : SlAt BAt 1 w m (.slice (some ⟨g, o, none⟩) l.length c) l) (hc : l.length ≤ c) (hm : m.hi ≤ w.heap.size) (hl : l.length ≤ 65536) :
    Calls Tryd.prog 44 #[.slice (some ⟨g, o, none⟩) l.length c] w fun e w' => LrPost l w e w' := by
  have HS := hide h
  have Hin : Hid (∀ y ∈ l, 0 ≤ y ∧ y ≤ 255) := by
    refine hide fun y hy => ?_
    obtain ⟨a, cc, -, hr⟩ := h
    obtain ⟨i, hi, rfl⟩ := List.getElem_of_mem hy
    obtain ⟨b, o', -, -, -, -, h1⟩ := hr i hi
    exact h1.2
  clear h
  obtain ⟨n, hn⟩ : ∃ n, l.length = n := ⟨_, rfl⟩
  have HN := hide hn
  rw [hn] at HS hc hl
  rw [hn]
  by_cases c2 : n < 3
  · have i2 : (n : Int) < 3 := by omega
    have hVC := hide (no_oo (short_oo (l := l) (by omega)))
    clear hn
    go_enter Tryd.func44, Tryd.ntmps44
    go_wp2
    refine bodyPost_ret (v := .tuple #[.agg #[.string ⟨#[]⟩, .int .i64 0, .slice none 0 0, .slice none 0 0, .slice none 0 0], .bool false]) (by simp [results, Tryd.results44, go_sem]) rfl ?_
    refine LrPost.no hVC.out ?_
    repeat (refine Below.setCell ?_ (by simp <;> omega) _)
    exact ((Below.refl _ _).alloc (Nat.le_refl _) _).alloc (by simp) _
  · have i2 : ¬ (n : Int) < 3 := by omega
    have i3 : (3 : Nat) ≤ c := by omega
    obtain ⟨w0, hw0⟩ : ∃ w0, w0 = (w.alloc (.cells #[.string ⟨#[]⟩, .int .i64 0, .slice none 0 0, .slice none 0 0, .slice none 0 0] 45)).alloc (.cells #[.slice (some ⟨g, o, none⟩) n c, .int .i64 0, .bool false] 129) := ⟨_, rfl⟩
    have hb0 : Below w.heap.size w w0 := by rw [hw0]; exact ((Below.refl _ _).alloc (Nat.le_refl _) _).alloc (by simp) _
    have HS0 := hide (HS.out.on BAt.stays (hb0.mono hm))
    obtain ⟨s, hs⟩ : ∃ s, bs (l.take 3) = s := ⟨_, rfl⟩
    have hcv : (convert 88 9 (.slice (some ⟨g, o, none⟩) 3 c)).run Tryd.prog w0 = .ok (.string s) w0 := by
      rw [← hs]
      exact conv_text (slat_take (c' := c) HS0.out 3 (by omega) i3)
    have HSs := hide hs
    have HN' : Hid (l.length ≤ 1099511627776) := hide (by omega)
    obtain ⟨w3, hw3⟩ : ∃ w3, w3 = (w.alloc (.cells #[.string ⟨#[]⟩, .int .i64 0, .slice none 0 0, .slice none 0 0, .slice none 0 0] 45)).alloc (.cells #[.slice (some ⟨g, o, none⟩) n c, .int .i64 3, .bool false] 129) := ⟨_, rfl⟩
    have b3 : Below w.heap.size w w3 := by rw [hw3]; exact ((Below.refl _ _).alloc (Nat.le_refl _) _).alloc (by simp) _
    have hs3 : w3.heap.size = w.heap.size + 2 := by rw [hw3]; simp
    have hy3 : w3.heap[w.heap.size]? = some (.cells #[.string ⟨#[]⟩, .int .i64 0, .slice none 0 0, .slice none 0 0, .slice none 0 0] 45 (0, 0)) := by
      rw [hw3, Below.heap_alloc _ _ _ (by simp)]
      exact Deep.blk_alloc_new w _
    have hr3 : w3.heap[w.heap.size + 1]? = some (.cells #[.slice (some ⟨g, o, none⟩) n c, .int .i64 3, .bool false] 129 (0, 0)) := by
      rw [hw3]
      have := Deep.blk_alloc_new (w.alloc (.cells #[.string ⟨#[]⟩, .int .i64 0, .slice none 0 0, .slice none 0 0, .slice none 0 0] 45)) (.cells #[.slice (some ⟨g, o, none⟩) n c, .int .i64 3, .bool false] 129)
      rwa [World.size_alloc] at this
    have HM3 : Hid (MR w3 (w.heap.size + 1) m l 3 false) := hide ⟨g, o, c, by rw [HN.out]; exact HS.out.on BAt.stays (b3.mono hm), by rw [HN.out]; exact hc, ⟨by rw [HN.out]; exact (heapCells hr3).1 0, (heapCells hr3).1 1, (heapCells hr3).1 2⟩, ⟨(heapCells hr3).2 1, (heapCells hr3).2 2⟩, by omega, by omega⟩
    have HW3 := hide hw3
    have HB3 := hide b3
    have HY3 := hide hy3
    clear b3 hw3 hy3 hr3
    rw [hw0] at hcv
    clear hs hn hb0 HS0
    cases hq : (s.toList == [79, 79, 49]) with
    | false =>
      have hVC := hide (no_oo (l := l) fun e => by
        have : s.toList = [79, 79, 49] := by rw [← HSs.out, (oo_take Hin.out).2 e]; exact txt_toList [79, 79, 49]
        rw [this] at hq
        cases hq)
      clear hw0 hs3 HM3 HW3 HY3 HB3
      go_enter Tryd.func44, Tryd.ntmps44
      go_wp2
      refine bodyPost_ret (v := .tuple #[.agg #[.string ⟨#[]⟩, .int .i64 0, .slice none 0 0, .slice none 0 0, .slice none 0 0], .bool false]) (by simp [results, Tryd.results44, go_sem]) rfl ?_
      refine LrPost.no hVC.out ?_
      repeat (refine Below.setCell ?_ (by simp <;> omega) _)
      exact ((Below.refl _ _).alloc (Nat.le_refl _) _).alloc (by simp) _
    | true =>
      have HOI : Hid (l.take 3 = [79, 79, 49]) := hide ((oo_take Hin.out).1 (by
        rw [HSs.out]
        have := eq_of_beq hq
        have e2 : s.toList = (⟨#[79, 79, 49]⟩ : ByteArray).toList := by rw [this]; exact (txt_toList [79, 79, 49]).symm
        rw [ByteArray.toList_eq, ByteArray.toList_eq] at e2
        have e3 := congrArg List.toArray e2
        cases s
        simpa using e3))
      go_enter Tryd.func44, Tryd.ntmps44
      go_wp2_with fail
      rw [← HW3.out]
      clear hcv hw0 HW3
      refine (show Calls Tryd.prog 68 #[.pointer (some ⟨w.heap.size + 1, 0, none⟩)] w3 _ from mText_any (w.heap.size + 1) m l 3 false _ HN'.out HM3.out).mono ?_
      rintro e w1 ⟨md, p1, b1, rfl, hs1, hmd, hm1, o1⟩
      have HMD := hide hmd
      have HS1 := hide hs1
      have HM1 := hide hm1
      clear hs1 hmd hm1 HM3
      go_wp2_with fail
      refine (mEight_any (w.heap.size + 1) m l p1 b1 _ HN'.out HM1.out.out).mono ?_
      rintro e w2 ⟨pr, rfl, hpr, p2, b2, hs2, hm2, o2⟩
      have HPR := hide hpr
      have HS2 := hide hs2
      have hsz2 : w2.heap.size = w.heap.size + 2 := (o1.trans o2).size.trans hs3
      have F2 := hide (FrB.of_only (B := w.heap.size + 2) (o1.trans o2))
      have HM2 := hide hm2
      clear hs2 hm2 o1 o2 HM1 hs3 hpr
      go_wp2_with fail
      have bX : Below w2.heap.size w2 (w2.alloc (.cells #[.string md, .int .i64 pr, .slice none 0 0, .slice none 0 0, .slice none 0 0] 45)) := (Below.refl _ _).alloc (Nat.le_refl _) _
      have hx2 : (w2.alloc (.cells #[.string md, .int .i64 pr, .slice none 0 0, .slice none 0 0, .slice none 0 0] 45)).heap[w.heap.size + 2]? = some (.cells #[.string md, .int .i64 pr, .slice none 0 0, .slice none 0 0, .slice none 0 0] 45 (0, 0)) := by
        have := Deep.blk_alloc_new w2 (.cells #[.string md, .int .i64 pr, .slice none 0 0, .slice none 0 0, .slice none 0 0] 45)
        rwa [hsz2] at this
      refine (mOne_any (w.heap.size + 1) m l p2 b2 _ HN'.out (HM2.out.below bX (by omega))).mono ?_
      rintro e w4 ⟨y, p3, b3, rfl, hs3, ⟨y0, y1⟩, hm3, o3⟩
      obtain ⟨N2, rfl⟩ : ∃ k : Nat, y = k := ⟨y.toNat, by omega⟩
      have hRX : w.heap.size + 2 ≠ w.heap.size + 1 := by omega
      have HX4 := hide ((o3.block _ hRX).trans hx2)
      have hs4 : w4.heap.size = w.heap.size + 3 := by rw [o3.size]; simp [hsz2]
      have F4 := hide ((F2.out.trans (.of_below (bX.mono (by omega)))).trans (.of_only o3))
      have HS3 := hide hs3
      have HM4 := hide hm3
      have HNN : Hid (N2 ≤ 255) := hide (by omega)
      clear bX hx2 o3 hs3 hm3 hsz2 HM2 F2 y0 y1
      go_wp2_with fail
      go_loopw [6] (fun i wr => ∃ (q j p : Nat) (b : Bool) (v : Value) (L : List NeedD), i = .int .i64 q ∧ q + j = N2 ∧ Hid (wr.heap[w.heap.size + 2]? = some (.cells #[.string md, .int .i64 pr, v, .slice none 0 0, .slice none 0 0] 45 (0, 0))) ∧ Hid (FRow needK wr (w.heap.size + 3) v L) ∧ L.length = j ∧ Hid (Sim (rMany rNeed j) (rp l p3 b3) (rp l p b) L) ∧ Hid (MR wr (w.heap.size + 1) m l p b) ∧ Hid (FrB (w.heap.size + 1) (w.heap.size + 2) w3 wr) ∧ w.heap.size + 3 ≤ wr.heap.size) (fun i _ => (intOf i).toNat)
      case atStart => exact ⟨N2, 0, p3, b3, _, [], rfl, by omega, HX4, hide (FRow.nil _ _ _), rfl, hide (Sim.stay _ _), hide HM4.out.out, F4, by omega⟩
      case round =>
        obtain ⟨q, j, p, b, v, L, rfl, hqj, Hx, Hi, hj, Hs, Hm, Hf, hsz⟩ := hrel
        have HJ := hide hj
        clear hj
        obtain ⟨va, vc, rfl⟩ := Hi.out.form
        obtain ⟨tb, htb⟩ : ∃ tb, (decide (0 < q) && !b) = tb := ⟨_, rfl⟩
        have HTB := hide htb
        have k2 := Hm.out.bad
        obtain ⟨wo, rfl⟩ : ∃ wo, wo = wr := ⟨_, rfl⟩
        clear htb
        go_upto_region 7 with fail
        go_cut [43] from 35 to 55 (fun v wc => v = .bool tb ∧ wo = wc)
        case first =>
          by_cases hq0 : 0 < q
          · have i6 : (0 : Int) < q := by omega
            obtain rfl : tb = !b := by rw [← HTB.out]; simp [hq0]
            go_wp2_with fail
            go_meet
            case rel => exact ⟨rfl, rfl⟩
          · have i6 : ¬ (0 : Int) < q := by omega
            obtain rfl : tb = false := by rw [← HTB.out]; simp [hq0]
            go_wp2_with fail
            go_meet
            case rel => exact ⟨rfl, rfl⟩
        case rest =>
          obtain ⟨rfl, rfl⟩ := hcut
          cases tb with
          | true =>
            obtain ⟨hq0, rfl⟩ : 0 < q ∧ b = false := by
              have := HTB.out
              cases b with
              | true => simp at this
              | false => simp at this; exact ⟨this, rfl⟩
            have hL2 : L.length ≤ 255 := by have := HJ.out; have := HNN.out; omega
            obtain ⟨⟨-, -, o2, -, -⟩, -⟩ := obj_cells Hx.out
            have hw9 : wrap64 ((q : Int) - 1) = ((q - 1 : Nat) : Int) := by have := HNN.out; unfold wrap64; omega
            clear HTB k2
            go_wp2_with fail
            go_region_law (first
              | (refine step_flat needOk (by rfl) _ _ (by rfl) (w.heap.size + 3) (.slice va L.length vc) L (by rfl) (Hi.out.of_heap fun i hi hi2 _ => HB.out.2.2.2.2.1 i (by omega) hi2) w8.heap.size ⟨t, nn⟩ (by rfl) (flat_new needK w8 ⟨t, nn⟩ _ _ rfl rfl) (need_one _) (by omega) (by simp; omega) ?_
                 intro g9 cap w9 ho hg
                 have hx9 := (hg.block (w.heap.size + 2) (by simp; omega) (Hi.out.far (by omega))).trans HB.out.2.2.2.2.2
                 have c9 : w9.cell? ⟨w.heap.size + 2, 2, none⟩ = some (.slice va L.length vc) := (heapCells hx9).1 2
                 have z9 := (heapCells hx9).2 2
                 have HG := hide (And.intro ho (And.intro hg hx9))
                 clear ho hg hx9)
              | (go_simp
                 go_at_call 69
                 refine (mEight_any (w.heap.size + 1) m l p7 b7 _ HN'.out HA7.out.2.2.1).mono ?_
                 rintro e w8 ⟨nn, rfl, hnn, p8, b8, hs8, hm8, o8⟩
                 have oo8 := HA7.out.2.2.2.trans o8
                 have hs8' : w.heap.size + 3 ≤ w8.heap.size := by rw [oo8.size]; exact hsz
                 have c8 : w8.cell? ⟨w.heap.size + 2, 2, none⟩ = some (.slice va L.length vc) := (heapCells ((oo8.block _ hRX).trans Hx.out)).1 2
                 have hlo : ∀ i, w.heap.size + 2 ≤ i → i < wo.heap.size → (w8.alloc (.cells #[.string t, .int .i64 nn] 69)).heap[i]? = wo.heap[i]? := fun i hi hi2 => (Below.heap_alloc _ _ _ (by rw [oo8.size]; exact hi2)).trans (oo8.block i (by omega))
                 have hxa := (hlo (w.heap.size + 2) (by omega) (by omega)).trans Hx.out
                 have c8a : (w8.alloc (.cells #[.string t, .int .i64 nn] 69)).cell? ⟨w.heap.size + 2, 2, none⟩ = some (.slice va L.length vc) := (heapCells hxa).1 2
                 have HB := hide (And.intro hs8 (And.intro hnn (And.intro hm8 (And.intro oo8 (And.intro hlo hxa)))))
                 clear hs8 hnn hm8 o8 oo8 hlo hxa)
              | (go_simp
                 go_at_call 68
                 refine (mText_any (w.heap.size + 1) m l p false wo.drew HN'.out (Hm.out.same (fun _ _ _ => rfl) rfl)).mono ?_
                 rintro e w7 ⟨t, p7, b7, rfl, hs7, ht7, hm7, o7⟩
                 have oo7 : Only (w.heap.size + 1) wo w7 := (only_draw _ wo).trans o7
                 have c7 : w7.cell? ⟨w.heap.size + 2, 2, none⟩ = some (.slice va L.length vc) := (heapCells ((oo7.block _ hRX).trans Hx.out)).1 2
                 have HA7 := hide (And.intro hs7.out (And.intro ht7 (And.intro hm7.out oo7)))
                 clear hs7 ht7 hm7 o7 oo7)
              | fail)
            all_goals
              obtain ⟨ho, hg, hx9⟩ := HG.out
              obtain ⟨hs8, hnn, hm8, oo8, hlo, hxa⟩ := HB.out
              obtain ⟨hs7, ht7, -, -⟩ := HA7.out
              have bA : Below (w.heap.size + 2) w8 (w8.alloc (.cells #[.string t, .int .i64 nn] 69)) := (Below.refl _ _).alloc (by omega) _
              have bB : Below (w.heap.size + 2) w8 w9 := Below.grown bA hg (by simp; omega) (fun i hi => by have := (Hi.out.lt hi).1; omega)
              have bC : Below (w.heap.size + 2) w8 (w9.setCell ⟨w.heap.size + 2, 2, none⟩ (.slice (some ⟨g9, 0, none⟩) (L.length + 1) cap)) := bB.setCell (p := ⟨w.heap.size + 2, 2, none⟩) (Nat.le_refl _) _
              have HP := hide (FRow.of_heap (w' := w9.setCell ⟨w.heap.size + 2, 2, none⟩ (.slice (some ⟨g9, 0, none⟩) (L.length + 1) cap)) ho fun i hi _ _ => Below.heap_setCell _ _ _ _ (by show i ≠ w.heap.size + 2; omega))
              have HX10 := hide (block_set hx9 (o := 2) (.slice (some ⟨g9, 0, none⟩) (L.length + 1) cap))
              have HR10 := hide (hm8.below bC (by omega))
              have HF10 := hide ((Hf.out.trans (.of_only oo8)).trans (.of_below bC))
              have HS10 := hide (Sim.push Hs.out (Sim.need hs7 hs8))
              have hs10 := bC.size
              have HJ10 := hide (show (L ++ [(⟨t, nn⟩ : NeedD)]).length = j + 1 by rw [List.length_append, HJ.out]; rfl)
              have HN10 := hide (show q - 1 + (j + 1) = N2 by omega)
              clear ho hg hx9 hs8 hnn hm8 oo8 hlo hxa hs7 ht7 bA bB bC
              go_wp2_with fail
              go_roundw
              case rel => exact ⟨q - 1, j + 1, p8, b8, _, _, by go_num, HN10.out, HX10, HP, HJ10.out, HS10, HR10, HF10, by omega⟩
              case measure => simp [intOf]; omega
          | false =>
            have HSN := hide (Sim.many_all Hs.out hqj HTB.out)
            obtain ⟨L2, rfl⟩ : ∃ L2, L2 = L := ⟨_, rfl⟩
            have HNd := hide Hi.out
            have HXn := hide Hx.out
            have HFn := hide Hf.out
            have HRn := hide Hm.out
            have hszn := hsz
            have HL2 : Hid (L2.length ≤ 255) := hide (by have := HJ.out; have := HNN.out; omega)
            obtain ⟨w9, rfl⟩ : ∃ w9, w9 = wo := ⟨_, rfl⟩
            clear Hi Hx Hf Hm Hs hsz hqj HTB k2 HJ F4 HM4 HX4 hs4
            go_wp2_with fail
            refine (mOne_any (w.heap.size + 1) m l p b _ HN'.out HRn.out).mono ?_
            rintro e w10 ⟨y, p5, b5, rfl, hs5, ⟨y0, y1⟩, hm5, o5⟩
            obtain ⟨N3, rfl⟩ : ∃ k : Nat, y = k := ⟨y.toNat, by omega⟩
            have HX10 := hide ((o5.block _ hRX).trans HXn.out)
            have HF10 := hide (HFn.out.trans (.of_only o5))
            have hs10 : w.heap.size + 3 ≤ w10.heap.size := by rw [o5.size]; exact hszn
            have HN10 := hide (HNd.out.of_heap (w' := w10) fun i hi _ _ => o5.block i (by omega))
            have HS5 := hide hs5.out
            have HM10 := hide hm5.out
            have HNN3 : Hid (N3 ≤ 255) := hide (by omega)
            clear hs5 hm5 o5 y0 y1 HNd HXn HFn HRn hszn
            go_wp2_with fail
            go_loopw [7] (fun i wr => ∃ (q j p : Nat) (b : Bool) (v : Value) (L : List GlobalD), i = .int .i64 q ∧ q + j = N3 ∧ Hid (wr.heap[w.heap.size + 2]? = some (.cells #[.string md, .int .i64 pr, .slice va L2.length vc, v, .slice none 0 0] 45 (0, 0))) ∧ Hid (FRow needK wr (w.heap.size + 3) (.slice va L2.length vc) L2) ∧ Hid (FRow globK wr (w.heap.size + 3) v L) ∧ L.length = j ∧ Hid (Sim (rMany rGlob j) (rp l p5 b5) (rp l p b) L) ∧ Hid (MR wr (w.heap.size + 1) m l p b) ∧ Hid (FrB (w.heap.size + 1) (w.heap.size + 2) w3 wr) ∧ w.heap.size + 3 ≤ wr.heap.size) (fun i _ => (intOf i).toNat)
            case atStart => exact ⟨N3, 0, p5, b5, _, [], rfl, by omega, HX10, HN10, hide (FRow.nil _ _ _), rfl, hide (Sim.stay _ _), HM10, HF10, hs10⟩
            case round =>
              obtain ⟨q3, j3, p', b', v, L, rfl, hqj, Hx, Hn, Hi, hj, Hs, Hm, Hf, hsz⟩ := hrel
              have HJ := hide hj
              clear hj
              obtain ⟨ua, uc, rfl⟩ := Hi.out.form
              obtain ⟨tb, htb⟩ : ∃ tb, (decide (0 < q3) && !b') = tb := ⟨_, rfl⟩
              have HTB := hide htb
              have k2 := Hm.out.bad
              obtain ⟨wo, rfl⟩ : ∃ wo, wo = wr := ⟨_, rfl⟩
              clear htb
              go_upto_region 11 with fail
              go_cut [66] from 58 to 78 (fun v wc => v = .bool tb ∧ wo = wc)
              case first =>
                by_cases hq0 : 0 < q3
                · have i6 : (0 : Int) < q3 := by omega
                  obtain rfl : tb = !b' := by rw [← HTB.out]; simp [hq0]
                  go_wp2_with fail
                  go_meet
                  case rel => exact ⟨rfl, rfl⟩
                · have i6 : ¬ (0 : Int) < q3 := by omega
                  obtain rfl : tb = false := by rw [← HTB.out]; simp [hq0]
                  go_wp2_with fail
                  go_meet
                  case rel => exact ⟨rfl, rfl⟩
              case rest =>
                obtain ⟨rfl, rfl⟩ := hcut
                cases tb with
                | true =>
                  obtain ⟨hq0, rfl⟩ : 0 < q3 ∧ b' = false := by
                    have := HTB.out
                    cases b' with
                    | true => simp at this
                    | false => simp at this; exact ⟨this, rfl⟩
                  have hL3 : L.length ≤ 255 := by have := HJ.out; have := HNN3.out; omega
                  obtain ⟨⟨-, -, -, o3, -⟩, -⟩ := obj_cells Hx.out
                  have hw9 : wrap64 ((q3 : Int) - 1) = ((q3 - 1 : Nat) : Int) := by have := HNN3.out; unfold wrap64; omega
                  clear HTB k2
                  go_wp2_with fail
                  go_region_law (first
                    | (refine step_flat globOk (by rfl) _ _ (by rfl) (w.heap.size + 3) (.slice ua L.length uc) L (by rfl) (Hi.out.of_heap fun i hi hi2 _ => HB.out.2.2.2.2.1 i (by omega) hi2) w8.heap.size ⟨t, nn⟩ (by rfl) (flat_new globK w8 ⟨t, nn⟩ _ _ rfl rfl) (glob_one _) (by omega) (by simp; omega) ?_
                       intro g9 cap w9 ho hg
                       have hx9 := (hg.block (w.heap.size + 2) (by simp; omega) (Hi.out.far (by omega))).trans HB.out.2.2.2.2.2
                       have c9 : w9.cell? ⟨w.heap.size + 2, 3, none⟩ = some (.slice ua L.length uc) := (heapCells hx9).1 3
                       have z9 := (heapCells hx9).2 3
                       have HG := hide (And.intro ho (And.intro hg hx9))
                       clear ho hg hx9)
                    | (go_simp
                       go_at_call 70
                       refine (mOne_any (w.heap.size + 1) m l p7 b7 _ HN'.out HA7.out.2.2.1).mono ?_
                       rintro e w8 ⟨nn, p8, b8, rfl, hs8, ⟨nn0, nn1⟩, hm8, o8⟩
                       have hnn : I64 nn := by unfold I64; omega
                       have oo8 := HA7.out.2.2.2.trans o8
                       have hs8' : w.heap.size + 3 ≤ w8.heap.size := by rw [oo8.size]; exact hsz
                       have c8 : w8.cell? ⟨w.heap.size + 2, 3, none⟩ = some (.slice ua L.length uc) := (heapCells ((oo8.block _ hRX).trans Hx.out)).1 3
                       have hlo : ∀ i, w.heap.size + 2 ≤ i → i < wo.heap.size → (w8.alloc (.cells #[.string t, .int .i64 nn] 72)).heap[i]? = wo.heap[i]? := fun i hi hi2 => (Below.heap_alloc _ _ _ (by rw [oo8.size]; exact hi2)).trans (oo8.block i (by omega))
                       have hxa := (hlo (w.heap.size + 2) (by omega) (by omega)).trans Hx.out
                       have c8a : (w8.alloc (.cells #[.string t, .int .i64 nn] 72)).cell? ⟨w.heap.size + 2, 3, none⟩ = some (.slice ua L.length uc) := (heapCells hxa).1 3
                       have HB := hide (And.intro hs8.out (And.intro hnn (And.intro hm8.out (And.intro oo8 (And.intro hlo hxa)))))
                       clear hs8 hnn hm8 o8 oo8 hlo hxa nn0 nn1)
                    | (go_simp
                       go_at_call 68
                       refine (mText_any (w.heap.size + 1) m l p' false wo.drew HN'.out (Hm.out.same (fun _ _ _ => rfl) rfl)).mono ?_
                       rintro e w7 ⟨t, p7, b7, rfl, hs7, ht7, hm7, o7⟩
                       have oo7 : Only (w.heap.size + 1) wo w7 := (only_draw _ wo).trans o7
                       have c7 : w7.cell? ⟨w.heap.size + 2, 3, none⟩ = some (.slice ua L.length uc) := (heapCells ((oo7.block _ hRX).trans Hx.out)).1 3
                       have HA7 := hide (And.intro hs7.out (And.intro ht7 (And.intro hm7.out oo7)))
                       clear hs7 ht7 hm7 o7 oo7)
                    | fail)
                  all_goals
                    obtain ⟨ho, hg, hx9⟩ := HG.out
                    obtain ⟨hs8, hnn, hm8, oo8, hlo, hxa⟩ := HB.out
                    obtain ⟨hs7, ht7, -, -⟩ := HA7.out
                    have bA : Below (w.heap.size + 2) w8 (w8.alloc (.cells #[.string t, .int .i64 nn] 72)) := (Below.refl _ _).alloc (by omega) _
                    have bB : Below (w.heap.size + 2) w8 w9 := Below.grown bA hg (by simp; omega) (fun i hi => by have := (Hi.out.lt hi).1; omega)
                    have bC : Below (w.heap.size + 2) w8 (w9.setCell ⟨w.heap.size + 2, 3, none⟩ (.slice (some ⟨g9, 0, none⟩) (L.length + 1) cap)) := bB.setCell (p := ⟨w.heap.size + 2, 3, none⟩) (Nat.le_refl _) _
                    have hIa := Hi.out.of_heap (w' := w8.alloc (.cells #[.string t, .int .i64 nn] 72)) fun i hi hi2 _ => hlo i (by omega) hi2
                    have hNa := Hn.out.of_heap (w' := w8.alloc (.cells #[.string t, .int .i64 nn] 72)) fun i hi hi2 _ => hlo i (by omega) hi2
                    have hNb := hNa.grow_other hIa (by decide) hg
                    have HNc := hide (FRow.of_heap (w' := w9.setCell ⟨w.heap.size + 2, 3, none⟩ (.slice (some ⟨g9, 0, none⟩) (L.length + 1) cap)) hNb fun i hi _ _ => Below.heap_setCell _ _ _ _ (by show i ≠ w.heap.size + 2; omega))
                    have HP := hide (FRow.of_heap (w' := w9.setCell ⟨w.heap.size + 2, 3, none⟩ (.slice (some ⟨g9, 0, none⟩) (L.length + 1) cap)) ho fun i hi _ _ => Below.heap_setCell _ _ _ _ (by show i ≠ w.heap.size + 2; omega))
                    have HX11 := hide (block_set hx9 (o := 3) (.slice (some ⟨g9, 0, none⟩) (L.length + 1) cap))
                    have HR11 := hide (hm8.below bC (by omega))
                    have HF11 := hide ((Hf.out.trans (.of_only oo8)).trans (.of_below bC))
                    have HS11 := hide (Sim.push Hs.out (Sim.glob hs7 hs8))
                    have hs11 := bC.size
                    have HJ11 := hide (show (L ++ [(⟨t, nn⟩ : GlobalD)]).length = j3 + 1 by rw [List.length_append, HJ.out]; rfl)
                    have HN11 := hide (show q3 - 1 + (j3 + 1) = N3 by omega)
                    clear ho hg hx9 hs8 hnn hm8 oo8 hlo hxa hs7 ht7 bA bB bC hIa hNa hNb
                    go_wp2_with fail
                    go_roundw
                    case rel => exact ⟨q3 - 1, j3 + 1, p8, b8, _, _, by go_num, HN11.out, HX11, HNc, HP, HJ11.out, HS11, HR11, HF11, by omega⟩
                    case measure => simp [intOf]; omega
                | false =>
                  have HSG := hide (Sim.many_all Hs.out hqj HTB.out)
                  obtain ⟨L3, rfl⟩ : ∃ L3, L3 = L := ⟨_, rfl⟩
                  have HNd := hide Hn.out
                  have HGd := hide Hi.out
                  have HXn := hide Hx.out
                  have HFn := hide Hf.out
                  have HRn := hide Hm.out
                  have hszn := hsz
                  have HL3 : Hid (L3.length ≤ 255) := hide (by have := HJ.out; have := HNN3.out; omega)
                  obtain ⟨w9, rfl⟩ : ∃ w9, w9 = wo := ⟨_, rfl⟩
                  clear Hi Hx Hf Hm Hs Hn hsz hqj HTB k2 HJ HX10 HF10 hs10 HN10 HM10
                  go_wp2_with fail
                  refine (mOne_any (w.heap.size + 1) m l p' b' _ HN'.out HRn.out).mono ?_
                  rintro e w11 ⟨y, p6, b6, rfl, hs6, ⟨y0, y1⟩, hm6, o6⟩
                  obtain ⟨N4, rfl⟩ : ∃ k : Nat, y = k := ⟨y.toNat, by omega⟩
                  have HX11 := hide ((o6.block _ hRX).trans HXn.out)
                  have HF11 := hide (HFn.out.trans (.of_only o6))
                  have hs11 : w.heap.size + 3 ≤ w11.heap.size := by rw [o6.size]; exact hszn
                  have HN11 := hide (HNd.out.of_heap (w' := w11) fun i hi _ _ => o6.block i (by omega))
                  have HG11 := hide (HGd.out.of_heap (w' := w11) fun i hi _ _ => o6.block i (by omega))
                  have HS6 := hide hs6.out
                  have HM11 := hide hm6.out
                  have HNN4 : Hid (N4 ≤ 255) := hide (by omega)
                  clear hs6 hm6 o6 y0 y1 HNd HGd HXn HFn HRn hszn
                  go_wp2_with fail
                  go_loopw [8] (fun i wr => ∃ (q j p : Nat) (b : Bool) (v : Value) (L : List CV), i = .int .i64 q ∧ q + j = N4 ∧ Hid (wr.heap[w.heap.size + 2]? = some (.cells #[.string md, .int .i64 pr, .slice va L2.length vc, .slice ua L3.length uc, v] 45 (0, 0))) ∧ Hid (FRow needK wr (w.heap.size + 3) (.slice va L2.length vc) L2) ∧ Hid (FRow globK wr (w.heap.size + 3) (.slice ua L3.length uc) L3) ∧ Hid (CRow wr (w.heap.size + 3) v L) ∧ L.length = j ∧ Hid (Sim (rMany rCode j) (rp l p6 b6) (rp l p b) (L.map Prod.fst)) ∧ Hid (MR wr (w.heap.size + 1) m l p b) ∧ Hid (FrB (w.heap.size + 1) (w.heap.size + 2) w3 wr) ∧ w.heap.size + 3 ≤ wr.heap.size) (fun i _ => (intOf i).toNat)
                  case atStart => exact ⟨N4, 0, p6, b6, _, [], rfl, by omega, HX11, HN11, HG11, hide (CRow.nil _ _), rfl, hide (Sim.stay _ _), HM11, HF11, hs11⟩
                  case round =>
                    obtain ⟨q4, j4, p4, b4, v, L, rfl, hqj, Hx, Hn, Hg, Hi, hj, Hs, Hm, Hf, hsz⟩ := hrel
                    have HJ := hide hj
                    clear hj
                    obtain ⟨xa, xc, rfl⟩ := Hi.out.1.form
                    obtain ⟨tb, htb⟩ : ∃ tb, (decide (0 < q4) && !b4) = tb := ⟨_, rfl⟩
                    have HTB := hide htb
                    have k2 := Hm.out.bad
                    obtain ⟨wo, rfl⟩ : ∃ wo, wo = wr := ⟨_, rfl⟩
                    clear htb
                    go_upto_region 15 with fail
                    go_cut [89] from 81 to 161 (fun v wc => v = .bool tb ∧ wo = wc)
                    case first =>
                      by_cases hq0 : 0 < q4
                      · have i6 : (0 : Int) < q4 := by omega
                        obtain rfl : tb = !b4 := by rw [← HTB.out]; simp [hq0]
                        go_wp2_with fail
                        go_meet
                        case rel => exact ⟨rfl, rfl⟩
                      · have i6 : ¬ (0 : Int) < q4 := by omega
                        obtain rfl : tb = false := by rw [← HTB.out]; simp [hq0]
                        go_wp2_with fail
                        go_meet
                        case rel => exact ⟨rfl, rfl⟩
                    case rest =>
                      obtain ⟨rfl, rfl⟩ := hcut
                      cases tb with
                      | true =>
                        obtain ⟨hq0, rfl⟩ : 0 < q4 ∧ b4 = false := by
                          have := HTB.out
                          cases b4 with
                          | true => simp at this
                          | false => simp at this; exact ⟨this, rfl⟩
                        have HL4 : Hid (L.length ≤ 1000000) := hide (by have := HJ.out; have := HNN4.out; omega)
                        have hw9 : wrap64 ((q4 : Int) - 1) = ((q4 - 1 : Nat) : Int) := by have := HNN4.out; unfold wrap64; omega
                        have HW9 := hide hw9
                        clear HTB k2 hw9
                        go_wp2_with fail
                        refine (mText_any (w.heap.size + 1) m l p4 false _ HN'.out Hm.out).mono ?_
                        rintro e wa ⟨cn, pa, ba, rfl, hsa, hta, hma, oa⟩
                        have HCn := hide hta
                        have HSA := hide hsa.out
                        have HMA := hide hma.out
                        have OA := hide oa
                        clear hta hsa hma oa
                        go_wp2_with fail
                        refine (mOne_any (w.heap.size + 1) m l pa ba _ HN'.out HMA.out).mono ?_
                        rintro e wb ⟨pp, pb, bb, rfl, hsb, ⟨pp0, pp1⟩, hmb, ob⟩
                        have HPp : Hid (I64 pp) := hide (by unfold I64; omega)
                        have HSB := hide hsb.out
                        have OB := hide (OA.out.trans ob)
                        have HMB := hide hmb.out
                        clear hsb hmb ob pp0 pp1 HMA
                        go_wp2_with fail
                        have HZ : Hid (wb.heap.size = wo.heap.size) := hide OB.out.size
                        have hzb : w.heap.size + 3 ≤ wb.heap.size := by rw [HZ.out]; exact hsz
                        have bK : Below wb.heap.size wb (wb.alloc (.cells #[.string cn, .int .i64 pp, .int .i64 0, .int .i64 0, .slice none 0 0] 30)) := (Below.refl _ _).alloc (Nat.le_refl _) _
                        have hkb := Deep.blk_alloc_new wb (.cells #[.string cn, .int .i64 pp, .int .i64 0, .int .i64 0, .slice none 0 0] 30)
                        have hZR : wb.heap.size ≠ w.heap.size + 1 := by omega
                        refine (mOne_any (w.heap.size + 1) m l pb bb _ HN'.out (HMB.out.below bK (by omega))).mono ?_
                        rintro e wc ⟨a1, pc, bc, rfl, hsc, ⟨a10, a11⟩, hmc, oc⟩
                        have HKc := hide ((oc.block _ hZR).trans hkb)
                        have c2 : wc.cell? ⟨wb.heap.size, 2, none⟩ = some (.int .i64 0) := (heapCells HKc.out).1 2
                        have z2 := (heapCells HKc.out).2 2
                        have HSC := hide hsc.out
                        have HA1 : Hid (0 ≤ a1 ∧ a1 ≤ 255) := hide ⟨a10, a11⟩
                        have HKd := hide (show (wc.setCell ⟨wb.heap.size, 2, none⟩ (.int .i64 (a1 * 256))).heap[wb.heap.size]? = some (.cells #[.string cn, .int .i64 pp, .int .i64 (a1 * 256), .int .i64 0, .slice none 0 0] 30 (0, 0)) from block_set HKc.out _)
                        have bd : Below wb.heap.size wc (wc.setCell ⟨wb.heap.size, 2, none⟩ (.int .i64 (a1 * 256))) := (Below.refl _ _).setCell (p := ⟨wb.heap.size, 2, none⟩) (Nat.le_refl _) _
                        have HMd := hide (hmc.out.below bd (by omega))
                        have FD := hide ((((FrB.of_only (B := wb.heap.size) OB.out).trans (.of_below bK)).trans (.of_only oc)).trans (.of_below bd))
                        have hsd : wb.heap.size + 1 ≤ (wc.setCell ⟨wb.heap.size, 2, none⟩ (.int .i64 (a1 * 256))).heap.size := by have := bd.size; have := oc.size; simp at this; omega
                        clear hkb hsc hmc oc bK bd HKc HMB
                        go_upto_region 19 with fail
                        clear c2 z2 a10 a11
                        obtain ⟨wd, hwd⟩ : ∃ wd, wd = wc.setCell ⟨wb.heap.size, 2, none⟩ (.int .i64 (a1 * 256)) := ⟨_, rfl⟩
                        rw [← hwd] at HKd HMd FD hsd
                        rw [← hwd]
                        clear hwd
                        have d2 : wd.cell? ⟨wb.heap.size, 2, none⟩ = some (.int .i64 (a1 * 256)) := (heapCells HKd.out).1 2
                        have dz2 := (heapCells HKd.out).2 2
                        go_cut [] from 101 to 161 (fun wx => ∃ (ce : Int) (pe : Nat) (be : Bool), Hid (0 ≤ ce ∧ ce ≤ 65535) ∧ Hid (Sim rPair (rp l pb bb) (rp l pe be) ce) ∧ Hid (wx.heap[wb.heap.size]? = some (.cells #[.string cn, .int .i64 pp, .int .i64 ce, .int .i64 0, .slice none 0 0] 30 (0, 0))) ∧ Hid (MR wx (w.heap.size + 1) m l pe be) ∧ Hid (FrB (w.heap.size + 1) wb.heap.size wo wx) ∧ wb.heap.size + 1 ≤ wx.heap.size)
                        case first =>
                          go_region_law (first
                            | (go_simp
                               go_at_call 70
                               refine (mOne_any (w.heap.size + 1) m l pc bc wd.drew HN'.out (HMd.out.same (fun _ _ _ => rfl) rfl)).mono ?_
                               rintro e we ⟨a2, pe, be, rfl, hse, ⟨a20, a21⟩, hme, oe⟩
                               have ooe : Only (w.heap.size + 1) wd we := (only_draw _ wd).trans oe
                               have hke := (ooe.block _ hZR).trans HKd.out
                               have e2 : we.cell? ⟨wb.heap.size, 2, none⟩ = some (.int .i64 (a1 * 256)) := (heapCells hke).1 2
                               have ez2 := (heapCells hke).2 2
                               have HE := hide (And.intro hse.out (And.intro (And.intro a20 a21) (And.intro hme.out (And.intro ooe hke))))
                               have hsum : IntKind.i64.wrap (a1 * 256 + a2) = a1 * 256 + a2 := by have := HA1.out; rw [IntKind.wrap_i64]; omega
                               clear hse hme oe ooe hke a20 a21)
                            | fail)
                          all_goals
                            obtain ⟨hse, ⟨a20, a21⟩, hme, ooe, hke⟩ := HE.out
                            have q1 := HA1.out
                            have bf : Below wb.heap.size we (we.setCell ⟨wb.heap.size, 2, none⟩ (.int .i64 (a1 * 256 + a2))) := (Below.refl _ _).setCell (p := ⟨wb.heap.size, 2, none⟩) (Nat.le_refl _) _
                            have HKf := hide (show (we.setCell ⟨wb.heap.size, 2, none⟩ (.int .i64 (a1 * 256 + a2))).heap[wb.heap.size]? = some (.cells #[.string cn, .int .i64 pp, .int .i64 (a1 * 256 + a2), .int .i64 0, .slice none 0 0] 30 (0, 0)) from block_set hke _)
                            have HMf := hide (hme.below bf (by omega))
                            have HFf := hide ((FD.out.trans (.of_only ooe)).trans (.of_below bf))
                            have HPf := hide (Sim.pair HSC.out hse)
                            have HBf : Hid (0 ≤ a1 * 256 + a2 ∧ a1 * 256 + a2 ≤ 65535) := hide (by omega)
                            have hsf : wb.heap.size + 1 ≤ (we.setCell ⟨wb.heap.size, 2, none⟩ (.int .i64 (a1 * 256 + a2))).heap.size := by have := bf.size; have := ooe.size; omega
                            clear hse hme ooe hke bf q1 a20 a21
                            go_wp2_with fail
                            go_meet
                            case rel => exact ⟨_, pe, be, HBf, HPf, HKf, HMf, HFf, hsf⟩
                        case rest =>
                          obtain ⟨ce, pe, be, HCe, HSE, HKe, HME, FE, hse⟩ := hcut
                          obtain ⟨we, rfl⟩ : ∃ we, we = wc := ⟨_, rfl⟩
                          go_wp2_with fail
                          refine (mOne_any (w.heap.size + 1) m l pe be _ HN'.out HME.out).mono ?_
                          rintro e wf ⟨rr, pf, bf, rfl, hsf, ⟨rr0, rr1⟩, hmf, of⟩
                          have HRr : Hid (I64 rr) := hide (by unfold I64; omega)
                          have hkf := (of.block _ hZR).trans HKe.out
                          have f3 : wf.cell? ⟨wb.heap.size, 3, none⟩ = some (.int .i64 0) := (heapCells hkf).1 3
                          have fz3 := (heapCells hkf).2 3
                          have HSF := hide hsf.out
                          have HKg := hide (show (wf.setCell ⟨wb.heap.size, 3, none⟩ (.int .i64 rr)).heap[wb.heap.size]? = some (.cells #[.string cn, .int .i64 pp, .int .i64 ce, .int .i64 rr, .slice none 0 0] 30 (0, 0)) from block_set hkf _)
                          have bg : Below wb.heap.size wf (wf.setCell ⟨wb.heap.size, 3, none⟩ (.int .i64 rr)) := (Below.refl _ _).setCell (p := ⟨wb.heap.size, 3, none⟩) (Nat.le_refl _) _
                          have HMg := hide (hmf.out.below bg (by omega))
                          have FG := hide ((FE.out.trans (.of_only of)).trans (.of_below bg))
                          have hsg : wb.heap.size + 1 ≤ (wf.setCell ⟨wb.heap.size, 3, none⟩ (.int .i64 rr)).heap.size := by have := bg.size; have := of.size; omega
                          clear hsf hmf of hkf bg rr0 rr1 HME FE HKe hse
                          go_wp2_with fail
                          clear f3 fz3
                          refine (mOne_any (w.heap.size + 1) m l pf bf _ HN'.out HMg.out).mono ?_
                          rintro e wh ⟨ka, ph, bh, rfl, hsh, ⟨ka0, ka1⟩, hmh, oh⟩
                          have HSH := hide hsh.out
                          have HMh := hide hmh.out
                          have OH := hide oh
                          have HKa : Hid (0 ≤ ka ∧ ka ≤ 255) := hide ⟨ka0, ka1⟩
                          clear hsh hmh oh
                          go_wp2_with fail
                          refine (mOne_any (w.heap.size + 1) m l ph bh _ HN'.out HMh.out).mono ?_
                          rintro e wi ⟨kb, p5', b5', rfl, hsi, ⟨kb0, kb1⟩, hmi, oi⟩
                          obtain ⟨K, hK⟩ : ∃ K : Nat, ka * 256 + kb = K := ⟨(ka * 256 + kb).toNat, by omega⟩
                          have hsum2 : IntKind.i64.wrap (ka * 256 + kb) = K := by rw [IntKind.wrap_i64]; omega
                          have HKn : Hid (K ≤ 65535) := hide (by omega)
                          have HSP : Hid (Sim rPair (rp l pf bf) (rp l p5' b5') (K : Int)) := hide (by rw [← hK]; exact Sim.pair HSH.out hsi.out)
                          have HMi := hide hmi.out
                          have oo := OH.out.trans oi
                          have HKi := hide ((oo.block _ hZR).trans HKg.out)
                          have FI := hide (FG.out.trans (.of_only oo))
                          have hsi' : wb.heap.size + 1 ≤ wi.heap.size := by rw [oo.size]; exact hsg
                          clear hsi hmi oi oo ka0 ka1 kb0 kb1 HMh HMg HKg FG hsg hK
                          go_wp2_with fail
                          go_loopw [10] (fun i wr => ∃ (q j p : Nat) (b : Bool) (u : Value) (IL : List InsD), i = .int .i64 q ∧ q + j = K ∧ Hid (wr.heap[wb.heap.size]? = some (.cells #[.string cn, .int .i64 pp, .int .i64 ce, .int .i64 rr, u] 30 (0, 0))) ∧ Hid (FRow insK wr (wb.heap.size + 1) u IL) ∧ IL.length = j ∧ Hid (∀ x ∈ IL, INum x) ∧ Hid (Sim (rMany rIns j) (rp l p5' b5') (rp l p b) IL) ∧ Hid (MR wr (w.heap.size + 1) m l p b) ∧ Hid (FrB (w.heap.size + 1) wb.heap.size wo wr) ∧ wb.heap.size + 1 ≤ wr.heap.size) (fun i _ => (intOf i).toNat)
                          case atStart => exact ⟨K, 0, p5', b5', _, [], rfl, by omega, HKi, hide (FRow.nil _ _ _), rfl, hide (fun x hx => by cases hx), hide (Sim.stay _ _), HMi, FI, hsi'⟩
                          case round =>
                            obtain ⟨q5, j5, p7, b7, u, IL, rfl, hqj5, Hk, Hp, hj5, HIn, Hs7, Hm7, Hf7, hsz7⟩ := hrel
                            have HJ5 := hide hj5
                            clear hj5
                            obtain ⟨ya, yc, rfl⟩ := Hp.out.form
                            obtain ⟨tb5, htb5⟩ : ∃ tb, (decide (0 < q5) && !b7) = tb := ⟨_, rfl⟩
                            have HTB5 := hide htb5
                            have k25 := Hm7.out.bad
                            obtain ⟨wj, rfl⟩ : ∃ wj, wj = wr := ⟨_, rfl⟩
                            clear htb5
                            go_upto_region 23 with fail
                            go_cut [125] from 117 to 155 (fun v wc => v = .bool tb5 ∧ wj = wc)
                            case first =>
                              by_cases hq0 : 0 < q5
                              · have i6 : (0 : Int) < q5 := by omega
                                obtain rfl : tb5 = !b7 := by rw [← HTB5.out]; simp [hq0]
                                go_wp2_with fail
                                go_meet
                                case rel => exact ⟨rfl, rfl⟩
                              · have i6 : ¬ (0 : Int) < q5 := by omega
                                obtain rfl : tb5 = false := by rw [← HTB5.out]; simp [hq0]
                                go_wp2_with fail
                                go_meet
                                case rel => exact ⟨rfl, rfl⟩
                            case rest =>
                              obtain ⟨rfl, rfl⟩ := hcut
                              cases tb5 with
                              | true =>
                                obtain ⟨hq0, rfl⟩ : 0 < q5 ∧ b7 = false := by
                                  have := HTB5.out
                                  cases b7 with
                                  | true => simp at this
                                  | false => simp at this; exact ⟨this, rfl⟩
                                have HIL : Hid (IL.length ≤ 1000000) := hide (by have := HJ5.out; have := HKn.out; omega)
                                have hw5 : wrap64 ((q5 : Int) - 1) = ((q5 - 1 : Nat) : Int) := by have := HKn.out; unfold wrap64; omega
                                clear HTB5 k25
                                go_wp2_with fail
                                refine (mOne_any (w.heap.size + 1) m l p7 false _ HN'.out Hm7.out).mono ?_
                                rintro e w12 ⟨x0, p8, b8, rfl, hs8, ⟨x00, x01⟩, hm8, o8⟩
                                have HX0 : Hid (I64 x0) := hide (by unfold I64; omega)
                                have HS8 := hide hs8.out
                                have HM8 := hide hm8.out
                                have O8 := hide o8
                                clear hs8 hm8 o8 x00 x01
                                go_wp2_with fail
                                refine (mEight_any (w.heap.size + 1) m l p8 b8 _ HN'.out HM8.out).mono ?_
                                rintro e w13 ⟨x1, rfl, hx1, p9, b9, hs9, hm9, o9⟩
                                have HX1 := hide hx1
                                have HS9 := hide hs9
                                have O9 := hide (O8.out.trans o9)
                                have bY : Below w13.heap.size w13 (w13.alloc (.cells #[.int .i64 x0, .int .i64 x1, .int .i64 0, .string ⟨#[]⟩, .string ⟨#[]⟩] 94)) := (Below.refl _ _).alloc (Nat.le_refl _) _
                                have HY13 := hide (Deep.blk_alloc_new w13 (.cells #[.int .i64 x0, .int .i64 x1, .int .i64 0, .string ⟨#[]⟩, .string ⟨#[]⟩] 94))
                                have hz13 : wb.heap.size + 1 ≤ w13.heap.size := by rw [O9.out.size]; exact hsz7
                                have HM13 := hide (hm9.below bY (by omega))
                                have F13 := hide (((FrB.of_only (B := w13.heap.size) O9.out).trans (.of_below bY)))
                                have HZ13 : Hid (w13.heap.size = wj.heap.size) := hide O9.out.size
                                clear hs9 hm9 o9 bY hx1 HM8 O8
                                have hYR : w13.heap.size ≠ w.heap.size + 1 := by omega
                                by_cases hn : namedB x0 = true
                                · have h313 : (x0 == 3) = true ∨ ((x0 == 3) = false ∧ (x0 == 13) = true) := by
                                    have h0 : x0 = 3 ∨ x0 = 13 := by unfold namedB at hn; simpa using hn
                                    rcases h0 with e | e
                                    · exact .inl (by rw [e]; rfl)
                                    · exact .inr ⟨by rw [e]; rfl, by rw [e]; rfl⟩
                                  have HNm := hide hn
                                  clear hn
                                  rcases h313 with m3 | ⟨m3, m13⟩
                                  all_goals
                                    go_wp2_with fail
                                    refine (mOne_any (w.heap.size + 1) m l p9 b9 _ HN'.out HM13.out).mono ?_
                                    rintro e w14 ⟨y2, p10, b10, rfl, hs10, ⟨y20, y21⟩, hm10, o10⟩
                                    have HY2 : Hid (I64 y2) := hide (by unfold I64; omega)
                                    have hk14 := (o10.block _ hYR).trans HY13.out
                                    have c2 : w14.cell? ⟨w13.heap.size, 2, none⟩ = some (.int .i64 0) := (heapCells hk14).1 2
                                    have z2 := (heapCells hk14).2 2
                                    have HS10 := hide hs10.out
                                    have b15 : Below w13.heap.size w14 (w14.setCell ⟨w13.heap.size, 2, none⟩ (.int .i64 y2)) := (Below.refl _ _).setCell (p := ⟨w13.heap.size, 2, none⟩) (Nat.le_refl _) _
                                    have HY15 := hide (block_set hk14 (o := 2) (.int .i64 y2))
                                    have HM15 := hide (hm10.out.below b15 (by omega))
                                    have F15 := hide ((F13.out.trans (.of_only o10)).trans (.of_below b15))
                                    clear hs10 hm10 o10 hk14 b15 y20 y21
                                    go_wp2_with fail
                                    clear c2 z2
                                    refine (mText_any (w.heap.size + 1) m l p10 b10 _ HN'.out HM15.out).mono ?_
                                    rintro e w16 ⟨t3, p11, b11, rfl, hs11, ht11, hm11, o11⟩
                                    have HT3 := hide ht11
                                    have hk16 := (o11.block _ hYR).trans HY15.out
                                    have c3 : w16.cell? ⟨w13.heap.size, 3, none⟩ = some (.string ⟨#[]⟩) := (heapCells hk16).1 3
                                    have z3 := (heapCells hk16).2 3
                                    have HS11 := hide hs11.out
                                    have b17 : Below w13.heap.size w16 (w16.setCell ⟨w13.heap.size, 3, none⟩ (.string t3)) := (Below.refl _ _).setCell (p := ⟨w13.heap.size, 3, none⟩) (Nat.le_refl _) _
                                    have HY17 := hide (block_set hk16 (o := 3) (.string t3))
                                    have HM17 := hide (hm11.out.below b17 (by omega))
                                    have F17 := hide ((F15.out.trans (.of_only o11)).trans (.of_below b17))
                                    clear hs11 hm11 o11 hk16 b17 ht11 HY15 HM15 F15
                                    go_wp2_with fail
                                    clear c3 z3
                                    refine (mText_any (w.heap.size + 1) m l p11 b11 _ HN'.out HM17.out).mono ?_
                                    rintro e w18 ⟨t4, p12, b12, rfl, hs12, ht12, hm12, o12⟩
                                    have HT4 := hide ht12
                                    have hk18 := (o12.block _ hYR).trans HY17.out
                                    have c4 : w18.cell? ⟨w13.heap.size, 4, none⟩ = some (.string ⟨#[]⟩) := (heapCells hk18).1 4
                                    have z4 := (heapCells hk18).2 4
                                    have b19 : Below w13.heap.size w18 (w18.setCell ⟨w13.heap.size, 4, none⟩ (.string t4)) := (Below.refl _ _).setCell (p := ⟨w13.heap.size, 4, none⟩) (Nat.le_refl _) _
                                    obtain ⟨we, hwe⟩ : ∃ we, we = w18.setCell ⟨w13.heap.size, 4, none⟩ (.string t4) := ⟨_, rfl⟩
                                    have HWE := hide hwe
                                    have HYe := hide (block_set hk18 (o := 4) (.string t4))
                                    have HMe := hide (hm12.out.below b19 (by omega))
                                    have Fe := hide ((F17.out.trans (.of_only o12)).trans (.of_below b19))
                                    have HSe := hide (Sim.ins_yes HS8.out HS9.out HNm.out HS10.out HS11.out hs12.out)
                                    have HNe := hide (show INum ⟨x0, x1, y2, t3, t4⟩ from ⟨HX0.out, HX1.out, HY2.out, HT3.out, HT4.out⟩)
                                    rw [← hwe] at HYe HMe Fe
                                    clear hs12 hm12 o12 hk18 b19 ht12 HY17 HM17 F17 hwe
                                    go_upto_region 30 with fail
                                    rw [← HWE.out]
                                    clear c4 z4 HWE
                                    try clear m13
                                    clear m3
                                    obtain ⟨d0, d1, d2, d3, d4⟩ : we.cell? ⟨wb.heap.size, 0, none⟩ = some (.string cn) ∧ we.cell? ⟨wb.heap.size, 1, none⟩ = some (.int .i64 pp) ∧ we.cell? ⟨wb.heap.size, 2, none⟩ = some (.int .i64 ce) ∧ we.cell? ⟨wb.heap.size, 3, none⟩ = some (.int .i64 rr) ∧ we.cell? ⟨wb.heap.size, 4, none⟩ = some (.slice ya IL.length yc) := (code_cells ((Fe.out.block wb.heap.size (by omega) (by omega)).trans Hk.out)).1
                                    obtain ⟨⟨e0, e1, e2, e3, e4⟩, -⟩ := ins_cells HYe.out
                                    have hze : w13.heap.size + 1 ≤ we.heap.size := Nat.succ_le_of_lt (Array.getElem?_eq_some_iff.1 HYe.out).1
                                    have HLo : Hid (∀ i, wb.heap.size ≤ i → i < wj.heap.size → (we.alloc (.cells #[.int .i64 x0, .int .i64 x1, .int .i64 y2, .string t3, .string t4] 94)).heap[i]? = wj.heap[i]?) := hide fun i hi hi2 => (Below.heap_alloc _ _ _ (by have := HZ13.out; omega)).trans (Fe.out.block i (by have := HZ13.out; omega) (by omega))
                                    have HIa := hide (Hp.out.of_heap (w' := we.alloc (.cells #[.int .i64 x0, .int .i64 x1, .int .i64 y2, .string t3, .string t4] 94)) fun i hi hi2 _ => HLo.out i (by omega) hi2)
                                    clear d0 d1 d2 d3
                                    go_wp2_with (at_builtin
                                                 refine wp_append_flat insOk rfl _ _ rfl (wb.heap.size + 1) (.slice ya IL.length yc) IL rfl HIa.out we.heap.size ⟨x0, x1, y2, t3, t4⟩ rfl (flat_new insK we ⟨x0, x1, y2, t3, t4⟩ _ _ rfl rfl) (ins_one _) (Nat.le_trans HIL.out (by decide)) (by simp; omega) ?_
                                                 intro v9 w20 ho hg
                                                 have hx20 := (hg.block wb.heap.size (by simp; omega) (HIa.out.far (by omega))).trans ((HLo.out wb.heap.size (Nat.le_refl _) (by omega)).trans Hk.out)
                                                 have c20 : w20.cell? ⟨wb.heap.size, 4, none⟩ = some (.slice ya IL.length yc) := (heapCells hx20).1 4
                                                 have z20 := (heapCells hx20).2 4
                                                 obtain ⟨ga, gc, eg⟩ := FRow.form ho
                                                 obtain ⟨gn, hgn⟩ : ∃ gn, (IL ++ [(⟨x0, x1, y2, t3, t4⟩ : InsD)]).length = gn := ⟨_, rfl⟩
                                                 rw [hgn] at eg
                                                 clear hgn
                                                 subst eg
                                                 have HG := hide (And.intro ho (And.intro hg hx20))
                                                 clear ho hg hx20)
                                    obtain ⟨ho, hg, hx20⟩ := HG.out
                                    have bA : Below wb.heap.size we (we.alloc (.cells #[.int .i64 x0, .int .i64 x1, .int .i64 y2, .string t3, .string t4] 94)) := (Below.refl _ _).alloc (by omega) _
                                    have bB : Below wb.heap.size we w20 := Below.grown bA hg (by simp; omega) (fun i hi => by have := (HIa.out.lt hi).1; omega)
                                    have bC : Below wb.heap.size we (w20.setCell ⟨wb.heap.size, 4, none⟩ (.slice ga gn gc)) := bB.setCell (p := ⟨wb.heap.size, 4, none⟩) (Nat.le_refl _) _
                                    have HP := hide (FRow.of_heap (w' := w20.setCell ⟨wb.heap.size, 4, none⟩ (.slice ga gn gc)) ho fun i hi _ _ => Below.heap_setCell _ _ _ _ (by show i ≠ wb.heap.size; omega))
                                    have HX20 := hide (block_set hx20 (o := 4) (.slice ga gn gc))
                                    have HR20 := hide (HMe.out.below bC (by omega))
                                    have HF20 := hide (FrB.trans ⟨Hf7.out.os, Hf7.out.tape, Hf7.out.output, Hf7.out.size, Hf7.out.block⟩ (FrB.trans ⟨Fe.out.os, Fe.out.tape, Fe.out.output, Fe.out.size, fun k hk hr => Fe.out.block k (by omega) hr⟩ (FrB.of_below bC)))
                                    have hs20 := bC.size
                                    have HIn20 : Hid (∀ x ∈ IL ++ [(⟨x0, x1, y2, t3, t4⟩ : InsD)], INum x) := hide fun x hx => by
                                      rcases List.mem_append.1 hx with hx | hx
                                      · exact HIn.out x hx
                                      · rw [List.mem_singleton] at hx
                                        subst hx
                                        exact HNe.out
                                    have HJ20 := hide (show (IL ++ [(⟨x0, x1, y2, t3, t4⟩ : InsD)]).length = j5 + 1 by rw [List.length_append, HJ5.out]; rfl)
                                    have HS20 := hide (Sim.push Hs7.out HSe.out)
                                    have HN20 := hide (show q5 - 1 + (j5 + 1) = K by omega)
                                    clear ho hg hx20 bA bB bC
                                    go_wp2_with fail
                                    go_roundw
                                    case rel => exact ⟨q5 - 1, j5 + 1, p12, b12, _, _, by go_num, HN20.out, HX20, HP, HJ20.out, HIn20, HS20, HR20, HF20, by omega⟩
                                    case measure => simp [intOf]; omega
                                · have hn' : namedB x0 = false := by simpa using hn
                                  have m3 : (x0 == 3) = false := by
                                    cases e : x0 == 3 with
                                    | false => rfl
                                    | true => rw [eq_of_beq e] at hn'; cases hn'
                                  have m13 : (x0 == 13) = false := by
                                    cases e : x0 == 13 with
                                    | false => rfl
                                    | true => rw [eq_of_beq e] at hn'; cases hn'
                                  obtain ⟨we, hwe⟩ : ∃ we, we = w13.alloc (.cells #[.int .i64 x0, .int .i64 x1, .int .i64 0, .string ⟨#[]⟩, .string ⟨#[]⟩] 94) := ⟨_, rfl⟩
                                  have HWE := hide hwe
                                  have HYe := HY13
                                  have HMe := HM13
                                  have Fe := F13
                                  have HSe := hide (Sim.ins_no HS8.out HS9.out hn')
                                  have HNe := hide (show INum ⟨x0, x1, 0, ⟨#[]⟩, ⟨#[]⟩⟩ from ⟨HX0.out, HX1.out, by show I64 0; unfold I64; omega, by show (0 : Nat) ≤ 255; omega, by show (0 : Nat) ≤ 255; omega⟩)
                                  rw [← hwe] at HYe HMe Fe
                                  clear hwe hn hn'
                                  go_upto_region 30 with fail
                                  rw [← HWE.out]
                                  clear m3 m13 HWE
                                  obtain ⟨d0, d1, d2, d3, d4⟩ : we.cell? ⟨wb.heap.size, 0, none⟩ = some (.string cn) ∧ we.cell? ⟨wb.heap.size, 1, none⟩ = some (.int .i64 pp) ∧ we.cell? ⟨wb.heap.size, 2, none⟩ = some (.int .i64 ce) ∧ we.cell? ⟨wb.heap.size, 3, none⟩ = some (.int .i64 rr) ∧ we.cell? ⟨wb.heap.size, 4, none⟩ = some (.slice ya IL.length yc) := (code_cells ((Fe.out.block wb.heap.size (by omega) (by omega)).trans Hk.out)).1
                                  obtain ⟨⟨e0, e1, e2, e3, e4⟩, -⟩ := ins_cells HYe.out
                                  have hze : w13.heap.size + 1 ≤ we.heap.size := Nat.succ_le_of_lt (Array.getElem?_eq_some_iff.1 HYe.out).1
                                  have HLo : Hid (∀ i, wb.heap.size ≤ i → i < wj.heap.size → (we.alloc (.cells #[.int .i64 x0, .int .i64 x1, .int .i64 0, .string ⟨#[]⟩, .string ⟨#[]⟩] 94)).heap[i]? = wj.heap[i]?) := hide fun i hi hi2 => (Below.heap_alloc _ _ _ (by have := HZ13.out; omega)).trans (Fe.out.block i (by have := HZ13.out; omega) (by omega))
                                  have HIa := hide (Hp.out.of_heap (w' := we.alloc (.cells #[.int .i64 x0, .int .i64 x1, .int .i64 0, .string ⟨#[]⟩, .string ⟨#[]⟩] 94)) fun i hi hi2 _ => HLo.out i (by omega) hi2)
                                  clear d0 d1 d2 d3
                                  go_wp2_with (at_builtin
                                               refine wp_append_flat insOk rfl _ _ rfl (wb.heap.size + 1) (.slice ya IL.length yc) IL rfl HIa.out we.heap.size ⟨x0, x1, 0, ⟨#[]⟩, ⟨#[]⟩⟩ rfl (flat_new insK we ⟨x0, x1, 0, ⟨#[]⟩, ⟨#[]⟩⟩ _ _ rfl rfl) (ins_one _) (Nat.le_trans HIL.out (by decide)) (by simp; omega) ?_
                                               intro v9 w20 ho hg
                                               have hx20 := (hg.block wb.heap.size (by simp; omega) (HIa.out.far (by omega))).trans ((HLo.out wb.heap.size (Nat.le_refl _) (by omega)).trans Hk.out)
                                               have c20 : w20.cell? ⟨wb.heap.size, 4, none⟩ = some (.slice ya IL.length yc) := (heapCells hx20).1 4
                                               have z20 := (heapCells hx20).2 4
                                               obtain ⟨ga, gc, eg⟩ := FRow.form ho
                                               obtain ⟨gn, hgn⟩ : ∃ gn, (IL ++ [(⟨x0, x1, 0, ⟨#[]⟩, ⟨#[]⟩⟩ : InsD)]).length = gn := ⟨_, rfl⟩
                                               rw [hgn] at eg
                                               clear hgn
                                               subst eg
                                               have HG := hide (And.intro ho (And.intro hg hx20))
                                               clear ho hg hx20)
                                  obtain ⟨ho, hg, hx20⟩ := HG.out
                                  have bA : Below wb.heap.size we (we.alloc (.cells #[.int .i64 x0, .int .i64 x1, .int .i64 0, .string ⟨#[]⟩, .string ⟨#[]⟩] 94)) := (Below.refl _ _).alloc (by omega) _
                                  have bB : Below wb.heap.size we w20 := Below.grown bA hg (by simp; omega) (fun i hi => by have := (HIa.out.lt hi).1; omega)
                                  have bC : Below wb.heap.size we (w20.setCell ⟨wb.heap.size, 4, none⟩ (.slice ga gn gc)) := bB.setCell (p := ⟨wb.heap.size, 4, none⟩) (Nat.le_refl _) _
                                  have HP := hide (FRow.of_heap (w' := w20.setCell ⟨wb.heap.size, 4, none⟩ (.slice ga gn gc)) ho fun i hi _ _ => Below.heap_setCell _ _ _ _ (by show i ≠ wb.heap.size; omega))
                                  have HX20 := hide (block_set hx20 (o := 4) (.slice ga gn gc))
                                  have HR20 := hide (HMe.out.below bC (by omega))
                                  have HF20 := hide (FrB.trans ⟨Hf7.out.os, Hf7.out.tape, Hf7.out.output, Hf7.out.size, Hf7.out.block⟩ (FrB.trans ⟨Fe.out.os, Fe.out.tape, Fe.out.output, Fe.out.size, fun k hk hr => Fe.out.block k (by omega) hr⟩ (FrB.of_below bC)))
                                  have hs20 := bC.size
                                  have HIn20 : Hid (∀ x ∈ IL ++ [(⟨x0, x1, 0, ⟨#[]⟩, ⟨#[]⟩⟩ : InsD)], INum x) := hide fun x hx => by
                                    rcases List.mem_append.1 hx with hx | hx
                                    · exact HIn.out x hx
                                    · rw [List.mem_singleton] at hx
                                      subst hx
                                      exact HNe.out
                                  have HJ20 := hide (show (IL ++ [(⟨x0, x1, 0, ⟨#[]⟩, ⟨#[]⟩⟩ : InsD)]).length = j5 + 1 by rw [List.length_append, HJ5.out]; rfl)
                                  have HS20 := hide (Sim.push Hs7.out HSe.out)
                                  have HN20 := hide (show q5 - 1 + (j5 + 1) = K by omega)
                                  clear ho hg hx20 bA bB bC
                                  go_wp2_with fail
                                  go_roundw
                                  case rel => exact ⟨q5 - 1, j5 + 1, p9, b9, _, _, by go_num, HN20.out, HX20, HP, HJ20.out, HIn20, HS20, HR20, HF20, by omega⟩
                                  case measure => simp [intOf]; omega
                              | false =>
                                have HSM := hide (Sim.many_all Hs7.out hqj5 HTB5.out)
                                have HSCo := hide (Sim.code HSA.out HSB.out HSE.out HSF.out HSP.out HSM.out)
                                have HCN : Hid (CNum ⟨cn, pp, ce, rr, IL⟩) := hide ⟨HCn.out, HPp.out, by have := HCe.out; show I64 ce; unfold I64; omega, HRr.out, by have := HJ5.out; have := HKn.out; show IL.length ≤ 65535; omega, HIn.out⟩
                                obtain ⟨⟨d0, d1, d2, d3, d4⟩, -⟩ := code_cells Hk.out
                                have hZ := HZ.out
                                have hX7 := (Hf7.out.block (w.heap.size + 2) (by omega) (by omega)).trans Hx.out
                                obtain ⟨⟨-, -, -, -, x4⟩, -⟩ := obj_cells hX7
                                have HLo : Hid (∀ i, w.heap.size + 2 ≤ i → i < wo.heap.size → (wj.alloc (.cells #[.string cn, .int .i64 pp, .int .i64 ce, .int .i64 rr, .slice ya IL.length yc] 30)).heap[i]? = wo.heap[i]?) := hide fun i hi hi2 => (Below.heap_alloc _ _ _ (by omega)).trans (Hf7.out.block i (by omega) (by omega))
                                have HIa := hide (Hi.out.1.of_heap (w' := wj.alloc (.cells #[.string cn, .int .i64 pp, .int .i64 ce, .int .i64 rr, .slice ya IL.length yc] 30)) fun i hi hi2 _ => HLo.out i (by omega) hi2)
                                have HNa := hide (Hn.out.of_heap (w' := wj.alloc (.cells #[.string cn, .int .i64 pp, .int .i64 ce, .int .i64 rr, .slice ya IL.length yc] 30)) fun i hi hi2 _ => HLo.out i (by omega) hi2)
                                have HGa := hide (Hg.out.of_heap (w' := wj.alloc (.cells #[.string cn, .int .i64 pp, .int .i64 ce, .int .i64 rr, .slice ya IL.length yc] 30)) fun i hi hi2 _ => HLo.out i (by omega) hi2)
                                have HUa := hide ((FRow.on Hp.out ((Below.refl wj.heap.size wj).alloc (Nat.le_refl _) (.cells #[.string cn, .int .i64 pp, .int .i64 ce, .int .i64 rr, .slice ya IL.length yc] 30))).le (C := wo.heap.size) (by omega))
                                have hzj : w.heap.size + 3 ≤ wj.heap.size := by omega
                                have hw9 := HW9.out
                                clear hX7 hZ k25 HTB5
                                go_wp2_with (at_builtin
                                             refine wp_append_flat codeOk rfl _ _ rfl (w.heap.size + 3) (.slice xa L.length xc) L rfl HIa.out wj.heap.size (⟨cn, pp, ce, rr, IL⟩, .slice ya IL.length yc) rfl (flat_new codeK wj (⟨cn, pp, ce, rr, IL⟩, .slice ya IL.length yc) _ _ rfl rfl) (code_one _ rfl) (Nat.le_trans HL4.out (by decide)) (by simp; omega) ?_
                                             intro v9 w20 ho hg
                                             have hx20 := (hg.block (w.heap.size + 2) (by simp; omega) (HIa.out.far (by omega))).trans ((HLo.out (w.heap.size + 2) (Nat.le_refl _) (by omega)).trans Hx.out)
                                             have c20 : w20.cell? ⟨w.heap.size + 2, 4, none⟩ = some (.slice xa L.length xc) := (heapCells hx20).1 4
                                             have z20 := (heapCells hx20).2 4
                                             obtain ⟨ga, gc, eg⟩ := FRow.form ho
                                             obtain ⟨gn, hgn⟩ : ∃ gn, (L ++ [((⟨cn, pp, ce, rr, IL⟩ : CodeD), Value.slice ya IL.length yc)]).length = gn := ⟨_, rfl⟩
                                             rw [hgn] at eg
                                             clear hgn
                                             subst eg
                                             have HG := hide (And.intro ho (And.intro hg hx20))
                                             clear ho hg hx20)
                                obtain ⟨ho, hg, hx20⟩ := HG.out
                                have bA : Below (w.heap.size + 2) wj (wj.alloc (.cells #[.string cn, .int .i64 pp, .int .i64 ce, .int .i64 rr, .slice ya IL.length yc] 30)) := (Below.refl _ _).alloc (by omega) _
                                have bB : Below (w.heap.size + 2) wj w20 := Below.grown bA hg (by simp; omega) (fun i hi => by have := (HIa.out.lt hi).1; omega)
                                have bC : Below (w.heap.size + 2) wj (w20.setCell ⟨w.heap.size + 2, 4, none⟩ (.slice ga gn gc)) := bB.setCell (p := ⟨w.heap.size + 2, 4, none⟩) (Nat.le_refl _) _
                                have hP := CRow.push Hi.out (fun i hi hi2 => HLo.out i (by omega) hi2) HUa.out HCN.out hsz hg ho
                                have HP := hide (CRow.of_heap (w' := w20.setCell ⟨w.heap.size + 2, 4, none⟩ (.slice ga gn gc)) hP fun i hi _ => Below.heap_setCell _ _ _ _ (by show i ≠ w.heap.size + 2; omega))
                                have HNc := hide (FRow.of_heap (w' := w20.setCell ⟨w.heap.size + 2, 4, none⟩ (.slice ga gn gc)) (HNa.out.grow_other HIa.out (by decide) hg) fun i hi _ _ => Below.heap_setCell _ _ _ _ (by show i ≠ w.heap.size + 2; omega))
                                have HGc := hide (FRow.of_heap (w' := w20.setCell ⟨w.heap.size + 2, 4, none⟩ (.slice ga gn gc)) (HGa.out.grow_other HIa.out (by decide) hg) fun i hi _ _ => Below.heap_setCell _ _ _ _ (by show i ≠ w.heap.size + 2; omega))
                                have HX20 := hide (block_set hx20 (o := 4) (.slice ga gn gc))
                                have HR20 := hide (Hm7.out.below bC (by omega))
                                have HF20 := hide ((Hf.out.trans (show FrB (w.heap.size + 1) (w.heap.size + 2) wo wj from ⟨Hf7.out.os, Hf7.out.tape, Hf7.out.output, Hf7.out.size, fun k hk hr => Hf7.out.block k (by omega) hr⟩)).trans (.of_below bC))
                                have hs20 := bC.size
                                have HJ20 := hide (show (L ++ [((⟨cn, pp, ce, rr, IL⟩ : CodeD), Value.slice ya IL.length yc)]).length = j4 + 1 by rw [List.length_append, HJ.out]; rfl)
                                have HS20 : Hid (Sim (rMany rCode (j4 + 1)) (rp l p6 b6) (rp l p7 b7) ((L ++ [((⟨cn, pp, ce, rr, IL⟩ : CodeD), Value.slice ya IL.length yc)]).map Prod.fst)) := hide (by rw [List.map_append]; exact Sim.push Hs.out HSCo.out)
                                have HN20 := hide (show q4 - 1 + (j4 + 1) = N4 by omega)
                                clear ho hg hx20 bA bB bC hP
                                go_wp2_with fail
                                go_roundw
                                case rel => exact ⟨q4 - 1, j4 + 1, p7, b7, _, _, by go_num, HN20.out, HX20, HNc, HGc, HP, HJ20.out, HS20, HR20, HF20, by omega⟩
                                case measure => simp [intOf]; omega
                      | false =>
                        have HSC4 := hide (Sim.many_all Hs.out hqj HTB.out)
                        have HSO : Hid (Sim rObj (some (l.drop 3)) (rp l p4 b4) ⟨md, pr, L2, L3, L.map Prod.fst⟩) := hide (Sim.obj HS1.out.out HS2.out HS3.out.out HSN.out HS5.out HSG.out HS6.out HSC4.out)
                        have hyy := (Hf.out.block w.heap.size (by omega) (by omega)).trans HY3.out
                        obtain ⟨⟨x0, x1, x2, x3, x4⟩, -⟩ := obj_cells Hx.out
                        obtain ⟨⟨y0, y1, y2, y3, y4⟩, sy⟩ := obj_cells hyy
                        have s0 := sy 0
                        have s1 := sy 1
                        have s2 := sy 2
                        have s3 := sy 3
                        have s4 := sy 4
                        obtain ⟨g', o', c', -, -, ⟨k0, k1, -⟩, -, -, hpl⟩ := Hm.out
                        have HPL := hide hpl
                        have hfin : Below w.heap.size w wo := HB3.out.trans ⟨Hf.out.os, Hf.out.tape, Hf.out.output, Hf.out.size, fun k hk => Hf.out.block k (by omega) (by omega)⟩
                        have HFin := hide hfin
                        have HOB : Hid (ObRow wo (w.heap.size + 3) (.slice va L2.length vc) (.slice ua L3.length uc) (.slice xa L.length xc) ⟨md, pr, L2, L3, L.map Prod.fst⟩ L) := hide ⟨Hn.out, Hg.out, Hi.out, rfl⟩
                        clear hyy hfin HTB Hs sy hpl k0
                        cases b4 with
                        | true =>
                          have hno := hide (mo_bad HSO.out)
                          go_wp2_with fail
                          go_region
                          go_wp2
                          refine bodyPost_ret (v := .tuple #[.agg #[.string md, .int .i64 pr, .slice va L2.length vc, .slice ua L3.length uc, .slice xa L.length xc], .bool false]) (by simp [results, Tryd.results44, go_sem, y0, y1, y2, y3, y4]) rfl ?_
                          refine ⟨_, _, _, _, _, _, _, _, _, _, _, by rw [hno.out], (fun e => by rw [hno.out] at e; cases e), ?_⟩
                          refine Below.drew ?_
                          repeat (refine Below.setCell ?_ (by simp <;> omega) _)
                          exact HFin.out
                        | false =>
                          by_cases hpn : p4 = n
                          · obtain ⟨hmo, hxe⟩ := mo_all (x := ⟨md, pr, L2, L3, L.map Prod.fst⟩) (l := l) (by have := HSO.out; rw [hpn, ← HN.out] at this; exact this) HOI.out
                            have i7 : ((p4 : Int) == (n : Int)) = true := by rw [hpn]; simp
                            have hnum := rdObj_num Hin.out
                            rw [← hxe] at hnum
                            have HV := hide (objval_of_row HOB.out hnum)
                            have HXE := hide hxe
                            obtain ⟨T, hT⟩ : ∃ T, objB ⟨md, pr, L2, L3, L.map Prod.fst⟩ = T := ⟨_, rfl⟩
                            rw [hT] at hmo
                            have HMO := hide hmo
                            obtain ⟨n4', hn4⟩ : ∃ k, L.length = k := ⟨_, rfl⟩
                            have HIO : Hid (∀ w', Below wo.heap.size wo w' → Calls Tryd.prog 12 #[.agg #[.string md, .int .i64 pr, .slice va L2.length vc, .slice ua L3.length uc, .slice xa L.length xc]] w' fun e w2 => e = .returned (.bool T) ∧ Below w'.heap.size w' w2) := hide fun w' bel => by
                              have := specObjectOK_any _ _ ⟨md, pr, L2, L3, L.map Prod.fst⟩ w' (HV.out.on bel) bel.size
                              rwa [hT] at this
                            clear hmo hxe hnum hT hn4 n4' hpn
                            go_wp2_with fail
                            have k2b := Hm.out.bad
                            go_region_held3 (fun w' => w'.cell? ⟨w.heap.size + 1, 1, none⟩ = some (.int .i64 p4) ∧ w'.cell? ⟨w.heap.size + 1, 2, none⟩ = some (.bool false) ∧ w'.cell? ⟨w.heap.size + 2, 0, none⟩ = some (.string md) ∧ w'.cell? ⟨w.heap.size + 2, 1, none⟩ = some (.int .i64 pr) ∧ w'.cell? ⟨w.heap.size + 2, 2, none⟩ = some (.slice va L2.length vc) ∧ w'.cell? ⟨w.heap.size + 2, 3, none⟩ = some (.slice ua L3.length uc) ∧ w'.cell? ⟨w.heap.size + 2, 4, none⟩ = some (.slice xa L.length xc))
                              (first
                                | go_keep
                                | (go_split_ands; exact ⟨v5, v6, v0, v1, v2, v3, v4⟩))
                              ((first
                                | (go_at_call 12
                                   refine (HIO.out _ (Below.refl _ _).drew).mono ?_
                                   rintro e w21 ⟨rfl, b21⟩
                                   have bb21 : Below wo.heap.size wo w21 := ((Below.refl _ _).drew).trans b21
                                   have v5 := (bb21.cell (p := ⟨w.heap.size + 1, 1, none⟩) (by show w.heap.size + 1 < wo.heap.size; omega)).trans k1
                                   have v6 := (bb21.cell (p := ⟨w.heap.size + 1, 2, none⟩) (by show w.heap.size + 1 < wo.heap.size; omega)).trans k2b
                                   have v0 := (bb21.cell (p := ⟨w.heap.size + 2, 0, none⟩) (by show w.heap.size + 2 < wo.heap.size; omega)).trans x0
                                   have v1 := (bb21.cell (p := ⟨w.heap.size + 2, 1, none⟩) (by show w.heap.size + 2 < wo.heap.size; omega)).trans x1
                                   have v2 := (bb21.cell (p := ⟨w.heap.size + 2, 2, none⟩) (by show w.heap.size + 2 < wo.heap.size; omega)).trans x2
                                   have v3 := (bb21.cell (p := ⟨w.heap.size + 2, 3, none⟩) (by show w.heap.size + 2 < wo.heap.size; omega)).trans x3
                                   have v4 := (bb21.cell (p := ⟨w.heap.size + 2, 4, none⟩) (by show w.heap.size + 2 < wo.heap.size; omega)).trans x4
                                   have r0 := (bb21.cell (p := ⟨w.heap.size, 0, none⟩) (by show w.heap.size < wo.heap.size; omega)).trans y0
                                   have r1 := (bb21.cell (p := ⟨w.heap.size, 1, none⟩) (by show w.heap.size < wo.heap.size; omega)).trans y1
                                   have r2 := (bb21.cell (p := ⟨w.heap.size, 2, none⟩) (by show w.heap.size < wo.heap.size; omega)).trans y2
                                   have r3 := (bb21.cell (p := ⟨w.heap.size, 3, none⟩) (by show w.heap.size < wo.heap.size; omega)).trans y3
                                   have r4 := (bb21.cell (p := ⟨w.heap.size, 4, none⟩) (by show w.heap.size < wo.heap.size; omega)).trans y4
                                   have q0 := (bb21.frozen (p := ⟨w.heap.size, 0, none⟩) (by show w.heap.size < wo.heap.size; omega)).trans s0
                                   have q1 := (bb21.frozen (p := ⟨w.heap.size, 1, none⟩) (by show w.heap.size < wo.heap.size; omega)).trans s1
                                   have q2 := (bb21.frozen (p := ⟨w.heap.size, 2, none⟩) (by show w.heap.size < wo.heap.size; omega)).trans s2
                                   have q3 := (bb21.frozen (p := ⟨w.heap.size, 3, none⟩) (by show w.heap.size < wo.heap.size; omega)).trans s3
                                   have q4 := (bb21.frozen (p := ⟨w.heap.size, 4, none⟩) (by show w.heap.size < wo.heap.size; omega)).trans s4
                                   have HBB := hide bb21
                                   clear bb21 b21)
                                | fail))
                            all_goals
                              go_wp2
                              refine bodyPost_ret (v := .tuple #[.agg #[.string md, .int .i64 pr, .slice va L2.length vc, .slice ua L3.length uc, .slice xa L.length xc], .bool T]) (by simp [results, Tryd.results44, go_sem, r0, r1, r2, r3, r4]) rfl ?_
                              have oz := Only.trans (Only.trans (Only.trans (Only.trans (Only.set w.heap.size 0 w21 (.string md)) (Only.set w.heap.size 1 _ (.int .i64 pr))) (Only.set w.heap.size 2 _ (.slice va L2.length vc))) (Only.set w.heap.size 3 _ (.slice ua L3.length uc))) (Only.set w.heap.size 4 _ (.slice xa L.length xc))
                              refine ⟨_, _, _, _, _, _, _, _, _, _, _, by rw [HMO.out], (fun _ => ⟨L, by rw [← HXE.out], by rw [← HXE.out], ?_⟩), (HFin.out.trans (HBB.out.mono (by omega))).trans (oz.below (Nat.le_refl _))⟩
                              rw [← HXE.out]
                              exact ((HOB.out.on HBB.out).of_heap fun i hi _ => oz.block i (by omega)).le (by omega)
                          · have hno := hide (mo_more HSO.out HPL.out (by rw [HN.out]; exact hpn))
                            have i7 : ((p4 : Int) == (n : Int)) = false := by
                              cases e : ((p4 : Int) == (n : Int)) with
                              | false => rfl
                              | true => have := eq_of_beq e; omega
                            go_wp2_with fail
                            go_region
                            go_wp2
                            refine bodyPost_ret (v := .tuple #[.agg #[.string md, .int .i64 pr, .slice va L2.length vc, .slice ua L3.length uc, .slice xa L.length xc], .bool false]) (by simp [results, Tryd.results44, go_sem, y0, y1, y2, y3, y4]) rfl ?_
                            refine ⟨_, _, _, _, _, _, _, _, _, _, _, by rw [hno.out], (fun e => by rw [hno.out] at e; cases e), ?_⟩
                            refine Below.drew ?_
                            repeat (refine Below.setCell ?_ (by simp <;> omega) _)
                            exact HFin.out
end Go.Proofs.YtpaljmhoojpbdaaDoor
