/- The model's ReadInterface over its bytes. No condition. -/
import Derived.Test.YtoomnimbokbadaaDoorZMRd
import Derived.Test.YtoomnimbokbadaaDoorZFacBytesS
namespace Go.Proofs.YtoomnimbokbadaaDoor
open Go.ChangeShapes Go.WideShapes Go.ChangeAt Go.RowKit Go.Deep

theorem wp_append_itm {w : World} {ops : Array Oper} {rest : List Oper} {o : Oper} {a : Act} {Q : Exit → Act → World → Prop} (hgd : o.guard = none) (s x : Operand)
    (ho : o.op = .call { callee := .builtin .append, args := #[s, x], argTypes := #[23, 23] }) (B : Nat) (v : Value) (L : List IV) (hs : a.eval s = v) (hown : w.ownsRow B 57 6 v L.length (ic L))
    (b : Nat) (p : IV) (hx : a.eval x = .slice (some ⟨b, 0, none⟩) 1 1) (hnews : ∀ j c, (ic [p])[j]? = some c → w.cell? ((⟨b, 0, none⟩ : Addr).add j) = some c) (hp : p.2.oneCell' = true) (hb : L.length ≤ 1000) (hbase : B ≤ w.heap.size)
    (h : ∀ v' w', w'.ownsRow B 57 6 v' (L ++ [p]).length (ic (L ++ [p])) → w.grownBy w' v.ownBlock → wpList Tryd.prog ops Q rest (a.put o.dst v') w') : wpList Tryd.prog ops Q (o :: rest) a w := by
  obtain ⟨i, hi, hz0, hz1, hz2⟩ := info_parts itmInfo
  refine wpList_append_own w hgd s x _ ho B 57 i (.agg #[.int .i64 0, .int .i64 0, .int .i64 0, .int .i64 0, .string ⟨#[]⟩, .slice none 0 0]) 6 72 Tryd.underlying23 hi hz0 hz1 hz2 rfl (by decide) v L.length (ic L) hs hown ⟨b, 0, none⟩ 1 1 (ic [p]) hx (by rw [ic_len]; rfl) hnews (ic_one _ (fun q hq => by rw [List.mem_singleton] at hq; rw [hq]; exact hp)) (by unfold maxLen; omega) (by omega) hbase fun v' w' h2 h3 _ => ?_
  refine h v' w' ?_ h3
  rw [ic_app, List.length_append]
  exact h2
def oiT : ByteArray := ⟨#[79, 73, 49]⟩
theorem oi_take {l : List Int} (h : ∀ y ∈ l, 0 ≤ y ∧ y ≤ 255) : (bs (l.take 3) = ⟨#[79, 73, 49]⟩) ↔ l.take 3 = [79, 73, 49] := by
  have e : (⟨#[79, 73, 49]⟩ : ByteArray) = bs [79, 73, 49] := by decide
  rw [e]
  exact bs_inj (fun y hy => h y (List.mem_of_mem_take hy)) (by decide)
theorem no_oi {l : List Int} (h : l.take 3 ≠ [79, 73, 49]) : mdOk l = false := by unfold mdOk; simp [h]
theorem short_oi {l : List Int} (h : l.length < 3) : l.take 3 ≠ [79, 73, 49] := by
  intro e
  have := congrArg List.length e
  rw [List.length_take] at this
  simp at this
  omega
theorem Sim.fac {l : List Int} {s1 s2 s3 : Rs} {md : ByteArray} {N : Nat} {its : List Itm} (h1 : Sim rTxt (some (l.drop 3)) s1 md) (h2 : Sim rOne s1 s2 (N : Int)) (h3 : Sim (rIts N) s2 s3 its) : rFac (l.drop 3) = s3.map fun t => (⟨md, its⟩, t) := by
  have h3' : Sim (rIts ((N : Int)).toNat) s2 s3 its := by rw [Int.toNat_natCast]; exact h3
  exact Sim.and (s := some (l.drop 3)) (f := rTxt) (g := fun md => andT rOne fun n => andT (rIts n.toNat) fun l t => some ((⟨md, l⟩ : Fac), t)) h1 (Sim.and h2 (Sim.and h3' (Sim.stay _ _)))
theorem Sim.itm {s0 s1 s2 s3 s4 s5 s6 s7 : Rs} {a b c d : Int} {t : ByteArray} {M : Nat} {ps : List Prm} (h0 : Sim rOne s0 s1 a) (h1 : Sim rOne s1 s2 b) (h2 : Sim rOne s2 s3 c) (h3 : Sim (rNum 8) s3 s4 d) (h4 : Sim rTxt s4 s5 t) (h5 : Sim rOne s5 s6 (M : Int)) (h6 : Sim (rPrs M) s6 s7 ps) : Sim rItm s0 s7 ⟨a, b, c, d, t, ps⟩ := by
  have h6' : Sim (rPrs ((M : Int)).toNat) s6 s7 ps := by rw [Int.toNat_natCast]; exact h6
  exact Sim.and h0 (Sim.and h1 (Sim.and h2 (Sim.and h3 (Sim.and h4 (Sim.and h5 (Sim.and h6' (Sim.stay _ _)))))))
theorem md_bad {l : List Int} {x : Fac} (h : rFac (l.drop 3) = (none : Rs).map fun t => (x, t)) : mdOk l = false := by
  have h' : rFac (l.drop 3) = none := h
  unfold mdOk
  rw [h']
  simp
theorem md_more {l : List Int} {x : Fac} {p : Nat} (h : rFac (l.drop 3) = (some (l.drop p) : Rs).map fun t => (x, t)) (hp : p ≤ l.length) (hn : p ≠ l.length) : mdOk l = false := by
  have h' : rFac (l.drop 3) = some (x, l.drop p) := h
  unfold mdOk
  rw [h']
  have : l.drop p ≠ [] := by
    intro e
    have := congrArg List.length e
    rw [List.length_drop] at this
    simp at this
    omega
  match hd : l.drop p, this with
  | _ :: _, _ => simp
theorem md_all {l : List Int} {x : Fac} (h : rFac (l.drop 3) = (some (l.drop l.length) : Rs).map fun t => (x, t)) (h3 : l.take 3 = [79, 73, 49]) : rFac (l.drop 3) = some (x, []) ∧ mdOk l = (facB x && decide (facBytes x = l)) := by
  have h' : rFac (l.drop 3) = some (x, []) := by
    rw [h, List.drop_of_length_le (Nat.le_refl _)]
    rfl
  refine ⟨h', ?_⟩
  unfold mdOk
  rw [h', h3]
  simp
def RdPost (l : List Int) (w : World) (e : Ending) (w' : World) : Prop := (∃ v L, e = .returned (.tuple #[.agg #[.string (rdV l).module, v], .int .i64 (rdC l)]) ∧ IRow w' w.heap.size v L ∧ L.map Prod.fst = (rdV l).items) ∧ Below w.heap.size w w'
theorem RdPost.no {l : List Int} {w w' : World} (h : rdV l = ⟨⟨#[]⟩, []⟩ ∧ rdC l = 3) (hb : Below w.heap.size w w') : RdPost l w (.returned (.tuple #[.agg #[.string ⟨#[]⟩, .slice none 0 0], .int .i64 3])) w' :=
  ⟨⟨_, [], by rw [h.1, h.2], IRow.nil _ _, by rw [h.1]; rfl⟩, hb⟩
set_option maxRecDepth 100000 in
set_option maxHeartbeats 16000000 in
theorem specRead_any (g o c : Nat) (m : Md) (l : List Int) (w : World) (h : SlAt BAt 1 w m (.slice (some ⟨g, o, none⟩) l.length c) l) (hc : l.length ≤ c) (hm : m.hi ≤ w.heap.size) (hl : l.length ≤ 1099511627776) :
    Calls Tryd.prog 24 #[.slice (some ⟨g, o, none⟩) l.length c] w fun e w' => RdPost l w e w' := by
  have HS := hide h
  have Hin : Hid (∀ y ∈ l, 0 ≤ y ∧ y ≤ 255) := by
    refine hide fun y hy => ?_
    obtain ⟨a, cc, -, hr⟩ := h
    obtain ⟨i, hi, rfl⟩ := List.getElem_of_mem hy
    obtain ⟨b, o', -, -, -, -, h1⟩ := hr i hi
    exact h1.2
  have HO : Hid (mdOk l = rdOk l) := hide (mdOk_eq Hin.out)
  clear h
  obtain ⟨n, hn⟩ : ∃ n, l.length = n := ⟨_, rfl⟩
  have HN := hide hn
  rw [hn] at HS hc hl
  rw [hn]
  by_cases c1 : 65536 < n
  · have i1 : (65536 : Int) < n := by omega
    have hV : rdV l = ⟨⟨#[]⟩, []⟩ := by unfold rdV; rw [if_neg (by omega)]
    have hC : rdC l = 2 := by unfold rdC; rw [if_neg (by omega)]
    have HVC := hide (And.intro hV hC)
    clear hV hC hn
    go_enter Tryd.func24, Tryd.ntmps24
    go_wp2
    refine bodyPost_ret (v := .tuple #[.agg #[.string ⟨#[]⟩, .slice none 0 0], .int .i64 2]) (by simp [results, Tryd.results24, go_sem]) rfl ?_
    exact ⟨⟨_, [], by rw [HVC.out.1, HVC.out.2], IRow.nil _ _, by rw [HVC.out.1]; rfl⟩, (Below.refl _ _).alloc (Nat.le_refl _) _⟩
  · have i1 : ¬ (65536 : Int) < n := by omega
    have hle : l.length ≤ 65536 := by omega
    have HV0 : Hid (mdOk l = false → rdV l = ⟨⟨#[]⟩, []⟩ ∧ rdC l = 3) := hide fun e => by
      have e2 : rdOk l = false := by rw [← HO.out]; exact e
      unfold rdV rdC
      rw [e2, if_neg (by simp), if_pos hle]
      exact ⟨rfl, rfl⟩
    have HV1 : Hid (∀ x, mdOk l = true → rFac (l.drop 3) = some (x, []) → rdV l = x ∧ rdC l = 0) := hide fun x e hx => by
      have e2 : rdOk l = true := by rw [← HO.out]; exact e
      unfold rdV rdC
      rw [e2, if_pos ⟨hle, rfl⟩, if_pos hle]
      exact ⟨(fac_rd hx).symm, rfl⟩
    by_cases c2 : n < 3
    · have i2 : (n : Int) < 3 := by omega
      have HVC := hide (HV0.out (no_oi (short_oi (by omega))))
      clear hle hn
      go_enter Tryd.func24, Tryd.ntmps24
      go_wp2
      refine bodyPost_ret (v := .tuple #[.agg #[.string ⟨#[]⟩, .slice none 0 0], .int .i64 3]) (by simp [results, Tryd.results24, go_sem]) rfl ?_
      refine RdPost.no HVC.out ?_
      repeat (refine Below.setCell ?_ (by simp <;> omega) _)
      exact ((Below.refl _ _).alloc (Nat.le_refl _) _).alloc (by simp) _
    · have i2 : ¬ (n : Int) < 3 := by omega
      have i3 : (3 : Nat) ≤ c := by omega
      obtain ⟨w0, hw0⟩ : ∃ w0, w0 = (w.alloc (.cells #[.string ⟨#[]⟩, .slice none 0 0] 25)).alloc (.cells #[.slice (some ⟨g, o, none⟩) n c, .int .i64 0, .bool false] 66) := ⟨_, rfl⟩
      have hb0 : Below w.heap.size w w0 := by rw [hw0]; exact ((Below.refl _ _).alloc (Nat.le_refl _) _).alloc (by simp) _
      have hs0 : w0.heap.size = w.heap.size + 2 := by rw [hw0]; simp
      have hy0 : w0.heap[w.heap.size]? = some (.cells #[.string ⟨#[]⟩, .slice none 0 0] 25 (0, 0)) := by
        rw [hw0, Below.heap_alloc _ _ _ (by simp)]
        exact Deep.blk_alloc_new w (.cells #[.string ⟨#[]⟩, .slice none 0 0] 25)
      have hr0 : w0.heap[w.heap.size + 1]? = some (.cells #[.slice (some ⟨g, o, none⟩) n c, .int .i64 0, .bool false] 66 (0, 0)) := by
        rw [hw0]
        have := Deep.blk_alloc_new (w.alloc (.cells #[.string ⟨#[]⟩, .slice none 0 0] 25)) (.cells #[.slice (some ⟨g, o, none⟩) n c, .int .i64 0, .bool false] 66)
        rwa [World.size_alloc] at this
      have HS0 := hide (HS.out.on BAt.stays (hb0.mono hm))
      obtain ⟨s, hs⟩ : ∃ s, bs (l.take 3) = s := ⟨_, rfl⟩
      have hcv : (convert 22 9 (.slice (some ⟨g, o, none⟩) 3 c)).run Tryd.prog w0 = .ok (.string s) w0 := by
        rw [← hs]
        exact conv_text (slat_take (c' := c) HS0.out 3 (by omega) i3)
      have HY0 := hide hy0
      have HB0 := hide hb0
      have HSs := hide hs
      have HN' : Hid (l.length ≤ 1099511627776) := hide (by omega)
      obtain ⟨w3, hw3⟩ : ∃ w3, w3 = (w.alloc (.cells #[.string ⟨#[]⟩, .slice none 0 0] 25)).alloc (.cells #[.slice (some ⟨g, o, none⟩) n c, .int .i64 3, .bool false] 66) := ⟨_, rfl⟩
      have b3 : Below w.heap.size w w3 := by rw [hw3]; exact ((Below.refl _ _).alloc (Nat.le_refl _) _).alloc (by simp) _
      have hs3 : w3.heap.size = w.heap.size + 2 := by rw [hw3]; simp
      have hy3 : w3.heap[w.heap.size]? = some (.cells #[.string ⟨#[]⟩, .slice none 0 0] 25 (0, 0)) := by
        rw [hw3, Below.heap_alloc _ _ _ (by simp)]
        exact Deep.blk_alloc_new w (.cells #[.string ⟨#[]⟩, .slice none 0 0] 25)
      have hr3 : w3.heap[w.heap.size + 1]? = some (.cells #[.slice (some ⟨g, o, none⟩) n c, .int .i64 3, .bool false] 66 (0, 0)) := by
        rw [hw3]
        have := Deep.blk_alloc_new (w.alloc (.cells #[.string ⟨#[]⟩, .slice none 0 0] 25)) (.cells #[.slice (some ⟨g, o, none⟩) n c, .int .i64 3, .bool false] 66)
        rwa [World.size_alloc] at this
      have HM3 : Hid (MR w3 (w.heap.size + 1) m l 3 false) := hide ⟨g, o, c, by rw [HN.out]; exact HS.out.on BAt.stays (b3.mono hm), by rw [HN.out]; exact hc, ⟨by rw [HN.out]; exact (heapCells hr3).1 0, (heapCells hr3).1 1, (heapCells hr3).1 2⟩, ⟨(heapCells hr3).2 1, (heapCells hr3).2 2⟩, by omega, by omega⟩
      have HW3 := hide hw3
      have HB3 := hide b3
      have HY3 := hide hy3
      clear b3 hw3 hy3 hr3
      rw [hw0] at hcv
      clear hs hn hle hb0 hy0 hr0 HY0 HB0 HS0
      cases hq : (s.toList == [79, 73, 49]) with
      | false =>
        have hVC := hide (HV0.out (no_oi fun e => by
          have : s.toList = [79, 73, 49] := by rw [← HSs.out, (oi_take Hin.out).2 e]; exact txt_toList [79, 73, 49]
          rw [this] at hq
          cases hq))
        clear hw0 hs0 hs3 HM3 HW3 HY3 HB3
        go_enter Tryd.func24, Tryd.ntmps24
        go_wp2
        refine bodyPost_ret (v := .tuple #[.agg #[.string ⟨#[]⟩, .slice none 0 0], .int .i64 3]) (by simp [results, Tryd.results24, go_sem]) rfl ?_
        refine RdPost.no hVC.out ?_
        repeat (refine Below.setCell ?_ (by simp <;> omega) _)
        exact ((Below.refl _ _).alloc (Nat.le_refl _) _).alloc (by simp) _
      | true =>
        have HOI : Hid (l.take 3 = [79, 73, 49]) := hide ((oi_take Hin.out).1 (by
          rw [HSs.out]
          have := eq_of_beq hq
          have e2 : s.toList = (⟨#[79, 73, 49]⟩ : ByteArray).toList := by rw [this]; exact (txt_toList [79, 73, 49]).symm
          rw [ByteArray.toList_eq, ByteArray.toList_eq] at e2
          have e3 := congrArg List.toArray e2
          cases s
          simpa using e3))
        clear HO
        go_enter Tryd.func24, Tryd.ntmps24
        go_wp2_with fail
        rw [← HW3.out]
        clear hcv hw0 hs0 HW3
        refine (show Calls Tryd.prog 45 #[.pointer (some ⟨w.heap.size + 1, 0, none⟩)] w3 _ from mText_any (w.heap.size + 1) m l 3 false _ HN'.out HM3.out).mono ?_
        rintro e w1 ⟨md, p1, b1, rfl, hs1, hmd, hm1, o1⟩
        have hsz1 : w1.heap.size = w.heap.size + 2 := o1.size.trans hs3
        have F1 := hide (FrB.of_only (B := w.heap.size + 2) o1)
        have hmd' : md.size ≤ maxLen := by unfold maxLen; omega
        have HMD := hide hmd'
        have HS1 := hide hs1
        clear o1 HM3 hs3 hs1 hmd hmd'
        go_wp2_with fail
        have bX : Below w1.heap.size w1 (w1.alloc (.cells #[.string md, .slice none 0 0] 25)) := (Below.refl _ _).alloc (Nat.le_refl _) _
        have hx2 : (w1.alloc (.cells #[.string md, .slice none 0 0] 25)).heap[w.heap.size + 2]? = some (.cells #[.string md, .slice none 0 0] 25 (0, 0)) := by
          have := Deep.blk_alloc_new w1 (.cells #[.string md, .slice none 0 0] 25)
          rwa [hsz1] at this
        have hmX := hm1.out.below bX (by omega)
        refine (mOne_any (w.heap.size + 1) m l p1 b1 _ HN'.out hmX).mono ?_
        rintro e w4 ⟨y, p2, b2, rfl, hs2, ⟨y0, y1⟩, hm2, o2⟩
        obtain ⟨N, rfl⟩ : ∃ k : Nat, y = k := ⟨y.toNat, by omega⟩
        have hRX : w.heap.size + 2 ≠ w.heap.size + 1 := by omega
        have HX4 := hide ((o2.block _ hRX).trans hx2)
        have hs4 : w4.heap.size = w.heap.size + 3 := by rw [o2.size]; simp [hsz1]
        have F4 := hide ((F1.out.trans (.of_below (bX.mono (by omega)))).trans (.of_only o2))
        have HS2 := hide hs2
        have HM4 := hide hm2
        have HNN : Hid (N ≤ 255) := hide (by omega)
        clear bX hx2 hmX o2 hs2 hm2 hsz1 hm1 F1 y0 y1
        go_wp2_with fail
        go_loopw [6] (fun i wr => ∃ (q j p : Nat) (b : Bool) (v : Value) (L : List IV), i = .int .i64 q ∧ q + j = N ∧ Hid (wr.heap[w.heap.size + 2]? = some (.cells #[.string md, v] 25 (0, 0))) ∧ Hid (IRow wr (w.heap.size + 3) v L) ∧ L.length = j ∧ Hid (Sim (rIts j) (rp l p2 b2) (rp l p b) (L.map Prod.fst)) ∧ Hid (MR wr (w.heap.size + 1) m l p b) ∧ Hid (FrB (w.heap.size + 1) (w.heap.size + 2) w3 wr) ∧ w.heap.size + 3 ≤ wr.heap.size) (fun i _ => (intOf i).toNat)
        case atStart => exact ⟨N, 0, p2, b2, _, [], rfl, by omega, HX4, hide (IRow.nil _ _), rfl, hide (Sim.stay _ _), HM4, F4, by omega⟩
        case round =>
          obtain ⟨q, j, p, b, v, L, rfl, hqj, Hx, Hi, hj, Hs, Hm, Hf, hsz⟩ := hrel
          obtain ⟨va, vn, vc, rfl⟩ := irow_form Hi.out
          by_cases hgo : 0 < q ∧ b = false
          · obtain ⟨hq0, rfl⟩ := hgo
            obtain ⟨wo, rfl⟩ : ∃ wo, wo = wr := ⟨_, rfl⟩
            have i6 : (0 : Int) < q := by omega
            have k2 : wo.cell? ⟨w.heap.size + 1, 2, none⟩ = some (.bool false) := by obtain ⟨g', o', c', -, -, ⟨-, -, k2⟩, -⟩ := Hm.out; exact k2
            go_wp2_with fail
            refine (mOne_any (w.heap.size + 1) m l p false _ HN'.out Hm.out).mono ?_
            rintro e wa ⟨a0, pa, ba, rfl, hsa, ⟨a00, a01⟩, hma, oa⟩
            have HSA := hide hsa
            have HMA := hide hma
            have OA := hide oa
            have hn0 : I64 a0 := by unfold I64; omega
            have HI0 := hide hn0
            clear k2 hsa hma oa a00 a01 hn0
            go_wp2_with fail
            refine (mOne_any (w.heap.size + 1) m l pa ba _ HN'.out HMA.out).mono ?_
            rintro e wb ⟨a1, pb, bb, rfl, hsa, ⟨a00, a01⟩, hma, oa⟩
            have HSB := hide hsa
            have HMB := hide hma
            have OB := hide (OA.out.trans oa)
            have hn0 : I64 a1 := by unfold I64; omega
            have HI1 := hide hn0
            clear hsa hma oa a00 a01 hn0
            go_wp2_with fail
            refine (mOne_any (w.heap.size + 1) m l pb bb _ HN'.out HMB.out).mono ?_
            rintro e wc ⟨a2, pc, bc, rfl, hsa, ⟨a00, a01⟩, hma, oa⟩
            have HSC := hide hsa
            have HMC := hide hma
            have OC := hide (OB.out.trans oa)
            have hn0 : I64 a2 := by unfold I64; omega
            have HI2 := hide hn0
            clear hsa hma oa a00 a01 hn0
            go_wp2_with fail
            refine (mEight_any (w.heap.size + 1) m l pc bc _ HN'.out HMC.out).mono ?_
            rintro e wd ⟨a3, rfl, hi3, pd, bd, hsa, hma, oa⟩
            have HSD := hide hsa
            have HMD2 := hide hma
            have OD := hide (OC.out.trans oa)
            have HI3 := hide hi3
            clear hsa hma oa hi3
            go_wp2_with fail
            refine (mText_any (w.heap.size + 1) m l pd bd _ HN'.out HMD2.out).mono ?_
            rintro e we ⟨t, pe, be, rfl, hsa, ht5, hma, oa⟩
            have HSE := hide hsa
            have oe := OD.out.trans oa
            have HT5 := hide ht5
            have hze : we.heap.size = wo.heap.size := oe.size
            go_wp2_with fail
            have bK : Below we.heap.size we (we.alloc (.cells #[.int .i64 a0, .int .i64 a1, .int .i64 a2, .int .i64 a3, .string t, .slice none 0 0] 57)) := (Below.refl _ _).alloc (Nat.le_refl _) _
            have hk0 : (we.alloc (.cells #[.int .i64 a0, .int .i64 a1, .int .i64 a2, .int .i64 a3, .string t, .slice none 0 0] 57)).heap[wo.heap.size]? = some (.cells #[.int .i64 a0, .int .i64 a1, .int .i64 a2, .int .i64 a3, .string t, .slice none 0 0] 57 (0, 0)) := by
              have := Deep.blk_alloc_new we (.cells #[.int .i64 a0, .int .i64 a1, .int .i64 a2, .int .i64 a3, .string t, .slice none 0 0] 57)
              rwa [hze] at this
            have hmk := hma.out.below bK (by omega)
            refine (mOne_any (w.heap.size + 1) m l pe be _ HN'.out hmk).mono ?_
            rintro e wg ⟨y, p6, b6, rfl, hs6, ⟨y0, y1⟩, hm6, o6⟩
            obtain ⟨M, rfl⟩ : ∃ k : Nat, y = k := ⟨y.toNat, by omega⟩
            have hZR : wo.heap.size ≠ w.heap.size + 1 := by omega
            have HK6 := hide ((o6.block _ hZR).trans hk0)
            have FG := hide (((FrB.of_only (B := wo.heap.size) oe).trans (.of_below (bK.mono (by omega)))).trans (.of_only o6))
            have hsg : wg.heap.size = wo.heap.size + 1 := by rw [o6.size]; simp [hze]
            have HS6 := hide hs6
            have HM6 := hide hm6
            have HMM : Hid (M ≤ 255) := hide (by omega)
            clear bK hk0 hmk o6 hs6 hm6 y0 y1 hsa ht5 hma oa oe hze OA OB OC OD HMA HMB HMC HMD2
            go_wp2_with fail
            go_loopw [8] (fun i wi => ∃ (q2 j2 p7 : Nat) (b7 : Bool) (u : Value) (ps : List Prm), i = .int .i64 q2 ∧ q2 + j2 = M ∧ Hid (wi.heap[wo.heap.size]? = some (.cells #[.int .i64 a0, .int .i64 a1, .int .i64 a2, .int .i64 a3, .string t, u] 57 (0, 0))) ∧ Hid (PRow wi (wo.heap.size + 1) u ps) ∧ ps.length = j2 ∧ Hid (∀ x ∈ ps, I64 x.1) ∧ Hid (Sim (rPrs j2) (rp l p6 b6) (rp l p7 b7) ps) ∧ Hid (MR wi (w.heap.size + 1) m l p7 b7) ∧ Hid (FrB (w.heap.size + 1) wo.heap.size wo wi) ∧ wo.heap.size + 1 ≤ wi.heap.size) (fun i _ => (intOf i).toNat)
            case atStart => exact ⟨M, 0, p6, b6, _, [], rfl, by omega, HK6, hide (World.ownsRow_nil _ _ _ _), rfl, hide (fun x hx => by cases hx), hide (Sim.stay _ _), HM6, FG, by omega⟩
            case round =>
              obtain ⟨q2, j2, p7, b7, u, ps, rfl, hqj2, Hk, Hp, hj2, Hn, Hs7, Hm7, Hf7, hsz7⟩ := hrel
              obtain ⟨ua, un, uc, rfl⟩ := prow_form Hp.out
              by_cases hgo2 : 0 < q2 ∧ b7 = false
              · obtain ⟨hq2, rfl⟩ := hgo2
                have i8 : (0 : Int) < q2 := by omega
                have hw8 : wrap64 ((q2 : Int) - 1) = ((q2 - 1 : Nat) : Int) := by have := HMM.out; unfold wrap64; omega
                have k2 : wr.cell? ⟨w.heap.size + 1, 2, none⟩ = some (.bool false) := by obtain ⟨g', o', c', -, -, ⟨-, -, k2⟩, -⟩ := Hm7.out; exact k2
                go_wp2_with (first
                  | (go_at_call 46
                     refine (mOne_any (w.heap.size + 1) m l p7 false _ HN'.out Hm7.out).mono ?_
                     rintro e w1' ⟨y, p8, b8, rfl, hs8, ⟨y0, y1⟩, hm8, o8⟩
                     have hk1 := (o8.block _ hZR).trans Hk.out
                     have c5 : w1'.cell? ⟨wo.heap.size, 5, none⟩ = some (.slice ua un uc) := (heapCells hk1).1 5
                     have z5 := (heapCells hk1).2 5
                     have HK1 := hide hk1
                     have HS8 := hide hs8
                     have HM8 := hide hm8
                     have O8 := hide o8
                     have hs1' : wo.heap.size + 1 ≤ w1'.heap.size := by rw [o8.size]; exact hsz7
                     have hpa : Hid (PRow (w1'.alloc (.cells #[.int .i64 (y % 8), .bool (decide (8 ≤ y))] 70)) (wo.heap.size + 1) (.slice ua un uc) ps) := hide (PRow.on (Hp.out.of_heap fun j hj _ _ => o8.block j (by omega)) ((Below.refl _ _).alloc (Nat.le_refl _) _))
                     clear hk1 hs8 hm8 o8)
                  | (at_builtin
                     refine wp_append_prm rfl _ _ rfl (wo.heap.size + 1) (.slice ua un uc) ps rfl hpa.out w1'.heap.size (y % 8, decide (8 ≤ y)) rfl (prm_new w1' _ _).1 (prm_new w1' _ _).2 (by have := HMM.out; omega) (by simp; omega) ?_
                     intro v' w2' hp2 hg2
                     obtain ⟨ta, tn, tc, rfl⟩ := prow_form hp2
                     have X := hide (And.intro hp2 hg2)
                     have hx2 := (hg2.block wo.heap.size (by simp; omega) (own_far hpa.out (by omega))).trans ((Below.heap_alloc _ _ _ (by omega)).trans HK1.out)
                     have c52 : w2'.cell? ⟨wo.heap.size, 5, none⟩ = some (.slice ua un uc) := (heapCells hx2).1 5
                     have z52 := (heapCells hx2).2 5
                     have HX2 := hide hx2
                     clear hp2 hg2 hx2))
                obtain ⟨hp2, hg2⟩ := X.out
                have bA : Below wo.heap.size w1' (w1'.alloc (.cells #[.int .i64 (y % 8), .bool (decide (8 ≤ y))] 70)) := (Below.refl _ _).alloc (by omega) _
                have bB : Below wo.heap.size w1' w2' := Below.grown bA hg2 (by simp; omega) (fun j hj => by have := (hpa.out.lt j hj).1; omega)
                have bC : Below wo.heap.size w1' (w2'.setCell ⟨wo.heap.size, 5, none⟩ (.slice ta tn tc)) := bB.setCell (p := ⟨wo.heap.size, 5, none⟩) (Nat.le_refl _) _
                have hs2 := bC.size
                have hR1 := HM8.out.below bC (by omega)
                have hP1 : PRow (w2'.setCell ⟨wo.heap.size, 5, none⟩ (.slice ta tn tc)) (wo.heap.size + 1) (.slice ta tn tc) (ps ++ [(y % 8, decide (8 ≤ y))]) :=
                  ownsRow_setCell_below hp2 (a := ⟨wo.heap.size, 5, none⟩) (by show wo.heap.size < wo.heap.size + 1; omega) _
                have hN1 : ∀ x ∈ ps ++ [(y % 8, decide (8 ≤ y))], I64 x.1 := by
                  intro x hx
                  rcases List.mem_append.1 hx with hx | hx
                  · exact Hn.out x hx
                  · rw [List.mem_singleton] at hx
                    subst hx
                    unfold I64
                    simp only
                    omega
                have hM9 := HMM.out
                go_roundw
                case rel => exact ⟨q2 - 1, j2 + 1, p8, b8, _, _, by go_num, by omega, hide (block_set HX2.out _), hide hP1, by simp [hj2], hide hN1, hide (Sim.and Hs7.out (Sim.and HS8.out (Sim.stay _ _))), hide hR1, hide ((Hf7.out.trans (.of_only O8.out)).trans (.of_below bC)), by omega⟩
                case measure => simp [intOf]; omega
              · have HSM : Hid (Sim (rPrs M) (rp l p6 b6) (rp l p7 b7) ps) := by
                  refine hide ?_
                  by_cases hq0 : q2 = 0
                  · have : j2 = M := by omega
                    rw [← this]; exact Hs7.out
                  · have hb : b7 = true := by cases b7 with
                      | true => rfl
                      | false => exact absurd ⟨by omega, rfl⟩ hgo2
                    subst hb
                    have := Sim.prs_end Hs7.out (M - j2) ps
                    rwa [show j2 + (M - j2) = M by omega] at this
                have HSI : Hid (Sim (rIts (j + 1)) (rp l p2 b2) (rp l p7 b7) (L.map Prod.fst ++ [⟨a0, a1, a2, a3, t, ps⟩])) := hide (Sim.and Hs.out (Sim.and (Sim.itm HSA.out HSB.out HSC.out HSD.out HSE.out HS6.out HSM.out) (Sim.stay _ _)))
                have k2 : wr.cell? ⟨w.heap.size + 1, 2, none⟩ = some (.bool b7) := by obtain ⟨g', o', c', -, -, ⟨-, -, k2⟩, -⟩ := Hm7.out; exact k2
                have hkc := (heapCells Hk.out).1
                have d0 : wr.cell? ⟨wo.heap.size, 0, none⟩ = some (.int .i64 a0) := hkc 0
                have d1 : wr.cell? ⟨wo.heap.size, 1, none⟩ = some (.int .i64 a1) := hkc 1
                have d2 : wr.cell? ⟨wo.heap.size, 2, none⟩ = some (.int .i64 a2) := hkc 2
                have d3 : wr.cell? ⟨wo.heap.size, 3, none⟩ = some (.int .i64 a3) := hkc 3
                have d4 : wr.cell? ⟨wo.heap.size, 4, none⟩ = some (.string t) := hkc 4
                have d5 : wr.cell? ⟨wo.heap.size, 5, none⟩ = some (.slice ua un uc) := hkc 5
                have hX7 := (Hf7.out.block (w.heap.size + 2) (by omega) (by omega)).trans Hx.out
                have x1 : wr.cell? ⟨w.heap.size + 2, 1, none⟩ = some (.slice va vn vc) := (heapCells hX7).1 1
                have HX7 := hide hX7
                have hlo : ∀ k, w.heap.size + 2 ≤ k → k < wo.heap.size → (wr.alloc (.cells #[.int .i64 a0, .int .i64 a1, .int .i64 a2, .int .i64 a3, .string t, .slice ua un uc] 57)).heap[k]? = wo.heap[k]? := fun k h1 h2 => (Below.heap_alloc _ _ _ (by omega)).trans (Hf7.out.block k h2 (by omega))
                have HLo := hide hlo
                have hIt : ItNum ⟨a0, a1, a2, a3, t, ps⟩ := ⟨HI0.out, HI1.out, HI2.out, HI3.out, HT5.out, by have := HMM.out; show ps.length ≤ 255; omega, Hn.out⟩
                have HIt := hide hIt
                have hlen : L.length ≤ 1000 := by have := HNN.out; omega
                have hi9 : q2 = 0 ∨ (0 < q2 ∧ b7 = true) := by
                  rcases Nat.eq_zero_or_pos q2 with h | h
                  · exact .inl h
                  · refine .inr ⟨h, ?_⟩
                    cases b7 with
                    | true => rfl
                    | false => exact absurd ⟨h, rfl⟩ hgo2
                clear hkc hX7 hlo hIt hgo2
                have hw9 : wrap64 ((q : Int) - 1) = ((q - 1 : Nat) : Int) := by have := HNN.out; unfold wrap64; omega
                rcases hi9 with rfl | ⟨hq9, rfl⟩
                all_goals
                  try have i9 : (0 : Int) < q2 := by omega
                  go_wp2_with (at_builtin
                               refine wp_append_itm rfl _ _ rfl (w.heap.size + 3) (.slice va vn vc) L rfl (owns_heap Hi.out.1 fun k h1 h2 => HLo.out k (by omega) h2) wr.heap.size (⟨a0, a1, a2, a3, t, ps⟩, .slice ua un uc) rfl (itm_new wr a0 a1 a2 a3 t ps (.slice ua un uc) rfl) rfl hlen (by simp; omega) ?_
                               intro v' w2' ho hg
                               have hx2 := (hg.block (w.heap.size + 2) (by simp; omega) (irow_far Hi.out (by omega))).trans ((HLo.out _ (Nat.le_refl _) (by omega)).trans Hx.out)
                               have c2' : w2'.cell? ⟨w.heap.size + 2, 1, none⟩ = some (.slice va vn vc) := (heapCells hx2).1 1
                               have z2' := (heapCells hx2).2 1
                               obtain ⟨ta, tn, tc, rfl⟩ : ∃ a n c, v' = .slice a n c := by
                                 rcases ho.2 with ⟨e, -⟩ | ⟨g, cap, _, e, -⟩
                                 · exact ⟨_, _, _, e⟩
                                 · exact ⟨_, _, _, e⟩
                               have HG := hide (And.intro ho (And.intro hg hx2))
                               clear ho hg hx2)
                  obtain ⟨ho, hg, hx2⟩ := HG.out
                  have bA : Below (w.heap.size + 2) wr (wr.alloc (.cells #[.int .i64 a0, .int .i64 a1, .int .i64 a2, .int .i64 a3, .string t, .slice ua un uc] 57)) := (Below.refl _ _).alloc (by omega) _
                  have bB : Below (w.heap.size + 2) wr w2' := Below.grown bA hg (by simp; omega) (fun j hj => by have := (Hi.out.1.lt j hj).1; omega)
                  have bC : Below (w.heap.size + 2) wr (w2'.setCell ⟨w.heap.size + 2, 1, none⟩ (.slice ta tn tc)) := bB.setCell (p := ⟨w.heap.size + 2, 1, none⟩) (Nat.le_refl _) _
                  have hP := IRow.push Hi.out (fun k hk hk2 => HLo.out k (by omega) hk2) ((PRow.on Hp.out ((Below.refl _ _).alloc (Nat.le_refl _) _)).le (Nat.le_succ _)) HIt.out hsz hg ho
                  have HP := hide (IRow.of_heap (w' := w2'.setCell ⟨w.heap.size + 2, 1, none⟩ (.slice ta tn tc)) hP fun k hk _ => Below.heap_setCell _ _ _ _ (by show k ≠ w.heap.size + 2; omega))
                  have HX5 := hide (block_set hx2 (o := 1) (.slice ta tn tc))
                  have HR5 := hide (Hm7.out.below bC (by omega))
                  have HF5 := hide ((Hf.out.trans (show FrB (w.heap.size + 1) (w.heap.size + 2) wo wr from ⟨Hf7.out.os, Hf7.out.tape, Hf7.out.output, Hf7.out.size, fun k hk hr => Hf7.out.block k (by omega) hr⟩)).trans (.of_below bC))
                  have hs5 := bC.size
                  have hN9 := HNN.out
                  clear ho hg hx2 bA bB bC hP
                  go_roundw
                  case rel => exact ⟨q - 1, j + 1, p7, _, _, _, by go_num, by omega, HX5, HP, by simp [hj], by rw [List.map_append]; exact HSI, HR5, HF5, by omega⟩
                  case measure => simp [intOf]; omega
          · have HSN : Hid (Sim (rIts N) (rp l p2 b2) (rp l p b) (L.map Prod.fst)) := by
              refine hide ?_
              by_cases hq0 : q = 0
              · have : j = N := by omega
                rw [← this]; exact Hs.out
              · have hb : b = true := by cases b with
                  | true => rfl
                  | false => exact absurd ⟨by omega, rfl⟩ hgo
                subst hb
                have := Sim.its_end Hs.out (N - j) (L.map Prod.fst)
                rwa [show j + (N - j) = N by omega] at this
            have HR : Hid (rFac (l.drop 3) = (rp l p b).map fun t => (⟨md, L.map Prod.fst⟩, t)) := hide (Sim.fac HS1.out HS2.out HSN.out)
            have hya : wr.heap[w.heap.size]? = _ := (Hf.out.block _ (by omega) (by omega)).trans HY3.out
            have q0 : wr.cell? ⟨w.heap.size, 0, none⟩ = some (.string ⟨#[]⟩) := (heapCells hya).1 0
            have q1 : wr.cell? ⟨w.heap.size, 1, none⟩ = some (.slice none 0 0) := (heapCells hya).1 1
            have s0 := (heapCells hya).2 0
            have s1 := (heapCells hya).2 1
            obtain ⟨g', o', c', -, -, ⟨k0, k1, k2⟩, -, -, hpl⟩ := Hm.out
            have HPL := hide hpl
            have hlast : q = 0 ∨ (0 < q ∧ b = true) := by
              rcases Nat.eq_zero_or_pos q with h | h
              · exact .inl h
              · refine .inr ⟨h, ?_⟩
                cases b with
                | true => rfl
                | false => exact absurd ⟨h, rfl⟩ hgo
            have hfin : Below w.heap.size w wr := HB3.out.trans ⟨Hf.out.os, Hf.out.tape, Hf.out.output, Hf.out.size, fun k hk => Hf.out.block k (by omega) (by omega)⟩
            have HFin := hide hfin
            clear hya hfin hgo
            cases b with
            | true =>
              have hVC := hide (HV0.out (md_bad HR.out))
              have hloop : q = 0 ∨ 0 < q := by omega
              rcases hloop with rfl | hq0
              all_goals
                clear hlast
                try have i6 : (0 : Int) < q := by omega
                go_wp2
                go_quiet (fail)
                go_wp2
                refine bodyPost_ret (v := .tuple #[.agg #[.string ⟨#[]⟩, .slice none 0 0], .int .i64 3]) (by simp [results, Tryd.results24, go_sem, q0, q1]) rfl ?_
                refine RdPost.no hVC.out ?_
                repeat (refine Below.setCell ?_ (by simp <;> omega) _)
                exact HFin.out.trans ((Only.drew w.heap.size _ _).below (Nat.le_refl _))
            | false =>
              obtain rfl : q = 0 := by
                rcases hlast with h | ⟨-, h⟩
                · exact h
                · cases h
              clear hlast
              by_cases hpn : p = n
              · obtain ⟨hrf, hmo⟩ := md_all (x := ⟨md, L.map Prod.fst⟩) (l := l) (by have := HR.out; rw [hpn, ← HN.out] at this; exact this) HOI.out
                have i7 : (p : Int) = (n : Int) := by omega
                have i6 : ((p : Int) == (n : Int)) = true := by simpa using i7
                have HRF := hide hrf
                have hx0 : wr.cell? ⟨w.heap.size + 2, 0, none⟩ = some (.string md) := (heapCells Hx.out).1 0
                have hx1 : wr.cell? ⟨w.heap.size + 2, 1, none⟩ = some (.slice va vn vc) := (heapCells Hx.out).1 1
                have hll : L.length ≤ maxLen := by have := HNN.out; unfold maxLen; omega
                have HF := hide (facat_of_row (x := ⟨md, L.map Prod.fst⟩) Hi.out rfl HMD.out (by simpa using hll))
                have HMS := hide (HS.out.on BAt.stays ((HFin.out).mono hm))
                obtain ⟨x, hx⟩ : ∃ x, (⟨md, L.map Prod.fst⟩ : Fac) = x := ⟨_, rfl⟩
                have HXE := hide hx
                simp only [] at HF
                rw [hx] at HF hmo HRF
                have HMO := hide hmo
                have HD := hide (show wr.heap.size ≤ wr.drew.heap.size from Nat.le_refl _)
                have HIO : Hid (∀ w', Below wr.heap.size wr w' → Calls Tryd.prog 15 #[.agg #[.string md, .slice va vn vc]] w' fun e w2 => e = .returned (.bool (facB x)) ∧ Below w'.heap.size w' w2) := hide fun w' bel =>
                  (specInterfaceOK_any _ _ x w' (HF.out.on bel) bel.size).mono fun _ _ ⟨a, b⟩ => ⟨a, b.below⟩
                have HBO : Hid (facB x = true → ∀ w', Below wr.heap.size wr w' → Calls Tryd.prog 31 #[.agg #[.string md, .slice va vn vc]] w' fun e w2 => (∃ u, e = .returned u ∧ Own w2 w'.heap.size u (facBytes x)) ∧ Below w'.heap.size w' w2) := hide fun hf w' bel =>
                  l03Bytes_any _ _ x w' (HF.out.on bel) bel.size hf
                clear hpl hrf hmo hll hx hqj
                cases hfb : facB x with
                | false =>
                  have hVC := hide (HV0.out (by rw [HMO.out, hfb]; rfl))
                  have hmix : Tryd.prog.follows .mixedOrders = true := by kernel_rfl
                  have HI : Hid (∀ n os, Calls Tryd.prog 15 #[.agg #[.string md, .slice va vn vc]] (Sort.grow (wr.drewN n) os) fun e w' => e = .returned (.bool false) ∧ ∃ p : GrownBy, w' = Sort.grow (wr.drewN p.n) p.os) := by
                    intro n os
                    have hg : Gw wr (Sort.grow (wr.drewN n) os) := ⟨n, os, rfl⟩
                    exact Calls.grown_of ((specInterfaceOK_any _ _ x _ (HF.out.on hg.below) hg.below.size).mono fun _ _ ⟨a, n, os, hq⟩ => ⟨by rw [a, hfb], n, os, hq⟩)
                  have hRl : w.heap.size + 1 < wr.heap.size := by omega
                  have hXl : w.heap.size + 2 < wr.heap.size := by omega
                  have e1 := fun n os => cell_grown (w := wr) (a := ⟨w.heap.size + 1, 1, none⟩) hRl k1 n os
                  have e2 := fun n os => cell_grown (w := wr) (a := ⟨w.heap.size + 1, 2, none⟩) hRl k2 n os
                  have x0 := fun n os => cell_grown (w := wr) (a := ⟨w.heap.size + 2, 0, none⟩) hXl hx0 n os
                  have x1 := fun n os => cell_grown (w := wr) (a := ⟨w.heap.size + 2, 1, none⟩) hXl hx1 n os
                  clear hfb HBO HIO hx0 hx1
                  go_wp2_with fail
                  refine wp_region_quiet_grown (by assumption) (by kernel_rfl) ?_
                  repeat (first | go_big_quiet_skip | quiet_step (first | (go_at_call 15; exact HI.out _ _)))
                  refine wpQuiet_nil ?_
                  intro _ hw'
                  obtain ⟨⟨nq, osq⟩, hw''⟩ := hw'
                  subst hw''
                  have b17 : Below wr.heap.size wr (Sort.grow (wr.drewN nq) osq) := Gw.below ⟨nq, osq, rfl⟩
                  have q0' := (b17.cell (p := ⟨w.heap.size, 0, none⟩) (by show w.heap.size < wr.heap.size; omega)).trans q0
                  have q1' := (b17.cell (p := ⟨w.heap.size, 1, none⟩) (by show w.heap.size < wr.heap.size; omega)).trans q1
                  have s0' := (b17.frozen (p := ⟨w.heap.size, 0, none⟩) (by show w.heap.size < wr.heap.size; omega)).trans s0
                  have s1' := (b17.frozen (p := ⟨w.heap.size, 1, none⟩) (by show w.heap.size < wr.heap.size; omega)).trans s1
                  have HB7 := hide (HFin.out.trans (b17.mono (by omega)))
                  clear b17 q0 q1 s0 s1
                  go_wp2
                  refine bodyPost_ret (v := .tuple #[.agg #[.string ⟨#[]⟩, .slice none 0 0], .int .i64 3]) (by simp [results, Tryd.results24, go_sem, q0', q1']) rfl ?_
                  refine RdPost.no hVC.out ?_
                  repeat (refine Below.setCell ?_ (by simp <;> omega) _)
                  exact HB7.out
                | true =>
                  rw [hfb] at HIO
                  have HBO' := hide (HBO.out hfb)
                  have hMd : mdOk l = decide (facBytes x = l) := by rw [HMO.out, hfb]; rfl
                  have HMd := hide hMd
                  have HFL := hide (facBytes_len hfb)
                  obtain ⟨s5, hs5⟩ : ∃ s5, bs (facBytes x) = s5 := ⟨_, rfl⟩
                  obtain ⟨s6, hs6⟩ : ∃ s6, bs l = s6 := ⟨_, rfl⟩
                  have HS5 := hide hs5
                  have HS6 := hide hs6
                  have HCV : Hid (∀ w', Below wr.heap.size wr w' → (convert 22 9 (.slice (some ⟨g, o, none⟩) n c)).run Tryd.prog w' = .ok (.string s6) w') := hide fun w' bel => by
                    rw [← HS6.out]; exact conv_text (HMS.out.on BAt.stays (bel.mono (by omega)))
                  have hcmp : (s5.toList == s6.toList) = decide (facBytes x = l) := by
                    rw [toList_beq, ← hs5, ← hs6]
                    exact decide_eq_decide.2 (bs_inj (facBytes_in _) Hin.out)
                  clear hfb hMd hs5 hs6 HBO
                  cases hdec : decide (facBytes x = l) with
                  | false =>
                    rw [hdec] at hcmp
                    have hVC := hide (HV0.out (HMd.out.trans hdec))
                    have HDec := hide hdec
                    clear hdec HMO
                    go_wp2_with fail
                    go_region_law (first
                      | (go_simp; go_at_call 31
                         refine (HBO'.out _ b17).mono ?_
                         rintro e w8 ⟨⟨u, rfl, ho⟩, b8⟩
                         obtain ⟨g4, c4, rfl, -, -⟩ := World.ownsRow.form ho HFL.out.2
                         have b18 : Below wr.heap.size wr w8 := b17.trans (b8.mono b17.size)
                         have e1 := conv_text (Own.slat ho (facBytes_in _))
                         rw [HS5.out] at e1
                         have e2 := HCV.out _ b18
                         clear ho)
                      | (go_simp; go_at_call 15
                         refine (HIO.out _ (Below.refl _ _).drew).mono ?_
                         rintro e w7 ⟨rfl, b7⟩
                         have b17 : Below wr.heap.size wr w7 := ((Below.refl _ _).drew).trans b7
                         have x0' := (b17.cell (p := ⟨w.heap.size + 2, 0, none⟩) (by show w.heap.size + 2 < wr.heap.size; omega)).trans hx0
                         have x1' := (b17.cell (p := ⟨w.heap.size + 2, 1, none⟩) (by show w.heap.size + 2 < wr.heap.size; omega)).trans hx1
                         have e2' := HCV.out _ b17))
                    all_goals
                      have q0' := (b18.cell (p := ⟨w.heap.size, 0, none⟩) (by show w.heap.size < wr.heap.size; omega)).trans q0
                      have q1' := (b18.cell (p := ⟨w.heap.size, 1, none⟩) (by show w.heap.size < wr.heap.size; omega)).trans q1
                      have s0' := (b18.frozen (p := ⟨w.heap.size, 0, none⟩) (by show w.heap.size < wr.heap.size; omega)).trans s0
                      have s1' := (b18.frozen (p := ⟨w.heap.size, 1, none⟩) (by show w.heap.size < wr.heap.size; omega)).trans s1
                      have HB8 := hide (HFin.out.trans (b18.mono (by omega)))
                      clear b17 b18 b7 b8 q0 q1 s0 s1
                      go_wp2
                      refine bodyPost_ret (v := .tuple #[.agg #[.string ⟨#[]⟩, .slice none 0 0], .int .i64 3]) (by simp [results, Tryd.results24, go_sem, q0', q1']) rfl ?_
                      refine RdPost.no hVC.out ?_
                      repeat (refine Below.setCell ?_ (by simp <;> omega) _)
                      exact HB8.out
                  | true =>
                    rw [hdec] at hcmp
                    have hVC := hide (HV1.out x (HMd.out.trans hdec) HRF.out)
                    have HDec := hide hdec
                    clear hdec HMO
                    go_wp2_with fail
                    go_region_law (first
                      | (go_simp; go_at_call 31
                         refine (HBO'.out _ b17).mono ?_
                         rintro e w8 ⟨⟨u, rfl, ho⟩, b8⟩
                         obtain ⟨g4, c4, rfl, -, -⟩ := World.ownsRow.form ho HFL.out.2
                         have b18 : Below wr.heap.size wr w8 := b17.trans (b8.mono b17.size)
                         have e1 := conv_text (Own.slat ho (facBytes_in _))
                         rw [HS5.out] at e1
                         have e2 := HCV.out _ b18
                         clear ho)
                      | (go_simp; go_at_call 15
                         refine (HIO.out _ (Below.refl _ _).drew).mono ?_
                         rintro e w7 ⟨rfl, b7⟩
                         have b17 : Below wr.heap.size wr w7 := ((Below.refl _ _).drew).trans b7
                         have x0' := (b17.cell (p := ⟨w.heap.size + 2, 0, none⟩) (by show w.heap.size + 2 < wr.heap.size; omega)).trans hx0
                         have x1' := (b17.cell (p := ⟨w.heap.size + 2, 1, none⟩) (by show w.heap.size + 2 < wr.heap.size; omega)).trans hx1
                         have e2' := HCV.out _ b17))
                    all_goals
                      have q0' := (b18.cell (p := ⟨w.heap.size, 0, none⟩) (by show w.heap.size < wr.heap.size; omega)).trans q0
                      have q1' := (b18.cell (p := ⟨w.heap.size, 1, none⟩) (by show w.heap.size < wr.heap.size; omega)).trans q1
                      have s0' := (b18.frozen (p := ⟨w.heap.size, 0, none⟩) (by show w.heap.size < wr.heap.size; omega)).trans s0
                      have s1' := (b18.frozen (p := ⟨w.heap.size, 1, none⟩) (by show w.heap.size < wr.heap.size; omega)).trans s1
                      have x0'' := (b18.cell (p := ⟨w.heap.size + 2, 0, none⟩) (by show w.heap.size + 2 < wr.heap.size; omega)).trans hx0
                      have x1'' := (b18.cell (p := ⟨w.heap.size + 2, 1, none⟩) (by show w.heap.size + 2 < wr.heap.size; omega)).trans hx1
                      have HI8 := hide (Hi.out.on b18)
                      have HB8 := hide (HFin.out.trans (b18.mono (by omega)))
                      clear b17 b18 b7 b8 q0 q1 s0 s1 hx0 hx1
                      go_wp2
                      refine bodyPost_ret (v := .tuple #[.agg #[.string md, .slice va vn vc], .int .i64 0]) (by simp [results, Tryd.results24, go_sem, q0', q1']) rfl ?_
                      have oz := Only.trans (Only.set w.heap.size 0 w8 (.string md)) (Only.set w.heap.size 1 _ (.slice va vn vc))
                      refine ⟨⟨_, L, by rw [hVC.out.1, hVC.out.2, ← HXE.out], ?_, by rw [hVC.out.1, ← HXE.out]⟩, HB8.out.trans (oz.below (Nat.le_refl _))⟩
                      exact (HI8.out.of_heap fun j hj _ => oz.block j (by omega)).le (by omega)
              · have hVC := hide (HV0.out (md_more HR.out HPL.out (by rw [HN.out]; exact hpn)))
                have i7 : ¬ ((p : Int) = (n : Int)) := by omega
                have i6 : ((p : Int) == (n : Int)) = false := by simpa using i7
                clear hpl
                go_wp2
                go_quiet (fail)
                go_wp2
                refine bodyPost_ret (v := .tuple #[.agg #[.string ⟨#[]⟩, .slice none 0 0], .int .i64 3]) (by simp [results, Tryd.results24, go_sem, q0, q1]) rfl ?_
                refine RdPost.no hVC.out ?_
                repeat (refine Below.setCell ?_ (by simp <;> omega) _)
                exact HFin.out.trans ((Only.drew w.heap.size _ _).below (Nat.le_refl _))
end Go.Proofs.YtoomnimbokbadaaDoor
