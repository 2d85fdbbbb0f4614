/- Linking, whether calls have as many values as procedures take. No condition. -/
import Derived.Test.YtfbglokjehmgeaaGreatDoorZLawZ
namespace Go.Proofs.YtfbglokjehmgeaaGreatDoor
open Go.ChangeShapes Go.WideShapes Go.ChangeAt Go.RowKit Go.Deep

/-- A call that doesn't fit its procedure. -/
def badI (N : List ByteArray) (C : List CodeD) (y : InsD) : Bool := decide (y.op = 13) && match nameAt N y with
  | none => false
  | some k => match C[k]? with
    | none => false
    | some c => decide (c.params ≠ y.a) || decide (c.result ≠ y.b)
def badC (N : List ByteArray) (C : List CodeD) (c : CodeD) : Bool := c.list.any (badI N C)
def fitP (N : List ByteArray) (C : List CodeD) : List ObjectD → ByteArray
  | [] => ⟨#[]⟩
  | x :: r => if x.procs.any (badC N C) = true then x.module else fitP N C r
theorem fitP_cons (N : List ByteArray) (C : List CodeD) (x : ObjectD) (r : List ObjectD) : fitP N C (x :: r) = if x.procs.any (badC N C) = true then x.module else fitP N C r := rfl
/-- Codes that came in, as rows of codes hold them. -/
theorem slat_cvs {w : World} {m : Md} {b o n c : Nat} {l : List CodeD} (h : SlAt CodeAt 5 w m (.slice (some ⟨b, o, none⟩) n c) l) : ∃ new : List CV, new.map Prod.fst = l ∧ (∀ j u, (codeK.all new)[j]? = some u → w.cell? ((⟨b, o, none⟩ : Addr).add j) = some u) ∧ ∀ y ∈ new, y.2.oneCell' = true := by
  have hlen : (List.ofFn fun i : Fin l.length => ((l[i], (w.cell? ⟨b, o + i * 5 + 4, none⟩).getD undef) : CV)).length = l.length := List.length_ofFn
  refine ⟨List.ofFn fun i : Fin l.length => (l[i], (w.cell? ⟨b, o + i * 5 + 4, none⟩).getD undef), ?_, ?_, ?_⟩
  · apply List.ext_getElem
    · rw [List.length_map, hlen]
    · intro i h1 h2
      simp
  · intro j u hu
    have hj := (List.getElem?_eq_some_iff.1 hu).1
    rw [FlatK.all_len codeOk, hlen] at hj
    have hj : j < l.length * 5 := hj
    have hi : j / 5 < l.length := Nat.div_lt_of_lt_mul (by omega)
    have hr : j % 5 < 5 := Nat.mod_lt _ (by decide)
    have hjj : j / 5 * 5 + j % 5 = j := by omega
    obtain ⟨a', c', e, hrow⟩ := h
    cases e
    obtain ⟨b', o', e', -, -, -, he⟩ := hrow _ hi
    cases e'
    obtain ⟨⟨e0, e1, e2, e3⟩, -, v4, e4, -⟩ := he
    have h2 := FlatK.all_at codeOk (List.ofFn fun i : Fin l.length => ((l[i], (w.cell? ⟨b, o + i * 5 + 4, none⟩).getD undef) : CV)) (j / 5) (by rw [hlen]; exact hi) (j % 5) hr
    have hs : codeK.sz = 5 := rfl
    rw [hs, hjj, hu] at h2
    rw [add_plain]
    have hoj : o + j = o + j / 5 * 5 + j % 5 := by omega
    show w.cell? ⟨b, o + j, none⟩ = some u
    rw [hoj, h2]
    simp only [List.getElem_ofFn, codeK]
    match hk : j % 5, hr with
    | 0, _ => exact e0
    | 1, _ => exact e1
    | 2, _ => exact e2
    | 3, _ => exact e3
    | 4, _ =>
      have e4' : w.cell? ⟨b, o + j / 5 * 5 + 4, none⟩ = some v4 := e4
      rw [e4']
      rfl
  · intro y hy
    obtain ⟨i, rfl⟩ := List.mem_ofFn.1 hy
    obtain ⟨a', c', e, hrow⟩ := h
    cases e
    obtain ⟨b', o', e', -, -, -, he⟩ := hrow _ i.2
    cases e'
    obtain ⟨-, -, v4, e4, s4⟩ := he
    obtain ⟨a5, c5, rfl, -⟩ := s4
    have e4' : w.cell? ⟨b, o + i.1 * 5 + 4, none⟩ = some (.slice a5 (l[i.1]'i.2).list.length c5) := e4
    simp only [e4']
    rfl
theorem firstAt_lt {α : Type} {f : α → Bool} {l : List α} {k : Nat} (h : firstAt f l = some k) : k < l.length := (firstAt_some h).1
theorem namesP_len2 : ∀ P : List ObjectD, (namesP P).length = (P.flatMap fun x => x.procs).length
  | [] => rfl
  | x :: r => by
    have := namesP_len2 r
    unfold namesP at this ⊢
    rw [List.flatMap_cons, List.flatMap_cons, List.length_append, List.length_append, this]
    simp [pnames]
set_option maxRecDepth 20000 in
set_option maxHeartbeats 16000000 in
theorem fit_any (a : Option Addr) (cp : Nat) (m : Md) (L : List ObjectD) (ov : Value) (o : List Nat) (Bo : Nat) (w : World) (h : SlAt ObjectAt 5 w m (.slice a L.length cp) L) (hm : m.hi ≤ w.heap.size) (hL : L.length ≤ 1000) (hT : ∀ x ∈ L, Tiny x) (hps : ∀ x ∈ L, 0 < x.procs.length) (ho : FRow intK w Bo ov o) (hk : ∀ k ∈ o, k < L.length) (hol : o.length ≤ 1000) :
    Calls Tryz.prog 48 #[.slice a L.length cp, ov] w fun e w' => e = .returned (.string (fitP (namesP (objsOf L o)) ((objsOf L o).flatMap fun x => x.procs) (objsOf L o))) ∧ Below w.heap.size w w' := by
  have hmix : Tryz.prog.follows .mixedOrders = true := by kernel_rfl
  have HS := hide h
  have HNm := hide (l05Names_any a cp m L ov o Bo w h hm hL hT ho hk hol)
  have HPs := hide hps
  obtain ⟨oa, oc, rfl⟩ := ho.form
  have HInt : Hid (∀ i (h : i < o.length), ∃ g', oa = some ⟨g', 0, none⟩ ∧ o.length ≤ oc ∧ g' < w.heap.size ∧ w.cell? ⟨g', i, none⟩ = some (.int .i64 (o[i] : Int))) := hide fun i hi => by
    obtain ⟨g', c', e, q1, q2, q3, hc⟩ := ho.one_at intOk hi
    cases e
    have := hc 0 (by decide)
    exact ⟨g', rfl, q1, q3, by simpa [intK] using this⟩
  have HKn := hide hk
  have HTi := hide hT
  have HTP := hide (tiny_objs hT hk)
  obtain ⟨P, hP⟩ : ∃ P, objsOf L o = P := ⟨_, rfl⟩
  have HPe := hide hP
  have hPl : P.length = o.length := by rw [← hP, objsOf_len]
  obtain ⟨N, hN⟩ : ∃ N, namesP P = N := ⟨_, rfl⟩
  have HN := hide hN
  obtain ⟨C, hC⟩ : ∃ C, (P.flatMap fun x => x.procs) = C := ⟨_, rfl⟩
  have HC := hide hC
  obtain ⟨R, hR⟩ : ∃ R, fitP N C P = R := ⟨_, rfl⟩
  have HR := hide hR
  rw [hP] at HTP
  rw [hP, hN] at HNm
  rw [hP, hN, hC, hR]
  obtain ⟨nL, hnL⟩ : ∃ k, L.length = k := ⟨_, rfl⟩
  obtain ⟨no, hno⟩ : ∃ k, o.length = k := ⟨_, rfl⟩
  have HNL := hide hnL
  have HNo := hide hno
  rw [hnL] at hL HS HNm ⊢
  rw [hno] at hol hPl HNm ⊢
  have HPl := hide hPl
  have HNl : Hid (N.length ≤ 1000000) := hide (by
    have := namesP_len HTP.out
    rw [hN, hPl] at this
    omega)
  clear h ho hk hT hnL hno hP hN hC hR hPl hps
  go_enter Tryz.func48, Tryz.ntmps48
  go_wp2_with (go_at_call 81; refine HNm.out.mono ?_; rintro e w1 ⟨⟨nv, rfl, hnv⟩, bel1⟩)
  have HNv := hide hnv
  have HB1 := hide bel1
  clear hnv bel1 HNm
  have hb1 := HB1.out.size
  have HB0 : Hid (FRow strK (w1.alloc (.cells #[] 86)) w.heap.size nv N) := hide (HNv.out.on ((Below.refl _ _).alloc (Nat.le_refl _) _))
  clear HNv
  go_loopw [6, 7] (fun v i wr => ∃ (j : Nat) (cvs : List CV), i = .int .i64 j ∧ j ≤ no ∧ Hid (cvs.map Prod.fst = (P.take j).flatMap fun x => x.procs) ∧ Hid (FRow codeK wr w.heap.size v cvs) ∧ Hid (FRow strK wr w.heap.size nv N) ∧ Below w.heap.size w wr) (fun _ i _ => no - (intOf i).toNat)
  case atStart => exact ⟨0, [], rfl, by omega, hide (by rw [List.take_zero]; rfl), hide (FRow.made codeK w1 w.heap.size hb1), HB0, HB1.out.alloc hb1 _⟩
  case round =>
    obtain ⟨j, cvs, rfl, hj, Hc, Hj, Hn, hbw⟩ := hrel
    obtain ⟨w8, rfl⟩ : ∃ w8, w8 = wr := ⟨_, rfl⟩
    by_cases hp : j < no
    · have i1 : (j : Int) < no := by omega
      have hjo : j < o.length := by rw [HNo.out]; exact hp
      obtain ⟨g', rfl, q1, q2, q3⟩ := HInt.out j hjo
      rw [HNo.out] at q1
      have hkL : o[j] < L.length := HKn.out _ (List.getElem_mem hjo)
      have HX := hide (objsOf_at hjo hkL)
      have HTx := hide (HTi.out _ (List.getElem_mem hkL))
      have hps0 := HPs.out _ (List.getElem_mem hkL)
      obtain ⟨k, hk⟩ : ∃ k, o[j] = k := ⟨_, rfl⟩
      have q4 := (hbw.cell (p := ⟨g', j, none⟩) q2).trans q3
      have i2 : ((o[j] : Nat) : Int) < nL := by rw [← HNL.out]; omega
      have hS := HS.out
      rw [← HNL.out] at hS
      obtain ⟨a', c', e', hr⟩ := hS.on ObjectAt.stays (hbw.mono hm)
      cases e'
      obtain ⟨b, of, rfl, g1, g2, -, he⟩ := hr o[j] hkL
      rw [HNL.out] at g1
      obtain ⟨x, hx⟩ : ∃ x, L[o[j]] = x := ⟨_, rfl⟩
      rw [hx] at he HX HTx hps0
      rw [hk] at q4 i2 he
      obtain ⟨⟨d0, d1⟩, -, u2, u3, u4, ⟨d2, d3, d4⟩, s2, s3, s4⟩ := he
      have HP := hide s4
      obtain ⟨a2, c2, rfl, -⟩ := s2
      obtain ⟨a3, c3, rfl, -⟩ := s3
      obtain ⟨a4, c4, rfl, -⟩ := s4
      simp only [Nat.add_zero] at d0 d1 d2 d3 d4
      obtain ⟨mo, pr, l2, l3, l4⟩ := x
      simp only [] at d0 d1 d2 d3 d4 HP hps0
      obtain ⟨n2, hn2⟩ : ∃ k, l2.length = k := ⟨_, rfl⟩
      obtain ⟨n3, hn3⟩ : ∃ k, l3.length = k := ⟨_, rfl⟩
      obtain ⟨n4, hn4⟩ : ∃ k, l4.length = k := ⟨_, rfl⟩
      have HN4 := hide hn4
      rw [hn2] at d2
      rw [hn3] at d3
      rw [hn4] at d4 HP
      have hjP : j < P.length := by rw [HPl.out]; exact hp
      have HPj := hide (show P[j] = ⟨mo, pr, l2, l3, l4⟩ by have := HX.out; simpa [← HPe.out] using this)
      clear hr hS hx hk q1 q2 q3 hkL hn2 hn3 hn4
      obtain ⟨tl, tc⟩ : Tiny ⟨mo, pr, l2, l3, l4⟩ ∧ True := ⟨HTx.out, trivial⟩
      have HMo := hide tl.mod
      have HC := hide tl.codes
      have hn60 : n4 ≤ 60 := by rw [← HN4.out]; exact tl.procs
      have hmo : mo.size ≤ 40 := tl.mod
      clear tl tc HTx
      obtain ⟨new, n1, n2', n3'⟩ : ∃ new : List CV, new.map Prod.fst = l4 ∧ ∃ pb po, a4 = some ⟨pb, po, none⟩ ∧ (∀ j u, (codeK.all new)[j]? = some u → w8.cell? ((⟨pb, po, none⟩ : Addr).add j) = some u) ∧ ∀ y ∈ new, y.2.oneCell' = true := by
        have hP4 := HP.out
        obtain ⟨a', c', e', r4⟩ := hP4
        cases e'
        obtain ⟨pb, po, rfl, -⟩ := r4 0 hps0
        obtain ⟨new, q1, q2, q3⟩ := slat_cvs (b := pb) (o := po) (w := w8) HP.out
        exact ⟨new, q1, pb, po, rfl, q2, q3⟩
      obtain ⟨po, rfl, n4', n5'⟩ := n3'
      have HNw := hide n4'
      have HN1 := hide n5'
      have hcl : cvs.length ≤ 60000 := by
        have h1 := congrArg List.length Hc.out
        rw [List.length_map] at h1
        have h3 := codesR_bound (P := P) (N := N) (Q := P.take j) fun x hx => HTP.out x (List.mem_of_mem_take hx)
        rw [codesR_len, List.length_take] at h3
        omega
      have hnl : new.length = n4 := by rw [← HN4.out, ← n1, List.length_map]
      have HN1' := hide n1
      have hw8 := hbw.size
      obtain ⟨va, vc, hv⟩ := Hj.out.form
      clear n4' n5' n1 HMo hmo
      subst hv
      go_wp2_with (at_builtin; refine wp_append_flats codeOk rfl _ _ rfl w.heap.size (.slice va cvs.length vc) cvs rfl Hj.out ⟨n2', po, none⟩ n4 c4 new rfl hnl HNw.out (fun y hy => code_one y (HN1.out y hy)) (by omega) hw8 ?_; intro v5 w5 h5 g5)
      go_roundw
      case rel =>
        refine ⟨j + 1, cvs ++ new, by go_num, by omega, hide ?_, hide h5, hide (Hn.out.grow_row Hj.out (by decide) g5), hbw.grown g5 hw8 fun k e => (Hj.out.lt e).1⟩
        rw [List.map_append, Hc.out, HN1'.out, flat_take (fun x => x.procs) hjP, HPj.out]
      case measure => simp [intOf]; omega
    · have i1 : ¬ (j : Int) < no := by omega
      have hjP : P.length ≤ j := by rw [HPl.out]; omega
      have HCv := hide (show cvs.map Prod.fst = C by rw [Hc.out, List.take_of_length_le hjP]; exact HC.out)
      have HRow := Hj
      have HNr := Hn
      have hb9 := hbw
      go_wp2_with fail
      clear Hj Hn hbw Hc hj i1 hp hjP
      go_loopw [8] (fun i wr => ∃ j : Nat, i = .int .i64 j ∧ j ≤ no ∧ Hid (fitP N C (P.drop j) = R) ∧ Hid (Below w8.heap.size w8 wr)) (fun i _ => no - (intOf i).toNat)
      case atStart => exact ⟨0, rfl, by omega, hide (by rw [List.drop_zero]; exact HR.out), hide (Below.refl _ _)⟩
      case round =>
        obtain ⟨j, rfl, hj, Hq, Hb8⟩ := hrel
        obtain ⟨x8, rfl⟩ : ∃ x8, x8 = wr := ⟨_, rfl⟩
        have hbw : Below w.heap.size w x8 := hb9.trans (Hb8.out.mono hb9.size)
        by_cases hp : j < no
        · have i1 : (j : Int) < no := by omega
          have hjo : j < o.length := by rw [HNo.out]; exact hp
          obtain ⟨g', rfl, q1, q2, q3⟩ := HInt.out j hjo
          rw [HNo.out] at q1
          have hkL : o[j] < L.length := HKn.out _ (List.getElem_mem hjo)
          have HX := hide (objsOf_at hjo hkL)
          have HTx := hide (HTi.out _ (List.getElem_mem hkL))
          obtain ⟨k, hk⟩ : ∃ k, o[j] = k := ⟨_, rfl⟩
          have q4 := (hbw.cell (p := ⟨g', j, none⟩) q2).trans q3
          have i2 : ((o[j] : Nat) : Int) < nL := by rw [← HNL.out]; omega
          have hS := HS.out
          rw [← HNL.out] at hS
          obtain ⟨a', c', e', hr⟩ := hS.on ObjectAt.stays (hbw.mono hm)
          cases e'
          obtain ⟨b, of, rfl, g1, g2, -, he⟩ := hr o[j] hkL
          rw [HNL.out] at g1
          obtain ⟨x, hx⟩ : ∃ x, L[o[j]] = x := ⟨_, rfl⟩
          rw [hx] at he HX HTx
          rw [hk] at q4 i2 he
          obtain ⟨⟨d0, d1⟩, -, u2, u3, u4, ⟨d2, d3, d4⟩, s2, s3, s4⟩ := he
          have HP := hide s4
          obtain ⟨a2, c2, rfl, -⟩ := s2
          obtain ⟨a3, c3, rfl, -⟩ := s3
          obtain ⟨a4, c4, rfl, -⟩ := s4
          simp only [Nat.add_zero] at d0 d1 d2 d3 d4
          obtain ⟨mo, pr, l2, l3, l4⟩ := x
          simp only [] at d0 d1 d2 d3 d4 HP
          obtain ⟨n2, hn2⟩ : ∃ k, l2.length = k := ⟨_, rfl⟩
          obtain ⟨n3, hn3⟩ : ∃ k, l3.length = k := ⟨_, rfl⟩
          obtain ⟨n4, hn4⟩ : ∃ k, l4.length = k := ⟨_, rfl⟩
          have HN4 := hide hn4
          rw [hn2] at d2
          rw [hn3] at d3
          rw [hn4] at d4 HP
          have hjP : j < P.length := by rw [HPl.out]; exact hp
          have hdr : P.drop j = ⟨mo, pr, l2, l3, l4⟩ :: P.drop (j + 1) := by
            rw [List.drop_eq_getElem_cons hjP]
            congr 1
            have := HX.out
            simpa [← HPe.out] using this
          rw [hdr, fitP_cons] at Hq
          clear hr hS hx hk q1 q2 q3 hkL hn2 hn3 hn4
          obtain ⟨tl, tc⟩ : Tiny ⟨mo, pr, l2, l3, l4⟩ ∧ True := ⟨HTx.out, trivial⟩
          have HC4 := hide tl.codes
          have hn60 : n4 ≤ 60 := by rw [← HN4.out]; exact tl.procs
          have hmo : mo.size ≤ 40 := tl.mod
          clear tl tc HTx
          clear hdr
          go_wp2_with fail
          go_loopw [10] (fun i wr => ∃ q : Nat, i = .int .i64 q ∧ q ≤ n4 ∧ Hid ((if (l4.drop q).any (badC N C) = true then mo else fitP N C (P.drop (j + 1))) = R) ∧ Hid (wr.heap[x8.heap.size]? = some (.cells #[.string mo, .int .i64 pr, .slice a2 n2 c2, .slice a3 n3 c3, .slice a4 n4 c4] 48 (0, 0))) ∧ Hid (Below x8.heap.size x8 wr)) (fun i _ => n4 - (intOf i).toNat)
          case atStart => exact ⟨0, rfl, by omega, hide (by rw [List.drop_zero]; exact Hq.out), hide (Deep.blk_alloc_new x8 _), hide ((Below.refl _ _).alloc (Nat.le_refl _) _)⟩
          case round =>
            obtain ⟨q, rfl, hq, Hr, Hbx, Hbc⟩ := hrel
            obtain ⟨y8, rfl⟩ : ∃ y8, y8 = wr := ⟨_, rfl⟩
            have k4 : y8.cell? ⟨x8.heap.size, 4, none⟩ = some (.slice a4 n4 c4) := (heapCells Hbx.out).1 4
            have hx8y : x8.heap.size < y8.heap.size := (Array.getElem?_eq_some_iff.1 Hbx.out).1
            by_cases hp4 : q < n4
            · have i4 : (q : Int) < n4 := by omega
              have hq4 : q < l4.length := by rw [HN4.out]; exact hp4
              have hbw9 : Below w.heap.size w y8 := hbw.trans (Hbc.out.mono hbw.size)
              have hPr := HP.out
              rw [← HN4.out] at hPr
              obtain ⟨a', c', e', hr⟩ := hPr.same CodeAt.stays (Same.two hbw hbw9 (by rw [Md.inner_hi]; exact hm))
              cases e'
              obtain ⟨pb, po, rfl, p1, p2, -, he⟩ := hr q hq4
              rw [HN4.out] at p1
              rw [Md.inner_hi] at p2
              obtain ⟨y, hy⟩ : ∃ y, l4[q] = y := ⟨_, rfl⟩
              have hyt := HC4.out _ (List.getElem_mem hq4)
              have hdr : l4.drop q = y :: l4.drop (q + 1) := by rw [List.drop_eq_getElem_cons hq4, hy]
              rw [hdr, List.any_cons] at Hr
              rw [hy] at he hyt
              obtain ⟨⟨e0, e1, e2, e3⟩, -, v4, e4, s4⟩ := he
              obtain ⟨yn, yp, yc, yr, yl⟩ := y
              simp only [] at e4 hyt s4
              obtain ⟨t1, t2, t3, t4⟩ := hyt
              obtain ⟨a5, c5, rfl, r5⟩ := s4
              obtain ⟨lb, lo, rfl, -⟩ := r5 0 t4
              have HCl := hide (show SlAt InsAt 5 y8 _ (.slice (some ⟨lb, lo, none⟩) yl.length c5) yl from ⟨_, _, rfl, r5⟩)
              obtain ⟨ny, hny⟩ : ∃ k, yl.length = k := ⟨_, rfl⟩
              have HNy := hide hny
              rw [hny] at e4 HCl t2
              have HT3 := hide t3
              clear hr hy hdr t4 t3 r5 e0 e1 e2 e3 hPr hny
              go_wp2_with fail
              go_loopw [11] (fun i wr => ∃ t : Nat, i = .int .i64 t ∧ t ≤ ny ∧ Hid ((if ((yl.drop t).any (badI N C) || (l4.drop (q + 1)).any (badC N C)) = true then mo else fitP N C (P.drop (j + 1))) = R) ∧ Hid (wr.heap[x8.heap.size]? = some (.cells #[.string mo, .int .i64 pr, .slice a2 n2 c2, .slice a3 n3 c3, .slice (some ⟨pb, po, none⟩) n4 c4] 48 (0, 0))) ∧ Hid (Below y8.heap.size y8 wr)) (fun i _ => ny - (intOf i).toNat)
              case atStart => exact ⟨0, rfl, by omega, hide (by rw [List.drop_zero]; exact Hr.out), Hbx, hide (Below.refl _ _)⟩
              case round =>
                obtain ⟨t, rfl, ht, Ht, Hbt, Hbu⟩ := hrel
                have k4 : wr.cell? ⟨x8.heap.size, 4, none⟩ = some (.slice (some ⟨pb, po, none⟩) n4 c4) := (heapCells Hbt.out).1 4
                have k0 : wr.cell? ⟨x8.heap.size, 0, none⟩ = some (.string mo) := (heapCells Hbt.out).1 0
                have hpb : pb < y8.heap.size := by have := hbw9.size; omega
                have e4' := (Hbu.out.cell (p := ⟨pb, po + q * 5 + 4, none⟩) hpb).trans e4
                by_cases hpt : t < ny
                · have i5 : (t : Int) < ny := by omega
                  have hty : t < yl.length := by rw [HNy.out]; exact hpt
                  have hx8w : x8.heap.size < wr.heap.size := (Array.getElem?_eq_some_iff.1 Hbt.out).1
                  have hCl := HCl.out
                  rw [← HNy.out] at hCl
                  obtain ⟨a', c', e', r5⟩ := hCl.on InsAt.stays (Hbu.out.mono (by rw [Md.inner_hi, Md.inner_hi]; have := hbw9.size; omega))
                  cases e'
                  obtain ⟨lb', lo', e'', g1, g2, -, ⟨i0, i1', i2', i3, i4'⟩, -⟩ := r5 t hty
                  cases e''
                  rw [HNy.out] at g1
                  obtain ⟨z, hz⟩ : ∃ z, yl[t] = z := ⟨_, rfl⟩
                  have hzt := HT3.out _ (List.getElem_mem hty)
                  have hdr : yl.drop t = z :: yl.drop (t + 1) := by rw [List.drop_eq_getElem_cons hty, hz]
                  rw [hdr, List.any_cons, Bool.or_assoc] at Ht
                  rw [hz] at i0 i1' i2' i3 i4' hzt
                  obtain ⟨op, ia, ib, im, iname⟩ := z
                  simp only [Nat.add_zero] at i0 i1' i2' i3 i4' hzt
                  have bx : Below wr.heap.size wr (wr.alloc (.cells #[.int .i64 op, .int .i64 ia, .int .i64 ib, .string im, .string iname] 139)) := (Below.refl _ _).alloc (Nat.le_refl _) _
                  have HBX := hide bx
                  have hy8w : y8.heap.size ≤ wr.heap.size := Hbu.out.size
                  clear r5 hCl hz hdr bx
                  by_cases q13 : op = 13
                  · subst q13
                    have b8 : Below w8.heap.size w8 (wr.alloc (.cells #[.int .i64 13, .int .i64 ia, .int .i64 ib, .string im, .string iname] 139)) := (((Hb8.out.trans (Hbc.out.mono Hb8.out.size)).trans (Hbu.out.mono (by have := Hb8.out.size; omega))).trans (HBX.out.mono (by have := Hb8.out.size; omega)))
                    have HB8 := hide b8
                    have h13a : im.size + 1 ≤ 41 := by omega
                    clear b8
                    go_wp2_with fail
                    refine (l01Idx_any nv N _ w.heap.size _ (HNr.out.on HB8.out) HNl.out).mono ?_
                    rintro e W2 ⟨rfl, rfl⟩
                    obtain ⟨kk, hkk⟩ : ∃ kk, nameAt N ⟨13, ia, ib, im, iname⟩ = kk := ⟨_, rfl⟩
                    have HKK := hide hkk
                    have hkk2 : firstAt (fun z => eqS z (im ++ ⟨#[46]⟩ ++ iname)) N = kk := hkk
                    rw [hkk2]
                    clear hkk hkk2
                    cases hkk : kk with
                    | none =>
                      have HBad := hide (show badI N C ⟨13, ia, ib, im, iname⟩ = false by unfold badI; rw [HKK.out, hkk]; rfl)
                      subst hkk
                      rw [show idxI none = -1 from rfl]
                      go_wp2_with fail
                      refine wp_region_held_drew (S := fun _ => True) (by kernel_rfl) trivial (fun hHeld => ?_)
                      refine wpAnyH_take (i := 0) (v := ?_) rfl (by kernel_rfl) (by kernel_rfl) (by kernel_rfl) (fun _ _ _ h => h) (Or.inl ⟨by rfl, ?_⟩) hHeld ?_
                      rotate_left
                      · intro wS hSw
                        go_simp
                        rfl
                      simp only [Act.put, List.setIfInBounds_toArray, List.set_cons_zero, List.set_cons_succ, List.getElem_toArray, List.getElem_cons_zero]
                      refine wpAnyH_take (i := 1) (v := ?_) rfl (by kernel_rfl) (by kernel_rfl) (by kernel_rfl) (fun _ _ _ h => h) (Or.inl ⟨by rfl, ?_⟩) hHeld ?_
                      rotate_left
                      · intro wS hSw
                        go_simp
                        rfl
                      simp only [Act.put, List.setIfInBounds_toArray, List.set_cons_zero, List.set_cons_succ, List.getElem_toArray, List.getElem_cons_zero, List.getElem_cons_succ]
                      refine wpAnyH_take (i := 2) (v := ?_) rfl (by kernel_rfl) (by kernel_rfl) (by kernel_rfl) (fun _ _ _ h => h) (Or.inl ⟨by rfl, ?_⟩) hHeld ?_
                      rotate_left
                      · intro wS hSw
                        go_simp
                        rfl
                      simp only [Act.put, List.setIfInBounds_toArray, List.set_cons_zero, List.set_cons_succ, List.getElem_toArray, List.getElem_cons_zero, List.getElem_cons_succ]
                      refine wpAnyH_take (i := 3) (v := undef) rfl (by kernel_rfl) (by kernel_rfl) (by kernel_rfl) (fun _ _ _ h => h) (Or.inr ⟨by rfl, rfl⟩) hHeld ?_
                      simp only [Act.put, List.setIfInBounds_toArray, List.set_cons_zero, List.set_cons_succ, List.getElem_toArray, List.getElem_cons_zero, List.getElem_cons_succ]
                      refine wpAnyH_take (i := 4) (v := undef) rfl (by kernel_rfl) (by kernel_rfl) (by kernel_rfl) (fun _ _ _ h => h) (Or.inr ⟨by rfl, rfl⟩) hHeld ?_
                      simp only [Act.put, List.setIfInBounds_toArray, List.set_cons_zero, List.set_cons_succ, List.getElem_toArray, List.getElem_cons_zero, List.getElem_cons_succ]
                      refine wpAnyH_take (i := 5) (v := undef) rfl (by kernel_rfl) (by kernel_rfl) (by kernel_rfl) (fun _ _ _ h => h) (Or.inr ⟨by rfl, rfl⟩) hHeld ?_
                      simp only [Act.put, List.setIfInBounds_toArray, List.set_cons_zero, List.set_cons_succ, List.getElem_toArray, List.getElem_cons_zero, List.getElem_cons_succ]
                      refine wpAnyH_take (i := 6) (v := undef) rfl (by kernel_rfl) (by kernel_rfl) (by kernel_rfl) (fun _ _ _ h => h) (Or.inr ⟨by rfl, rfl⟩) hHeld ?_
                      simp only [Act.put, List.setIfInBounds_toArray, List.set_cons_zero, List.set_cons_succ, List.getElem_toArray, List.getElem_cons_zero, List.getElem_cons_succ]
                      refine wpAnyH_take (i := 7) (v := undef) rfl (by kernel_rfl) (by kernel_rfl) (by kernel_rfl) (fun _ _ _ h => h) (Or.inr ⟨by rfl, rfl⟩) hHeld ?_
                      simp only [Act.put, List.setIfInBounds_toArray, List.set_cons_zero, List.set_cons_succ, List.getElem_toArray, List.getElem_cons_zero, List.getElem_cons_succ]
                      refine wpAnyH_take (i := 8) (v := undef) rfl (by kernel_rfl) (by kernel_rfl) (by kernel_rfl) (fun _ _ _ h => h) (Or.inr ⟨by rfl, rfl⟩) hHeld ?_
                      simp only [Act.put, List.setIfInBounds_toArray, List.set_cons_zero, List.set_cons_succ, List.getElem_toArray, List.getElem_cons_zero, List.getElem_cons_succ]
                      refine wpAnyH_take (i := 9) (v := undef) rfl (by kernel_rfl) (by kernel_rfl) (by kernel_rfl) (fun _ _ _ h => h) (Or.inr ⟨by rfl, rfl⟩) hHeld ?_
                      simp only [Act.put, List.setIfInBounds_toArray, List.set_cons_zero, List.set_cons_succ, List.getElem_toArray, List.getElem_cons_zero, List.getElem_cons_succ]
                      refine wpAnyH_take (i := 10) (v := undef) rfl (by kernel_rfl) (by kernel_rfl) (by kernel_rfl) (fun _ _ _ h => h) (Or.inr ⟨by rfl, rfl⟩) hHeld ?_
                      simp only [Act.put, List.setIfInBounds_toArray, List.set_cons_zero, List.set_cons_succ, List.getElem_toArray, List.getElem_cons_zero, List.getElem_cons_succ]
                      refine wpAnyH_take (i := 11) (v := undef) rfl (by kernel_rfl) (by kernel_rfl) (by kernel_rfl) (fun _ _ _ h => h) (Or.inr ⟨by rfl, rfl⟩) hHeld ?_
                      simp only [Act.put, List.setIfInBounds_toArray, List.set_cons_zero, List.set_cons_succ, List.getElem_toArray, List.getElem_cons_zero, List.getElem_cons_succ]
                      refine wpAnyH_take (i := 12) (v := undef) rfl (by kernel_rfl) (by kernel_rfl) (by kernel_rfl) (fun _ _ _ h => h) (Or.inr ⟨by rfl, rfl⟩) hHeld ?_
                      simp only [Act.put, List.setIfInBounds_toArray, List.set_cons_zero, List.set_cons_succ, List.getElem_toArray, List.getElem_cons_zero, List.getElem_cons_succ]
                      refine wpAnyH_take (i := 13) (v := undef) rfl (by kernel_rfl) (by kernel_rfl) (by kernel_rfl) (fun _ _ _ h => h) (Or.inr ⟨by rfl, rfl⟩) hHeld ?_
                      simp only [Act.put, List.setIfInBounds_toArray, List.set_cons_zero, List.set_cons_succ, List.getElem_toArray, List.getElem_cons_zero, List.getElem_cons_succ]
                      refine wpAnyH_take (i := 14) (v := undef) rfl (by kernel_rfl) (by kernel_rfl) (by kernel_rfl) (fun _ _ _ h => h) (Or.inr ⟨by rfl, rfl⟩) hHeld ?_
                      simp only [Act.put, List.setIfInBounds_toArray, List.set_cons_zero, List.set_cons_succ, List.getElem_toArray, List.getElem_cons_zero, List.getElem_cons_succ]
                      refine wpAnyH_take (i := 15) (v := undef) rfl (by kernel_rfl) (by kernel_rfl) (by kernel_rfl) (fun _ _ _ h => h) (Or.inr ⟨by rfl, rfl⟩) hHeld ?_
                      simp only [Act.put, List.setIfInBounds_toArray, List.set_cons_zero, List.set_cons_succ, List.getElem_toArray, List.getElem_cons_zero, List.getElem_cons_succ]
                      refine wpAnyH_take (i := 16) (v := undef) rfl (by kernel_rfl) (by kernel_rfl) (by kernel_rfl) (fun _ _ _ h => h) (Or.inr ⟨by rfl, rfl⟩) hHeld ?_
                      simp only [Act.put, List.setIfInBounds_toArray, List.set_cons_zero, List.set_cons_succ, List.getElem_toArray, List.getElem_cons_zero, List.getElem_cons_succ]
                      refine wpAnyH_take (i := 17) (v := undef) rfl (by kernel_rfl) (by kernel_rfl) (by kernel_rfl) (fun _ _ _ h => h) (Or.inr ⟨by rfl, rfl⟩) hHeld ?_
                      simp only [Act.put, List.setIfInBounds_toArray, List.set_cons_zero, List.set_cons_succ, List.getElem_toArray, List.getElem_cons_zero, List.getElem_cons_succ]
                      refine wpAnyH_take (i := 18) (v := undef) rfl (by kernel_rfl) (by kernel_rfl) (by kernel_rfl) (fun _ _ _ h => h) (Or.inr ⟨by rfl, rfl⟩) hHeld ?_
                      simp only [Act.put, List.setIfInBounds_toArray, List.set_cons_zero, List.set_cons_succ, List.getElem_toArray, List.getElem_cons_zero, List.getElem_cons_succ]
                      refine wpAnyH_take (i := 19) (v := undef) rfl (by kernel_rfl) (by kernel_rfl) (by kernel_rfl) (fun _ _ _ h => h) (Or.inr ⟨by rfl, rfl⟩) hHeld ?_
                      simp only [Act.put, List.setIfInBounds_toArray, List.set_cons_zero, List.set_cons_succ, List.getElem_toArray, List.getElem_cons_zero, List.getElem_cons_succ]
                      refine wpAnyH_take (i := 20) (v := undef) rfl (by kernel_rfl) (by kernel_rfl) (by kernel_rfl) (fun _ _ _ h => h) (Or.inr ⟨by rfl, rfl⟩) hHeld ?_
                      simp only [Act.put, List.setIfInBounds_toArray, List.set_cons_zero, List.set_cons_succ, List.getElem_toArray, List.getElem_cons_zero, List.getElem_cons_succ]
                      refine wpAnyH_take (i := 21) (v := ?_) rfl (by kernel_rfl) (by kernel_rfl) (by kernel_rfl) (fun _ _ _ h => h) (Or.inl ⟨by rfl, ?_⟩) hHeld ?_
                      rotate_left
                      · intro wS hSw
                        go_simp
                        rfl
                      simp only [Act.put, List.setIfInBounds_toArray, List.set_cons_zero, List.set_cons_succ, List.getElem_toArray, List.getElem_cons_zero, List.getElem_cons_succ]
                      refine wpAnyH_done (by kernel_rfl) ?_ _
                      go_wp2_with fail
                      go_roundw
                      case rel =>
                        refine ⟨t + 1, by go_num, by omega, hide ?_, hide ((Below.heap_alloc _ _ _ hx8w).trans Hbt.out), hide (Hbu.out.trans (HBX.out.drew.mono hy8w))⟩
                        have := Ht.out
                        rw [HBad.out, Bool.false_or] at this
                        exact this
                      case measure => simp [intOf]; omega
                    | some kn =>
                      subst hkk
                      rw [show idxI (some kn) = (kn : Int) from rfl]
                      have hknN : kn < N.length := firstAt_lt HKK.out
                      have hkn : kn < cvs.length := by
                        have h1 := congrArg List.length HCv.out
                        have h2 := namesP_len2 P
                        rw [List.length_map] at h1
                        rw [HN.out, HC.out] at h2
                        omega
                      obtain ⟨gq, cq, hu6, hcq, -, -, hcs⟩ := FRow.one_at codeOk (HRow.out.on HB8.out) hkn
                      have hcd : C[kn]? = some cvs[kn].1 := by
                        rw [← HCv.out, List.getElem?_map, List.getElem?_eq_getElem hkn]
                        rfl
                      obtain ⟨⟨cd, cv⟩, hcc⟩ : ∃ x, cvs[kn] = x := ⟨_, rfl⟩
                      rw [hcc] at hcs hcd
                      have q1 : (wr.alloc (.cells #[.int .i64 13, .int .i64 ia, .int .i64 ib, .string im, .string iname] 139)).cell? ⟨gq, kn * 5 + 1, none⟩ = some (.int .i64 cd.params) := hcs 1 (by decide)
                      have q3 : (wr.alloc (.cells #[.int .i64 13, .int .i64 ia, .int .i64 ib, .string im, .string iname] 139)).cell? ⟨gq, kn * 5 + 3, none⟩ = some (.int .i64 cd.result) := hcs 3 (by decide)
                      have z1 : (wr.alloc (.cells #[.int .i64 13, .int .i64 ia, .int .i64 ib, .string im, .string iname] 139)).cell? ⟨wr.heap.size, 1, none⟩ = some (.int .i64 ia) := (heapCells (Deep.blk_alloc_new wr _)).1 1
                      have z2 : (wr.alloc (.cells #[.int .i64 13, .int .i64 ia, .int .i64 ib, .string im, .string iname] 139)).cell? ⟨wr.heap.size, 2, none⟩ = some (.int .i64 ib) := (heapCells (Deep.blk_alloc_new wr _)).1 2
                      have hbad : badI N C ⟨13, ia, ib, im, iname⟩ = (decide (cd.params ≠ ia) || decide (cd.result ≠ ib)) := by
                        unfold badI
                        rw [HKK.out]
                        simp only [hcd, decide_true, Bool.true_and]
                      have i6 : (0 : Int) ≤ kn := by omega
                      have i7 : (kn : Int) < cvs.length := by omega
                      have kx0 : (wr.alloc (.cells #[.int .i64 13, .int .i64 ia, .int .i64 ib, .string im, .string iname] 139)).cell? ⟨x8.heap.size, 0, none⟩ = some (.string mo) := (HBX.out.cell (p := ⟨x8.heap.size, 0, none⟩) hx8w).trans k0
                      have HBd := hide hbad
                      clear hcs hcd hcc hknN hbad
                      rw [hu6]
                      go_wp2_with fail
                      refine wp_region_held_drew (S := fun w' => ∀ p, w'.cell? p = (wr.alloc (.cells #[.int .i64 13, .int .i64 ia, .int .i64 ib, .string im, .string iname] 139)).cell? p) (by kernel_rfl) (fun _ => rfl) (fun hHeld => ?_)
                      refine wpAnyH_take (i := 0) (v := ?_) rfl (by kernel_rfl) (by kernel_rfl) (by kernel_rfl) (fun _ _ _ h => h) (Or.inl ⟨by rfl, ?_⟩) hHeld ?_
                      rotate_left
                      · intro wS hSw
                        go_simp
                        rfl
                      simp only [Act.put, List.setIfInBounds_toArray, List.set_cons_zero, List.set_cons_succ, List.getElem_toArray, List.getElem_cons_zero]
                      refine wpAnyH_take (i := 1) (v := ?_) rfl (by kernel_rfl) (by kernel_rfl) (by kernel_rfl) (fun _ _ _ h => h) (Or.inl ⟨by rfl, ?_⟩) hHeld ?_
                      rotate_left
                      · intro wS hSw
                        go_simp
                        rfl
                      simp only [Act.put, List.setIfInBounds_toArray, List.set_cons_zero, List.set_cons_succ, List.getElem_toArray, List.getElem_cons_zero, List.getElem_cons_succ]
                      refine wpAnyH_take (i := 2) (v := ?_) rfl (by kernel_rfl) (by kernel_rfl) (by kernel_rfl) (fun _ _ _ h => h) (Or.inl ⟨by rfl, ?_⟩) hHeld ?_
                      rotate_left
                      · intro wS hSw
                        go_simp
                        rfl
                      simp only [Act.put, List.setIfInBounds_toArray, List.set_cons_zero, List.set_cons_succ, List.getElem_toArray, List.getElem_cons_zero, List.getElem_cons_succ]
                      refine wpAnyH_take (i := 3) (v := ?_) rfl (by kernel_rfl) (by kernel_rfl) (by kernel_rfl) (fun _ _ _ h => h) (Or.inl ⟨by rfl, ?_⟩) hHeld ?_
                      rotate_left
                      · intro wS hSw
                        go_simp
                        rfl
                      simp only [Act.put, List.setIfInBounds_toArray, List.set_cons_zero, List.set_cons_succ, List.getElem_toArray, List.getElem_cons_zero, List.getElem_cons_succ]
                      refine wpAnyH_take (i := 4) (v := ?_) rfl (by kernel_rfl) (by kernel_rfl) (by kernel_rfl) (fun _ _ _ h => h) (Or.inl ⟨by rfl, ?_⟩) hHeld ?_
                      rotate_left
                      · intro wS hSw
                        go_simp
                        rfl
                      simp only [Act.put, List.setIfInBounds_toArray, List.set_cons_zero, List.set_cons_succ, List.getElem_toArray, List.getElem_cons_zero, List.getElem_cons_succ]
                      refine wpAnyH_take (i := 5) (v := ?_) rfl (by kernel_rfl) (by kernel_rfl) (by kernel_rfl) (fun _ _ _ h => h) (Or.inl ⟨by rfl, ?_⟩) hHeld ?_
                      rotate_left
                      · intro wS hSw
                        go_simp
                        rfl
                      simp only [Act.put, List.setIfInBounds_toArray, List.set_cons_zero, List.set_cons_succ, List.getElem_toArray, List.getElem_cons_zero, List.getElem_cons_succ]
                      refine wpAnyH_take (i := 6) (v := ?_) rfl (by kernel_rfl) (by kernel_rfl) (by kernel_rfl) (fun _ _ _ h => h) (Or.inl ⟨by rfl, ?_⟩) hHeld ?_
                      rotate_left
                      · intro wS hSw
                        go_simp
                        rfl
                      simp only [Act.put, List.setIfInBounds_toArray, List.set_cons_zero, List.set_cons_succ, List.getElem_toArray, List.getElem_cons_zero, List.getElem_cons_succ]
                      refine wpAnyH_take (i := 7) (v := ?_) rfl (by kernel_rfl) (by kernel_rfl) (by kernel_rfl) (fun _ _ _ h => h) (Or.inl ⟨by rfl, ?_⟩) hHeld ?_
                      rotate_left
                      · intro wS hSw
                        have s0 := (hSw ⟨gq, kn * 5 + 1, none⟩).trans q1
                        go_simp
                        rfl
                      simp only [Act.put, List.setIfInBounds_toArray, List.set_cons_zero, List.set_cons_succ, List.getElem_toArray, List.getElem_cons_zero, List.getElem_cons_succ]
                      refine wpAnyH_take (i := 8) (v := ?_) rfl (by kernel_rfl) (by kernel_rfl) (by kernel_rfl) (fun _ _ _ h => h) (Or.inl ⟨by rfl, ?_⟩) hHeld ?_
                      rotate_left
                      · intro wS hSw
                        go_simp
                        rfl
                      simp only [Act.put, List.setIfInBounds_toArray, List.set_cons_zero, List.set_cons_succ, List.getElem_toArray, List.getElem_cons_zero, List.getElem_cons_succ]
                      refine wpAnyH_take (i := 9) (v := ?_) rfl (by kernel_rfl) (by kernel_rfl) (by kernel_rfl) (fun _ _ _ h => h) (Or.inl ⟨by rfl, ?_⟩) hHeld ?_
                      rotate_left
                      · intro wS hSw
                        have s0 := (hSw ⟨wr.heap.size, 1, none⟩).trans z1
                        go_simp
                        rfl
                      simp only [Act.put, List.setIfInBounds_toArray, List.set_cons_zero, List.set_cons_succ, List.getElem_toArray, List.getElem_cons_zero, List.getElem_cons_succ]
                      by_cases hA : cd.params = ia
                      · have hA1 : (cd.params == ia) = true := by simpa using hA
                        have HA := hide hA
                        clear hA
                        refine wpAnyH_take (i := 10) (v := .bool false) rfl (by kernel_rfl) (by kernel_rfl) (by kernel_rfl) (fun _ _ _ h => h) (Or.inl ⟨by rfl, ?_⟩) hHeld ?_
                        · intro wS hSw
                          go_simp
                          all_goals first | exact HA.out | simp [bne, hA1]
                        simp only [Act.put, List.setIfInBounds_toArray, List.set_cons_zero, List.set_cons_succ, List.getElem_toArray, List.getElem_cons_zero, List.getElem_cons_succ]
                        refine wpAnyH_take (i := 11) (v := ?_) rfl (by kernel_rfl) (by kernel_rfl) (by kernel_rfl) (fun _ _ _ h => h) (Or.inl ⟨by rfl, ?_⟩) hHeld ?_
                        rotate_left
                        · intro wS hSw
                          go_simp
                          rfl
                        simp only [Act.put, List.setIfInBounds_toArray, List.set_cons_zero, List.set_cons_succ, List.getElem_toArray, List.getElem_cons_zero, List.getElem_cons_succ]
                        refine wpAnyH_take (i := 12) (v := ?_) rfl (by kernel_rfl) (by kernel_rfl) (by kernel_rfl) (fun _ _ _ h => h) (Or.inl ⟨by rfl, ?_⟩) hHeld ?_
                        rotate_left
                        · intro wS hSw
                          go_simp
                          rfl
                        simp only [Act.put, List.setIfInBounds_toArray, List.set_cons_zero, List.set_cons_succ, List.getElem_toArray, List.getElem_cons_zero, List.getElem_cons_succ]
                        refine wpAnyH_take (i := 13) (v := ?_) rfl (by kernel_rfl) (by kernel_rfl) (by kernel_rfl) (fun _ _ _ h => h) (Or.inl ⟨by rfl, ?_⟩) hHeld ?_
                        rotate_left
                        · intro wS hSw
                          go_simp
                          rfl
                        simp only [Act.put, List.setIfInBounds_toArray, List.set_cons_zero, List.set_cons_succ, List.getElem_toArray, List.getElem_cons_zero, List.getElem_cons_succ]
                        refine wpAnyH_take (i := 14) (v := ?_) rfl (by kernel_rfl) (by kernel_rfl) (by kernel_rfl) (fun _ _ _ h => h) (Or.inl ⟨by rfl, ?_⟩) hHeld ?_
                        rotate_left
                        · intro wS hSw
                          go_simp
                          rfl
                        simp only [Act.put, List.setIfInBounds_toArray, List.set_cons_zero, List.set_cons_succ, List.getElem_toArray, List.getElem_cons_zero, List.getElem_cons_succ]
                        refine wpAnyH_take (i := 15) (v := ?_) rfl (by kernel_rfl) (by kernel_rfl) (by kernel_rfl) (fun _ _ _ h => h) (Or.inl ⟨by rfl, ?_⟩) hHeld ?_
                        rotate_left
                        · intro wS hSw
                          go_simp
                          rfl
                        simp only [Act.put, List.setIfInBounds_toArray, List.set_cons_zero, List.set_cons_succ, List.getElem_toArray, List.getElem_cons_zero, List.getElem_cons_succ]
                        refine wpAnyH_take (i := 16) (v := ?_) rfl (by kernel_rfl) (by kernel_rfl) (by kernel_rfl) (fun _ _ _ h => h) (Or.inl ⟨by rfl, ?_⟩) hHeld ?_
                        rotate_left
                        · intro wS hSw
                          have s0 := (hSw ⟨gq, kn * 5 + 3, none⟩).trans q3
                          go_simp
                          rfl
                        simp only [Act.put, List.setIfInBounds_toArray, List.set_cons_zero, List.set_cons_succ, List.getElem_toArray, List.getElem_cons_zero, List.getElem_cons_succ]
                        refine wpAnyH_take (i := 17) (v := ?_) rfl (by kernel_rfl) (by kernel_rfl) (by kernel_rfl) (fun _ _ _ h => h) (Or.inl ⟨by rfl, ?_⟩) hHeld ?_
                        rotate_left
                        · intro wS hSw
                          go_simp
                          rfl
                        simp only [Act.put, List.setIfInBounds_toArray, List.set_cons_zero, List.set_cons_succ, List.getElem_toArray, List.getElem_cons_zero, List.getElem_cons_succ]
                        refine wpAnyH_take (i := 18) (v := ?_) rfl (by kernel_rfl) (by kernel_rfl) (by kernel_rfl) (fun _ _ _ h => h) (Or.inl ⟨by rfl, ?_⟩) hHeld ?_
                        rotate_left
                        · intro wS hSw
                          have s0 := (hSw ⟨wr.heap.size, 2, none⟩).trans z2
                          go_simp
                          rfl
                        simp only [Act.put, List.setIfInBounds_toArray, List.set_cons_zero, List.set_cons_succ, List.getElem_toArray, List.getElem_cons_zero, List.getElem_cons_succ]
                        by_cases hB : cd.result = ib
                        · have hB1 : (cd.result == ib) = true := by simpa using hB
                          have HBad := hide (show badI N C ⟨13, ia, ib, im, iname⟩ = false by rw [HBd.out]; simp [HA.out, hB])
                          have HB := hide hB
                          clear hB
                          refine wpAnyH_take (i := 19) (v := .bool false) rfl (by kernel_rfl) (by kernel_rfl) (by kernel_rfl) (fun _ _ _ h => h) (Or.inl ⟨by rfl, ?_⟩) hHeld ?_
                          · intro wS hSw
                            go_simp
                            all_goals first | exact HB.out | simp [bne, hB1]
                          simp only [Act.put, List.setIfInBounds_toArray, List.set_cons_zero, List.set_cons_succ, List.getElem_toArray, List.getElem_cons_zero, List.getElem_cons_succ]
                          refine wpAnyH_take (i := 20) (v := ?_) rfl (by kernel_rfl) (by kernel_rfl) (by kernel_rfl) (fun _ _ _ h => h) (Or.inl ⟨by rfl, ?_⟩) hHeld ?_
                          rotate_left
                          · intro wS hSw
                            go_simp
                            rfl
                          simp only [Act.put, List.setIfInBounds_toArray, List.set_cons_zero, List.set_cons_succ, List.getElem_toArray, List.getElem_cons_zero, List.getElem_cons_succ]
                          refine wpAnyH_take (i := 21) (v := ?_) rfl (by kernel_rfl) (by kernel_rfl) (by kernel_rfl) (fun _ _ _ h => h) (Or.inl ⟨by rfl, ?_⟩) hHeld ?_
                          rotate_left
                          · intro wS hSw
                            go_simp
                            rfl
                          simp only [Act.put, List.setIfInBounds_toArray, List.set_cons_zero, List.set_cons_succ, List.getElem_toArray, List.getElem_cons_zero, List.getElem_cons_succ]
                          refine wpAnyH_done (by kernel_rfl) ?_ _
                          rw [← hu6]
                          go_wp2_with fail
                          go_roundw
                          case rel =>
                            refine ⟨t + 1, by go_num, by omega, hide ?_, hide ((Below.heap_alloc _ _ _ hx8w).trans Hbt.out), hide (Hbu.out.trans (HBX.out.drew.mono hy8w))⟩
                            have := Ht.out
                            rw [HBad.out, Bool.false_or] at this
                            exact this
                          case measure => simp [intOf]; omega
                        · have hB1 : (cd.result == ib) = false := by simpa using hB
                          have HBad := hide (show badI N C ⟨13, ia, ib, im, iname⟩ = true by rw [HBd.out]; simp [HA.out, hB])
                          refine wpAnyH_take (i := 19) (v := .bool true) rfl (by kernel_rfl) (by kernel_rfl) (by kernel_rfl) (fun _ _ _ h => h) (Or.inl ⟨by rfl, ?_⟩) hHeld ?_
                          · intro wS hSw
                            go_simp
                            all_goals simp [bne, hB1]
                          simp only [Act.put, List.setIfInBounds_toArray, List.set_cons_zero, List.set_cons_succ, List.getElem_toArray, List.getElem_cons_zero, List.getElem_cons_succ]
                          refine wpAnyH_take (i := 20) (v := ?_) rfl (by kernel_rfl) (by kernel_rfl) (by kernel_rfl) (fun _ _ _ h => h) (Or.inl ⟨by rfl, ?_⟩) hHeld ?_
                          rotate_left
                          · intro wS hSw
                            go_simp
                            rfl
                          simp only [Act.put, List.setIfInBounds_toArray, List.set_cons_zero, List.set_cons_succ, List.getElem_toArray, List.getElem_cons_zero, List.getElem_cons_succ]
                          refine wpAnyH_take (i := 21) (v := ?_) rfl (by kernel_rfl) (by kernel_rfl) (by kernel_rfl) (fun _ _ _ h => h) (Or.inl ⟨by rfl, ?_⟩) hHeld ?_
                          rotate_left
                          · intro wS hSw
                            go_simp
                            rfl
                          simp only [Act.put, List.setIfInBounds_toArray, List.set_cons_zero, List.set_cons_succ, List.getElem_toArray, List.getElem_cons_zero, List.getElem_cons_succ]
                          refine wpAnyH_done (by kernel_rfl) ?_ _
                          go_wp2_with fail
                          go_ret
                          refine ⟨?_, (hbw.trans (Hbc.out.mono hbw.size)).trans ((Hbu.out.trans (HBX.out.drew.mono hy8w)).mono (Nat.le_trans hbw.size Hbc.out.size))⟩
                          have := Ht.out
                          rw [HBad.out, Bool.true_or, if_pos rfl] at this
                          rw [this]
                          rfl
                      · have hA1 : (cd.params == ia) = false := by simpa using hA
                        have HBad := hide (show badI N C ⟨13, ia, ib, im, iname⟩ = true by rw [HBd.out]; simp [hA])
                        refine wpAnyH_take (i := 10) (v := .bool true) rfl (by kernel_rfl) (by kernel_rfl) (by kernel_rfl) (fun _ _ _ h => h) (Or.inl ⟨by rfl, ?_⟩) hHeld ?_
                        · intro wS hSw
                          go_simp
                          all_goals simp [bne, hA1]
                        simp only [Act.put, List.setIfInBounds_toArray, List.set_cons_zero, List.set_cons_succ, List.getElem_toArray, List.getElem_cons_zero, List.getElem_cons_succ]
                        refine wpAnyH_take (i := 11) (v := ?_) rfl (by kernel_rfl) (by kernel_rfl) (by kernel_rfl) (fun _ _ _ h => h) (Or.inl ⟨by rfl, ?_⟩) hHeld ?_
                        rotate_left
                        · intro wS hSw
                          go_simp
                          rfl
                        simp only [Act.put, List.setIfInBounds_toArray, List.set_cons_zero, List.set_cons_succ, List.getElem_toArray, List.getElem_cons_zero, List.getElem_cons_succ]
                        refine wpAnyH_take (i := 12) (v := undef) rfl (by kernel_rfl) (by kernel_rfl) (by kernel_rfl) (fun _ _ _ h => h) (Or.inr ⟨by rfl, rfl⟩) hHeld ?_
                        simp only [Act.put, List.setIfInBounds_toArray, List.set_cons_zero, List.set_cons_succ, List.getElem_toArray, List.getElem_cons_zero, List.getElem_cons_succ]
                        refine wpAnyH_take (i := 13) (v := undef) rfl (by kernel_rfl) (by kernel_rfl) (by kernel_rfl) (fun _ _ _ h => h) (Or.inr ⟨by rfl, rfl⟩) hHeld ?_
                        simp only [Act.put, List.setIfInBounds_toArray, List.set_cons_zero, List.set_cons_succ, List.getElem_toArray, List.getElem_cons_zero, List.getElem_cons_succ]
                        refine wpAnyH_take (i := 14) (v := undef) rfl (by kernel_rfl) (by kernel_rfl) (by kernel_rfl) (fun _ _ _ h => h) (Or.inr ⟨by rfl, rfl⟩) hHeld ?_
                        simp only [Act.put, List.setIfInBounds_toArray, List.set_cons_zero, List.set_cons_succ, List.getElem_toArray, List.getElem_cons_zero, List.getElem_cons_succ]
                        refine wpAnyH_take (i := 15) (v := undef) rfl (by kernel_rfl) (by kernel_rfl) (by kernel_rfl) (fun _ _ _ h => h) (Or.inr ⟨by rfl, rfl⟩) hHeld ?_
                        simp only [Act.put, List.setIfInBounds_toArray, List.set_cons_zero, List.set_cons_succ, List.getElem_toArray, List.getElem_cons_zero, List.getElem_cons_succ]
                        refine wpAnyH_take (i := 16) (v := undef) rfl (by kernel_rfl) (by kernel_rfl) (by kernel_rfl) (fun _ _ _ h => h) (Or.inr ⟨by rfl, rfl⟩) hHeld ?_
                        simp only [Act.put, List.setIfInBounds_toArray, List.set_cons_zero, List.set_cons_succ, List.getElem_toArray, List.getElem_cons_zero, List.getElem_cons_succ]
                        refine wpAnyH_take (i := 17) (v := undef) rfl (by kernel_rfl) (by kernel_rfl) (by kernel_rfl) (fun _ _ _ h => h) (Or.inr ⟨by rfl, rfl⟩) hHeld ?_
                        simp only [Act.put, List.setIfInBounds_toArray, List.set_cons_zero, List.set_cons_succ, List.getElem_toArray, List.getElem_cons_zero, List.getElem_cons_succ]
                        refine wpAnyH_take (i := 18) (v := undef) rfl (by kernel_rfl) (by kernel_rfl) (by kernel_rfl) (fun _ _ _ h => h) (Or.inr ⟨by rfl, rfl⟩) hHeld ?_
                        simp only [Act.put, List.setIfInBounds_toArray, List.set_cons_zero, List.set_cons_succ, List.getElem_toArray, List.getElem_cons_zero, List.getElem_cons_succ]
                        refine wpAnyH_take (i := 19) (v := undef) rfl (by kernel_rfl) (by kernel_rfl) (by kernel_rfl) (fun _ _ _ h => h) (Or.inr ⟨by rfl, rfl⟩) hHeld ?_
                        simp only [Act.put, List.setIfInBounds_toArray, List.set_cons_zero, List.set_cons_succ, List.getElem_toArray, List.getElem_cons_zero, List.getElem_cons_succ]
                        refine wpAnyH_take (i := 20) (v := ?_) rfl (by kernel_rfl) (by kernel_rfl) (by kernel_rfl) (fun _ _ _ h => h) (Or.inl ⟨by rfl, ?_⟩) hHeld ?_
                        rotate_left
                        · intro wS hSw
                          go_simp
                          rfl
                        simp only [Act.put, List.setIfInBounds_toArray, List.set_cons_zero, List.set_cons_succ, List.getElem_toArray, List.getElem_cons_zero, List.getElem_cons_succ]
                        refine wpAnyH_take (i := 21) (v := ?_) rfl (by kernel_rfl) (by kernel_rfl) (by kernel_rfl) (fun _ _ _ h => h) (Or.inl ⟨by rfl, ?_⟩) hHeld ?_
                        rotate_left
                        · intro wS hSw
                          go_simp
                          rfl
                        simp only [Act.put, List.setIfInBounds_toArray, List.set_cons_zero, List.set_cons_succ, List.getElem_toArray, List.getElem_cons_zero, List.getElem_cons_succ]
                        refine wpAnyH_done (by kernel_rfl) ?_ _
                        go_wp2_with fail
                        go_ret
                        refine ⟨?_, (hbw.trans (Hbc.out.mono hbw.size)).trans ((Hbu.out.trans (HBX.out.drew.mono hy8w)).mono (Nat.le_trans hbw.size Hbc.out.size))⟩
                        have := Ht.out
                        rw [HBad.out, Bool.true_or, if_pos rfl] at this
                        rw [this]
                        rfl
                  · have HBad := hide (show badI N C ⟨op, ia, ib, im, iname⟩ = false by unfold badI; rw [decide_eq_false q13]; rfl)
                    have bx := HBX.out
                    go_wp2_with fail
                    go_roundw
                    case rel =>
                      refine ⟨t + 1, by go_num, by omega, hide ?_, hide ((Below.heap_alloc _ _ _ hx8w).trans Hbt.out), hide (Hbu.out.trans (bx.mono hy8w))⟩
                      have := Ht.out
                      rw [HBad.out, Bool.false_or] at this
                      exact this
                    case measure => simp [intOf]; omega
                · have i5 : ¬ (t : Int) < ny := by omega
                  go_wp2_with fail
                  go_roundw
                  case rel =>
                    refine ⟨q + 1, by go_num, by omega, hide ?_, Hbt, hide (Hbc.out.trans (Hbu.out.mono (by omega)))⟩
                    have := Ht.out
                    rw [show yl.drop t = [] from List.drop_eq_nil_of_le (by rw [HNy.out]; omega), List.any_nil, Bool.false_or] at this
                    exact this
                  case measure => simp [intOf]; omega
            · have i4 : ¬ (q : Int) < n4 := by omega
              go_wp2_with fail
              go_roundw
              case rel =>
                refine ⟨j + 1, by go_num, by omega, hide ?_, hide (Hb8.out.trans (Hbc.out.mono Hb8.out.size))⟩
                have := Hr.out
                rw [show l4.drop q = [] from List.drop_eq_nil_of_le (by rw [HN4.out]; omega), List.any_nil, if_neg (by decide)] at this
                exact this
              case measure => simp [intOf]; omega
        · have i1 : ¬ (j : Int) < no := by omega
          go_wp2_with fail
          go_ret
          refine ⟨?_, hbw⟩
          have := Hq.out
          rw [List.drop_eq_nil_of_le (by rw [HPl.out]; omega)] at this
          rw [← this]
          rfl
end Go.Proofs.YtfbglokjehmgeaaGreatDoor
