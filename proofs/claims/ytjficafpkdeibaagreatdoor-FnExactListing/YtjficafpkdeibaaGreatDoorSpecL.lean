/- The model's listing of a code, its verification a premise. -/
import Derived.Test.YtjficafpkdeibaaGreatDoorSpecW
import Derived.Deep.LoopGhost
import Derived.Deep.CutRange
import Derived.Test.YtjficafpkdeibaaGreatDoorDigitsG
import Derived.Shelf.SlSortCmp.QuietGrown
namespace Go.Proofs.YtjficafpkdeibaaGreatDoor
open Go.ChangeShapes Go.WideShapes Go.ChangeAt Go.RowKit Go.PlainAid Go.Deep

set_option maxRecDepth 100000 in
set_option maxHeartbeats 4000000 in
theorem specListing_of (cn : ByteArray) (pp ce rr : Int) (l : List InsD) (v : Value) (m : Md) (w : World) (hv : CodeVal w m v ⟨cn, pp, ce, rr, l⟩) (hm : m.hi ≤ w.heap.size) (T1 T2 : Int)
    (hV : ∀ w', Below w.heap.size w w' → Calls Tryz.prog 31 #[v] w' fun e w2 => e = .returned (.tuple #[.int .i64 T1, .int .i64 T2]) ∧ Below w'.heap.size w' w2) (hG : T1 = 0 → l.length ≤ 2000 ∧ Good l) :
    Calls Tryz.prog 11 #[v] w fun e w' => e = .returned (.tuple #[.string (listB T1 l).1, .int .i64 (listB T1 l).2]) ∧ Below w.heap.size w w' := by
  obtain ⟨u4, rfl, -, a, c, rfl, hr⟩ := hv
  simp only [] at hr hV ⊢
  have HR := hide hr
  have HM := hide hm
  have HV := hide hV
  obtain ⟨n, hn⟩ : ∃ n, l.length = n := ⟨_, rfl⟩
  have HN := hide hn
  rw [hn] at HV ⊢
  obtain ⟨A, hA⟩ : ∃ A, listB T1 l = A := ⟨_, rfl⟩
  have HA := hide hA
  have B1 := hide ((Below.refl w.heap.size w).alloc (Nat.le_refl _) (.cells #[.string cn, .int .i64 pp, .int .i64 ce, .int .i64 rr, .slice a n c] 25))
  rw [hA]
  clear hr hm hV hn hA
  by_cases hz : T1 = 0
  · obtain ⟨hl, hg⟩ := hG hz
    rw [HN.out] at hl
    have HGd := hide hg
    obtain rfl : A = (⟨(rowsU 0 l).toArray⟩, 0) := by rw [← HA.out]; unfold listB; rw [if_pos hz]
    subst hz
    clear hG hg HA
    go_enter Tryz.func11, Tryz.ntmps11
    go_wp2_with (go_at_call 31; refine (HV.out _ B1.out).mono ?_; rintro e w1 ⟨rfl, b1⟩; have HB1 := hide (B1.out.trans (b1.mono B1.out.size)); have hz1 : w.heap.size < w1.heap.size := (by have := b1.size; simp at this; omega); have q4 := (heapCells ((b1.block w.heap.size (by simp)).trans (Deep.blk_alloc_new w (.cells #[.string cn, .int .i64 pp, .int .i64 ce, .int .i64 rr, .slice a n c] 25)))).1 4; simp only [List.getElem?_toArray, List.getElem?_cons_zero, List.getElem?_cons_succ] at q4; clear b1)
    go_loopg [6, 7] n (fun q dv iv wr => ∃ k : Nat, iv = .int .i64 k ∧ k ≤ n ∧ q = n - k ∧ Hid (Own wr w1.heap.size dv (nb (rowsU 0 (l.take k)))) ∧ Hid (Below w1.heap.size w1 wr))
    case atStart => exact ⟨0, rfl, by omega, rfl, hide (Own.made w1 w1.heap.size [] (Nat.le_refl _) (by decide)), hide ((Below.refl _ _).alloc (Nat.le_refl _) _)⟩
    case round =>
      obtain ⟨k, rfl, hk, hq, HBl, HB⟩ := hrel
      have HQ := hide hq
      have j4 := (HB.out.cell (p := ⟨w.heap.size, 4, none⟩) hz1).trans q4
      have hsz := HB.out.size
      clear hq q4
      by_cases hp : k < n
      · as_aux_lemma =>
        have i1 : (k : Int) < n := by omega
        have hkl : k < l.length := by rw [HN.out]; exact hp
        have hgk : GoodI l[k] := HGd.out _ (List.getElem_mem hkl)
        have hsn := rows_snoc l 0 k hkl
        have hlen := rows_len (l.take k) 0 (fun x hx => HGd.out x (List.mem_of_mem_take hx)) (by rw [List.length_take]; omega)
        rw [List.length_take] at hlen
        have hrow := row_len (i := k) hgk (by omega)
        rw [Nat.zero_add] at hsn
        obtain ⟨b, o, rfl, hb1, hb2, -, he⟩ := rows_on InsAt.stays HR.out ((HB1.out.trans (HB.out.mono HB1.out.size)).mono HM.out) k hkl
        have hcap : k ≤ c := by have := hb1.2; omega
        obtain ⟨x, hx⟩ : ∃ x, l[k] = x := ⟨_, rfl⟩
        rw [hx] at he hgk hsn hrow
        obtain ⟨⟨c0, c1, c2, c3, c4⟩, -⟩ := he
        simp only [Nat.add_zero] at c0 c1 c2 c3 c4
        obtain ⟨u, hu⟩ : ∃ u, nb (rowsU 0 (l.take k)) = u := ⟨_, rfl⟩
        have HNx := hide (show nb (rowsU 0 (l.take (k + 1))) = u ++ nb (rowU k x) by rw [hsn, nb_app, hu])
        have HLn : Hid (u.length ≤ 1000000) := hide (by rw [← hu, nb_len]; omega)
        have hOw := HBl.out
        obtain ⟨va, vc, rfl⟩ := own_form hOw
        rw [hu] at HBl
        rw [hu]
        have hIC := InsC.new x wr
        obtain ⟨W, hW⟩ : ∃ W, W = wr.alloc (.cells #[.int .i64 x.op, .int .i64 x.a, .int .i64 x.b, .string x.mod, .string x.name] 75) := ⟨_, rfl⟩
        rw [← hW] at hIC
        have bW : Below wr.heap.size wr W := by rw [hW]; exact (Below.refl _ _).alloc (Nat.le_refl _) _
        have HC : Hid (∀ w5, Below W.heap.size W w5 → InsC wr.heap.size x w5) := hide fun w5 b5 => hIC.on b5
        have HGI := hide hgk
        have HRw := hide hrow
        have HLk := hide hlen
        obtain ⟨op, ia, ib, im, iname⟩ := x
        simp only [] at c0 c1 c2 c3 c4 hW
        clear hb1 hx hsn hgk hrow hu hOw hIC hlen
        go_upto_region 9 with fail
        rw [← hW]
        clear hW c0 c1 c2 c3 c4 j4
        obtain ⟨q, hq⟩ : ∃ q : Nat, op = q := ⟨op.toNat, by have := HGI.out.1; simp only [] at this; omega⟩
        subst hq
        have hq1 : 1 ≤ q ∧ q ≤ 17 := by
          have h1 := HGI.out.1
          have h2 := HGI.out.2.1
          simp only [] at h1 h2
          omega
        obtain ⟨hq1, hq2⟩ := hq1
        have i18 : (q : Int) < 18 := by omega
        have ld := itoa_len (k : Int) (by omega) (by omega)
        have lw := word_len ⟨q, by omega⟩
        simp only [] at lw
        have HD : Hid (∀ w', Calls Tryz.prog 36 #[.int .i64 (k : Int)] w' fun e w2 => e = .returned (.string ⟨(Lib.itoa (k : Int)).toArray⟩) ∧ Below w'.heap.size w' w2) := hide (l00Digits_any (k : Int) (by omega) (by omega))
        have HWd : Hid (∀ w', Calls Tryz.prog 37 #[] w' fun e w2 => (∃ g, e = .returned (.slice (some ⟨g, 0, none⟩) 18 18) ∧ w2.cell? ⟨g, q, none⟩ = some (.string ⟨(wordU q).toArray⟩)) ∧ Below w'.heap.size w' w2) := hide fun w' => (words_any w').mono fun e w2 ⟨⟨g, h1, _, h3⟩, h4⟩ => ⟨⟨g, h1, h3 q (by omega)⟩, h4.below⟩
        have HRow : Hid (∀ t, (Lib.itoa (k : Int) ++ [32] ++ wordU q) ++ tailU ⟨q, ia, ib, im, iname⟩ = t → rowU k ⟨q, ia, ib, im, iname⟩ = t ++ [10]) := hide fun t ht => by rw [← ht]; unfold rowU; rfl
        generalize Lib.itoa (k : Int) = D at *
        generalize wordU q = Wd at *
        have hs1 : ¬ 9223372036854775807 < D.length + 1 := by omega
        have hs2 : ¬ 9223372036854775807 < D.length + 1 + Wd.length := by omega
        have y0 := (HC.out W (Below.refl _ _)).c0
        simp only [] at y0
        have HLD := hide (And.intro ld lw)
        have HO := hide (And.intro hq1 hq2)
        go_cut [9] from 18 to 102 (fun v wc => v = .string ⟨(D ++ [32] ++ Wd).toArray⟩ ∧ Hid (Below W.heap.size W wc))
        case first =>
          as_aux_lemma =>
          clear bW ld lw hq1 hq2
          go_region_law (first
            | (go_simp
               go_at_call 36
               refine (HD.out _).mono ?_
               rintro e w5 ⟨rfl, b5⟩
               have bb5 : Below W.heap.size W w5 := ((Below.refl _ _).drew).trans b5
               have y5 := (HC.out _ bb5).c0
               simp only [] at y5)
            | (go_simp
               go_at_call 37
               refine (HWd.out _).mono ?_
               rintro e w6 ⟨⟨g, rfl, hwc⟩, b6⟩
               have bb6 : Below W.heap.size W w6 := bb5.trans (b6.mono bb5.size)
               have y6 := (HC.out _ bb6).c0
               simp only [] at y6)
            | fail)
          all_goals
            go_wp2_with fail
            go_meet
            case rel => exact ⟨by rw [show (⟨#[32]⟩ : ByteArray) = ⟨([32] : List UInt8).toArray⟩ from rfl, ba_app, ba_app], hide bb6⟩
        case rest =>
          obtain ⟨rfl, HBc⟩ := hcut
          obtain ⟨wd, rfl⟩ : ∃ wd, wd = wc := ⟨_, rfl⟩
          have hI := HC.out _ HBc.out
          obtain ⟨z0, z1, z2, z3, z4, hlt⟩ := hI
          simp only [] at z0 z1 z2 z3 z4
          obtain ⟨t0, ht0⟩ : ∃ t0 : ByteArray, ⟨(D ++ [32] ++ Wd).toArray⟩ = t0 := ⟨_, rfl⟩
          obtain ⟨tx, htx⟩ : ∃ tx : ByteArray, ⟨((D ++ [32] ++ Wd) ++ tailU ⟨q, ia, ib, im, iname⟩).toArray⟩ = tx := ⟨_, rfl⟩
          have HTx : Hid (∀ tl, tailU ⟨q, ia, ib, im, iname⟩ = tl → t0 ++ ⟨tl.toArray⟩ = tx) := hide fun tl h => by rw [← htx, ← ht0, h, ba_app]
          have hst : t0.size ≤ 30 := by
            have h1 := HLD.out
            rw [← ht0, txt_size]
            simp only [List.length_append, List.length_cons, List.length_nil]
            omega
          have HTU : Hid (nb (rowU k ⟨q, ia, ib, im, iname⟩) = sb tx ++ [10]) := hide (by rw [HRow.out _ rfl, nb_app, nb_sb, ← htx, ub_mk]; rfl)
          have hxs : tx.size ≤ 200 := by
            have h1 := HRw.out
            rw [HRow.out _ rfl] at h1
            rw [← htx, txt_size]
            simp only [List.length_append] at h1 ⊢
            omega
          have HXs := hide hxs
          have HSt := hide hst
          have hgi := HGI.out
          unfold GoodI at hgi
          simp only [] at hgi
          obtain ⟨-, -, ga, gb, gm, gn, gs⟩ := hgi
          have HNa := hide (itoa_len ia ga.1 ga.2)
          have HNb := hide (itoa_len ib gb.1 gb.2)
          have HDg : Hid (∀ n, (n = ia ∨ n = ib) → ∀ w', Calls Tryz.prog 36 #[.int .i64 n] w' fun e w2 => e = .returned (.string ⟨(Lib.itoa n).toArray⟩) ∧ Below w'.heap.size w' w2) := hide fun n hn w' => by
            rcases hn with rfl | rfl
            · exact l00Digits_any _ ga.1 ga.2 w'
            · exact l00Digits_any _ gb.1 gb.2 w'
          have HEa : Hid ((⟨(numU ia).toArray⟩ : ByteArray) = ⟨#[32]⟩ ++ ⟨(Lib.itoa ia).toArray⟩) := hide (ba_app [32] _).symm
          have HEb : Hid ((⟨(numU ib).toArray⟩ : ByteArray) = ⟨#[32]⟩ ++ ⟨(Lib.itoa ib).toArray⟩) := hide (ba_app [32] _).symm
          have HEn : Hid ((⟨(nameU ⟨q, ia, ib, im, iname⟩).toArray⟩ : ByteArray) = ((⟨#[32]⟩ ++ im) ++ ⟨#[46]⟩) ++ iname) := hide (by
            unfold nameU
            have e1 := mk_ub im
            have e2 := mk_ub iname
            rw [← ba_app, ← ba_app, ← ba_app, e1, e2])
          have HBq := hide (HLn.out)
          rw [ht0]
          have HBW := hide bW
          clear ht0 htx hxs HD HWd HRow HRw hs1 hs2 y0 ld lw bW ga gb
          have hcl : q = 1 ∨ q = 2 ∨ q = 6 ∨ q = 11 ∨ q = 12 ∨ q = 15 ∨ q = 16 ∨ q = 17 ∨ q = 7 ∨ q = 3 ∨ q = 13 ∨ (q ≠ 1 ∧ q ≠ 2 ∧ q ≠ 6 ∧ q ≠ 11 ∧ q ≠ 12 ∧ q ≠ 15 ∧ q ≠ 16 ∧ q ≠ 17 ∧ q ≠ 7 ∧ q ≠ 3 ∧ q ≠ 13) := by omega
          rcases hcl with rfl | rfl | rfl | rfl | rfl | rfl | rfl | rfl | rfl | rfl | rfl | hne
          · as_aux_lemma =>
            have HTt := hide (HTx.out _ (show tailU ⟨((1 : Nat) : Int), ia, ib, im, iname⟩ = numU ia by simp [tailU]))
            have hnn := HNa.out
            have s1 : ¬ 9223372036854775807 < 1 + (Lib.itoa ia).length := by omega
            have s2 : ¬ 9223372036854775807 < t0.size + (1 + (Lib.itoa ia).length) := by omega
            have HDa : Hid (∀ w', Calls Tryz.prog 36 #[.int .i64 ia] w' fun e w2 => e = .returned (.string ⟨(Lib.itoa ia).toArray⟩) ∧ Below w'.heap.size w' w2) := hide (HDg.out ia (.inl rfl))
            generalize Lib.itoa ia = Na at *
            clear HTx HDg hnn gs
            go_wp2_with (first
              | (go_at_call 36; refine (HDa.out _).mono ?_; rintro e w5 ⟨rfl, b5⟩)
              | (at_builtin; have bb : Below wr.heap.size wr _ := HBW.out.trans ((HBc.out.trans (b5.mono HBc.out.size)).mono HBW.out.size); refine wp_append_text rfl _ _ rfl w1.heap.size (.slice va u.length vc) u rfl (HBl.out.on bb) tx (by rw [← HTt.out, HEa.out]; rfl) (by have := HBq.out; have := HXs.out; omega) (Nat.le_trans hsz bb.size) ?_; intro v7 w7 o7 k7)
              | (at_builtin; refine wp_append_bytes rfl _ _ rfl w1.heap.size v7 (u ++ sb tx) rfl (o7.alloc _) ⟨w7.heap.size, 0, none⟩ 1 1 [10] rfl rfl (one_new w7 10 _) (by rw [List.length_append, sb_len]; have := HBq.out; have := HXs.out; omega) (Nat.le_trans hsz (Nat.le_trans bb.size (Nat.le_trans k7.size (by simp)))) ?_; intro v8 w8 o8 k8))
            go_roundg (n - (k + 1))
            case measure => rw [HQ.out]; omega
            case rel => exact ⟨k + 1, by go_num, by omega, rfl, hide (by rw [HNx.out, HTU.out, ← List.append_assoc]; exact o8), hide (HB.out.trans ((bb.mono hsz).trans (k7.bel.trans (Kp.trans (Kp.of_below ((Below.refl _ _).alloc (Nat.le_refl _) _) (Nat.le_trans hsz (Nat.le_trans bb.size k7.size))) k8).bel)))⟩
          · as_aux_lemma =>
            have HTt := hide (HTx.out _ (show tailU ⟨((2 : Nat) : Int), ia, ib, im, iname⟩ = numU ia by simp [tailU]))
            have hnn := HNa.out
            have s1 : ¬ 9223372036854775807 < 1 + (Lib.itoa ia).length := by omega
            have s2 : ¬ 9223372036854775807 < t0.size + (1 + (Lib.itoa ia).length) := by omega
            have HDa : Hid (∀ w', Calls Tryz.prog 36 #[.int .i64 ia] w' fun e w2 => e = .returned (.string ⟨(Lib.itoa ia).toArray⟩) ∧ Below w'.heap.size w' w2) := hide (HDg.out ia (.inl rfl))
            generalize Lib.itoa ia = Na at *
            clear HTx HDg hnn gs
            go_wp2_with (first
              | (go_at_call 36; refine (HDa.out _).mono ?_; rintro e w5 ⟨rfl, b5⟩)
              | (at_builtin; have bb : Below wr.heap.size wr _ := HBW.out.trans ((HBc.out.trans (b5.mono HBc.out.size)).mono HBW.out.size); refine wp_append_text rfl _ _ rfl w1.heap.size (.slice va u.length vc) u rfl (HBl.out.on bb) tx (by rw [← HTt.out, HEa.out]; rfl) (by have := HBq.out; have := HXs.out; omega) (Nat.le_trans hsz bb.size) ?_; intro v7 w7 o7 k7)
              | (at_builtin; refine wp_append_bytes rfl _ _ rfl w1.heap.size v7 (u ++ sb tx) rfl (o7.alloc _) ⟨w7.heap.size, 0, none⟩ 1 1 [10] rfl rfl (one_new w7 10 _) (by rw [List.length_append, sb_len]; have := HBq.out; have := HXs.out; omega) (Nat.le_trans hsz (Nat.le_trans bb.size (Nat.le_trans k7.size (by simp)))) ?_; intro v8 w8 o8 k8))
            go_roundg (n - (k + 1))
            case measure => rw [HQ.out]; omega
            case rel => exact ⟨k + 1, by go_num, by omega, rfl, hide (by rw [HNx.out, HTU.out, ← List.append_assoc]; exact o8), hide (HB.out.trans ((bb.mono hsz).trans (k7.bel.trans (Kp.trans (Kp.of_below ((Below.refl _ _).alloc (Nat.le_refl _) _) (Nat.le_trans hsz (Nat.le_trans bb.size k7.size))) k8).bel)))⟩
          · as_aux_lemma =>
            have HTt := hide (HTx.out _ (show tailU ⟨((6 : Nat) : Int), ia, ib, im, iname⟩ = numU ia by simp [tailU]))
            have hnn := HNa.out
            have s1 : ¬ 9223372036854775807 < 1 + (Lib.itoa ia).length := by omega
            have s2 : ¬ 9223372036854775807 < t0.size + (1 + (Lib.itoa ia).length) := by omega
            have HDa : Hid (∀ w', Calls Tryz.prog 36 #[.int .i64 ia] w' fun e w2 => e = .returned (.string ⟨(Lib.itoa ia).toArray⟩) ∧ Below w'.heap.size w' w2) := hide (HDg.out ia (.inl rfl))
            generalize Lib.itoa ia = Na at *
            clear HTx HDg hnn gs
            go_wp2_with (first
              | (go_at_call 36; refine (HDa.out _).mono ?_; rintro e w5 ⟨rfl, b5⟩)
              | (at_builtin; have bb : Below wr.heap.size wr _ := HBW.out.trans ((HBc.out.trans (b5.mono HBc.out.size)).mono HBW.out.size); refine wp_append_text rfl _ _ rfl w1.heap.size (.slice va u.length vc) u rfl (HBl.out.on bb) tx (by rw [← HTt.out, HEa.out]; rfl) (by have := HBq.out; have := HXs.out; omega) (Nat.le_trans hsz bb.size) ?_; intro v7 w7 o7 k7)
              | (at_builtin; refine wp_append_bytes rfl _ _ rfl w1.heap.size v7 (u ++ sb tx) rfl (o7.alloc _) ⟨w7.heap.size, 0, none⟩ 1 1 [10] rfl rfl (one_new w7 10 _) (by rw [List.length_append, sb_len]; have := HBq.out; have := HXs.out; omega) (Nat.le_trans hsz (Nat.le_trans bb.size (Nat.le_trans k7.size (by simp)))) ?_; intro v8 w8 o8 k8))
            go_roundg (n - (k + 1))
            case measure => rw [HQ.out]; omega
            case rel => exact ⟨k + 1, by go_num, by omega, rfl, hide (by rw [HNx.out, HTU.out, ← List.append_assoc]; exact o8), hide (HB.out.trans ((bb.mono hsz).trans (k7.bel.trans (Kp.trans (Kp.of_below ((Below.refl _ _).alloc (Nat.le_refl _) _) (Nat.le_trans hsz (Nat.le_trans bb.size k7.size))) k8).bel)))⟩
          · as_aux_lemma =>
            have HTt := hide (HTx.out _ (show tailU ⟨((11 : Nat) : Int), ia, ib, im, iname⟩ = numU ia by simp [tailU]))
            have hnn := HNa.out
            have s1 : ¬ 9223372036854775807 < 1 + (Lib.itoa ia).length := by omega
            have s2 : ¬ 9223372036854775807 < t0.size + (1 + (Lib.itoa ia).length) := by omega
            have HDa : Hid (∀ w', Calls Tryz.prog 36 #[.int .i64 ia] w' fun e w2 => e = .returned (.string ⟨(Lib.itoa ia).toArray⟩) ∧ Below w'.heap.size w' w2) := hide (HDg.out ia (.inl rfl))
            generalize Lib.itoa ia = Na at *
            clear HTx HDg hnn gs
            go_wp2_with (first
              | (go_at_call 36; refine (HDa.out _).mono ?_; rintro e w5 ⟨rfl, b5⟩)
              | (at_builtin; have bb : Below wr.heap.size wr _ := HBW.out.trans ((HBc.out.trans (b5.mono HBc.out.size)).mono HBW.out.size); refine wp_append_text rfl _ _ rfl w1.heap.size (.slice va u.length vc) u rfl (HBl.out.on bb) tx (by rw [← HTt.out, HEa.out]; rfl) (by have := HBq.out; have := HXs.out; omega) (Nat.le_trans hsz bb.size) ?_; intro v7 w7 o7 k7)
              | (at_builtin; refine wp_append_bytes rfl _ _ rfl w1.heap.size v7 (u ++ sb tx) rfl (o7.alloc _) ⟨w7.heap.size, 0, none⟩ 1 1 [10] rfl rfl (one_new w7 10 _) (by rw [List.length_append, sb_len]; have := HBq.out; have := HXs.out; omega) (Nat.le_trans hsz (Nat.le_trans bb.size (Nat.le_trans k7.size (by simp)))) ?_; intro v8 w8 o8 k8))
            go_roundg (n - (k + 1))
            case measure => rw [HQ.out]; omega
            case rel => exact ⟨k + 1, by go_num, by omega, rfl, hide (by rw [HNx.out, HTU.out, ← List.append_assoc]; exact o8), hide (HB.out.trans ((bb.mono hsz).trans (k7.bel.trans (Kp.trans (Kp.of_below ((Below.refl _ _).alloc (Nat.le_refl _) _) (Nat.le_trans hsz (Nat.le_trans bb.size k7.size))) k8).bel)))⟩
          · as_aux_lemma =>
            have HTt := hide (HTx.out _ (show tailU ⟨((12 : Nat) : Int), ia, ib, im, iname⟩ = numU ia by simp [tailU]))
            have hnn := HNa.out
            have s1 : ¬ 9223372036854775807 < 1 + (Lib.itoa ia).length := by omega
            have s2 : ¬ 9223372036854775807 < t0.size + (1 + (Lib.itoa ia).length) := by omega
            have HDa : Hid (∀ w', Calls Tryz.prog 36 #[.int .i64 ia] w' fun e w2 => e = .returned (.string ⟨(Lib.itoa ia).toArray⟩) ∧ Below w'.heap.size w' w2) := hide (HDg.out ia (.inl rfl))
            generalize Lib.itoa ia = Na at *
            clear HTx HDg hnn gs
            go_wp2_with (first
              | (go_at_call 36; refine (HDa.out _).mono ?_; rintro e w5 ⟨rfl, b5⟩)
              | (at_builtin; have bb : Below wr.heap.size wr _ := HBW.out.trans ((HBc.out.trans (b5.mono HBc.out.size)).mono HBW.out.size); refine wp_append_text rfl _ _ rfl w1.heap.size (.slice va u.length vc) u rfl (HBl.out.on bb) tx (by rw [← HTt.out, HEa.out]; rfl) (by have := HBq.out; have := HXs.out; omega) (Nat.le_trans hsz bb.size) ?_; intro v7 w7 o7 k7)
              | (at_builtin; refine wp_append_bytes rfl _ _ rfl w1.heap.size v7 (u ++ sb tx) rfl (o7.alloc _) ⟨w7.heap.size, 0, none⟩ 1 1 [10] rfl rfl (one_new w7 10 _) (by rw [List.length_append, sb_len]; have := HBq.out; have := HXs.out; omega) (Nat.le_trans hsz (Nat.le_trans bb.size (Nat.le_trans k7.size (by simp)))) ?_; intro v8 w8 o8 k8))
            go_roundg (n - (k + 1))
            case measure => rw [HQ.out]; omega
            case rel => exact ⟨k + 1, by go_num, by omega, rfl, hide (by rw [HNx.out, HTU.out, ← List.append_assoc]; exact o8), hide (HB.out.trans ((bb.mono hsz).trans (k7.bel.trans (Kp.trans (Kp.of_below ((Below.refl _ _).alloc (Nat.le_refl _) _) (Nat.le_trans hsz (Nat.le_trans bb.size k7.size))) k8).bel)))⟩
          · as_aux_lemma =>
            have HTt := hide (HTx.out _ (show tailU ⟨((15 : Nat) : Int), ia, ib, im, iname⟩ = numU ia by simp [tailU]))
            have hnn := HNa.out
            have s1 : ¬ 9223372036854775807 < 1 + (Lib.itoa ia).length := by omega
            have s2 : ¬ 9223372036854775807 < t0.size + (1 + (Lib.itoa ia).length) := by omega
            have HDa : Hid (∀ w', Calls Tryz.prog 36 #[.int .i64 ia] w' fun e w2 => e = .returned (.string ⟨(Lib.itoa ia).toArray⟩) ∧ Below w'.heap.size w' w2) := hide (HDg.out ia (.inl rfl))
            generalize Lib.itoa ia = Na at *
            clear HTx HDg hnn gs
            go_wp2_with (first
              | (go_at_call 36; refine (HDa.out _).mono ?_; rintro e w5 ⟨rfl, b5⟩)
              | (at_builtin; have bb : Below wr.heap.size wr _ := HBW.out.trans ((HBc.out.trans (b5.mono HBc.out.size)).mono HBW.out.size); refine wp_append_text rfl _ _ rfl w1.heap.size (.slice va u.length vc) u rfl (HBl.out.on bb) tx (by rw [← HTt.out, HEa.out]; rfl) (by have := HBq.out; have := HXs.out; omega) (Nat.le_trans hsz bb.size) ?_; intro v7 w7 o7 k7)
              | (at_builtin; refine wp_append_bytes rfl _ _ rfl w1.heap.size v7 (u ++ sb tx) rfl (o7.alloc _) ⟨w7.heap.size, 0, none⟩ 1 1 [10] rfl rfl (one_new w7 10 _) (by rw [List.length_append, sb_len]; have := HBq.out; have := HXs.out; omega) (Nat.le_trans hsz (Nat.le_trans bb.size (Nat.le_trans k7.size (by simp)))) ?_; intro v8 w8 o8 k8))
            go_roundg (n - (k + 1))
            case measure => rw [HQ.out]; omega
            case rel => exact ⟨k + 1, by go_num, by omega, rfl, hide (by rw [HNx.out, HTU.out, ← List.append_assoc]; exact o8), hide (HB.out.trans ((bb.mono hsz).trans (k7.bel.trans (Kp.trans (Kp.of_below ((Below.refl _ _).alloc (Nat.le_refl _) _) (Nat.le_trans hsz (Nat.le_trans bb.size k7.size))) k8).bel)))⟩
          · as_aux_lemma =>
            have HTt := hide (HTx.out _ (show tailU ⟨((16 : Nat) : Int), ia, ib, im, iname⟩ = numU ia by simp [tailU]))
            have hnn := HNa.out
            have s1 : ¬ 9223372036854775807 < 1 + (Lib.itoa ia).length := by omega
            have s2 : ¬ 9223372036854775807 < t0.size + (1 + (Lib.itoa ia).length) := by omega
            have HDa : Hid (∀ w', Calls Tryz.prog 36 #[.int .i64 ia] w' fun e w2 => e = .returned (.string ⟨(Lib.itoa ia).toArray⟩) ∧ Below w'.heap.size w' w2) := hide (HDg.out ia (.inl rfl))
            generalize Lib.itoa ia = Na at *
            clear HTx HDg hnn gs
            go_wp2_with (first
              | (go_at_call 36; refine (HDa.out _).mono ?_; rintro e w5 ⟨rfl, b5⟩)
              | (at_builtin; have bb : Below wr.heap.size wr _ := HBW.out.trans ((HBc.out.trans (b5.mono HBc.out.size)).mono HBW.out.size); refine wp_append_text rfl _ _ rfl w1.heap.size (.slice va u.length vc) u rfl (HBl.out.on bb) tx (by rw [← HTt.out, HEa.out]; rfl) (by have := HBq.out; have := HXs.out; omega) (Nat.le_trans hsz bb.size) ?_; intro v7 w7 o7 k7)
              | (at_builtin; refine wp_append_bytes rfl _ _ rfl w1.heap.size v7 (u ++ sb tx) rfl (o7.alloc _) ⟨w7.heap.size, 0, none⟩ 1 1 [10] rfl rfl (one_new w7 10 _) (by rw [List.length_append, sb_len]; have := HBq.out; have := HXs.out; omega) (Nat.le_trans hsz (Nat.le_trans bb.size (Nat.le_trans k7.size (by simp)))) ?_; intro v8 w8 o8 k8))
            go_roundg (n - (k + 1))
            case measure => rw [HQ.out]; omega
            case rel => exact ⟨k + 1, by go_num, by omega, rfl, hide (by rw [HNx.out, HTU.out, ← List.append_assoc]; exact o8), hide (HB.out.trans ((bb.mono hsz).trans (k7.bel.trans (Kp.trans (Kp.of_below ((Below.refl _ _).alloc (Nat.le_refl _) _) (Nat.le_trans hsz (Nat.le_trans bb.size k7.size))) k8).bel)))⟩
          · as_aux_lemma =>
            have HTt := hide (HTx.out _ (show tailU ⟨((17 : Nat) : Int), ia, ib, im, iname⟩ = numU ia by simp [tailU]))
            have hnn := HNa.out
            have s1 : ¬ 9223372036854775807 < 1 + (Lib.itoa ia).length := by omega
            have s2 : ¬ 9223372036854775807 < t0.size + (1 + (Lib.itoa ia).length) := by omega
            have HDa : Hid (∀ w', Calls Tryz.prog 36 #[.int .i64 ia] w' fun e w2 => e = .returned (.string ⟨(Lib.itoa ia).toArray⟩) ∧ Below w'.heap.size w' w2) := hide (HDg.out ia (.inl rfl))
            generalize Lib.itoa ia = Na at *
            clear HTx HDg hnn gs
            go_wp2_with (first
              | (go_at_call 36; refine (HDa.out _).mono ?_; rintro e w5 ⟨rfl, b5⟩)
              | (at_builtin; have bb : Below wr.heap.size wr _ := HBW.out.trans ((HBc.out.trans (b5.mono HBc.out.size)).mono HBW.out.size); refine wp_append_text rfl _ _ rfl w1.heap.size (.slice va u.length vc) u rfl (HBl.out.on bb) tx (by rw [← HTt.out, HEa.out]; rfl) (by have := HBq.out; have := HXs.out; omega) (Nat.le_trans hsz bb.size) ?_; intro v7 w7 o7 k7)
              | (at_builtin; refine wp_append_bytes rfl _ _ rfl w1.heap.size v7 (u ++ sb tx) rfl (o7.alloc _) ⟨w7.heap.size, 0, none⟩ 1 1 [10] rfl rfl (one_new w7 10 _) (by rw [List.length_append, sb_len]; have := HBq.out; have := HXs.out; omega) (Nat.le_trans hsz (Nat.le_trans bb.size (Nat.le_trans k7.size (by simp)))) ?_; intro v8 w8 o8 k8))
            go_roundg (n - (k + 1))
            case measure => rw [HQ.out]; omega
            case rel => exact ⟨k + 1, by go_num, by omega, rfl, hide (by rw [HNx.out, HTU.out, ← List.append_assoc]; exact o8), hide (HB.out.trans ((bb.mono hsz).trans (k7.bel.trans (Kp.trans (Kp.of_below ((Below.refl _ _).alloc (Nat.le_refl _) _) (Nat.le_trans hsz (Nat.le_trans bb.size k7.size))) k8).bel)))⟩
          · as_aux_lemma =>
            obtain ⟨g0, g1⟩ := gs rfl
            obtain ⟨j, rfl⟩ : ∃ j : Nat, ia = j := ⟨ia.toNat, by omega⟩
            have hj : j < 11 := by omega
            have ij : (j : Int) < 11 := by omega
            have HTt := hide (HTx.out (32 :: signU j) (by simp [tailU]))
            have sl := sign_len ⟨j, hj⟩
            simp only [] at sl
            have HSg : Hid (∀ w', Calls Tryz.prog 38 #[] w' fun e w2 => (∃ g, e = .returned (.slice (some ⟨g, 0, none⟩) 11 11) ∧ w2.cell? ⟨g, j, none⟩ = some (.string ⟨(signU j).toArray⟩)) ∧ Below w'.heap.size w' w2) := hide fun w' => (signs_at w').mono fun e w2 ⟨⟨g, h1, _, h3⟩, h4⟩ => ⟨⟨g, h1, h3 j hj⟩, h4.below⟩
            have HEs : Hid ((⟨(32 :: signU j).toArray⟩ : ByteArray) = ⟨#[32]⟩ ++ ⟨(signU j).toArray⟩) := hide (ba_app [32] _).symm
            generalize 32 :: signU j = sg at *
            generalize signU j = S at *
            have s1 : ¬ 9223372036854775807 < 1 + S.length := by omega
            have s2 : ¬ 9223372036854775807 < t0.size + (1 + S.length) := by omega
            clear HTx HDg HNa HNb HEa HEb HEn gs g0 g1 sl
            go_upto_region 21 with fail
            go_region_law (first
              | (go_simp
                 go_at_call 38
                 refine (HSg.out _).mono ?_
                 rintro e w6 ⟨⟨g, rfl, hwc⟩, b6⟩
                 have bb6 : Below W.heap.size W w6 := HBc.out.trans ((((Below.refl _ _).drew).trans b6).mono HBc.out.size)
                 have y6 := (HC.out _ bb6).c1
                 simp only [] at y6)
              | fail)
            all_goals
              go_wp2_with (first
                | (at_builtin; have bb : Below wr.heap.size wr _ := HBW.out.trans ((bb6).mono HBW.out.size); refine wp_append_text rfl _ _ rfl w1.heap.size (.slice va u.length vc) u rfl (HBl.out.on bb) tx (by rw [← HTt.out, HEs.out]; rfl) (by have := HBq.out; have := HXs.out; omega) (Nat.le_trans hsz bb.size) ?_; intro v7 w7 o7 k7)
                | (at_builtin; refine wp_append_bytes rfl _ _ rfl w1.heap.size v7 (u ++ sb tx) rfl (o7.alloc _) ⟨w7.heap.size, 0, none⟩ 1 1 [10] rfl rfl (one_new w7 10 _) (by rw [List.length_append, sb_len]; have := HBq.out; have := HXs.out; omega) (Nat.le_trans hsz (Nat.le_trans bb.size (Nat.le_trans k7.size (by simp)))) ?_; intro v8 w8 o8 k8))
              go_roundg (n - (k + 1))
              case measure => rw [HQ.out]; omega
              case rel => exact ⟨k + 1, by go_num, by omega, rfl, hide (by rw [HNx.out, HTU.out, ← List.append_assoc]; exact o8), hide (HB.out.trans ((bb.mono hsz).trans (k7.bel.trans (Kp.trans (Kp.of_below ((Below.refl _ _).alloc (Nat.le_refl _) _) (Nat.le_trans hsz (Nat.le_trans bb.size k7.size))) k8).bel)))⟩
          · as_aux_lemma =>
            have HTt := hide (HTx.out _ (show tailU ⟨((3 : Nat) : Int), ia, ib, im, iname⟩ = nameU ⟨((3 : Nat) : Int), ia, ib, im, iname⟩ by simp [tailU]))
            clear HTx HDg gs
            go_wp2_with (first
              | (at_builtin; have bb : Below wr.heap.size wr _ := HBW.out.trans ((HBc.out).mono HBW.out.size); refine wp_append_text rfl _ _ rfl w1.heap.size (.slice va u.length vc) u rfl (HBl.out.on bb) tx (by rw [← HTt.out, HEn.out]; rfl) (by have := HBq.out; have := HXs.out; omega) (Nat.le_trans hsz bb.size) ?_; intro v7 w7 o7 k7)
              | (at_builtin; refine wp_append_bytes rfl _ _ rfl w1.heap.size v7 (u ++ sb tx) rfl (o7.alloc _) ⟨w7.heap.size, 0, none⟩ 1 1 [10] rfl rfl (one_new w7 10 _) (by rw [List.length_append, sb_len]; have := HBq.out; have := HXs.out; omega) (Nat.le_trans hsz (Nat.le_trans bb.size (Nat.le_trans k7.size (by simp)))) ?_; intro v8 w8 o8 k8))
            go_roundg (n - (k + 1))
            case measure => rw [HQ.out]; omega
            case rel => exact ⟨k + 1, by go_num, by omega, rfl, hide (by rw [HNx.out, HTU.out, ← List.append_assoc]; exact o8), hide (HB.out.trans ((bb.mono hsz).trans (k7.bel.trans (Kp.trans (Kp.of_below ((Below.refl _ _).alloc (Nat.le_refl _) _) (Nat.le_trans hsz (Nat.le_trans bb.size k7.size))) k8).bel)))⟩
          · as_aux_lemma =>
            have HTt := hide (HTx.out _ (show tailU ⟨((13 : Nat) : Int), ia, ib, im, iname⟩ = (nameU ⟨((13 : Nat) : Int), ia, ib, im, iname⟩ ++ numU ia) ++ numU ib by simp [tailU]))
            have HE3 : Hid ((⟨((nameU ⟨((13 : Nat) : Int), ia, ib, im, iname⟩ ++ numU ia) ++ numU ib).toArray⟩ : ByteArray) = ((((((⟨#[32]⟩ ++ im) ++ ⟨#[46]⟩) ++ iname) ++ ⟨#[32]⟩) ++ ⟨(Lib.itoa ia).toArray⟩) ++ ⟨#[32]⟩) ++ ⟨(Lib.itoa ib).toArray⟩) := hide (by
              rw [← ba_app, ← ba_app, HEn.out, HEa.out, HEb.out]
              simp only [ByteArray.append_assoc])
            have n1 := HNa.out
            have n2 := HNb.out
            have hmix : Tryz.prog.follows .mixedOrders = true := by kernel_rfl
            have HDq : Hid (∀ m, (m = ia ∨ m = ib) → ∀ n os, Calls Tryz.prog 36 #[.int .i64 m] (Sort.grow (wd.drewN n) os) fun e w' => e = .returned (.string ⟨(Lib.itoa m).toArray⟩) ∧ ∃ p : GrownBy, w' = Sort.grow (wd.drewN p.n) p.os) := hide fun m hmm n os => by
              have hm2 : I64 m := by
                have hg := HGI.out
                unfold GoodI at hg
                rcases hmm with rfl | rfl
                · exact hg.2.2.1
                · exact hg.2.2.2.1
              exact Calls.grown_of ((l00DigitsG_any m hm2.1 hm2.2 _).mono fun _ _ ⟨a, n, os, hq⟩ => ⟨a, n, os, hq⟩)
            have s1 : ¬ 9223372036854775807 < 1 + im.size := by omega
            have s2 : ¬ 9223372036854775807 < 1 + im.size + 1 := by omega
            have s3 : ¬ 9223372036854775807 < 1 + im.size + 1 + iname.size := by omega
            have s4 : ¬ 9223372036854775807 < 1 + im.size + 1 + iname.size + 1 := by omega
            have s5 : ¬ 9223372036854775807 < 1 + im.size + 1 + iname.size + 1 + (Lib.itoa ia).length := by omega
            have s6 : ¬ 9223372036854775807 < 1 + im.size + 1 + iname.size + 1 + (Lib.itoa ia).length + 1 := by omega
            have s7 : ¬ 9223372036854775807 < 1 + im.size + 1 + iname.size + 1 + (Lib.itoa ia).length + 1 + (Lib.itoa ib).length := by omega
            have s8 : ¬ 9223372036854775807 < t0.size + (1 + im.size + 1 + iname.size + 1 + (Lib.itoa ia).length + 1 + (Lib.itoa ib).length) := by omega
            have k1 := fun n os => cell_grown (w := wd) (a := ⟨wr.heap.size, 1, none⟩) hlt z1 n os
            have k2 := fun n os => cell_grown (w := wd) (a := ⟨wr.heap.size, 2, none⟩) hlt z2 n os
            have k3 := fun n os => cell_grown (w := wd) (a := ⟨wr.heap.size, 3, none⟩) hlt z3 n os
            have k4 := fun n os => cell_grown (w := wd) (a := ⟨wr.heap.size, 4, none⟩) hlt z4 n os
            clear HTx gs n1 n2 hst HDg HEa HEb HEn
            go_upto_region 25 with fail
            clear z0 z1 z2 z3 z4
            refine wp_region_quiet_grown (by assumption) (by kernel_rfl) ?_
            repeat (first | go_big_quiet_skip | quiet_step (first | (go_at_call 36; exact HDq.out _ (by first | exact .inl rfl | exact .inr rfl) _ _)))
            refine wpQuiet_nil ?_
            intro _ hw'
            obtain ⟨⟨nq, osq⟩, hw''⟩ := hw'
            subst hw''
            have bb2 : Below W.heap.size W (Sort.grow (wd.drewN nq) osq) := HBc.out.trans ((Gw.below ⟨nq, osq, rfl⟩).mono HBc.out.size)
            · go_wp2_with (first
                | (at_builtin; have bb : Below wr.heap.size wr _ := HBW.out.trans ((bb2).mono HBW.out.size); refine wp_append_text rfl _ _ rfl w1.heap.size (.slice va u.length vc) u rfl (HBl.out.on bb) tx (by rw [← HTt.out, HE3.out]; rfl) (by have := HBq.out; have := HXs.out; omega) (Nat.le_trans hsz bb.size) ?_; intro v7 w7 o7 k7)
                | (at_builtin; refine wp_append_bytes rfl _ _ rfl w1.heap.size v7 (u ++ sb tx) rfl (o7.alloc _) ⟨w7.heap.size, 0, none⟩ 1 1 [10] rfl rfl (one_new w7 10 _) (by rw [List.length_append, sb_len]; have := HBq.out; have := HXs.out; omega) (Nat.le_trans hsz (Nat.le_trans bb.size (Nat.le_trans k7.size (by simp)))) ?_; intro v8 w8 o8 k8))
              go_roundg (n - (k + 1))
              case measure => rw [HQ.out]; omega
              case rel => exact ⟨k + 1, by go_num, by omega, rfl, hide (by rw [HNx.out, HTU.out, ← List.append_assoc]; exact o8), hide (HB.out.trans ((bb.mono hsz).trans (k7.bel.trans (Kp.trans (Kp.of_below ((Below.refl _ _).alloc (Nat.le_refl _) _) (Nat.le_trans hsz (Nat.le_trans bb.size k7.size))) k8).bel)))⟩
          · as_aux_lemma =>
            obtain ⟨h1, h2, h6, h11, h12, h15, h16, h17, h7, h3, h13⟩ := hne
            have HTt := hide (HTx.out [] (by
              unfold tailU
              rw [if_neg (show ¬ (q : Int) = 7 by omega), if_neg (show ¬ (q : Int) = 3 by omega), if_neg (show ¬ (q : Int) = 13 by omega), if_neg (show ¬ ((q : Int) = 1 ∨ (q : Int) = 2 ∨ (q : Int) = 6 ∨ (q : Int) = 11 ∨ (q : Int) = 12 ∨ (q : Int) = 15 ∨ (q : Int) = 16 ∨ (q : Int) = 17) by omega)]))
            have HTe : Hid (t0 = tx) := hide (by
              rw [← HTt.out]
              apply ByteArray.ext
              rw [ByteArray.data_append]
              exact (Array.append_empty).symm)
            have e1 : ((q : Int) == 1) = false := by simp; omega
            have e2 : ((q : Int) == 2) = false := by simp; omega
            have e3 : ((q : Int) == 3) = false := by simp; omega
            have e6 : ((q : Int) == 6) = false := by simp; omega
            have e7 : ((q : Int) == 7) = false := by simp; omega
            have e11 : ((q : Int) == 11) = false := by simp; omega
            have e12 : ((q : Int) == 12) = false := by simp; omega
            have e13 : ((q : Int) == 13) = false := by simp; omega
            have e15 : ((q : Int) == 15) = false := by simp; omega
            have e16 : ((q : Int) == 16) = false := by simp; omega
            have e17 : ((q : Int) == 17) = false := by simp; omega
            clear h1 h2 h6 h11 h12 h15 h16 h17 h7 h3 h13 HTx gs HDg
            go_wp2_with (first
              | (at_builtin; have bb : Below wr.heap.size wr _ := HBW.out.trans ((HBc.out).mono HBW.out.size); refine wp_append_text rfl _ _ rfl w1.heap.size (.slice va u.length vc) u rfl (HBl.out.on bb) tx (by rw [← HTe.out]; rfl) (by have := HBq.out; have := HXs.out; omega) (Nat.le_trans hsz bb.size) ?_; intro v7 w7 o7 k7)
              | (at_builtin; refine wp_append_bytes rfl _ _ rfl w1.heap.size v7 (u ++ sb tx) rfl (o7.alloc _) ⟨w7.heap.size, 0, none⟩ 1 1 [10] rfl rfl (one_new w7 10 _) (by rw [List.length_append, sb_len]; have := HBq.out; have := HXs.out; omega) (Nat.le_trans hsz (Nat.le_trans bb.size (Nat.le_trans k7.size (by simp)))) ?_; intro v8 w8 o8 k8))
            go_roundg (n - (k + 1))
            case measure => rw [HQ.out]; omega
            case rel => exact ⟨k + 1, by go_num, by omega, rfl, hide (by rw [HNx.out, HTU.out, ← List.append_assoc]; exact o8), hide (HB.out.trans ((bb.mono hsz).trans (k7.bel.trans (Kp.trans (Kp.of_below ((Below.refl _ _).alloc (Nat.le_refl _) _) (Nat.le_trans hsz (Nat.le_trans bb.size k7.size))) k8).bel)))⟩
      · as_aux_lemma =>
        have i1 : ¬ (k : Int) < n := by omega
        obtain rfl : k = n := by omega
        have hOw := HBl.out
        have hcv := conv_own hOw
        rw [nb_back, show l.take k = l from List.take_of_length_le (by rw [HN.out]; omega)] at hcv
        obtain ⟨va, vc, rfl⟩ := own_form hOw
        clear hOw
        go_wp2
        go_ret2
        exact ⟨rfl, HB1.out.trans (HB.out.mono HB1.out.size)⟩
  · as_aux_lemma =>
    obtain rfl : A = (⟨#[]⟩, 1) := by rw [← HA.out]; unfold listB; rw [if_neg hz]
    have hz1 : (T1 != 0) = true := by simpa using hz
    clear hz hG HA
    go_enter Tryz.func11, Tryz.ntmps11
    go_wp2_with (go_at_call 31; refine (HV.out _ B1.out).mono ?_; rintro e w1 ⟨rfl, b1⟩)
    go_ret2
    exact ⟨rfl, B1.out.trans (b1.mono B1.out.size)⟩
end Go.Proofs.YtjficafpkdeibaaGreatDoor
