/- The program's listing of a code, its verification a premise. Listed: the table of signs and the library's powers of ten. -/
import Derived.Test.YtjficafpkdeibaaGreatDoorTell
import Derived.Test.YtjficafpkdeibaaGreatDoorSpecW
import Derived.Deep.LoopGhost
import Derived.Test.YtjficafpkdeibaaGreatDoorOps
import Derived.Test.YtjficafpkdeibaaGreatDoorBuildF
import Derived.Deep.RegionHeld3
namespace Go.Proofs.YtjficafpkdeibaaGreatDoor
open Go.ChangeShapes Go.WideShapes Go.ChangeAt Go.RowKit Go.PlainAid Go.Deep

/-- Which of the five ways an operation's tail is told. -/
def tailN (q : Nat) : Nat := if q = 7 then 86 else if q = 3 then 82 else if q = 13 then 89 else if q = 1 ∨ q = 2 ∨ q = 6 ∨ q = 11 ∨ q = 12 ∨ q = 15 ∨ q = 16 ∨ q = 17 then 79 else 84
theorem ops_at (q : Nat) (h1 : 1 ≤ q) (h2 : q ≤ 17) : ∃ (t l : Int) (g : Nat), opsCells[q * 5]? = some (.string ⟨(wordU q).toArray⟩) ∧ opsCells[q * 5 + 1]? = some (.int .i64 t) ∧ opsCells[q * 5 + 2]? = some (.int .i64 l) ∧ opsCells[q * 5 + 3]? = some (.func (.func (tailN q)) #[] #[]) ∧ opsCells[q * 5 + 4]? = some (.func (.func g) #[] #[]) := by
  have : q = 1 ∨ q = 2 ∨ q = 3 ∨ q = 4 ∨ q = 5 ∨ q = 6 ∨ q = 7 ∨ q = 8 ∨ q = 9 ∨ q = 10 ∨ q = 11 ∨ q = 12 ∨ q = 13 ∨ q = 14 ∨ q = 15 ∨ q = 16 ∨ q = 17 := by omega
  rcases this with rfl | rfl | rfl | rfl | rfl | rfl | rfl | rfl | rfl | rfl | rfl | rfl | rfl | rfl | rfl | rfl | rfl <;> exact ⟨_, _, _, rfl, rfl, rfl, rfl, rfl⟩
theorem op_one (a b c d e : Value) (ha : a.oneCell' = true) (hb : b.oneCell' = true) (hc : c.oneCell' = true) (hd : d.oneCell' = true) (he : e.oneCell' = true) : (#[a, b, c, d, e].all (·.oneCell')) = true := by simp [ha, hb, hc, hd, he]
theorem op_info5 : (Tryz.prog.info? 68).map (·.size) = some 5 := by kernel_rfl
/-- An operation's row, its cells. -/
structure OpC (b F : Nat) (Wd : List UInt8) (w : World) : Prop where
  c0 : w.cell? ⟨b, 0, none⟩ = some (.string ⟨Wd.toArray⟩)
  c3 : w.cell? ⟨b, 3, none⟩ = some (.func (.func F) #[] #[])
  lt : b < w.heap.size
theorem OpC.on {b F : Nat} {Wd : List UInt8} {w w' : World} (h : OpC b F Wd w) (bel : Below w.heap.size w w') : OpC b F Wd w' :=
  ⟨(bel.cell (p := ⟨b, 0, none⟩) h.lt).trans h.c0, (bel.cell (p := ⟨b, 3, none⟩) h.lt).trans h.c3, Nat.lt_of_lt_of_le h.lt bel.size⟩
/-- The cells of an instruction's copy and of its operation's row, beside one another. -/
theorem seven {w' : World} {b : Nat} {op ia ib tk lv : Int} {im iname : ByteArray} {Wd : List UInt8} {F g : Nat} (h1 : w'.heap[b]? = some (.cells #[.int .i64 op, .int .i64 ia, .int .i64 ib, .string im, .string iname] 75 (0, 0)))
    (h2 : w'.heap[b + 1]? = some (.cells #[.string ⟨Wd.toArray⟩, .int .i64 tk, .int .i64 lv, .func (.func F) #[] #[], .func (.func g) #[] #[]] 68 (0, 0))) :
    w'.cell? ⟨b, 0, none⟩ = some (.int .i64 op) ∧ w'.cell? ⟨b, 1, none⟩ = some (.int .i64 ia) ∧ w'.cell? ⟨b, 2, none⟩ = some (.int .i64 ib) ∧ w'.cell? ⟨b, 3, none⟩ = some (.string im) ∧ w'.cell? ⟨b, 4, none⟩ = some (.string iname) ∧ w'.cell? ⟨b + 1, 0, none⟩ = some (.string ⟨Wd.toArray⟩) ∧ w'.cell? ⟨b + 1, 3, none⟩ = some (.func (.func F) #[] #[]) :=
  ⟨(heapCells h1).1 0, (heapCells h1).1 1, (heapCells h1).1 2, (heapCells h1).1 3, (heapCells h1).1 4, (heapCells h2).1 0, (heapCells h2).1 3⟩
theorem rowText (D Wd T : List UInt8) : ((((⟨D.toArray⟩ : ByteArray) ++ ⟨#[32]⟩) ++ ⟨Wd.toArray⟩) ++ ⟨T.toArray⟩) ++ ⟨#[10]⟩ = ⟨(((D ++ [32] ++ Wd) ++ T) ++ [10]).toArray⟩ := by
  rw [show (⟨#[32]⟩ : ByteArray) = ⟨([32] : List UInt8).toArray⟩ from rfl, show (⟨#[10]⟩ : ByteArray) = ⟨([10] : List UInt8).toArray⟩ from rfl, ba_app, ba_app, ba_app, ba_app]
set_option maxRecDepth 100000 in
set_option maxHeartbeats 4000000 in
theorem implListing_of (cn : ByteArray) (pp ce rr : Int) (l : List InsD) (v : Value) (m : Md) (w : World) (hv : CodeVal w m v ⟨cn, pp, ce, rr, l⟩) (hm : m.hi ≤ w.heap.size) (T1 T2 : Int)
    (hV : ∀ w', Below w.heap.size w w' → Calls Tryz.prog 8 #[v] w' fun e w2 => e = .returned (.tuple #[.int .i64 T1, .int .i64 T2]) ∧ Below w'.heap.size w' w2) (hG : T1 = 0 → l.length ≤ 2000 ∧ Good l) (hT : PowT w) (hS : SignT w) :
    Calls Tryz.prog 10 #[v] w fun e w' => e = .returned (.tuple #[.string (listB T1 l).1, .int .i64 (listB T1 l).2]) ∧ Below w.heap.size w w' := by
  obtain ⟨u4, rfl, -, a, c, rfl, hr⟩ := hv
  simp only [] at hr hV ⊢
  have HR := hide hr
  have HM := hide hm
  have HV := hide hV
  have HT := hide hT
  have HS := hide hS
  obtain ⟨n, hn⟩ : ∃ n, l.length = n := ⟨_, rfl⟩
  have HN := hide hn
  rw [hn] at HV ⊢
  obtain ⟨A, hA⟩ : ∃ A, listB T1 l = A := ⟨_, rfl⟩
  have HA := hide hA
  have B1 := hide ((Below.refl w.heap.size w).alloc (Nat.le_refl _) (.cells #[.string cn, .int .i64 pp, .int .i64 ce, .int .i64 rr, .slice a n c] 25))
  rw [hA]
  clear hr hm hV hn hA hT hS
  by_cases hz : T1 = 0
  · obtain ⟨hl, hg⟩ := hG hz
    rw [HN.out] at hl
    have HGd := hide hg
    obtain rfl : A = (⟨(rowsU 0 l).toArray⟩, 0) := by rw [← HA.out]; unfold listB; rw [if_pos hz]
    subst hz
    have hzero := (zero_of_info ops_info).1
    clear hG hg HA
    go_enter Tryz.func10, Tryz.ntmps10
    go_wp2_with (first
      | (go_at_call 8; refine (HV.out _ B1.out).mono ?_; rintro e w1 ⟨rfl, b1⟩; have HB1 := hide (B1.out.trans (b1.mono B1.out.size)); have hz1 : w.heap.size < w1.heap.size := (by have := b1.size; simp at this; omega); have q4 := (heapCells ((b1.block w.heap.size (by simp)).trans (Deep.blk_alloc_new w (.cells #[.string cn, .int .i64 pp, .int .i64 ce, .int .i64 rr, .slice a n c] 25)))).1 4; simp only [List.getElem?_toArray, List.getElem?_cons_zero, List.getElem?_cons_succ] at q4; clear b1)
      | (go_at_call 32; refine (operations_any _).mono ?_; rintro e w3 ⟨rfl, rfl⟩)
      | (refine wpList_store_new rfl 69 _ _ rfl (w1.alloc (.cells opsCells 69)) zeroCells opsCells rfl (by rw [World.size_alloc]; rfl) (by kernel_rfl) ops_size' (by kernel_rfl) (by kernel_rfl) ?_; have q5 : (((w1.alloc (.cells opsCells 69)).alloc (.cells opsCells 69)).alloc (.cells #[.pointer none, .slice none 0 0] 73)).cell? ⟨w.heap.size, 4, none⟩ = some (.slice a n c) := (((((Below.refl w1.heap.size w1).alloc (Nat.le_refl _) _).alloc (by simp) _).alloc (by simp <;> omega) _).cell (p := ⟨w.heap.size, 4, none⟩) hz1).trans q4))
    obtain ⟨W0, hW0⟩ : ∃ W0, W0 = (w1.alloc (.cells opsCells 69)).alloc (.cells opsCells 69) := ⟨_, rfl⟩
    have hs0 : W0.heap.size = w1.heap.size + 2 := by rw [hW0]; simp
    have b0 : Below w1.heap.size w1 W0 := by rw [hW0]; exact ((Below.refl _ _).alloc (Nat.le_refl _) _).alloc (by simp) _
    have x6 : W0.heap[w1.heap.size + 1]? = some (.cells opsCells 69 (0, 0)) := by
      rw [hW0]
      have := Deep.blk_alloc_new (w1.alloc (.cells opsCells 69)) (.cells opsCells 69)
      rwa [World.size_alloc] at this
    have hfr : Bld W0.heap.size W0.heap.size [] (W0.alloc (.cells #[.pointer none, .slice none 0 0] 73)) := Bld.fresh W0
    rw [hs0] at hfr
    have HFr := hide hfr
    rw [← hW0]
    have HB0 := hide (HB1.out.trans (b0.mono HB1.out.size))
    have HX6 := hide x6
    clear hW0 hfr x6 b0 hzero q4 q5
    go_loopg [22] n (fun q iv wr => ∃ k : Nat, iv = .int .i64 k ∧ k ≤ n ∧ q = n - k ∧ Hid (Bld (w1.heap.size + 2) (w1.heap.size + 2) (nb (rowsU 0 (l.take k))) wr) ∧ Hid (Below W0.heap.size W0 wr))
    case atStart => exact ⟨0, rfl, by omega, rfl, HFr, hide ((Below.refl _ _).alloc (Nat.le_refl _) _)⟩
    case round =>
      obtain ⟨k, rfl, hk, hq, HBl, HB⟩ := hrel
      have HQ := hide hq
      have hsz := HB.out.size
      rw [hs0] at hsz
      clear hq
      by_cases hp : k < n
      · as_aux_lemma =>
        have i1 : (k : Int) < n := by omega
        have hkl : k < l.length := by rw [HN.out]; exact hp
        have hgk : GoodI l[k] := HGd.out _ (List.getElem_mem hkl)
        have hsn := rows_snoc l 0 k hkl
        have hlen := rows_len (l.take k) 0 (fun x hx => HGd.out x (List.mem_of_mem_take hx)) (by rw [List.length_take]; omega)
        rw [List.length_take] at hlen
        have hrow := row_len (i := k) hgk (by omega)
        rw [Nat.zero_add] at hsn
        obtain ⟨b, o, rfl, hb1, hb2, -, he⟩ := rows_on InsAt.stays HR.out ((HB0.out.trans (HB.out.mono HB0.out.size)).mono HM.out) k hkl
        have hcap : k ≤ c := by have := hb1.2; omega
        obtain ⟨x, hx⟩ : ∃ x, l[k] = x := ⟨_, rfl⟩
        rw [hx] at he hgk hsn hrow
        obtain ⟨⟨c0, c1, c2, c3, c4⟩, -⟩ := he
        simp only [Nat.add_zero] at c0 c1 c2 c3 c4
        obtain ⟨u, hu⟩ : ∃ u, rowsU 0 (l.take k) = u := ⟨_, rfl⟩
        rw [hu] at HBl hsn hlen
        have HNx := hide hsn
        have hul : u.length ≤ 1000000 := by omega
        have HUl := hide hul
        have HGI := hide hgk
        obtain ⟨op, ia, ib, im, iname⟩ := x
        simp only [] at c0 c1 c2 c3 c4
        obtain ⟨q, hq⟩ : ∃ q : Nat, op = q := ⟨op.toNat, by have := HGI.out.1; simp only [] at this; omega⟩
        subst hq
        have hq12 : 1 ≤ q ∧ q ≤ 17 := by
          have h1 := HGI.out.1
          have h2 := HGI.out.2.1
          simp only [] at h1 h2
          omega
        obtain ⟨hq1, hq2⟩ := hq12
        have i18 : (q : Int) < 18 := by omega
        have n18 : q < 18 := by omega
        obtain ⟨tk, lv, g, f0, f1, f2, f3, f4⟩ := ops_at q hq1 hq2
        have x6 := (HB.out.block (w1.heap.size + 1) (by omega)).trans HX6.out
        have E0 := ((heapCells x6).1 (q * 5)).trans f0
        have E1 := ((heapCells x6).1 (q * 5 + 1)).trans f1
        have E2 := ((heapCells x6).1 (q * 5 + 2)).trans f2
        have E3 := ((heapCells x6).1 (q * 5 + 3)).trans f3
        have E4 := ((heapCells x6).1 (q * 5 + 4)).trans f4
        have h6 : w1.heap.size + 1 < wr.heap.size := by omega
        have ld := itoa_len (k : Int) (by omega) (by omega)
        have lw := word_len ⟨q, by omega⟩
        simp only [] at lw
        have lt := tail_len HGI.out
        have hbo : b < wr.heap.size := by have := HM.out; omega
        obtain ⟨W2, hW2⟩ : ∃ W2, W2 = (wr.alloc (.cells #[.int .i64 (q : Int), .int .i64 ia, .int .i64 ib, .string im, .string iname] 75)).alloc (.cells #[.string ⟨(wordU q).toArray⟩, .int .i64 tk, .int .i64 lv, .func (.func (tailN q)) #[] #[], .func (.func g) #[] #[]] 68) := ⟨_, rfl⟩
        have bW : Below wr.heap.size wr W2 := by rw [hW2]; exact ((Below.refl _ _).alloc (Nat.le_refl _) _).alloc (by simp) _
        have hHp : W2.heap[wr.heap.size]? = some (.cells #[.int .i64 (q : Int), .int .i64 ia, .int .i64 ib, .string im, .string iname] 75 (0, 0)) ∧ W2.heap[wr.heap.size + 1]? = some (.cells #[.string ⟨(wordU q).toArray⟩, .int .i64 tk, .int .i64 lv, .func (.func (tailN q)) #[] #[], .func (.func g) #[] #[]] 68 (0, 0)) := by
          have h := Deep.blk_alloc_new (wr.alloc (.cells #[.int .i64 (q : Int), .int .i64 ia, .int .i64 ib, .string im, .string iname] 75)) (.cells #[.string ⟨(wordU q).toArray⟩, .int .i64 tk, .int .i64 lv, .func (.func (tailN q)) #[] #[], .func (.func g) #[] #[]] 68)
          rw [World.size_alloc, ← hW2] at h
          refine ⟨?_, h⟩
          rw [hW2, Below.heap_alloc _ _ _ (by simp)]
          exact Deep.blk_alloc_new wr _
        have HHp : Hid (∀ w5, Below W2.heap.size W2 w5 → w5.heap[wr.heap.size]? = some (.cells #[.int .i64 (q : Int), .int .i64 ia, .int .i64 ib, .string im, .string iname] 75 (0, 0)) ∧ w5.heap[wr.heap.size + 1]? = some (.cells #[.string ⟨(wordU q).toArray⟩, .int .i64 tk, .int .i64 lv, .func (.func (tailN q)) #[] #[], .func (.func g) #[] #[]] 68 (0, 0))) := hide fun w5 b5 => ⟨(b5.block _ (Array.getElem?_eq_some_iff.1 hHp.1).1).trans hHp.1, (b5.block _ (Array.getElem?_eq_some_iff.1 hHp.2).1).trans hHp.2⟩
        have HTl : Hid (∀ w5, Below W2.heap.size W2 w5 → PowT w5 ∧ SignT w5) := hide fun w5 b5 => by
          have hb := HB0.out.trans ((HB.out.trans ((bW.mono (by omega)).trans (b5.mono (by have := bW.size; omega)))).mono HB0.out.size)
          exact ⟨HT.out.on hb, HS.out.on hb⟩
        have HIt : Hid (∀ w5, Below W2.heap.size W2 w5 → Calls Tryz.prog 34 #[.int .i64 (k : Int)] w5 fun e w' => e = .returned (.string ⟨(Lib.itoa (k : Int)).toArray⟩) ∧ Below w5.heap.size w5 w') := hide fun w5 b5 => (itoa_gw (k : Int) ⟨by omega, by omega⟩ w5 (HTl.out w5 b5).1).mono fun _ _ ⟨a, b⟩ => ⟨a, b.below⟩
        have HWS : Hid (∀ w5 D Wd Tl, Below W2.heap.size W2 w5 → (Lib.itoa (k : Int)) = D → wordU q = Wd → tailU ⟨q, ia, ib, im, iname⟩ = Tl → Calls Tryz.prog 33 #[.pointer (some ⟨w1.heap.size + 2, 0, none⟩), .string (((((⟨D.toArray⟩ : ByteArray) ++ ⟨#[32]⟩) ++ ⟨Wd.toArray⟩) ++ ⟨Tl.toArray⟩) ++ ⟨#[10]⟩)] w5 fun e w' => (∃ z : Int, e = .returned (.tuple #[.int .i64 z, .nilIface])) ∧ (Bld (w1.heap.size + 2) (w1.heap.size + 2) (nb (rowsU 0 (l.take (k + 1)))) w' ∧ Below (w1.heap.size + 2) w5 w' ∧ Far (w1.heap.size + 2) w5 w')) := hide fun w5 D Wd Tl b5 e1 e2 e3 => by
          have hr : rowU k ⟨q, ia, ib, im, iname⟩ = ((D ++ [32] ++ Wd) ++ Tl) ++ [10] := by rw [← e1, ← e2, ← e3]; unfold rowU; rfl
          rw [rowText, ← hr]
          obtain ⟨s, hs⟩ : ∃ s : ByteArray, ⟨(rowU k ⟨q, ia, ib, im, iname⟩).toArray⟩ = s := ⟨_, rfl⟩
          have hz5 := b5.size
          have hzW := bW.size
          have h5 := writeString_far (w1.heap.size + 2) (w1.heap.size + 2) (nb u) s w5 (HBl.out.on (bW.trans (b5.mono bW.size))) (by rw [nb_len, ← hs, txt_size]; omega) (by omega)
          rw [hs]
          refine h5.mono ?_
          rintro e w' ⟨h1, h2, h3⟩
          have h4 := h2.bld
          rw [← hs, nb_sb, ub_mk, ← nb_app, ← HNx.out] at h4
          exact ⟨⟨_, h1⟩, h4, h3.1, h3.2⟩
        have hgi := HGI.out
        unfold GoodI at hgi
        simp only [] at hgi
        obtain ⟨-, -, hga, hgb, hgm, hgn, hgs⟩ := hgi
        clear hsn hlen hrow hgk hx hb1 f0 f1 f2 f3 f4 x6 hHp hul
        have hlb : w1.heap.size + 2 < wr.heap.size := by
          rcases HBl.out with h | h
          · exact h.lt
          · exact h.lt
        have hcl : (q = 1 ∨ q = 2 ∨ q = 6 ∨ q = 11 ∨ q = 12 ∨ q = 15 ∨ q = 16 ∨ q = 17) ∨ q = 3 ∨ q = 13 ∨ q = 7 ∨ (q ≠ 1 ∧ q ≠ 2 ∧ q ≠ 6 ∧ q ≠ 11 ∧ q ≠ 12 ∧ q ≠ 15 ∧ q ≠ 16 ∧ q ≠ 17 ∧ q ≠ 7 ∧ q ≠ 3 ∧ q ≠ 13) := by omega
        rcases hcl with hcl | hcl | hcl | hcl | hcl
        · as_aux_lemma =>
          have hF : tailN q = 79 := by unfold tailN; rw [if_neg (by omega), if_neg (by omega), if_neg (by omega), if_pos (by omega)]
          have hTx : tailU ⟨q, ia, ib, im, iname⟩ = numU ia := by unfold tailU; rw [if_neg (show ¬ (q : Int) = 7 by omega), if_neg (show ¬ (q : Int) = 3 by omega), if_neg (show ¬ (q : Int) = 13 by omega), if_pos (show (q : Int) = 1 ∨ (q : Int) = 2 ∨ (q : Int) = 6 ∨ (q : Int) = 11 ∨ (q : Int) = 12 ∨ (q : Int) = 15 ∨ (q : Int) = 16 ∨ (q : Int) = 17 by omega)]
          have HTc : Hid (∀ w5, Below W2.heap.size W2 w5 → Calls Tryz.prog 79 #[insV ⟨q, ia, ib, im, iname⟩] w5 fun e w' => e = .returned (.string ⟨(numU ia).toArray⟩) ∧ Below w5.heap.size w5 w') := hide fun w5 b5 => (tellNumber_gw ⟨q, ia, ib, im, iname⟩ hga w5 (HTl.out w5 b5).1).mono fun _ _ ⟨a, b⟩ => ⟨a, b.below⟩
          have HW5 := hide (fun w5 b5 => HWS.out w5 _ _ _ b5 rfl rfl hTx)
          have lt5 := lt
          rw [hTx] at lt5
          clear hTx lt HTl HWS hga hgb hgm hgn hgs
          rw [hF] at HHp hW2 E3
          unfold insV at HTc
          simp only [] at HTc
          generalize Lib.itoa (k : Int) = D at *
          generalize wordU q = Wd at *
          generalize numU ia = Tl at *
          have s1 : ¬ 9223372036854775807 < D.length + 1 := by omega
          have s2 : ¬ 9223372036854775807 < D.length + 1 + Wd.length := by omega
          have s3 : ¬ 9223372036854775807 < D.length + 1 + Wd.length + Tl.length := by omega
          have s4 : ¬ 9223372036854775807 < D.length + 1 + Wd.length + Tl.length + 1 := by omega
          clear ld lw lt5 hF hcl
          go_upto_region 10 with (refine wpList_store_new rfl 68 _ _ rfl (wr.alloc (.cells #[.int .i64 (q : Int), .int .i64 ia, .int .i64 ib, .string im, .string iname] 75)) opRow0.toArray #[.string ⟨Wd.toArray⟩, .int .i64 tk, .int .i64 lv, .func (.func 79) #[] #[], .func (.func g) #[] #[]] rfl (by rw [World.size_alloc]; rfl) rfl op_info5 rfl (op_one _ _ _ _ _ rfl rfl rfl rfl rfl) ?_)
          rw [← hW2]
          clear hW2 E0 E1 E2 E3 E4 c0 c1 c2 c3 c4
          have hS0 := seven (HHp.out W2 (Below.refl _ _)).1 (HHp.out W2 (Below.refl _ _)).2
          go_region_held3 (fun w' => w'.cell? ⟨wr.heap.size, 0, none⟩ = some (.int .i64 (q : Int)) ∧ w'.cell? ⟨wr.heap.size, 1, none⟩ = some (.int .i64 ia) ∧ w'.cell? ⟨wr.heap.size, 2, none⟩ = some (.int .i64 ib) ∧ w'.cell? ⟨wr.heap.size, 3, none⟩ = some (.string im) ∧ w'.cell? ⟨wr.heap.size, 4, none⟩ = some (.string iname) ∧ w'.cell? ⟨wr.heap.size + 1, 0, none⟩ = some (.string ⟨Wd.toArray⟩) ∧ w'.cell? ⟨wr.heap.size + 1, 3, none⟩ = some (.func (.func 79) #[] #[]))
            (first
              | exact hS8
              | exact hS6
              | exact hS5
              | exact hS0
              | go_keep)
            ((first
              | (go_at_call 33; refine (HW5.out _ bb2).mono ?_; rintro e w8 ⟨⟨z, rfl⟩, hbl, b8, hfar⟩; have hS8 := seven (hfar _ _ _ (by omega) (by decide) (HHp.out _ bb2).1) (hfar _ _ _ (by omega) (by decide) (HHp.out _ bb2).2))
              | (go_at_call 34; refine (HIt.out _ ((Below.refl _ _).drew)).mono ?_; rintro e w5 ⟨rfl, b5⟩; have bb1 : Below W2.heap.size W2 w5 := ((Below.refl _ _).drew).trans b5; have hS5 := seven (HHp.out _ bb1).1 (HHp.out _ bb1).2)
              | (go_at_call 79; refine (HTc.out _ bb1).mono ?_; rintro e w6 ⟨rfl, b6⟩; have bb2 : Below W2.heap.size W2 w6 := bb1.trans (b6.mono bb1.size); have hS6 := seven (HHp.out _ bb2).1 (HHp.out _ bb2).2)))
          go_wp2_with fail
          go_roundg (n - (k + 1))
          case measure => rw [HQ.out]; omega
          case rel => exact ⟨k + 1, by go_num, by omega, rfl, hide hbl, hide (HB.out.trans (((bW.mono (by omega)).trans (bb2.mono (by have := bW.size; omega))).trans (b8.mono (by omega))))⟩
        · as_aux_lemma =>
          have hF : tailN q = 82 := by unfold tailN; rw [if_neg (by omega), if_pos (by omega)]
          have hTx : tailU ⟨q, ia, ib, im, iname⟩ = nameU ⟨q, ia, ib, im, iname⟩ := by unfold tailU; rw [if_neg (show ¬ (q : Int) = 7 by omega), if_pos (show (q : Int) = 3 by omega)]
          have HTc : Hid (∀ w5, Below W2.heap.size W2 w5 → Calls Tryz.prog 82 #[insV ⟨q, ia, ib, im, iname⟩] w5 fun e w' => e = .returned (.string ⟨(nameU ⟨q, ia, ib, im, iname⟩).toArray⟩) ∧ Below w5.heap.size w5 w') := hide fun w5 b5 => (tellName_gw ⟨q, ia, ib, im, iname⟩ hgm hgn w5).mono fun _ _ ⟨a, b⟩ => ⟨a, b.below⟩
          have HW5 := hide (fun w5 b5 => HWS.out w5 _ _ _ b5 rfl rfl hTx)
          have lt5 := lt
          rw [hTx] at lt5
          clear hTx lt HTl HWS hga hgb hgm hgn hgs
          rw [hF] at HHp hW2 E3
          unfold insV at HTc
          simp only [] at HTc
          generalize Lib.itoa (k : Int) = D at *
          generalize wordU q = Wd at *
          generalize nameU ⟨q, ia, ib, im, iname⟩ = Tl at *
          have s1 : ¬ 9223372036854775807 < D.length + 1 := by omega
          have s2 : ¬ 9223372036854775807 < D.length + 1 + Wd.length := by omega
          have s3 : ¬ 9223372036854775807 < D.length + 1 + Wd.length + Tl.length := by omega
          have s4 : ¬ 9223372036854775807 < D.length + 1 + Wd.length + Tl.length + 1 := by omega
          clear ld lw lt5 hF hcl
          go_upto_region 10 with (refine wpList_store_new rfl 68 _ _ rfl (wr.alloc (.cells #[.int .i64 (q : Int), .int .i64 ia, .int .i64 ib, .string im, .string iname] 75)) opRow0.toArray #[.string ⟨Wd.toArray⟩, .int .i64 tk, .int .i64 lv, .func (.func 82) #[] #[], .func (.func g) #[] #[]] rfl (by rw [World.size_alloc]; rfl) rfl op_info5 rfl (op_one _ _ _ _ _ rfl rfl rfl rfl rfl) ?_)
          rw [← hW2]
          clear hW2 E0 E1 E2 E3 E4 c0 c1 c2 c3 c4
          have hS0 := seven (HHp.out W2 (Below.refl _ _)).1 (HHp.out W2 (Below.refl _ _)).2
          go_region_held3 (fun w' => w'.cell? ⟨wr.heap.size, 0, none⟩ = some (.int .i64 (q : Int)) ∧ w'.cell? ⟨wr.heap.size, 1, none⟩ = some (.int .i64 ia) ∧ w'.cell? ⟨wr.heap.size, 2, none⟩ = some (.int .i64 ib) ∧ w'.cell? ⟨wr.heap.size, 3, none⟩ = some (.string im) ∧ w'.cell? ⟨wr.heap.size, 4, none⟩ = some (.string iname) ∧ w'.cell? ⟨wr.heap.size + 1, 0, none⟩ = some (.string ⟨Wd.toArray⟩) ∧ w'.cell? ⟨wr.heap.size + 1, 3, none⟩ = some (.func (.func 82) #[] #[]))
            (first
              | exact hS8
              | exact hS6
              | exact hS5
              | exact hS0
              | go_keep)
            ((first
              | (go_at_call 33; refine (HW5.out _ bb2).mono ?_; rintro e w8 ⟨⟨z, rfl⟩, hbl, b8, hfar⟩; have hS8 := seven (hfar _ _ _ (by omega) (by decide) (HHp.out _ bb2).1) (hfar _ _ _ (by omega) (by decide) (HHp.out _ bb2).2))
              | (go_at_call 34; refine (HIt.out _ ((Below.refl _ _).drew)).mono ?_; rintro e w5 ⟨rfl, b5⟩; have bb1 : Below W2.heap.size W2 w5 := ((Below.refl _ _).drew).trans b5; have hS5 := seven (HHp.out _ bb1).1 (HHp.out _ bb1).2)
              | (go_at_call 82; refine (HTc.out _ bb1).mono ?_; rintro e w6 ⟨rfl, b6⟩; have bb2 : Below W2.heap.size W2 w6 := bb1.trans (b6.mono bb1.size); have hS6 := seven (HHp.out _ bb2).1 (HHp.out _ bb2).2)))
          go_wp2_with fail
          go_roundg (n - (k + 1))
          case measure => rw [HQ.out]; omega
          case rel => exact ⟨k + 1, by go_num, by omega, rfl, hide hbl, hide (HB.out.trans (((bW.mono (by omega)).trans (bb2.mono (by have := bW.size; omega))).trans (b8.mono (by omega))))⟩
        · as_aux_lemma =>
          have hF : tailN q = 89 := by unfold tailN; rw [if_neg (by omega), if_neg (by omega), if_pos (by omega)]
          have hTx : tailU ⟨q, ia, ib, im, iname⟩ = (nameU ⟨q, ia, ib, im, iname⟩ ++ numU ia) ++ numU ib := by unfold tailU; rw [if_neg (show ¬ (q : Int) = 7 by omega), if_neg (show ¬ (q : Int) = 3 by omega), if_pos (show (q : Int) = 13 by omega)]
          have HTc : Hid (∀ w5, Below W2.heap.size W2 w5 → Calls Tryz.prog 89 #[insV ⟨q, ia, ib, im, iname⟩] w5 fun e w' => e = .returned (.string ⟨((nameU ⟨q, ia, ib, im, iname⟩ ++ numU ia) ++ numU ib).toArray⟩) ∧ Below w5.heap.size w5 w') := hide fun w5 b5 => (tellCall_gw ⟨q, ia, ib, im, iname⟩ hga hgb hgm hgn w5 (HTl.out w5 b5).1).mono fun _ _ ⟨a, b⟩ => ⟨a, b.below⟩
          have HW5 := hide (fun w5 b5 => HWS.out w5 _ _ _ b5 rfl rfl hTx)
          have lt5 := lt
          rw [hTx] at lt5
          clear hTx lt HTl HWS hga hgb hgm hgn hgs
          rw [hF] at HHp hW2 E3
          unfold insV at HTc
          simp only [] at HTc
          generalize Lib.itoa (k : Int) = D at *
          generalize wordU q = Wd at *
          generalize (nameU ⟨q, ia, ib, im, iname⟩ ++ numU ia) ++ numU ib = Tl at *
          have s1 : ¬ 9223372036854775807 < D.length + 1 := by omega
          have s2 : ¬ 9223372036854775807 < D.length + 1 + Wd.length := by omega
          have s3 : ¬ 9223372036854775807 < D.length + 1 + Wd.length + Tl.length := by omega
          have s4 : ¬ 9223372036854775807 < D.length + 1 + Wd.length + Tl.length + 1 := by omega
          clear ld lw lt5 hF hcl
          go_upto_region 10 with (refine wpList_store_new rfl 68 _ _ rfl (wr.alloc (.cells #[.int .i64 (q : Int), .int .i64 ia, .int .i64 ib, .string im, .string iname] 75)) opRow0.toArray #[.string ⟨Wd.toArray⟩, .int .i64 tk, .int .i64 lv, .func (.func 89) #[] #[], .func (.func g) #[] #[]] rfl (by rw [World.size_alloc]; rfl) rfl op_info5 rfl (op_one _ _ _ _ _ rfl rfl rfl rfl rfl) ?_)
          rw [← hW2]
          clear hW2 E0 E1 E2 E3 E4 c0 c1 c2 c3 c4
          have hS0 := seven (HHp.out W2 (Below.refl _ _)).1 (HHp.out W2 (Below.refl _ _)).2
          go_region_held3 (fun w' => w'.cell? ⟨wr.heap.size, 0, none⟩ = some (.int .i64 (q : Int)) ∧ w'.cell? ⟨wr.heap.size, 1, none⟩ = some (.int .i64 ia) ∧ w'.cell? ⟨wr.heap.size, 2, none⟩ = some (.int .i64 ib) ∧ w'.cell? ⟨wr.heap.size, 3, none⟩ = some (.string im) ∧ w'.cell? ⟨wr.heap.size, 4, none⟩ = some (.string iname) ∧ w'.cell? ⟨wr.heap.size + 1, 0, none⟩ = some (.string ⟨Wd.toArray⟩) ∧ w'.cell? ⟨wr.heap.size + 1, 3, none⟩ = some (.func (.func 89) #[] #[]))
            (first
              | exact hS8
              | exact hS6
              | exact hS5
              | exact hS0
              | go_keep)
            ((first
              | (go_at_call 33; refine (HW5.out _ bb2).mono ?_; rintro e w8 ⟨⟨z, rfl⟩, hbl, b8, hfar⟩; have hS8 := seven (hfar _ _ _ (by omega) (by decide) (HHp.out _ bb2).1) (hfar _ _ _ (by omega) (by decide) (HHp.out _ bb2).2))
              | (go_at_call 34; refine (HIt.out _ ((Below.refl _ _).drew)).mono ?_; rintro e w5 ⟨rfl, b5⟩; have bb1 : Below W2.heap.size W2 w5 := ((Below.refl _ _).drew).trans b5; have hS5 := seven (HHp.out _ bb1).1 (HHp.out _ bb1).2)
              | (go_at_call 89; refine (HTc.out _ bb1).mono ?_; rintro e w6 ⟨rfl, b6⟩; have bb2 : Below W2.heap.size W2 w6 := bb1.trans (b6.mono bb1.size); have hS6 := seven (HHp.out _ bb2).1 (HHp.out _ bb2).2)))
          go_wp2_with fail
          go_roundg (n - (k + 1))
          case measure => rw [HQ.out]; omega
          case rel => exact ⟨k + 1, by go_num, by omega, rfl, hide hbl, hide (HB.out.trans (((bW.mono (by omega)).trans (bb2.mono (by have := bW.size; omega))).trans (b8.mono (by omega))))⟩
        · as_aux_lemma =>
          have hq7 : (q : Int) = 7 := by omega
          have hF : tailN q = 86 := by unfold tailN; rw [if_pos (by omega)]
          have hTx : tailU ⟨q, ia, ib, im, iname⟩ = 32 :: signU ia.toNat := by unfold tailU; rw [if_pos (show (q : Int) = 7 by omega)]
          have HTc : Hid (∀ w5, Below W2.heap.size W2 w5 → Calls Tryz.prog 86 #[insV ⟨q, ia, ib, im, iname⟩] w5 fun e w' => e = .returned (.string ⟨(32 :: signU ia.toNat).toArray⟩) ∧ Below w5.heap.size w5 w') := hide fun w5 b5 => (tellSign_gw ⟨q, ia, ib, im, iname⟩ (hgs hq7).1 (hgs hq7).2 w5 (HTl.out w5 b5).2).mono fun _ _ ⟨a, b⟩ => ⟨a, b.below⟩
          have HW5 := hide (fun w5 b5 => HWS.out w5 _ _ _ b5 rfl rfl hTx)
          have lt5 := lt
          rw [hTx] at lt5
          clear hTx lt HTl HWS hga hgb hgm hgn hgs
          clear hq7
          rw [hF] at HHp hW2 E3
          unfold insV at HTc
          simp only [] at HTc
          generalize Lib.itoa (k : Int) = D at *
          generalize wordU q = Wd at *
          generalize 32 :: signU ia.toNat = Tl at *
          have s1 : ¬ 9223372036854775807 < D.length + 1 := by omega
          have s2 : ¬ 9223372036854775807 < D.length + 1 + Wd.length := by omega
          have s3 : ¬ 9223372036854775807 < D.length + 1 + Wd.length + Tl.length := by omega
          have s4 : ¬ 9223372036854775807 < D.length + 1 + Wd.length + Tl.length + 1 := by omega
          clear ld lw lt5 hF hcl
          go_upto_region 10 with (refine wpList_store_new rfl 68 _ _ rfl (wr.alloc (.cells #[.int .i64 (q : Int), .int .i64 ia, .int .i64 ib, .string im, .string iname] 75)) opRow0.toArray #[.string ⟨Wd.toArray⟩, .int .i64 tk, .int .i64 lv, .func (.func 86) #[] #[], .func (.func g) #[] #[]] rfl (by rw [World.size_alloc]; rfl) rfl op_info5 rfl (op_one _ _ _ _ _ rfl rfl rfl rfl rfl) ?_)
          rw [← hW2]
          clear hW2 E0 E1 E2 E3 E4 c0 c1 c2 c3 c4
          have hS0 := seven (HHp.out W2 (Below.refl _ _)).1 (HHp.out W2 (Below.refl _ _)).2
          go_region_held3 (fun w' => w'.cell? ⟨wr.heap.size, 0, none⟩ = some (.int .i64 (q : Int)) ∧ w'.cell? ⟨wr.heap.size, 1, none⟩ = some (.int .i64 ia) ∧ w'.cell? ⟨wr.heap.size, 2, none⟩ = some (.int .i64 ib) ∧ w'.cell? ⟨wr.heap.size, 3, none⟩ = some (.string im) ∧ w'.cell? ⟨wr.heap.size, 4, none⟩ = some (.string iname) ∧ w'.cell? ⟨wr.heap.size + 1, 0, none⟩ = some (.string ⟨Wd.toArray⟩) ∧ w'.cell? ⟨wr.heap.size + 1, 3, none⟩ = some (.func (.func 86) #[] #[]))
            (first
              | exact hS8
              | exact hS6
              | exact hS5
              | exact hS0
              | go_keep)
            ((first
              | (go_at_call 33; refine (HW5.out _ bb2).mono ?_; rintro e w8 ⟨⟨z, rfl⟩, hbl, b8, hfar⟩; have hS8 := seven (hfar _ _ _ (by omega) (by decide) (HHp.out _ bb2).1) (hfar _ _ _ (by omega) (by decide) (HHp.out _ bb2).2))
              | (go_at_call 34; refine (HIt.out _ ((Below.refl _ _).drew)).mono ?_; rintro e w5 ⟨rfl, b5⟩; have bb1 : Below W2.heap.size W2 w5 := ((Below.refl _ _).drew).trans b5; have hS5 := seven (HHp.out _ bb1).1 (HHp.out _ bb1).2)
              | (go_at_call 86; refine (HTc.out _ bb1).mono ?_; rintro e w6 ⟨rfl, b6⟩; have bb2 : Below W2.heap.size W2 w6 := bb1.trans (b6.mono bb1.size); have hS6 := seven (HHp.out _ bb2).1 (HHp.out _ bb2).2)))
          go_wp2_with fail
          go_roundg (n - (k + 1))
          case measure => rw [HQ.out]; omega
          case rel => exact ⟨k + 1, by go_num, by omega, rfl, hide hbl, hide (HB.out.trans (((bW.mono (by omega)).trans (bb2.mono (by have := bW.size; omega))).trans (b8.mono (by omega))))⟩
        · as_aux_lemma =>
          have hF : tailN q = 84 := by unfold tailN; rw [if_neg (by omega), if_neg (by omega), if_neg (by omega), if_neg (by omega)]
          have hTx : tailU ⟨q, ia, ib, im, iname⟩ = ([] : List UInt8) := by unfold tailU; rw [if_neg (show ¬ (q : Int) = 7 by omega), if_neg (show ¬ (q : Int) = 3 by omega), if_neg (show ¬ (q : Int) = 13 by omega), if_neg (show ¬ ((q : Int) = 1 ∨ (q : Int) = 2 ∨ (q : Int) = 6 ∨ (q : Int) = 11 ∨ (q : Int) = 12 ∨ (q : Int) = 15 ∨ (q : Int) = 16 ∨ (q : Int) = 17) by omega)]
          obtain ⟨Tl, hTl⟩ : ∃ Tl, tailU ⟨q, ia, ib, im, iname⟩ = Tl := ⟨_, rfl⟩
          have hE : Tl = [] := hTl.symm.trans hTx
          have HTc : Hid (∀ w5, Below W2.heap.size W2 w5 → Calls Tryz.prog 84 #[insV ⟨q, ia, ib, im, iname⟩] w5 fun e w' => e = .returned (.string ⟨Tl.toArray⟩) ∧ Below w5.heap.size w5 w') := hide fun w5 _ => (tellNothing_gw ⟨q, ia, ib, im, iname⟩ w5).mono fun _ _ ⟨a, b⟩ => ⟨by rw [hE]; exact a, b.below⟩
          have HW5 := hide (fun w5 b5 => HWS.out w5 _ _ _ b5 rfl rfl hTl)
          have lt5 := lt
          rw [hTl] at lt5
          clear hE hTl hTx lt HTl HWS hga hgb hgm hgn hgs
          rw [hF] at HHp hW2 E3
          unfold insV at HTc
          simp only [] at HTc
          generalize Lib.itoa (k : Int) = D at *
          generalize wordU q = Wd at *
          have s1 : ¬ 9223372036854775807 < D.length + 1 := by omega
          have s2 : ¬ 9223372036854775807 < D.length + 1 + Wd.length := by omega
          have s3 : ¬ 9223372036854775807 < D.length + 1 + Wd.length + Tl.length := by omega
          have s4 : ¬ 9223372036854775807 < D.length + 1 + Wd.length + Tl.length + 1 := by omega
          clear ld lw lt5 hF hcl
          go_upto_region 10 with (refine wpList_store_new rfl 68 _ _ rfl (wr.alloc (.cells #[.int .i64 (q : Int), .int .i64 ia, .int .i64 ib, .string im, .string iname] 75)) opRow0.toArray #[.string ⟨Wd.toArray⟩, .int .i64 tk, .int .i64 lv, .func (.func 84) #[] #[], .func (.func g) #[] #[]] rfl (by rw [World.size_alloc]; rfl) rfl op_info5 rfl (op_one _ _ _ _ _ rfl rfl rfl rfl rfl) ?_)
          rw [← hW2]
          clear hW2 E0 E1 E2 E3 E4 c0 c1 c2 c3 c4
          have hS0 := seven (HHp.out W2 (Below.refl _ _)).1 (HHp.out W2 (Below.refl _ _)).2
          go_region_held3 (fun w' => w'.cell? ⟨wr.heap.size, 0, none⟩ = some (.int .i64 (q : Int)) ∧ w'.cell? ⟨wr.heap.size, 1, none⟩ = some (.int .i64 ia) ∧ w'.cell? ⟨wr.heap.size, 2, none⟩ = some (.int .i64 ib) ∧ w'.cell? ⟨wr.heap.size, 3, none⟩ = some (.string im) ∧ w'.cell? ⟨wr.heap.size, 4, none⟩ = some (.string iname) ∧ w'.cell? ⟨wr.heap.size + 1, 0, none⟩ = some (.string ⟨Wd.toArray⟩) ∧ w'.cell? ⟨wr.heap.size + 1, 3, none⟩ = some (.func (.func 84) #[] #[]))
            (first
              | exact hS8
              | exact hS6
              | exact hS5
              | exact hS0
              | go_keep)
            ((first
              | (go_at_call 33; refine (HW5.out _ bb2).mono ?_; rintro e w8 ⟨⟨z, rfl⟩, hbl, b8, hfar⟩; have hS8 := seven (hfar _ _ _ (by omega) (by decide) (HHp.out _ bb2).1) (hfar _ _ _ (by omega) (by decide) (HHp.out _ bb2).2))
              | (go_at_call 34; refine (HIt.out _ ((Below.refl _ _).drew)).mono ?_; rintro e w5 ⟨rfl, b5⟩; have bb1 : Below W2.heap.size W2 w5 := ((Below.refl _ _).drew).trans b5; have hS5 := seven (HHp.out _ bb1).1 (HHp.out _ bb1).2)
              | (go_at_call 84; refine (HTc.out _ bb1).mono ?_; rintro e w6 ⟨rfl, b6⟩; have bb2 : Below W2.heap.size W2 w6 := bb1.trans (b6.mono bb1.size); have hS6 := seven (HHp.out _ bb2).1 (HHp.out _ bb2).2)))
          go_wp2_with fail
          go_roundg (n - (k + 1))
          case measure => rw [HQ.out]; omega
          case rel => exact ⟨k + 1, by go_num, by omega, rfl, hide hbl, hide (HB.out.trans (((bW.mono (by omega)).trans (bb2.mono (by have := bW.size; omega))).trans (b8.mono (by omega))))⟩
      · as_aux_lemma =>
        have i1 : ¬ (k : Int) < n := by omega
        obtain rfl : k = n := by omega
        have HSr : Hid (Calls Tryz.prog 35 #[.pointer (some ⟨w1.heap.size + 2, 0, none⟩)] wr fun e w' => e = .returned (.string ⟨(rowsU 0 l).toArray⟩) ∧ Below (w1.heap.size + 2) wr w') := hide (by
          have := HBl.out
          unfold Bld at this
          rw [bc_nb, show l.take k = l from List.take_of_length_le (by rw [HN.out]; omega)] at this
          exact Tryz.Builder_String_any (w1.heap.size + 2) (w1.heap.size + 2) (rowsU 0 l) wr this hsz)
        have hw0 := HB0.out.size
        go_wp2_with (go_at_call 35; refine HSr.out.mono ?_; rintro e w6 ⟨rfl, b6⟩)
        go_ret2
        exact ⟨rfl, HB0.out.trans ((HB.out.mono (by omega)).trans (b6.mono (by omega)))⟩
  · as_aux_lemma =>
    obtain rfl : A = (⟨#[]⟩, 1) := by rw [← HA.out]; unfold listB; rw [if_neg hz]
    have hz1 : (T1 != 0) = true := by simpa using hz
    clear hz hG HA
    go_enter Tryz.func10, Tryz.ntmps10
    go_wp2_with (go_at_call 8; refine (HV.out _ B1.out).mono ?_; rintro e w1 ⟨rfl, b1⟩)
    go_ret2
    exact ⟨rfl, B1.out.trans (b1.mono B1.out.size)⟩
end Go.Proofs.YtjficafpkdeibaaGreatDoor
