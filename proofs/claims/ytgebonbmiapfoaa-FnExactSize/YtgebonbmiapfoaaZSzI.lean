/- The program's Size: how many nodes the tree has. No condition. -/
import Derived.Test.YtgebonbmiapfoaaZSzE
import Derived.BigQuiet
import Derived.Deep.QuietTactic
import Derived.Deep.RegionWith
import Derived.Deep.LoopGhost
namespace Go.Proofs.Ytgebonbmiapfoaa
open Go.ChangeShapes Go.WideShapes Go.ChangeAt Go.RowKit Go.Deep

theorem WI.under {w w1 wr : World} {bm base : Nat} {s : Value} {fs : List Fr} {M : KL} (h : WI (SB w.heap.size) w1 wr bm base s fs M) (hb : Below w.heap.size w w1) : Below w.heap.size w wr :=
  ⟨h.os.trans hb.os, h.tape.trans hb.tape, h.output.trans hb.output, Nat.le_trans hb.size h.size, fun k hk => (h.keep k (.inl hk)).trans (hb.block k hk)⟩
theorem size_start {w w1 : World} {h : Nat} {x : NodeD} {p4 : Option Addr} {n c4 : Nat} (hw : w1 = ((((w.alloc (.cells #[.int .i64 x.kind, .int .i64 x.n, .string x.name, .string x.of, .slice p4 n c4] 29)).alloc (.map #[] 0)).alloc (.cells #[.int .i64 x.kind, .int .i64 x.n, .string x.name, .string x.of, .slice p4 n c4] 29)).alloc (.cells #[.slice (some ⟨w.heap.size + 1 + 1, 0, none⟩) 1 1, .int .i64 0, .int .i64 0] 37)))
    (ht : TL (fun b => b < w.heap.size) w (h + 1) (.slice p4 n c4) x.kids) (hz : kidsSz x.kids ≤ 1048576) :
    Below w.heap.size w w1 ∧ w1.heap.size = w.heap.size + 1 + 1 + 1 + 1 ∧ SR w w1 x (3 * kidsSz [x] + 1) (.slice (some ⟨w.heap.size + 1 + 1 + 1, 0, none⟩) 1 1) w1 := by
  have b1 : Below w.heap.size w w1 := by
    rw [hw]
    exact ((((Below.refl _ _).alloc (Nat.le_refl _) _).alloc (by simp) _).alloc (by simp; omega) _).alloc (by simp; omega) _
  have hs : w1.heap.size = w.heap.size + 1 + 1 + 1 + 1 := by rw [hw]; simp
  have k1 : w1.heap[w.heap.size + 1]? = some (.map #[] 0) := by
    rw [hw, Below.heap_alloc _ _ _ (by simp), Below.heap_alloc _ _ _ (by simp)]
    have := Deep.blk_alloc_new (w.alloc (.cells #[.int .i64 x.kind, .int .i64 x.n, .string x.name, .string x.of, .slice p4 n c4] 29)) (.map #[] 0)
    rwa [World.size_alloc] at this
  have k2 : w1.heap[w.heap.size + 1 + 1]? = some (.cells #[.int .i64 x.kind, .int .i64 x.n, .string x.name, .string x.of, .slice p4 n c4] 29 (0, 0)) := by
    rw [hw, Below.heap_alloc _ _ _ (by simp)]
    have := Deep.blk_alloc_new ((w.alloc (.cells #[.int .i64 x.kind, .int .i64 x.n, .string x.name, .string x.of, .slice p4 n c4] 29)).alloc (.map #[] 0)) (.cells #[.int .i64 x.kind, .int .i64 x.n, .string x.name, .string x.of, .slice p4 n c4] 29)
    rwa [World.size_alloc, World.size_alloc] at this
  have k3 : w1.heap[w.heap.size + 1 + 1 + 1]? = some (.cells #[.slice (some ⟨w.heap.size + 1 + 1, 0, none⟩) 1 1, .int .i64 0, .int .i64 0] 37 (0, 0)) := by
    rw [hw]
    have := Deep.blk_alloc_new (((w.alloc (.cells #[.int .i64 x.kind, .int .i64 x.n, .string x.name, .string x.of, .slice p4 n c4] 29)).alloc (.map #[] 0)).alloc (.cells #[.int .i64 x.kind, .int .i64 x.n, .string x.name, .string x.of, .slice p4 n c4] 29)) (.cells #[.slice (some ⟨w.heap.size + 1 + 1, 0, none⟩) 1 1, .int .i64 0, .int .i64 0] 37)
    rwa [World.size_alloc, World.size_alloc, World.size_alloc] at this
  have hx1 : kidsSz [x] = kidsSz x.kids + 1 := by rw [kidsSz_cons, kidsSz_nil, nodeSz_eq]
  have tk : TL (SB w.heap.size) w1 (h + 1) (.slice p4 n c4) x.kids := (ht.on (fun b hb => b1.block b hb)).sub fun b hb => .inl hb
  have tx : TL (SB w.heap.size) w1 (h + 2) (.slice (some ⟨w.heap.size + 1 + 1, 0, none⟩) 1 1) [x] := by
    refine ⟨_, 1, rfl, fun i hi => ?_⟩
    obtain rfl : i = 0 := by simp at hi; omega
    exact ⟨w.heap.size + 1 + 1, 0, .slice p4 n c4, rfl, .inr rfl, ⟨⟨_, _, _, k2⟩, (heapCells k2).2⟩, Nat.le_refl _, (heapCells k2).1 4, tk⟩
  refine ⟨b1, hs, ?_⟩
  unfold SR
  refine ⟨⟨.slice (some ⟨w.heap.size + 1 + 1, 0, none⟩) 1 1, [x], 0, 0⟩, [], [], 3 * kidsSz [x] + 1, ?_, ?_, ?_, ?_, ?_⟩
  · exact hide ⟨⟨rfl, .inr ⟨w.heap.size + 1 + 1 + 1, 1, _, rfl, Nat.le_refl _, k3, Nat.le_refl _, by decide, rfl, rfl⟩⟩, ⟨#[], 0, k1, rfl, fun x hx => by cases hx⟩, (fun x hx => by cases hx), fun _ _ => rfl, Nat.le_refl _, rfl, rfl, rfl⟩
  · exact hide ⟨⟨⟨_, tx⟩, Nat.zero_le _, by rw [List.take_zero, kidsSz_nil]⟩, by show kidsSz [x] ≤ _; omega, rfl⟩
  · exact hide fun k c hk => by cases hk
  · exact hide (.inl rfl)
  · exact hide (by show 0 + _ ≤ _; omega)
set_option maxRecDepth 100000 in
set_option maxHeartbeats 8000000 in
theorem implSize_any (h : Nat) (m : Md) (v : Value) (x : NodeD) (w : World) (hz : kidsSz x.kids ≤ 1048576) (hm : m.hi ≤ w.heap.size) (hmade : m.made = true) (hv : NodeVal h w m v x) :
    Calls Try.prog 7 #[v] w fun e w' => e = .returned (.int .i64 (nodeSz x : Int)) ∧ Below w.heap.size w w' := by
  obtain ⟨u4, rfl, hb, s4⟩ := hv
  have htl := TL.of_made h hmade hm s4
  obtain ⟨p4, c4, rfl, -⟩ := s4
  obtain ⟨n, hn⟩ : ∃ n, x.kids.length = n := ⟨_, rfl⟩
  rw [hn] at htl ⊢
  clear hn hb hmade hm
  have hmk : ∀ w' : World, (Instr.makeMap 35 none).run Try.prog w' = .ok (.map (some w'.heap.size)) (w'.alloc (.map #[] 0)) := fun w' => by simp [Instr.makeMap, Result.andThen]
  obtain ⟨w1, hw1⟩ : ∃ w1, w1 = ((((w.alloc (.cells #[.int .i64 x.kind, .int .i64 x.n, .string x.name, .string x.of, .slice p4 n c4] 29)).alloc (.map #[] 0)).alloc (.cells #[.int .i64 x.kind, .int .i64 x.n, .string x.name, .string x.of, .slice p4 n c4] 29)).alloc (.cells #[.slice (some ⟨w.heap.size + 1 + 1, 0, none⟩) 1 1, .int .i64 0, .int .i64 0] 37)) := ⟨_, rfl⟩
  obtain ⟨b1, s1, r1⟩ := size_start hw1 htl hz
  have HB1 := hide b1
  have HR1 := hide r1
  clear htl b1 r1
  go_enter Try.func7, Try.ntmps7
  go_wp2
  rw [← hw1]
  clear hw1 hmk
  go_loopg [4] (3 * kidsSz [x] + 1) (fun gk s wr => SR w w1 x gk s wr)
  case atStart => exact HR1.out
  case round =>
    obtain ⟨f, r, M, T, HW, HC, HM, HTop, HG⟩ := hrel
    obtain ⟨L, hL⟩ : ∃ L, r.length = L := ⟨_, rfl⟩
    have hlen : (r.reverse ++ [f]).length = L + 1 := by simp [hL]
    obtain ⟨g, cap, rfl, hg1, hg2⟩ := World.ownsRow.form HW.out.row (by omega)
    have hcell := World.ownsRow.cells (g := g) HW.out.row rfl
    have hfr : ∀ j, wr.frozen? ⟨g, j, none⟩ = false := by
      rcases HW.out.row.2 with ⟨e, -⟩ | ⟨g', cap', cur, e, hb, hg, -⟩
      · cases e
      · cases e; exact (heapCells hg).2
    have hat : ∀ j, j < 3 → (cK.all (r.reverse ++ [f]))[L * 3 + j]? = (cK.cs f)[j]? := fun j hj => by
      have := FlatK.all_at cOk (r.reverse ++ [f]) L (by omega) j hj
      rw [List.getElem_append_right (by simp; omega)] at this
      simp [hL] at this
      exact this
    have c0 : wr.cell? ⟨g, L * 3, none⟩ = some f.v := by
      have := hcell _ _ (hat 0 (by decide))
      rwa [add_plain, Nat.zero_add] at this
    have c1 : wr.cell? ⟨g, L * 3 + 1, none⟩ = some (.int .i64 (f.at_ : Int)) := by
      have := hcell _ _ (hat 1 (by decide))
      rwa [add_plain, Nat.zero_add] at this
    have c2 : wr.cell? ⟨g, L * 3 + 2, none⟩ = some (.int .i64 (f.sum : Int)) := by
      have := hcell _ _ (hat 2 (by decide))
      rwa [add_plain, Nat.zero_add] at this
    rw [hlen]
    obtain ⟨⟨hh, htl⟩, hat2, hsum⟩ := HC.out.ok
    obtain ⟨va, vc, hv⟩ := htl.form
    obtain ⟨nl, hnl⟩ : ∃ k, f.l.length = k := ⟨_, rfl⟩
    rw [hnl] at hv hat2
    rw [hv] at c0
    have hbd := HC.out.bd
    have hnlb : nl ≤ 1048577 := by have := kidsSz_len f.l; omega
    have hsb : f.sum ≤ 1048577 := by have := kidsSz_take_le f.l f.at_; omega
    rw [hL] at hbd
    have hLb : L ≤ 1048577 := by omega
    obtain ⟨at0, hat0⟩ : ∃ k, f.at_ = k := ⟨_, rfl⟩
    obtain ⟨sum0, hsum0⟩ : ∃ k, f.sum = k := ⟨_, rfl⟩
    rw [hat0] at c1 hat2
    rw [hsum0] at c2 hsb
    have HCell := hide hcell
    have HFr := hide hfr
    have HAt := hide hat
    have HV := hide hv
    have HNl := hide hnl
    have HAt0 := hide hat0
    have HSum0 := hide hsum0
    have HSum := hide hsum
    have HTl := hide htl
    have HLen := hide hlen
    have HLL := hide hL
    have hcap : L + 1 ≤ cap := by
      rcases HW.out.row.2 with ⟨e, -⟩ | ⟨g', cap', cur, e, hb, hg, hc, -⟩
      · cases e
      · cases e; rw [hlen] at hc; exact hc
    clear hcell hfr hat hv hnl hat0 hsum0 hsum htl hlen hL hbd
    by_cases e1 : at0 = nl
    · subst e1
      by_cases l0 : L = 0
      · subst l0
        have hr0 : r = [] := List.length_eq_zero_iff.1 HLL.out
        have HRes : Hid ((sum0 : Int) = (nodeSz x : Int)) := by
          refine hide ?_
          have hc := HC.out
          rw [hr0] at hc
          have h1 := HSum.out
          rw [HAt0.out, List.take_of_length_le (by have := HNl.out; omega), HSum0.out, hc.2.2, kidsSz_cons, kidsSz_nil] at h1
          omega
        have HU := hide (HW.out.under HB1.out)
        go_wp2
        go_quiet (fail)
        go_wp2
        go_ret
        exact ⟨by show Ending.returned (.int .i64 (sum0 : Int)) = _; rw [HRes.out], HU.out.os, HU.out.tape, HU.out.output, HU.out.size, HU.out.block⟩
      · obtain ⟨L, rfl⟩ : ∃ k, L = k + 1 := ⟨L - 1, by omega⟩
        obtain ⟨p, r, rfl⟩ : ∃ p r', r = p :: r' := by
          cases r with
          | nil => have := HLL.out; simp at this
          | cons p r => exact ⟨p, r, rfl⟩
        have HLo : Hid (∀ w', Calls Try.prog 12 #[.slice va at0 vc] w' fun e w2 => e = .returned (KK (kidKey (.slice va at0 vc))) ∧ Below w'.heap.size w' w2) := hide fun w' => listOf_at w' HNl.out hnlb (by have := HTl.out; rw [HV.out] at this; exact this)
        have i1 : ¬ (L : Int) + 1 + 1 = 1 := by omega
        go_wp2
        go_quiet (fail)
        go_wp2
        have HKey : Hid (∀ w5, Below wr.heap.size wr w5 → ∃ w9, (Instr.mapUpdate 35 (.map (some (w.heap.size + 1))) (KK (kidKey (.slice va at0 vc))) (.int .i64 (sum0 : Int))).run Try.prog w5 = .ok () w9 ∧ Hid (CM w9 (w.heap.size + 1) (mput M (kidKey f.v) (f.sum : Int))) ∧ Hid (w5.grownBy w9 (some (w.heap.size + 1)))) := hide fun w5 b5 => by
          have h1 := HW.out.below (fun k hk => (SB.lt s1 k hk).1) b5
          obtain ⟨w9, q1, q2, q3, -⟩ := h1.cm.put (h1.kok HTl.out) (f.sum : Int)
          rw [HV.out, HSum0.out] at q1
          exact ⟨w9, q1, hide q2, hide q3⟩
        go_region_with (go_at_call 12; refine (HLo.out _).mono ?_; rintro e w5 ⟨rfl, b5⟩; have b15 : Below wr.heap.size wr w5 := ⟨b5.os, b5.tape, b5.output, b5.size, b5.block⟩; have d2 := (b15.cell (p := ⟨g, (L + 1) * 3 + 2, none⟩) hg2).trans c2; obtain ⟨w9, hput, h9, g9⟩ := HKey.out w5 b15)
        all_goals
          have HP := hide (SR.pop s1 (by have := HW.out; rw [HLen.out] at this; exact this) HC.out HM.out HTop.out HG.out (HAt0.out.trans HNl.out.symm) b15 h9.out g9.out)
          clear hput d2 b15 b5 h9 g9
          go_wp2
          go_roundg (low (p :: r))
          case measure => exact HP.out.1
          case rel => exact HP.out.2
    · have e2 : at0 < nl := by omega
      have e3 : ¬ (at0 : Int) = nl := by omega
      have hi : f.at_ < f.l.length := by have := HAt0.out; have := HNl.out; omega
      obtain ⟨b, o, cc, u, h', q1, q2, q3, q4, q5⟩ := HTl.out.kid hi
      have q6 := (World.cell?_of_block (w := w1) (a := ⟨b, o + f.at_ * 5 + 4, none⟩) (HW.out.keep b q2)).trans q4
      rw [HNl.out] at q1 q3
      rw [HV.out] at q1
      cases q1
      rw [HAt0.out] at q6
      obtain ⟨y, hy⟩ : ∃ y, f.l[f.at_] = y := ⟨_, rfl⟩
      have HY := hide hy
      obtain ⟨ua, uc, hu⟩ := q5.form
      rw [hy] at hu
      obtain ⟨un, hun⟩ : ∃ k, y.kids.length = k := ⟨_, rfl⟩
      rw [hun] at hu
      subst hu
      have HK := hide q5
      have HUn := hide hun
      have hunb : un ≤ 1048577 := by
        have h1 := kidsSz_mem (List.getElem_mem hi)
        rw [nodeSz_eq, hy] at h1
        have h2 := kidsSz_len y.kids
        have h3 := HC.out.bd
        omega
      have HLo : Hid (∀ w', Calls Try.prog 12 #[.slice ua un uc] w' fun e w2 => e = .returned (KK (kidKey (.slice ua un uc))) ∧ Below w'.heap.size w' w2) := hide fun w' => listOf_at w' (by rw [hy]; exact hun) hunb q5
      have HLk : Hid (Link w1 f (.slice ua un uc)) := hide ⟨hi, b, o, nl, vc, HV.out, q4⟩
      have HLu : Hid (∀ u', Link w1 f u' → u' = .slice ua un uc) := hide fun u' ⟨_, b', o', n', c', e, k⟩ => by
        rw [HV.out] at e
        cases e
        rw [q4] at k
        cases k
        rfl
      have HKt : Hid (TL (SB w.heap.size) w1 h' (.slice ua un uc) f.l[f.at_].kids) := hide q5
      have HWs : Hid (WI (SB w.heap.size) w1 wr (w.heap.size + 1) (w.heap.size + 1 + 1 + 1) (.slice (some ⟨g, 0, none⟩) (L + 1) cap) (r.reverse ++ [f]) M) := hide (by have := HW.out; rw [HLen.out] at this; exact this)
      have HI := hide hi
      have HSl : Hid (∀ k, SB w.heap.size k → k < w1.heap.size) := hide fun k hk => (SB.lt s1 k hk).1
      cases hmg : mget M (kidKey (.slice ua un uc)) with
      | some ck =>
        have hck : ck = (kidsSz y.kids : Int) := by
          have := met_size HC.out HM.out HI.out HKt.out hmg
          rw [HY.out] at this
          exact this
        have hkb : kidsSz y.kids ≤ 1048577 := by
          have h1 := kidsSz_mem (List.getElem_mem HI.out)
          rw [nodeSz_eq, HY.out] at h1
          have h3 := HC.out.bd
          omega
        have HLook : Hid (∀ w5, Below wr.heap.size wr w5 → (Instr.lookup 35 (.map (some (w.heap.size + 1))) (KK (kidKey (.slice ua un uc))) true).run Try.prog w5 = .ok (.tuple #[.int .i64 ck, .bool true]) w5) := hide fun w5 b5 => by
          have h1 := HW.out.below HSl.out b5
          have := h1.cm.look (h1.kok HKt.out)
          rw [hmg] at this
          exact this
        have HCnt : Hid (∀ w5, Below wr.heap.size wr w5 → ∃ gk', gk' < gk ∧ SR w w1 x gk' (.slice (some ⟨g, 0, none⟩) (L + 1) cap) ((w5.setCell ⟨g, L * 3 + 2, none⟩ (.int .i64 ((sum0 : Int) + (1 + ck)))).setCell ⟨g, L * 3 + 1, none⟩ (.int .i64 ((at0 : Int) + 1)))) := hide fun w5 b5 => by
          have := SR.count s1 HWs.out HC.out HM.out HTop.out HG.out HI.out b5 hg1 L HLL.out
          rw [HY.out, HSum0.out, HAt0.out, ← hck] at this
          exact this
        have j1 : ¬ 9223372036854775806 - (sum0 : Int) < ck := by omega
        have j2 : 0 ≤ ck ∧ ck ≤ 1048577 := by omega
        clear hmg q4 q5 hun hy q2 hck hkb
        go_wp2
        go_quiet (fail)
        go_wp2
        go_quiet (fail)
        go_wp2_with fail
        refine (HLo.out _).mono ?_
        rintro e w5 ⟨rfl, b5⟩
        have b15 : Below wr.heap.size wr w5 := ⟨b5.os, b5.tape, b5.output, b5.size, b5.block⟩
        have hlook := HLook.out w5 b15
        have d1 := (b15.cell (p := ⟨g, L * 3 + 1, none⟩) hg2).trans c1
        have d2 := (b15.cell (p := ⟨g, L * 3 + 2, none⟩) hg2).trans c2
        have f1 := (b15.frozen (p := ⟨g, L * 3 + 1, none⟩) hg2).trans (HFr.out _)
        have f2 := (b15.frozen (p := ⟨g, L * 3 + 2, none⟩) hg2).trans (HFr.out _)
        obtain ⟨gk', hgk, hsr⟩ := HCnt.out w5 b15
        have HSR := hide hsr
        clear hsr
        go_wp2
        go_roundg gk'
        case measure => exact hgk
        case rel => exact HSR.out
      | none =>
        have HLook : Hid (∀ w5, Below wr.heap.size wr w5 → (Instr.lookup 35 (.map (some (w.heap.size + 1))) (KK (kidKey (.slice ua un uc))) true).run Try.prog w5 = .ok (.tuple #[.int .i64 0, .bool false]) w5) := hide fun w5 b5 => by
          have h1 := HW.out.below HSl.out b5
          have := h1.cm.look (h1.kok HKt.out)
          rw [hmg] at this
          exact this
        have HPut : Hid (∀ w5, Below wr.heap.size wr w5 → ∃ w9, (Instr.mapUpdate 35 (.map (some (w.heap.size + 1))) (KK (kidKey (.slice ua un uc))) (.int .i64 9223372036854775807)).run Try.prog w5 = .ok () w9 ∧ Hid (CM w9 (w.heap.size + 1) (mput M (kidKey (.slice ua un uc)) 9223372036854775807)) ∧ Hid (w5.grownBy w9 (some (w.heap.size + 1)))) := hide fun w5 b5 => by
          have h1 := HW.out.below HSl.out b5
          obtain ⟨w9, q1, q2, q3, -⟩ := h1.cm.put (h1.kok HKt.out) 9223372036854775807
          exact ⟨w9, q1, hide q2, hide q3⟩
        have HPush : Hid (∀ w5 w9 w8 w10 s', Below wr.heap.size wr w5 → CM w9 (w.heap.size + 1) (mput M (kidKey (.slice ua un uc)) 9223372036854775807) → w5.grownBy w9 (some (w.heap.size + 1)) → Below w9.heap.size w9 w8 → FRow cK w10 (w.heap.size + 1 + 1 + 1) s' ((r.reverse ++ [f]) ++ [⟨.slice ua un uc, y.kids, 0, 0⟩]) → w8.grownBy w10 (some g) → ∃ gk', gk' < gk ∧ SR w w1 x gk' s' w10) := hide fun w5 w9 w8 w10 s' b5 c9 g9 b8 r10 g10 =>
          SR.push s1 HWs.out HC.out HM.out HTop.out HG.out HI.out HKt.out HLk.out HLu.out hmg 9223372036854775807 b5 c9 g9 b8 hg1 (by rw [HY.out]; exact r10) g10
        have HRow : Hid (∀ w5 w9 w8, Below wr.heap.size wr w5 → CM w9 (w.heap.size + 1) (mput M (kidKey (.slice ua un uc)) 9223372036854775807) → w5.grownBy w9 (some (w.heap.size + 1)) → Below w9.heap.size w9 w8 → FRow cK w8 (w.heap.size + 1 + 1 + 1) (.slice (some ⟨g, 0, none⟩) (L + 1) cap) (r.reverse ++ [f])) := hide fun w5 w9 w8 b5 c9 g9 b8 =>
          (((HWs.out.below HSl.out b5).put HSl.out SB.not (by omega) (fun a ha => (HKt.out.kok a ha).1) c9 g9).row).on b8
        clear hmg q4 q5 hun hy q2
        go_wp2
        go_quiet (fail)
        go_wp2
        go_quiet (fail)
        go_wp2_with fail
        refine (HLo.out _).mono ?_
        rintro e w5 ⟨rfl, b5⟩
        have b15 : Below wr.heap.size wr w5 := ⟨b5.os, b5.tape, b5.output, b5.size, b5.block⟩
        have hlook := HLook.out w5 b15
        have HB15 := hide b15
        clear b5 b15
        go_wp2_with fail
        refine (HLo.out _).mono ?_
        rintro e w7 ⟨rfl, b7⟩
        have b17 : Below wr.heap.size wr w7 := HB15.out.trans (b7.mono HB15.out.size)
        obtain ⟨w9, hput, h9, g9⟩ := HPut.out w7 b17
        have HB17 := hide b17
        clear b7 b17 hlook
        have b8 : Below w9.heap.size w9 (w9.alloc (.cells #[.slice ua un uc, .int .i64 0, .int .i64 0] 37)) := (Below.refl _ _).alloc (Nat.le_refl _) _
        have HR8 := hide (HRow.out w7 w9 _ HB17.out h9.out g9.out b8)
        have HB8 := hide b8
        have hbs : w.heap.size + 1 + 1 + 1 ≤ w9.heap.size := by have := hg2; have := HB17.out.size; have := g9.out.size; omega
        have HLs : Hid ((r.reverse ++ [f]).length ≤ 100000000) := hide (by rw [HLen.out]; omega)
        clear b8
        go_wp2_with (at_builtin
                     refine wp_append_flat cOk rfl _ _ rfl (w.heap.size + 1 + 1 + 1) (.slice (some ⟨g, 0, none⟩) (L + 1) cap) (r.reverse ++ [f]) rfl HR8.out w9.heap.size ⟨.slice ua un uc, y.kids, 0, 0⟩ rfl (flat_new cK w9 ⟨.slice ua un uc, y.kids, 0, 0⟩ _ _ rfl rfl) (by intro z hz; simp [cK] at hz; rcases hz with rfl | rfl | rfl <;> rfl) HLs.out (by simp; omega) ?_
                     intro v' w10 hr10 g10
                     obtain ⟨gk', hgk, hsr⟩ := HPush.out w7 w9 _ w10 v' HB17.out h9.out g9.out HB8.out hr10 g10
                     have HSR := hide hsr
                     clear hput hsr hr10 g10)
        go_roundg gk'
        case measure => exact hgk
        case rel => exact HSR.out
end Go.Proofs.Ytgebonbmiapfoaa
