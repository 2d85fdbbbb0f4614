/- The program places objects: its cells and codes are numbered. No condition. -/
import Derived.Test.YtfbglokjehmgeaaGreatDoorZLnN
import Derived.Test.YtfbglokjehmgeaaGreatDoorZLawZ
import Derived.BigRegion
namespace Go.Proofs.YtfbglokjehmgeaaGreatDoor
open Go.ChangeShapes Go.WideShapes Go.ChangeAt Go.RowKit Go.Deep

/-- The program's linker while objects are placed. -/
def PS (w : World) (b B b2 b3 : Nat) (zs : List Value) (G : Int) (C P : ML PK) (cs : List CV) : Prop :=
  ∃ y0 y1 y2 y3 cv, zs = [y0, y1, y2, y3] ∧ w.heap[b]? = some (.cells #[y0, y1, y2, y3, .int .i64 G, .map (some b2), .map (some b3), cv] 106 (0, 0)) ∧ GM pM w b2 C ∧ GM pM w b3 P ∧ FRow codeK w B cv cs
theorem PS.setG {w : World} {b B b2 b3 : Nat} {zs : List Value} {G : Int} {C P : ML PK} {cs : List CV} (h : PS w b B b2 b3 zs G C P cs) (G' : Int) : PS ((w.setCell ⟨b, 4, none⟩ (.int .i64 G')).drew) b B b2 b3 zs G' C P cs := by
  obtain ⟨y0, y1, y2, y3, cv, e, hx, hC, hP, hc⟩ := h
  have key : ∀ k, k ≠ b → ((w.setCell ⟨b, 4, none⟩ (.int .i64 G')).drew).heap[k]? = w.heap[k]? := fun k hk => Below.heap_setCell _ _ _ _ hk
  have hm : ∀ {k : Nat} {M : ML PK}, GM pM w k M → k ≠ b := fun {k M} h e => by
    obtain ⟨es, cl, hm, -⟩ := h
    rw [e, hx] at hm
    cases hm
  exact ⟨y0, y1, y2, y3, cv, e, block_set hx _, hC.on (key _ (hm hC)), hP.on (key _ (hm hP)), hc.of_heap fun k _ _ ⟨X, hX⟩ => key k fun e => by
    rw [e, hx] at hX
    have := congrArg (fun o : Option Obj => match o with | some (.cells _ T _) => T | _ => 0) hX
    simp [codeK] at this⟩
/-- Of what was there the linker's block has turned, its maps, its row of codes. -/
def OffC (B : Nat) (w : World) (k : Nat) : Prop := k < B ∨ ∀ C fr, w.heap[k]? ≠ some (.cells C 86 fr)
structure Fp (b b2 b3 B : Nat) (w w' : World) : Prop where
  os : w'.os = w.os
  tape : w'.tape = w.tape
  output : w'.output = w.output
  size : w.heap.size ≤ w'.heap.size
  block : ∀ k, k < w.heap.size → k ≠ b → k ≠ b2 → k ≠ b3 → OffC B w k → w'.heap[k]? = w.heap[k]?
theorem Fp.refl (b b2 b3 B : Nat) (w : World) : Fp b b2 b3 B w w := ⟨rfl, rfl, rfl, Nat.le_refl _, fun _ _ _ _ _ _ => rfl⟩
theorem Fp.trans {b b2 b3 B : Nat} {x y z : World} (h : Fp b b2 b3 B x y) (k : Fp b b2 b3 B y z) : Fp b b2 b3 B x z := ⟨k.os.trans h.os, k.tape.trans h.tape, k.output.trans h.output, Nat.le_trans h.size k.size, fun i h1 h2 h3 h4 h5 => by
  have e := h.block i h1 h2 h3 h4 h5
  refine (k.block i (Nat.lt_of_lt_of_le h1 h.size) h2 h3 h4 ?_).trans e
  rcases h5 with h5 | h5
  · exact .inl h5
  · exact .inr fun C fr => by rw [e]; exact h5 C fr⟩
theorem Fp.of_below {b b2 b3 B : Nat} {w w' : World} (h : Below w.heap.size w w') : Fp b b2 b3 B w w' := ⟨h.os, h.tape, h.output, h.size, fun k hk _ _ _ _ => h.block k hk⟩
theorem Fp.below {b b2 b3 B K : Nat} {w w' : World} (h : Fp b b2 b3 B w w') (hb : K ≤ b) (h2 : K ≤ b2) (h3 : K ≤ b3) (hB : K ≤ B) (hK : K ≤ w.heap.size) : Below K w w' := ⟨h.os, h.tape, h.output, h.size, fun k hk => h.block k (by omega) (by omega) (by omega) (by omega) (.inl (by omega))⟩
theorem Fp.set (b b2 b3 B : Nat) (w : World) (o : Nat) (v : Value) : Fp b b2 b3 B w (w.setCell ⟨b, o, none⟩ v) := ⟨rfl, rfl, rfl, by simp [World.setCell], fun k _ hk _ _ _ => Below.heap_setCell _ _ _ _ hk⟩
theorem gsum_app : ∀ (a b : List GlobalD) (n : Int), gsum (a ++ b) n = gsum b (gsum a n)
  | [], _, _ => rfl
  | x :: r, b, n => by rw [List.cons_append, gsum_cons, gsum_cons, gsum_app r b]
theorem gsum_bound : ∀ (l : List GlobalD) (n : Int), (∀ g ∈ l, 0 ≤ g.length ∧ g.length ≤ 100) → n ≤ gsum l n ∧ gsum l n ≤ n + 100 * l.length
  | [], n, _ => by
    show n ≤ n ∧ n ≤ n + 100 * ((0 : Nat) : Int)
    omega
  | x :: r, n, h => by
    have h1 := gsum_bound r (n + glen x) fun g hg => h g (List.mem_cons_of_mem _ hg)
    have h2 := h x (List.mem_cons_self ..)
    have h3 : 1 ≤ glen x ∧ glen x ≤ 100 := by unfold glen; split <;> omega
    rw [gsum_cons, List.length_cons]
    omega
def gloL (m : ByteArray) (l : List GlobalD) : List (PK × Int) := l.map fun g => ((m, g.name), glen g)
theorem glo_step (m : ByteArray) {l : List GlobalD} {j : Nat} (h : j < l.length) (M : ML PK) (n : Int) : pM.putW (gloL m (l.take (j + 1))) M n = pM.put (pM.putW (gloL m (l.take j)) M n) (m, l[j].name) (gsum (l.take j) n) := by
  unfold gloL
  rw [List.take_succ_eq_append_getElem h, List.map_append, MK.putW_app, gsum_W]
  rfl
theorem gsum_step {l : List GlobalD} {j : Nat} (h : j < l.length) (n : Int) : gsum (l.take (j + 1)) n = gsum (l.take j) n + glen l[j] := by
  rw [List.take_succ_eq_append_getElem h, gsum_app]
  rfl
def proL (m : ByteArray) (l : List CodeD) : List (PK × Int) := l.map fun p => ((m, p.name), 1)
theorem pro_step (m : ByteArray) {l : List CodeD} {j : Nat} (h : j < l.length) (M : ML PK) (n : Int) : pM.putW (proL m (l.take (j + 1))) M n = pM.put (pM.putW (proL m (l.take j)) M n) (m, l[j].name) (n + j) := by
  unfold proL
  rw [List.take_succ_eq_append_getElem h, List.map_append, MK.putW_app]
  have e : ((l.take j).map fun p => ((m, p.name), (1 : Int))) = ((l.take j).map fun p => ((m, p.name) : PK)).map fun z => (z, 1) := by rw [List.map_map]; rfl
  have hm : min j l.length = j := Nat.min_eq_left (by omega)
  rw [e, sumW_one, List.length_map, List.length_take, hm]
  rfl
set_option maxRecDepth 100000 in
set_option maxHeartbeats 16000000 in
theorem place_any (b B b2 b3 h : Nat) (zs : List Value) (G : Int) (C P : ML PK) (cs : List CV) (p : OV) (w : World) (hp : OVal w h p) (hhB : h ≤ B) (hb : B ≤ b) (hb2 : B ≤ b2) (hb3 : B ≤ b3) (h23 : b2 ≠ b3) (hB : B ≤ w.heap.size) (hgl : p.x.globals.length ≤ 100) (hgb : ∀ g ∈ p.x.globals, 0 ≤ g.length ∧ g.length ≤ 100) (hpl : p.x.procs.length ≤ 1000) (hG0 : 0 ≤ G) (hG1 : G ≤ 1000000) (hcs : cs.length ≤ 1000000) (hs : PS w b B b2 b3 zs G C P cs) :
    Calls Tryz.prog 59 #[.pointer (some ⟨b, 0, none⟩), .agg #[.string p.x.module, .int .i64 p.x.print, p.u2, p.u3, p.u4]] w fun e w' => e = .returned (.tuple #[]) ∧ PS w' b B b2 b3 zs (gsum p.x.globals G) (pM.putW (gloL p.x.module p.x.globals) C G) (pM.putW (proL p.x.module p.x.procs) P cs.length) (cs ++ p.cs) ∧ Fp b b2 b3 B w w' := by
  obtain ⟨a2, c2, a3, c3, a4, c4, p2, p3, p4⟩ := hp.form
  have HP2 := hide p2
  have HP3 := hide p3
  have HP4 := hide p4
  have HGb := hide hgb
  rw [p2, p3, p4]
  obtain ⟨wB, hwB⟩ : ∃ wB, w.alloc (.cells #[.string p.x.module, .int .i64 p.x.print, .slice a2 p.x.needs.length c2, .slice a3 p.x.globals.length c3, .slice a4 p.x.procs.length c4] 48) = wB := ⟨_, rfl⟩
  have bB : Below w.heap.size w wB := by rw [← hwB]; exact (Below.refl _ _).alloc (Nat.le_refl _) _
  have xB := Deep.blk_alloc_new w (.cells #[.string p.x.module, .int .i64 p.x.print, .slice a2 p.x.needs.length c2, .slice a3 p.x.globals.length c3, .slice a4 p.x.procs.length c4] 48)
  rw [hwB] at xB
  have HsB : Hid (PS wB b B b2 b3 zs G C P cs) := hide (by
    obtain ⟨y0, y1, y2, y3, cv, e, hx, hC, hP, hc⟩ := hs
    exact ⟨y0, y1, y2, y3, cv, e, (bB.block _ (Array.getElem?_eq_some_iff.1 hx).1).trans hx, hC.below bB, hP.below bB, hc.on bB⟩)
  have HpB := hide (hp.on (bB.mono (Nat.le_trans hhB hB)))
  have HbB := hide bB
  obtain ⟨n3, hn3⟩ : ∃ q, p.x.globals.length = q := ⟨_, rfl⟩
  obtain ⟨n4, hn4⟩ : ∃ q, p.x.procs.length = q := ⟨_, rfl⟩
  obtain ⟨n2, hn2⟩ : ∃ q, p.x.needs.length = q := ⟨_, rfl⟩
  obtain ⟨mo, hmo⟩ : ∃ q, p.x.module = q := ⟨_, rfl⟩
  obtain ⟨pr, hpr⟩ : ∃ q, p.x.print = q := ⟨_, rfl⟩
  have HN3 := hide hn3
  have HN4 := hide hn4
  rw [hn2, hn3, hn4, hmo, hpr] at xB hwB
  rw [hn2, hn3, hn4, hmo, hpr]
  rw [hn3] at hgl
  rw [hn4] at hpl
  have HXB := hide xB
  have z3 : wB.cell? ⟨w.heap.size, 3, none⟩ = some (.slice a3 n3 c3) := (heapCells xB).1 3
  have HlB : Hid (b < w.heap.size ∧ b2 < w.heap.size ∧ b3 < w.heap.size) := hide (by
    obtain ⟨y0, y1, y2, y3, cv, e, hx, hC, hP, hc⟩ := hs
    exact ⟨(Array.getElem?_eq_some_iff.1 hx).1, hC.lt, hP.lt⟩)
  have HsB1 : Hid (w.heap.size < wB.heap.size) := hide (Array.getElem?_eq_some_iff.1 xB).1
  clear hp hgb p2 p3 p4 bB xB hs hn2 hn3 hn4 hmo hpr
  go_enter Tryz.func59, Tryz.ntmps59
  go_upto_region 2 with fail
  clear hwB z3
  go_loopw [11] (fun i wr => ∃ j : Nat, i = .int .i64 j ∧ j ≤ n3 ∧ Hid (Fp b b2 b3 B wB wr) ∧ Hid (PS wr b B b2 b3 zs (gsum (p.x.globals.take j) G) (pM.putW (gloL mo (p.x.globals.take j)) C G) P cs)) (fun i _ => n3 - (intOf i).toNat)
  case atStart => exact ⟨0, rfl, by omega, hide (Fp.refl _ _ _ _ _), HsB⟩
  case round =>
    obtain ⟨j, rfl, hj, Hf, Hs⟩ := hrel
    have hszr : wB.heap.size ≤ wr.heap.size := Hf.out.size
    have hszw : w.heap.size < wr.heap.size := Nat.lt_of_lt_of_le HsB1.out hszr
    have HpR := hide (HpB.out.on (Hf.out.below (by omega) (by omega) (by omega) hhB (by have := HsB1.out; omega)))
    have hxr := (Hf.out.block w.heap.size HsB1.out (by have := HlB.out; omega) (by have := HlB.out; omega) (by have := HlB.out; omega) (.inr fun C fr e => by rw [HXB.out] at e; cases e)).trans HXB.out
    have HXr := hide hxr
    clear hxr
    by_cases hq : j < n3
    · have i1 : (j : Int) < n3 := by omega
      have hjn : j < p.x.globals.length := by rw [HN3.out]; exact hq
      obtain ⟨m, hm, -, s3, -⟩ := HpR.out
      rw [HP3.out] at s3
      obtain ⟨a', c', e3, hrn⟩ := s3
      cases e3
      obtain ⟨nb, nq, rfl, r1, r2, -, ⟨k0, k1⟩, -⟩ := hrn j hjn
      rw [HN3.out] at r1
      simp only [Nat.add_zero] at k0 k1
      have hgj := HGb.out _ (List.getElem_mem hjn)
      have hst := gsum_step hjn G
      have hpt := glo_step mo hjn C G
      have hbd := gsum_bound (p.x.globals.take j) G fun g hg => HGb.out g (List.mem_of_mem_take hg)
      have hlt : (p.x.globals.take j).length = j := by rw [List.length_take]; omega
      rw [hlt] at hbd
      obtain ⟨g, hg⟩ : ∃ g, p.x.globals[j] = g := ⟨_, rfl⟩
      rw [hg] at k0 k1 hgj hst hpt
      obtain ⟨gn, gl⟩ := g
      simp only [] at k0 k1 hgj hst hpt
      obtain ⟨Gj, hGj⟩ : ∃ q, gsum (p.x.globals.take j) G = q := ⟨_, rfl⟩
      rw [hGj] at Hs hbd hst hpt
      obtain ⟨y0, y1, y2, y3, cv, ez, hx, hC, hP, hc⟩ := Hs.out
      have HX := hide hx
      have HC := hide hC
      have HPm := hide hP
      have HCv := hide hc
      have HEz := hide ez
      have HSt := hide hst
      have HPt := hide hpt
      have c5 : wr.cell? ⟨b, 5, none⟩ = some (.map (some b2)) := (heapCells hx).1 5
      have c4' : wr.cell? ⟨b, 4, none⟩ = some (.int .i64 Gj) := (heapCells hx).1 4
      have m0 : wr.cell? ⟨w.heap.size, 0, none⟩ = some (.string mo) := (heapCells HXr.out).1 0
      clear hrn hg hGj hx hC hP hc ez hst hpt hlt
      go_upto_region 4 with fail
      obtain ⟨W5, hW5⟩ : ∃ W5, wr.alloc (.cells #[.string gn, .int .i64 gl] 82) = W5 := ⟨_, rfl⟩
      have b5 : Below wr.heap.size wr W5 := by rw [← hW5]; exact (Below.refl _ _).alloc (Nat.le_refl _) _
      have x5 := Deep.blk_alloc_new wr (.cells #[.string gn, .int .i64 gl] 82)
      rw [hW5] at x5
      have hbr : b < wr.heap.size := (Array.getElem?_eq_some_iff.1 HX.out).1
      have q0 : W5.cell? ⟨wr.heap.size, 0, none⟩ = some (.string gn) := (heapCells x5).1 0
      have q5 := (b5.cell (p := ⟨b, 5, none⟩) hbr).trans c5
      have q4 := (b5.cell (p := ⟨b, 4, none⟩) hbr).trans c4'
      have qm := (b5.cell (p := ⟨w.heap.size, 0, none⟩) hszw).trans m0
      obtain ⟨w9, hput, hM9, hg9, -⟩ := GM.put pM_ok (show GM pM W5.drew b2 (pM.putW (gloL mo (p.x.globals.take j)) C G) from HC.out.on (b5.block _ HC.out.lt)) (mo, gn) Gj
      rw [hW5]
      have hput' : (Instr.mapUpdate 104 (.map (some b2)) (.agg #[.string mo, .string gn]) (.int .i64 Gj)).run Tryz.prog W5.drew = .ok () w9 := hput
      have hfar : ∀ k, k < W5.heap.size → k ≠ b2 → w9.heap[k]? = W5.heap[k]? := fun k hk hk2 => hg9.block k hk (fun e => hk2 (Option.some.inj e))
      have hb22 : b ≠ b2 := fun e => by
        obtain ⟨es, cl, hm, -⟩ := HC.out
        rw [← e, HX.out] at hm
        cases hm
      have hr2 : wr.heap.size ≠ b2 := by have := HC.out.lt; omega
      have hx9 := (hfar b (Nat.lt_of_lt_of_le hbr b5.size) hb22).trans ((b5.block b hbr).trans HX.out)
      have hl9 := (hfar wr.heap.size (Array.getElem?_eq_some_iff.1 x5).1 hr2).trans x5
      have g4 : w9.cell? ⟨b, 4, none⟩ = some (.int .i64 Gj) := (heapCells hx9).1 4
      have gf := (heapCells hx9).2 4
      have gl1 : w9.cell? ⟨wr.heap.size, 1, none⟩ = some (.int .i64 gl) := (heapCells hl9).1 1
      have HX9 := hide hx9
      have HM9 := hide hM9
      have HF9 : Hid (Fp b b2 b3 B wr w9) := hide ((Fp.of_below b5).trans ⟨hg9.os, hg9.tape, hg9.output, hg9.size, fun k hk _ hk2 _ _ => hfar k hk hk2⟩)
      have HP9 : Hid (GM pM w9 b3 P) := hide (HPm.out.on ((hfar b3 (Nat.lt_of_lt_of_le HPm.out.lt b5.size) (Ne.symm h23)).trans (b5.block b3 HPm.out.lt)))
      have HC9 : Hid (FRow codeK w9 B cv cs) := hide (HCv.out.of_heap fun k _ hk ⟨X, hX⟩ => (hfar k (Nat.lt_of_lt_of_le hk b5.size) (fun e => by
        obtain ⟨es, cl, hm, -⟩ := HC.out
        rw [e, hm] at hX
        cases hX)).trans (b5.block k hk))
      clear hput hM9 hg9 b5 x5 hW5 k0 k1 c5 c4' m0 hfar hx9 hl9
      go_region
      clear hput' q0 q5 q4 qm
      go_upto_region 5 with fail
      obtain ⟨gv, hgv⟩ : ∃ gv, glen ⟨gn, gl⟩ = gv := ⟨_, rfl⟩
      have HSt2 : Hid (gsum (p.x.globals.take (j + 1)) G = Gj + gv) := hide (by rw [HSt.out, hgv])
      have hgi : (if gl > 1 then gl else 1) = gv := hgv
      have hgv0 : 0 ≤ gv ∧ gv ≤ 100 := by rw [← hgv]; unfold glen; simp only []; split <;> omega
      have hmax : ∀ w', (Builtin.max_ #[3, 3] 3 #[.int .i64 1, .int .i64 gl]).run Tryz.prog w' = .ok (.int .i64 gv) w' := fun w' => by rw [run_max_int2, hgi]
      clear hgv hgi
      have hwr : IntKind.i64.wrap (Gj + gv) = Gj + gv := by simp only [IntKind.wrap_i64]; omega
      go_region
      have HPS : Hid (PS ((w9.setCell ⟨b, 4, none⟩ (.int .i64 (Gj + gv))).drew) b B b2 b3 zs (gsum (p.x.globals.take (j + 1)) G) (pM.putW (gloL mo (p.x.globals.take (j + 1))) C G) P cs) := hide (by
        rw [HSt2.out, HPt.out]
        exact (show PS w9 b B b2 b3 zs Gj _ P cs from ⟨y0, y1, y2, y3, cv, HEz.out, HX9.out, HM9.out, HP9.out, HC9.out⟩).setG (Gj + gv))
      have HFp : Hid (Fp b b2 b3 B wB ((w9.setCell ⟨b, 4, none⟩ (.int .i64 (Gj + gv))).drew)) := hide (Hf.out.trans (HF9.out.trans ⟨rfl, rfl, rfl, by simp [World.setCell], fun k _ hk _ _ _ => Below.heap_setCell _ _ _ _ hk⟩))
      clear hmax hwr g4 gf gl1
      go_wp2
      go_roundw
      case rel => exact ⟨j + 1, by go_num, by omega, HFp, HPS⟩
      case measure => simp [intOf]; omega
    · have i1 : ¬ (j : Int) < n3 := by omega
      obtain rfl : j = n3 := by omega
      have HsA : Hid (PS wr b B b2 b3 zs (gsum p.x.globals G) (pM.putW (gloL mo p.x.globals) C G) P cs) := hide (by
        have := Hs.out
        rwa [List.take_of_length_le (by rw [HN3.out]; exact Nat.le_refl _)] at this)
      have z4 : wr.cell? ⟨w.heap.size, 4, none⟩ = some (.slice a4 n4 c4) := (heapCells HXr.out).1 4
      have HfA := Hf
      clear Hs Hf
      obtain ⟨wA, rfl⟩ : ∃ wA, wA = wr := ⟨_, rfl⟩
      go_upto_region 8 with fail
      clear z4
      go_loopw [42] (fun i wr => ∃ j : Nat, i = .int .i64 j ∧ j ≤ n4 ∧ Hid (Fp b b2 b3 B wA wr) ∧ Hid (PS wr b B b2 b3 zs (gsum p.x.globals G) (pM.putW (gloL mo p.x.globals) C G) (pM.putW (proL mo (p.x.procs.take j)) P cs.length) (cs ++ p.cs.take j))) (fun i _ => n4 - (intOf i).toNat)
      case atStart => exact ⟨0, rfl, by omega, hide (Fp.refl _ _ _ _ _), hide (by rw [List.take_zero, List.take_zero, List.append_nil]; exact HsA.out)⟩
      case round =>
        obtain ⟨q, rfl, hq, Hf, Hs⟩ := hrel
        have hszA : wA.heap.size ≤ wr.heap.size := Hf.out.size
        by_cases hql : q < n4
        · have i2 : (q : Int) < n4 := by omega
          have HpQ := hide (HpR.out.on (Hf.out.below (by omega) (by omega) (by omega) hhB (by omega)))
          have hcl : p.cs.length = n4 := by rw [HpR.out.len, HN4.out]
          have hqc : q < p.cs.length := by rw [hcl]; exact hql
          have hqp : q < p.x.procs.length := by rw [HN4.out]; exact hql
          obtain ⟨mm, hmm, -, -, hfst, hvr, hcv⟩ := HpQ.out
          rw [HP4.out] at hvr
          obtain ⟨a', c', e4, hrn⟩ := hvr
          rw [hcl, HN4.out] at e4
          cases e4
          obtain ⟨nb, nq, rfl, r1, r2, r3⟩ := hrn q hqc
          rw [hcl] at r1
          obtain ⟨mc, -, ⟨la, lc, el, -⟩⟩ := hcv _ (List.getElem_mem hqc)
          have hpt := pro_step mo hqp P cs.length
          have hname : p.x.procs[q].name = p.cs[q].1.name := by
            have : p.x.procs[q]? = some p.cs[q].1 := by rw [← hfst, List.getElem?_map, List.getElem?_eq_getElem hqc]; rfl
            rw [List.getElem?_eq_getElem hqp] at this
            rw [Option.some.inj this]
          rw [hname] at hpt
          have htk : p.cs.take (q + 1) = p.cs.take q ++ [p.cs[q]] := List.take_succ_eq_append_getElem hqc
          have hlen : (cs ++ p.cs.take q).length = cs.length + q := by rw [List.length_append, List.length_take]; omega
          obtain ⟨c, hc⟩ : ∃ c, p.cs[q] = c := ⟨_, rfl⟩
          rw [hc] at r3 el hpt htk
          have k0 : wr.cell? ⟨nb, nq + q * 5, none⟩ = some (.string c.1.name) := r3 0 (by decide)
          have k1 : wr.cell? ⟨nb, nq + q * 5 + 1, none⟩ = some (.int .i64 c.1.params) := r3 1 (by decide)
          have k2 : wr.cell? ⟨nb, nq + q * 5 + 2, none⟩ = some (.int .i64 c.1.cells) := r3 2 (by decide)
          have k3 : wr.cell? ⟨nb, nq + q * 5 + 3, none⟩ = some (.int .i64 c.1.result) := r3 3 (by decide)
          have k4 : wr.cell? ⟨nb, nq + q * 5 + 4, none⟩ = some c.2 := r3 4 (by decide)
          have hcs5 : codeK.cs c = [.string c.1.name, .int .i64 c.1.params, .int .i64 c.1.cells, .int .i64 c.1.result, c.2] := rfl
          rw [el] at k4 hcs5
          obtain ⟨cn, hcn⟩ : ∃ q, c.1.name = q := ⟨_, rfl⟩
          obtain ⟨cp, hcp⟩ : ∃ q, c.1.params = q := ⟨_, rfl⟩
          obtain ⟨cc, hcc⟩ : ∃ q, c.1.cells = q := ⟨_, rfl⟩
          obtain ⟨cr, hcr⟩ : ∃ q, c.1.result = q := ⟨_, rfl⟩
          obtain ⟨cl, hcll⟩ : ∃ q, c.1.list.length = q := ⟨_, rfl⟩
          rw [hcn] at k0 hcs5 hpt
          rw [hcp] at k1 hcs5
          rw [hcc] at k2 hcs5
          rw [hcr] at k3 hcs5
          rw [hcll] at k4 hcs5
          obtain ⟨y0, y1, y2, y3, cv, ez, hx, hC, hP, hcw⟩ := Hs.out
          obtain ⟨ca, ck, hcvf⟩ := hcw.form
          rw [hlen] at hcvf
          subst hcvf
          obtain ⟨nc, hnc⟩ : ∃ nc, cs.length + q = nc := ⟨_, rfl⟩
          have HNc := hide hnc
          have hncI : (cs.length : Int) + (q : Int) = (nc : Int) := by omega
          rw [hncI] at hpt
          rw [hnc] at hx hcw hlen
          have hncb : nc ≤ 2000000 := by omega
          have HX := hide hx
          have HC := hide hC
          have HPm := hide hP
          have HCv := hide hcw
          have HEz := hide ez
          have HPt := hide hpt
          have HTk := hide htk
          have HLen := hide hlen
          have HCs5 := hide hcs5
          have c6 : wr.cell? ⟨b, 6, none⟩ = some (.map (some b3)) := (heapCells hx).1 6
          have c7 : wr.cell? ⟨b, 7, none⟩ = some (.slice ca nc ck) := (heapCells hx).1 7
          have hxr := (Hf.out.block w.heap.size hszw (by have := HlB.out; omega) (by have := HlB.out; omega) (by have := HlB.out; omega) (.inr fun C fr e => by rw [HXr.out] at e; cases e)).trans HXr.out
          have m0 : wr.cell? ⟨w.heap.size, 0, none⟩ = some (.string mo) := (heapCells hxr).1 0
          have hwr0 : w.heap.size < wr.heap.size := by omega
          clear hrn hc hcn hcp hcc hcr hcll hx hC hP hcw ez hpt htk hlen hcs5 r3 hcv hfst hname el hxr hnc hncI
          go_upto_region 10 with fail
          obtain ⟨W5, hW5⟩ : ∃ W5, wr.alloc (.cells #[.string cn, .int .i64 cp, .int .i64 cc, .int .i64 cr, .slice la cl lc] 86) = W5 := ⟨_, rfl⟩
          have b5 : Below wr.heap.size wr W5 := by rw [← hW5]; exact (Below.refl _ _).alloc (Nat.le_refl _) _
          have x5 := Deep.blk_alloc_new wr (.cells #[.string cn, .int .i64 cp, .int .i64 cc, .int .i64 cr, .slice la cl lc] 86)
          rw [hW5] at x5
          have hbr : b < wr.heap.size := (Array.getElem?_eq_some_iff.1 HX.out).1
          have q0 : W5.cell? ⟨wr.heap.size, 0, none⟩ = some (.string cn) := (heapCells x5).1 0
          have q6 := (b5.cell (p := ⟨b, 6, none⟩) hbr).trans c6
          have q7 := (b5.cell (p := ⟨b, 7, none⟩) hbr).trans c7
          have qm := (b5.cell (p := ⟨w.heap.size, 0, none⟩) hwr0).trans m0
          obtain ⟨w9, hput, hM9, hg9, -⟩ := GM.put pM_ok (show GM pM W5.drew b3 _ from HPm.out.on (b5.block _ HPm.out.lt)) (mo, cn) (nc : Int)
          rw [hW5]
          have hput' : (Instr.mapUpdate 104 (.map (some b3)) (.agg #[.string mo, .string cn]) (.int .i64 (nc : Int))).run Tryz.prog W5.drew = .ok () w9 := hput
          have hfar : ∀ k, k < W5.heap.size → k ≠ b3 → w9.heap[k]? = W5.heap[k]? := fun k hk hk2 => hg9.block k hk (fun e => hk2 (Option.some.inj e))
          have hb33 : b ≠ b3 := fun e => by
            obtain ⟨es, cl, hm, -⟩ := HPm.out
            rw [← e, HX.out] at hm
            cases hm
          have hr3 : wr.heap.size ≠ b3 := by have := HPm.out.lt; omega
          have hx9 := (hfar b (Nat.lt_of_lt_of_le hbr b5.size) hb33).trans ((b5.block b hbr).trans HX.out)
          have hl9 := (hfar wr.heap.size (Array.getElem?_eq_some_iff.1 x5).1 hr3).trans x5
          have g7 : w9.cell? ⟨b, 7, none⟩ = some (.slice ca nc ck) := (heapCells hx9).1 7
          have e0 : w9.cell? ⟨wr.heap.size, 0, none⟩ = some (.string cn) := (heapCells hl9).1 0
          have e1 : w9.cell? ⟨wr.heap.size, 1, none⟩ = some (.int .i64 cp) := (heapCells hl9).1 1
          have e2 : w9.cell? ⟨wr.heap.size, 2, none⟩ = some (.int .i64 cc) := (heapCells hl9).1 2
          have e3 : w9.cell? ⟨wr.heap.size, 3, none⟩ = some (.int .i64 cr) := (heapCells hl9).1 3
          have e4 : w9.cell? ⟨wr.heap.size, 4, none⟩ = some (.slice la cl lc) := (heapCells hl9).1 4
          have HX9 := hide hx9
          have HL9 := hide hl9
          have HM9 := hide hM9
          have HF9 : Hid (Fp b b2 b3 B wr w9) := hide ((Fp.of_below b5).trans ⟨hg9.os, hg9.tape, hg9.output, hg9.size, fun k hk _ _ hk3 _ => hfar k hk hk3⟩)
          have HP9 : Hid (GM pM w9 b2 (pM.putW (gloL mo p.x.globals) C G)) := hide (HC.out.on ((hfar b2 (Nat.lt_of_lt_of_le HC.out.lt b5.size) h23).trans (b5.block b2 HC.out.lt)))
          have HC9 : Hid (FRow codeK w9 B (.slice ca nc ck) (cs ++ p.cs.take q)) := hide (HCv.out.of_heap fun k _ hk ⟨X, hX⟩ => (hfar k (Nat.lt_of_lt_of_le hk b5.size) (fun e => by
            obtain ⟨es, cl, hm, -⟩ := HPm.out
            rw [e, hm] at hX
            cases hX)).trans (b5.block k hk))
          have hs9 : wr.heap.size < w9.heap.size := (Array.getElem?_eq_some_iff.1 hl9).1
          have hb9 : b < w9.heap.size := (Array.getElem?_eq_some_iff.1 hx9).1
          have hcb : ∀ k, (Value.slice ca nc ck).ownBlock = some k → k ≠ wr.heap.size := fun k e e2 => by
            have := (HCv.out.lt e).2
            omega
          have HCb := hide hcb
          clear hput hM9 hg9 b5 x5 hW5 k0 k1 k2 k3 k4 c6 c7 m0 hfar hx9 hl9 hcb
          go_region
          clear hput' q0 q6 q7 qm
          go_upto_region 11 with fail
          refine wp_region_z (S := fun w' => ∀ k o, k = b ∨ k = wr.heap.size → w'.cell? ⟨k, o, none⟩ = w9.cell? ⟨k, o, none⟩) 10 (by kernel_rfl) (fun k o _ => rfl) (fun hHeld => ?_)
          refine wpAnyZ_take (i := 0) (v := ?_) rfl (by kernel_rfl) (by kernel_rfl) (by kernel_rfl) (by kernel_rfl) (fun _ _ _ h => h) (by rfl) ?_ hHeld ?_
          rotate_left
          · intro wS hSw
            go_simp
            rfl
          simp only [Act.put, List.setIfInBounds_toArray, List.set_cons_zero, List.set_cons_succ, List.getElem_toArray, List.getElem_cons_zero]
          refine wpAnyZ_take (i := 1) (v := ?_) rfl (by kernel_rfl) (by kernel_rfl) (by kernel_rfl) (by kernel_rfl) (fun _ _ _ h => h) (by rfl) ?_ hHeld ?_
          rotate_left
          · intro wS hSw
            go_simp
            rfl
          simp only [Act.put, List.setIfInBounds_toArray, List.set_cons_zero, List.set_cons_succ, List.getElem_toArray, List.getElem_cons_zero, List.getElem_cons_succ]
          refine wpAnyZ_take (i := 2) (v := ?_) rfl (by kernel_rfl) (by kernel_rfl) (by kernel_rfl) (by kernel_rfl) (fun _ _ _ h => h) (by rfl) ?_ hHeld ?_
          rotate_left
          · intro wS hSw
            go_simp
            rfl
          simp only [Act.put, List.setIfInBounds_toArray, List.set_cons_zero, List.set_cons_succ, List.getElem_toArray, List.getElem_cons_zero, List.getElem_cons_succ]
          refine wpAnyZ_take (i := 3) (v := ?_) rfl (by kernel_rfl) (by kernel_rfl) (by kernel_rfl) (by kernel_rfl) (fun _ _ _ h => h) (by rfl) ?_ hHeld ?_
          rotate_left
          · intro wS hSw
            go_simp
            rfl
          simp only [Act.put, List.setIfInBounds_toArray, List.set_cons_zero, List.set_cons_succ, List.getElem_toArray, List.getElem_cons_zero, List.getElem_cons_succ]
          refine wpAnyZ_take (i := 4) (v := ?_) rfl (by kernel_rfl) (by kernel_rfl) (by kernel_rfl) (by kernel_rfl) (fun _ _ _ h => h) (by rfl) ?_ hHeld ?_
          rotate_left
          · intro wS hSw
            have s0 := (hSw b 7 (.inl rfl)).trans g7
            go_simp
            rfl
          simp only [Act.put, List.setIfInBounds_toArray, List.set_cons_zero, List.set_cons_succ, List.getElem_toArray, List.getElem_cons_zero, List.getElem_cons_succ]
          refine wpAnyZ_take (i := 5) (v := ?_) rfl (by kernel_rfl) (by kernel_rfl) (by kernel_rfl) (by kernel_rfl) (fun _ _ _ h => h) (by rfl) ?_ hHeld ?_
          rotate_left
          · intro wS hSw
            have s0 := (hSw wr.heap.size 0 (.inr rfl)).trans e0; have s1 := (hSw wr.heap.size 1 (.inr rfl)).trans e1; have s2 := (hSw wr.heap.size 2 (.inr rfl)).trans e2; have s3 := (hSw wr.heap.size 3 (.inr rfl)).trans e3; have s4 := (hSw wr.heap.size 4 (.inr rfl)).trans e4
            go_simp
            rfl
          simp only [Act.put, List.setIfInBounds_toArray, List.set_cons_zero, List.set_cons_succ, List.getElem_toArray, List.getElem_cons_zero, List.getElem_cons_succ]
          refine wpAnyZ_one (i := 6) (by kernel_rfl) rfl (fun K hK => ?_)
          go_simp
          obtain ⟨W10, hW10⟩ : ∃ W10, w9.alloc (.cells #[.string cn, .int .i64 cp, .int .i64 cc, .int .i64 cr, .slice la cl lc] 86) = W10 := ⟨_, rfl⟩
          have b10 : Below w9.heap.size w9 W10 := by rw [← hW10]; exact (Below.refl _ _).alloc (Nat.le_refl _) _
          have hnew := flat_new codeK w9 c #[.string cn, .int .i64 cp, .int .i64 cc, .int .i64 cr, .slice la cl lc] 86 HCs5.out.symm (b := w9.heap.size) rfl
          rw [hW10] at hnew
          rw [hW10]
          have hS10 : ∀ k o, k = b ∨ k = wr.heap.size → W10.drew.cell? ⟨k, o, none⟩ = w9.cell? ⟨k, o, none⟩ := fun k o hk => b10.cell (p := ⟨k, o, none⟩) (by show k < w9.heap.size; rcases hk with e | e <;> omega)
          refine hK.out _ _ hS10 (fun hHeld => ?_)
          clear hK K
          try simp only [Act.put, List.setIfInBounds_toArray, List.set_cons_zero, List.set_cons_succ]
          refine wpAnyZ_one (i := 7) (by kernel_rfl) rfl (fun K hK => ?_)
          have HO10 := hide (HC9.out.on b10)
          refine step_flat codeOk (by rfl) (.tmp 64) (.tmp 66) (by rfl) B (.slice ca nc ck) (cs ++ p.cs.take q) (by rfl) (HO10.out.of_heap fun _ _ _ _ => rfl) w9.heap.size c (by rfl) hnew (by rw [HCs5.out]; intro u hu; simp at hu; rcases hu with rfl | rfl | rfl | rfl | rfl <;> rfl) (by rw [HLen.out]; omega) (by show B ≤ W10.heap.size; have := b10.size; omega) ?_
          intro g6 c6 w5 h5 g5
          have hoX : ∀ j, j < w9.heap.size → (OffC B w9 j ∨ j = wr.heap.size) → w5.heap[j]? = w9.heap[j]? := fun j hj ho => by
            refine (g5.block j (by show j < W10.heap.size; have := b10.size; omega) (fun e => ?_)).trans (b10.block j hj)
            rcases ho with (ho | ho) | ho
            · exact absurd e (HC9.out.far ho)
            · obtain ⟨C, hC⟩ := HC9.out.ty e.symm
              exact ho C _ hC
            · exact HCb.out j e.symm ho
          have hx5 := (hoX b hb9 (.inl (.inr fun C fr e => by rw [HX9.out] at e; cases e))).trans HX9.out
          have hl5 := hoX wr.heap.size hs9 (.inr rfl)
          have w3' : w5.cell? ⟨b, 7, none⟩ = some (.slice ca nc ck) := (heapCells hx5).1 7
          have wf' := (heapCells hx5).2 7
          have hS5 : ∀ k o, k = b ∨ k = wr.heap.size → w5.cell? ⟨k, o, none⟩ = w9.cell? ⟨k, o, none⟩ := by
            intro k o hk
            rcases hk with e | e
            · rw [e]; exact World.cell?_of_block (hx5.trans HX9.out.symm)
            · rw [e]; exact World.cell?_of_block hl5
          rw [HLen.out] at h5
          have HX5 := hide hx5
          have H5 := hide h5
          have HF5 : Hid (Fp b b2 b3 B w9 w5) := hide ⟨g5.os.trans b10.os, g5.tape.trans b10.tape, g5.output.trans b10.output, Nat.le_trans b10.size g5.size, fun j hj _ _ _ ho => hoX j hj (.inl ho)⟩
          have HHO := hide hoX
          clear hoX hx5 hl5 g5 h5 hnew hW10 b10 hS10
          refine hK.out _ _ hS5 (fun hHeld => ?_)
          clear hS5 hK K
          try simp only [Act.put, List.setIfInBounds_toArray]
          refine wpAnyZ_one (i := 8) (by kernel_rfl) rfl (fun K hK => ?_)
          go_simp
          refine hK.out _ _ hHeld (fun hHeld => ?_)
          clear hK K
          try simp only [Act.put, List.setIfInBounds_toArray, List.set_cons_zero, List.set_cons_succ]
          refine wpAnyZ_one (i := 9) (by kernel_rfl) rfl (fun K hK => ?_)
          go_simp
          refine hK.out _ _ hHeld (fun hHeld => ?_)
          clear hK K
          try simp only [Act.put, List.setIfInBounds_toArray, List.set_cons_zero, List.set_cons_succ]
          refine wpAnyZ_last (by kernel_rfl) rfl (by kernel_rfl) (fun K hK => ?_)
          go_simp
          refine hK.out _ _ ?_
          clear hK K hHeld
          have HPS : Hid (PS (w5.setCell ⟨b, 7, none⟩ (.slice (some ⟨g6, 0, none⟩) (nc + 1) c6)) b B b2 b3 zs (gsum p.x.globals G) (pM.putW (gloL mo p.x.globals) C G) (pM.putW (proL mo (p.x.procs.take (q + 1))) P cs.length) (cs ++ p.cs.take (q + 1))) := hide (by
            rw [HPt.out, HTk.out, ← List.append_assoc]
            have hfar : ∀ j, j < w9.heap.size → j ≠ b → OffC B w9 j → (w5.setCell ⟨b, 7, none⟩ (.slice (some ⟨g6, 0, none⟩) (nc + 1) c6)).heap[j]? = w9.heap[j]? := fun j hj hjb ho => (Below.heap_setCell _ _ _ _ hjb).trans (HHO.out j hj (.inl ho))
            have hmap : ∀ {k : Nat} {M : ML PK}, GM pM w9 k M → GM pM (w5.setCell ⟨b, 7, none⟩ (.slice (some ⟨g6, 0, none⟩) (nc + 1) c6)) k M := fun {k M} h => by
              obtain ⟨es, cl, hm, -⟩ := id h
              exact h.on (hfar k h.lt (fun e => by rw [e, HX9.out] at hm; cases hm) (.inr fun C fr e => by rw [hm] at e; cases e))
            refine ⟨y0, y1, y2, y3, _, HEz.out, block_set HX5.out _, hmap HP9.out, hmap HM9.out, ?_⟩
            refine H5.out.of_heap fun j _ hj ⟨X, hX⟩ => Below.heap_setCell _ _ _ _ fun e => ?_
            have h6 := HX5.out
            rw [e] at hX
            change w5.heap[b]? = _ at hX
            rw [h6] at hX
            have := congrArg (fun o : Option Obj => match o with | some (.cells _ T _) => T | _ => 0) hX
            simp [codeK] at this)
          have HFp : Hid (Fp b b2 b3 B wA (w5.setCell ⟨b, 7, none⟩ (.slice (some ⟨g6, 0, none⟩) (nc + 1) c6))) := hide (Hf.out.trans (HF9.out.trans (HF5.out.trans (Fp.set _ _ _ _ _ _ _))))
          clear g7 e0 e1 e2 e3 e4 w3' wf'
          rw [HNc.out]
          go_wp2
          go_roundw
          case rel => exact ⟨q + 1, by go_num, by omega, HFp, HPS⟩
          case measure => simp [intOf]; omega
        · have i2 : ¬ (q : Int) < n4 := by omega
          obtain rfl : q = n4 := by omega
          go_wp2
          go_end0
          refine ⟨rfl, ?_, (Fp.of_below HbB.out).trans (HfA.out.trans Hf.out)⟩
          have := Hs.out
          rw [List.take_of_length_le (by rw [HN4.out]; exact Nat.le_refl _), List.take_of_length_le (by rw [HpR.out.len, HN4.out]; exact Nat.le_refl _)] at this
          exact this
end Go.Proofs.YtfbglokjehmgeaaGreatDoor
