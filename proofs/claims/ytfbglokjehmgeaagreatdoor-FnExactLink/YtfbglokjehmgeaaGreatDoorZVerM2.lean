/- How the model verifies a code whose head is right. No condition. -/
import Derived.Test.YtfbglokjehmgeaaGreatDoorZVerM
import Derived.Test.YtfbglokjehmgeaaGreatDoorZWkD
import Derived.Deep.LoopGhost
import Derived.Deep.CutRange
namespace Go.Proofs.YtfbglokjehmgeaaGreatDoor
open Go.ChangeShapes Go.WideShapes Go.ChangeAt Go.RowKit Go.Deep

/-- What a right head says. -/
theorem head_all {x : CodeD} (h : headB x = true) : x.list.length ≠ 0 ∧ x.list.length ≤ 2000 ∧ inB x.params 0 20 = true ∧ inB x.cells x.params 2000 = true ∧ inB x.result 0 1 = true ∧ (emB x.name = true ∨ ownB x.name = true) ∧ (emB x.name = true → x.cells = 0 ∧ x.result = 0) := by
  unfold headB at h
  simp only [Bool.and_eq_true, decide_eq_true_eq, Bool.or_eq_true, Bool.not_eq_true'] at h
  obtain ⟨⟨⟨⟨⟨⟨h1, h2⟩, h3⟩, h4⟩, h5⟩, h6⟩, h7⟩ := h
  refine ⟨h1, h2, h3, h4, h5, h6, fun e => ?_⟩
  rcases h7 with h7 | h7
  · rw [e] at h7
    cases h7
  · exact h7
theorem verC_form {x : CodeD} (h : headB x = true) {i : Nat} (hf : formAt x.cells x.list.length x.result 0 x.list = some i) : verC x = (3, (i : Int)) := by unfold verC; rw [if_pos h, hf]
theorem verC_go {x : CodeD} (h : headB x = true) (hf : formAt x.cells x.list.length x.result 0 x.list = none) : verC x = roundsV x.list (x.list.length + 1) ((List.replicate x.list.length (-1)).set 0 0) := by unfold verC; rw [if_pos h, hf]
theorem below_drewN {B : Nat} {w w1 : World} (h : Below B w w1) (n : Nat) : Below B w (w1.drewN n) := h.trans ⟨rfl, rfl, rfl, Nat.le_refl _, fun _ _ => rfl⟩
theorem NRow.lit0 (w : World) (B : Nat) (hb : B ≤ w.heap.size) : NRow (w.alloc (.cells #[] 3)) B (.slice (some ⟨w.heap.size, 0, none⟩) 0 0) [] := World.ownsRow_lit w #[] 0 hb (by decide) rfl
theorem NRow.lt {w : World} {B : Nat} {v : Value} {l : List Int} (h : NRow w B v l) (k : Nat) (hk : v.ownBlock = some k) : B ≤ k ∧ k < w.heap.size := World.ownsRow.lt h k hk
theorem ins_takes {x : InsD} {cells len result : Int} (h : insB x cells len result = true) (hr : inB result 0 1 = true) : 0 ≤ takes x ∧ takes x ≤ 20 ∧ leaves x ≤ 1 := by
  unfold takes leaves
  by_cases h13 : x.op = 13
  · unfold insB argB at h
    simp [h13, inB] at h
    simp [h13]
    omega
  · by_cases h14 : x.op = 14
    · unfold insB argB at h
      unfold inB at hr
      simp [h14] at h
      simp at hr
      simp [h14]
      omega
    · have : x.op ≠ 13 ∧ x.op ≠ 14 := ⟨h13, h14⟩
      refine ⟨?_, ?_, ?_⟩ <;> repeat (first | omega | split)
theorem follows_in {x : InsD} {i n : Nat} {cells result : Int} (h : insB x cells n result = true) (hi : i < n) : ∀ t ∈ follows x i, 0 ≤ t ∧ t ≤ n := by
  intro t ht
  unfold follows at ht
  rcases List.mem_append.1 ht with ht | ht
  · split at ht
    · rename_i hj
      have := ins_jump h hj
      simp at ht
      omega
    · cases ht
  · split at ht
    · simp at ht
      omega
    · cases ht
theorem one_range {n i : Nat} {x : InsD} {d : List Int} {di : Int} (e : d.getD i 0 = di) (h0 : ¬ di < 0) (h1 : di < takes x) (ag : Bool) : oneV n i x d ag = .bad 11 i := by
  unfold oneV
  simp only [e]
  rw [if_neg h0, if_pos h1]
theorem one_deep {n i : Nat} {x : InsD} {d : List Int} {di : Int} (e : d.getD i 0 = di) (h0 : ¬ di < 0) (h1 : ¬ di < takes x) (h2 : 60 < di - takes x + leaves x) (ag : Bool) : oneV n i x d ag = .bad 14 i := by
  unfold oneV
  simp only [e]
  rw [if_neg h0, if_neg h1, if_pos h2]
theorem one_full {n i : Nat} {x : InsD} {d : List Int} {di : Int} (e : d.getD i 0 = di) (h0 : ¬ di < 0) (h1 : ¬ di < takes x) (h2 : ¬ 60 < di - takes x + leaves x) (h3 : x.op = 14 ∧ di - takes x + leaves x ≠ 0) (ag : Bool) : oneV n i x d ag = .bad 8 i := by
  unfold oneV
  simp only [e]
  rw [if_neg h0, if_neg h1, if_neg h2, if_pos h3]
theorem one_goes {n i : Nat} {x : InsD} {d : List Int} {di : Int} (e : d.getD i 0 = di) (h0 : ¬ di < 0) (h1 : ¬ di < takes x) (h2 : ¬ 60 < di - takes x + leaves x) (h3 : ¬(x.op = 14 ∧ di - takes x + leaves x ≠ 0)) (ag : Bool) : oneV n i x d ag = goTo n i (di - takes x + leaves x) (follows x i) d ag := by
  unfold oneV
  simp only [e]
  rw [if_neg h0, if_neg h1, if_neg h2, if_neg h3]
/-- The rest of a round behind one look. -/
def restV (n t : Nat) (r : List InsD) (G : Ver) : Ver := match G with
  | .bad c p => .bad c p
  | .go d ag => fromV n (t + 1) r d ag
theorem from_one {n t : Nat} {l : List InsD} (h : t < l.length) (d : List Int) (ag : Bool) : fromV n t (l.drop t) d ag = restV n t (l.drop (t + 1)) (oneV n t l[t] d ag) := by
  rw [List.drop_eq_getElem_cons h, fromV]
  rfl
theorem follows_11 {a b : Int} {mod name : ByteArray} (t : Nat) : follows ⟨11, a, b, mod, name⟩ t = [a] := by simp [follows]
theorem follows_12 {a b : Int} {mod name : ByteArray} (t : Nat) : follows ⟨12, a, b, mod, name⟩ t = [a, (t : Int) + 1] := by simp [follows]
theorem follows_14 {a b : Int} {mod name : ByteArray} (t : Nat) : follows ⟨14, a, b, mod, name⟩ t = [] := by simp [follows]
theorem follows_17 {a b : Int} {mod name : ByteArray} (t : Nat) : follows ⟨17, a, b, mod, name⟩ t = [] := by simp [follows]
theorem follows_on {op a b : Int} {mod name : ByteArray} (t : Nat) (h : op ≠ 11 ∧ op ≠ 12 ∧ op ≠ 14 ∧ op ≠ 17) : follows ⟨op, a, b, mod, name⟩ t = [(t : Int) + 1] := by simp [follows, h]
/-- The instructions up to k are as the table says. -/
def FormUp (l : List InsD) (cells len result : Int) (k : Nat) : Prop := ∀ j (hj : j < l.length), j < k → insB l[j] cells len result = true
set_option maxRecDepth 100000 in
set_option maxHeartbeats 4000000 in
theorem verify_form (cn : ByteArray) (params cells result : Int) (l : List InsD) (a : Option Addr) (c : Nat) (m : Md) (w : World) (hcn : cn.size ≤ maxLen) (hh : headB ⟨cn, params, cells, result, l⟩ = true) (hl : SlAt InsAt 5 w m (.slice a l.length c) l) (hm : m.hi ≤ w.heap.size) :
    Calls Tryz.prog 45 #[.agg #[.string cn, .int .i64 params, .int .i64 cells, .int .i64 result, .slice a l.length c]] w fun e w' => VPost ⟨cn, params, cells, result, l⟩ w e w' := by
  have hmix : Tryz.prog.follows .mixedOrders = true := by kernel_rfl
  obtain ⟨g1, g2, p1, p2, p3, g6, g7⟩ := head_all hh
  simp only [] at g1 g2 p1 p2 p3 g6 g7
  have HH := hide hh
  obtain ⟨a0, c0, ee, hrow⟩ := hl
  cases ee
  have H := hide hrow
  have HC := hide hcn
  obtain ⟨n, hn⟩ : ∃ n, l.length = n := ⟨_, rfl⟩
  have HN := hide hn
  rw [hn] at g1 g2 ⊢
  have one : Below w.heap.size w (w.alloc (.cells #[.string cn, .int .i64 params, .int .i64 cells, .int .i64 result, .slice a n c] 86)) := (Below.refl _ _).alloc (Nat.le_refl _) _
  have B1 := hide one
  have j0 : ((n : Int) == 0) = false := by simp; omega
  have j1 : ¬ (2000 : Int) < n := by omega
  have HM := hide hm
  clear hh hcn hrow hn one hm
  have e0 : (emB cn = true ∧ (cells != 0) = false ∧ (result != 0) = false) ∨ (emB cn = false ∧ ownB cn = true) := by
    cases e : emB cn with
    | true => exact .inl ⟨rfl, by simpa using (g7 e).1, by simpa using (g7 e).2⟩
    | false => exact .inr ⟨rfl, g6.resolve_left (by rw [e]; simp)⟩
  clear g6 g7
  unfold emB at e0
  go_enter Tryz.func45, Tryz.ntmps45
  go_upto_region 1 with fail
  go_cut [70] from 15 to 70 (fun v wc => v = .bool false ∧ Hid (Below w.heap.size w wc) ∧ Hid (wc.heap[w.heap.size]? = some (.cells #[.string cn, .int .i64 params, .int .i64 cells, .int .i64 result, .slice a n c] 86 (0, 0))))
  case first =>
    as_aux_lemma =>
    rcases e0 with ⟨e, k1, k2⟩ | ⟨e, ho⟩
    · go_wp2_with (go_at_call 43; refine (l01In_any _ _ _ _).mono ?_; rintro e w3 ⟨rfl, rfl⟩; first | rw [p1] | rw [p2] | rw [p3])
      go_meet
      case rel => exact ⟨rfl, B1, hide (Deep.blk_alloc_new w _)⟩
    · go_wp2_with (first
        | (go_at_call 43; refine (l01In_any _ _ _ _).mono ?_; rintro e w3 ⟨rfl, rfl⟩; first | rw [p1] | rw [p2] | rw [p3])
        | (go_at_call 42; refine (l02Name_gw cn _ HC.out).mono ?_; rintro e w1 ⟨rfl, gr⟩; have bel := gr.below; rw [ho]; obtain ⟨hcc, hff⟩ := bcell bel; have hk := (bel.block w.heap.size (by simp)).trans (Deep.blk_alloc_new w (.cells #[.string cn, .int .i64 params, .int .i64 cells, .int .i64 result, .slice a n c] 86))))
      go_meet
      case rel => exact ⟨rfl, hide (B1.out.trans (bel.mono (by simp))), hide hk⟩
  case rest =>
    as_aux_lemma =>
    obtain ⟨rfl, B1', Hk⟩ := hcut
    obtain ⟨w1, rfl⟩ : ∃ w1, w1 = wc := ⟨_, rfl⟩
    have B1 := B1'
    have hk := Hk.out
    clear e0 Hk
    have hz1 : w.heap.size < w1.heap.size := (Array.getElem?_eq_some_iff.1 hk).1
    have k0 := (heapCells hk).1 0
    have k1 := (heapCells hk).1 1
    have k2 := (heapCells hk).1 2
    have k3 := (heapCells hk).1 3
    have k4 := (heapCells hk).1 4
    simp only [List.getElem?_toArray, List.getElem?_cons_zero, List.getElem?_cons_succ] at k0 k1 k2 k3 k4
    go_wp2_with fail
    go_loopw [4] (fun i wr => ∃ k : Nat, i = .int .i64 k ∧ k ≤ n ∧ Hid (FormUp l cells n result k) ∧ Hid (Gw w1 wr)) (fun i _ => n - (intOf i).toNat)
    case atStart => exact ⟨0, rfl, by omega, hide (fun j _ h => absurd h (by omega)), hide (Gw.refl _)⟩
    case round =>
      obtain ⟨k, rfl, hk2, HU, HG⟩ := hrel
      have hbw := HG.out.below
      have q0 := (hbw.cell (p := ⟨w.heap.size, 0, none⟩) hz1).trans k0
      have q1 := (hbw.cell (p := ⟨w.heap.size, 1, none⟩) hz1).trans k1
      have q2 := (hbw.cell (p := ⟨w.heap.size, 2, none⟩) hz1).trans k2
      have q3 := (hbw.cell (p := ⟨w.heap.size, 3, none⟩) hz1).trans k3
      have q4 := (hbw.cell (p := ⟨w.heap.size, 4, none⟩) hz1).trans k4
      have hzr : w.heap.size < wr.heap.size := Nat.lt_of_lt_of_le hz1 hbw.size
      have hball : Below w.heap.size w wr := B1.out.trans (hbw.mono (by omega))
      by_cases hp : k < n
      · as_aux_lemma =>
        have i1 : (k : Int) < n := by omega
        have hkl : k < l.length := by rw [HN.out]; exact hp
        have HT : Hid (insB l[k] cells n result = false → verC ⟨cn, params, cells, result, l⟩ = (3, (k : Int))) := hide fun e => verC_form HH.out (by
          have := formAt_snoc (cells := cells) (len := n) (result := result) l 0 k hkl (fun j hj => HU.out j (by omega) hj) e
          rw [Nat.zero_add] at this
          show formAt cells (l.length : Nat) result 0 l = some k
          rw [HN.out]
          exact this)
        have HS : Hid (insB l[k] cells n result = true → FormUp l cells n result (k + 1)) := hide fun e j hj hlt => by
          by_cases q : j < k
          · exact HU.out j hj q
          · obtain rfl : j = k := by omega
            exact e
        obtain ⟨b, o, rfl, hb1, hb2, -, he⟩ := rows_on InsAt.stays H.out (hball.mono HM.out) k hkl
        have hcap : k ≤ c := by have := hb1.2; omega
        obtain ⟨x, hx⟩ : ∃ x, l[k] = x := ⟨_, rfl⟩
        rw [hx] at he HT HS
        clear hx hb1
        obtain ⟨op, ia, ib, im, iname⟩ := x
        obtain ⟨⟨c0, c1, c2, c3, c4⟩, ⟨-, -, -, r3, r4⟩⟩ := he
        simp only [Nat.add_zero] at c0 c1 c2 c3 c4 r3 r4
        have hbz : b < wr.heap.size := Nat.lt_of_lt_of_le hb2 (Nat.le_trans HM.out hball.size)
        have HI : Hid (∀ nd os, Calls Tryz.prog 79 #[.agg #[.int .i64 op, .int .i64 ia, .int .i64 ib, .string im, .string iname], .agg #[.string cn, .int .i64 params, .int .i64 cells, .int .i64 result, .slice (some ⟨b, o, none⟩) n c]] (Sort.grow (wr.drewN nd) os) fun e w' => e = .returned (.bool (insB ⟨op, ia, ib, im, iname⟩ cells n result)) ∧ ∃ p : GrownBy, w' = Sort.grow (wr.drewN p.n) p.os) := by
          refine hide fun nd os => ?_
          exact Calls.grown_of ((l04Ins_any op ia ib im iname cn params cells result _ n c _ r3 r4 (by omega)).mono fun _ _ ⟨a, n, os, hq⟩ => ⟨a, n, os, hq⟩)
        have e0 := fun n os => cell_grown (w := wr) (a := ⟨b, o + k * 5, none⟩) hbz c0 n os
        have e1 := fun n os => cell_grown (w := wr) (a := ⟨b, o + k * 5 + 1, none⟩) hbz c1 n os
        have e2 := fun n os => cell_grown (w := wr) (a := ⟨b, o + k * 5 + 2, none⟩) hbz c2 n os
        have e3 := fun n os => cell_grown (w := wr) (a := ⟨b, o + k * 5 + 3, none⟩) hbz c3 n os
        have e4 := fun n os => cell_grown (w := wr) (a := ⟨b, o + k * 5 + 4, none⟩) hbz c4 n os
        have s0 := fun n os => cell_grown (w := wr) (a := ⟨w.heap.size, 0, none⟩) hzr q0 n os
        have s1 := fun n os => cell_grown (w := wr) (a := ⟨w.heap.size, 1, none⟩) hzr q1 n os
        have s2 := fun n os => cell_grown (w := wr) (a := ⟨w.heap.size, 2, none⟩) hzr q2 n os
        have s3 := fun n os => cell_grown (w := wr) (a := ⟨w.heap.size, 3, none⟩) hzr q3 n os
        have s4 := fun n os => cell_grown (w := wr) (a := ⟨w.heap.size, 4, none⟩) hzr q4 n os
        clear c0 c1 c2 c3 c4 r3 r4 q0 q1 q2 q3 k0 k1 k2 k3 k4 hk hbw
        have HB := hide hball
        clear hball
        generalize insB ⟨op, ia, ib, im, iname⟩ cells n result = ok at *
        cases ok with
        | false =>
          as_aux_lemma =>
          go_wp2
          refine wp_region_quiet_grown (by assumption) (by kernel_rfl) ?_
          repeat (first | go_big_quiet_skip | quiet_step (first | (go_at_call 79; exact HI.out _ _)))
          refine wpQuiet_nil ?_
          intro _ hw'
          obtain ⟨⟨nq, osq⟩, hw''⟩ := hw'
          subst hw''
          go_wp2
          go_ret2
          exact VPost.mk (HT.out trivial) (HB.out.trans ((Gw.below ⟨nq, osq, rfl⟩).mono HB.out.size))
        | true =>
          as_aux_lemma =>
          go_wp2
          refine wp_region_quiet_grown (by assumption) (by kernel_rfl) ?_
          repeat (first | go_big_quiet_skip | quiet_step (first | (go_at_call 79; exact HI.out _ _)))
          refine wpQuiet_nil ?_
          intro _ hw'
          obtain ⟨⟨nq, osq⟩, hw''⟩ := hw'
          subst hw''
          go_wp2
          go_roundw
          case rel => exact ⟨k + 1, by go_num, by omega, hide (HS.out trivial), hide (HG.out.grown _ _)⟩
          case measure => simp [intOf]; omega
      · as_aux_lemma =>
        have i1 : ¬ (k : Int) < n := by omega
        obtain rfl : k = n := by omega
        clear k0 k1 k2 k3 k4 q0 q1 q2 q3
        have HB := hide hball
        clear hball hbw
        have hfn : formAt cells (l.length : Nat) result 0 l = none := by
          rw [HN.out]
          refine formAt_all l 0 fun x hx => ?_
          obtain ⟨j, hj, rfl⟩ := List.getElem_of_mem hx
          exact HU.out j hj (by rw [← HN.out]; exact hj)
        have HV := hide (verC_go HH.out hfn)
        have HI := hide (form_all l 0 hfn)
        have HGB := hide HG.out.below
        have P3 := hide p3
        clear hfn HU HG p1 p2 p3 j0
        go_wp2_with fail
        rw [HN.out] at HV
        obtain ⟨wf, rfl⟩ : ∃ wf, wf = wr := ⟨_, rfl⟩
        go_loopw [5, 6] (fun dv i w2 => ∃ j : Nat, i = .int .i64 j ∧ j ≤ k ∧ Hid (NRow w2 wf.heap.size dv (List.replicate j (-1))) ∧ Hid (Below wf.heap.size wf w2)) (fun _ i _ => k - (intOf i).toNat)
        case atStart => exact ⟨0, rfl, by omega, hide (NRow.lit0 _ _ (Nat.le_refl _)), hide ((Below.refl _ _).alloc (Nat.le_refl _) _)⟩
        case round =>
          obtain ⟨j, rfl, hj, HR, HB2⟩ := hrel
          have hR := HR.out
          obtain ⟨va, vc, rfl⟩ := nrow_form hR
          rw [List.length_replicate] at hR ⊢
          have q5 := (HB2.out.cell (p := ⟨w.heap.size, 4, none⟩) hzr).trans q4
          by_cases hp2 : j < k
          · as_aux_lemma =>
            have i2 : (j : Int) < k := by omega
            have HR1 := hide (hR.on ((Below.refl _ _).alloc (Nat.le_refl _) (.cells #[.int .i64 (-1)] 3)))
            have hsz := HB2.out.size
            clear hR HR
            go_wp2_with (at_builtin; refine wp_append_num rfl _ _ rfl wf.heap.size (.slice va j vc) (List.replicate j (-1)) rfl HR1.out wr.heap.size (-1) rfl (num_new wr (-1) rfl) (by simp; omega) (by simp; omega) ?_; intro v' w' h2 h3)
            have hb3 : Below wf.heap.size wf w' := Below.grown (HB2.out.alloc hsz _) h3 (by simp; omega) (fun x hx => (HR1.out.lt x hx).1)
            go_roundw
            case rel => exact ⟨j + 1, by go_num, by omega, hide (by rw [List.replicate_succ']; exact h2), hide hb3⟩
            case measure => simp [intOf]; omega
          · as_aux_lemma =>
            have i2 : ¬ (j : Int) < k := by omega
            obtain rfl : j = k := by omega
            obtain ⟨g, cc, ev, hg1, hg2, hcell, hfz⟩ := hR.at (by rw [List.length_replicate]; omega)
            rw [List.length_replicate] at ev
            cases ev
            have c0 := hcell 0 (by rw [List.length_replicate]; omega)
            have f0 := hfz 0
            have HR2 := hide (hR.set 0 0)
            have HB3 := hide (HB2.out.setCell (p := ⟨g, 0, none⟩) hg1 (.int .i64 0))
            clear hR HR hcell
            obtain ⟨T, hT⟩ : ∃ T, verC ⟨cn, params, cells, result, l⟩ = T := ⟨_, rfl⟩
            have HT := hide hT
            rw [hT] at HV
            have HLv := hide (fun x hx => ins_leaves (HI.out x hx))
            have HP : Hid (∀ e w' a b, e = Ending.returned (.tuple #[.int .i64 a, .int .i64 b]) → T = (a, b) → Below wf.heap.size wf w' → VPost ⟨cn, params, cells, result, l⟩ w e w') := hide fun e w' a b he ht hb => by
              rw [he]
              exact VPost.mk (HT.out.trans ht) (HB.out.trans (hb.mono HB.out.size))
            have hHI := HI.out
            rw [HN.out] at hHI
            have HI := hide hHI
            have HQ4 := hide q4
            clear hT hHI q4 HB2
            obtain ⟨ws, hws⟩ : ∃ ws, ws = wr.setCell ⟨g, 0, none⟩ (.int .i64 0) := ⟨_, rfl⟩
            rw [← hws] at HR2 HB3
            have HD0 : Hid (negs ((List.replicate j (-1)).set 0 0) < j + 1) := hide (by have := negs_le ((List.replicate j (-1 : Int)).set 0 0); simp at this; omega)
            have hl0 : ((List.replicate j (-1 : Int)).set 0 0).length = j := by simp
            have HU0 : Hid (∀ y ∈ (List.replicate j (-1 : Int)).set 0 0, -1 ≤ y ∧ y ≤ 60) := hide (by
              intro y hy
              rcases List.mem_or_eq_of_mem_set hy with h | h
              · have := List.eq_of_mem_replicate h
                omega
              · omega)
            generalize (List.replicate j (-1 : Int)).set 0 0 = d0 at HR2 HD0 hl0 HU0 HV
            go_wp2_with fail
            rw [← hws]
            have hgs : g < ws.heap.size := by rw [hws]; exact Nat.lt_of_lt_of_le hg2 (by simp)
            clear hws c0 f0 hg2
            go_loopg [7] (2 * negs d0 + 1) (fun q ag w3 => ∃ (d : List Int) (b : Bool), ag = .bool b ∧ q = 2 * negs d + (if b then 1 else 0) ∧ d.length = j ∧ Hid (NRow w3 wf.heap.size (.slice (some ⟨g, 0, none⟩) j vc) d) ∧ Hid (Below wf.heap.size wf w3) ∧ Hid (∀ y ∈ d, -1 ≤ y ∧ y ≤ 60) ∧ Hid ((b = true ∧ ∃ f, negs d < f ∧ roundsV l f d = T) ∨ (b = false ∧ T = (0, 0))))
            case atStart => exact ⟨d0, true, rfl, rfl, hl0, HR2, HB3, HU0, hide (.inl ⟨rfl, j + 1, HD0.out, HV.out.symm⟩)⟩
            case round =>
              obtain ⟨gq, rfl⟩ : ∃ gq, gq = gk := ⟨_, rfl⟩
              obtain ⟨d, b, rfl, hq, hd, HR, HB2, HU, HV2⟩ := hrel
              cases b with
              | false =>
                as_aux_lemma =>
                have hT2 : T = (0, 0) := by
                  rcases HV2.out with ⟨h, -⟩ | ⟨-, h⟩
                  · cases h
                  · exact h
                have HT2 := hide hT2
                clear hT2 hq
                go_wp2
                go_ret2
                exact HP.out _ _ 0 0 rfl HT2.out HB2.out
              | true =>
                as_aux_lemma =>
                have HF : Hid (∃ f, negs d < f ∧ roundsV l f d = T) := hide (by
                  rcases HV2.out with ⟨-, h⟩ | ⟨h, -⟩
                  · exact h
                  · cases h)
                obtain ⟨R, hR⟩ : ∃ R, fromV j 0 l d false = R := ⟨_, rfl⟩
                have HRR := hide hR
                have HQ := hide hq
                have HBad : Hid (∀ c p, R = .bad c p → T = (c, p)) := hide fun c p e => by
                  obtain ⟨f, hf, hT⟩ := HF.out
                  rw [← hT]
                  exact rounds_bad hf (by rw [HN.out, ← e]; exact HRR.out)
                clear hR hq HV2
                obtain ⟨wo, rfl⟩ : ∃ wo, wo = wr := ⟨_, rfl⟩
                go_wp2_with fail
                go_loopg [7, 8] j (fun qj ag i w4 => ∃ (t : Nat) (d' : List Int) (b' : Bool), i = .int .i64 t ∧ t ≤ j ∧ qj = j - t ∧ ag = .bool b' ∧ d'.length = j ∧ Hid (NRow w4 wf.heap.size (.slice (some ⟨g, 0, none⟩) j vc) d') ∧ Hid (Below wf.heap.size wf w4) ∧ Hid (∀ y ∈ d', -1 ≤ y ∧ y ≤ 60) ∧ Hid (fromV j t (l.drop t) d' b' = R))
                case atStart => exact ⟨0, d, false, rfl, by omega, rfl, rfl, hd, HR, HB2, HU, hide (by rw [List.drop_zero]; exact HRR.out)⟩
                case round =>
                  obtain ⟨t, d', b', rfl, ht, hqj, rfl, hd', HR', HB', HU', HV'⟩ := hrel
                  have HQJ := hide hqj
                  clear hqj
                  have HQt := (HB'.out.cell (p := ⟨w.heap.size, 4, none⟩) hzr).trans HQ4.out
                  by_cases hp3 : t < j
                  · as_aux_lemma =>
                    have i3 : (t : Int) < j := by omega
                    have htl : t < l.length := by rw [HN.out]; exact hp3
                    have hV1 := HV'.out
                    rw [from_one htl] at hV1
                    have hIx := HI.out l[t] (List.getElem_mem htl)
                    have hLx := HLv.out l[t] (List.getElem_mem htl)
                    obtain ⟨b, o, rfl, hb1, hb2, -, he⟩ := rows_on InsAt.stays H.out ((HB.out.trans (HB'.out.mono HB.out.size)).mono HM.out) t htl
                    have hcap : t ≤ c := by have := hb1.2; omega
                    obtain ⟨x, hx⟩ : ∃ x, l[t] = x := ⟨_, rfl⟩
                    rw [hx] at he hV1 hIx hLx
                    clear hx hb1
                    obtain ⟨g', cc', ev, hg1', hg2', hcell, hfz⟩ := HR'.out.at (by rw [hd']; omega)
                    rw [hd'] at ev
                    cases ev
                    have dc := hcell t (by rw [hd']; exact hp3)
                    obtain ⟨di, hdi⟩ : ∃ di, d'.getD t 0 = di := ⟨_, rfl⟩
                    have hdi2 : d'[t]'(by rw [hd']; exact hp3) = di := by rw [← hdi, List.getD_eq_getElem?_getD, List.getElem?_eq_getElem (by rw [hd']; exact hp3)]; rfl
                    rw [hdi2] at dc
                    have hdb : -1 ≤ di ∧ di ≤ 60 := by rw [← hdi2]; exact HU'.out _ (List.getElem_mem _)
                    have hbz : b < wr.heap.size := Nat.lt_of_lt_of_le hb2 (Nat.le_trans HM.out (Nat.le_trans HB.out.size HB'.out.size))
                    clear hcell hdi2
                    by_cases hneg : di < 0
                    · rw [one_not (by rw [hdi]; exact hneg)] at hV1
                      have HV1 := hide hV1
                      clear hV1 hdi he hIx hLx
                      go_wp2
                      go_roundg (j - (t + 1))
                      case rel => exact ⟨t + 1, d', b', by go_num, by omega, rfl, rfl, hd', HR', HB', HU', HV1⟩
                      case measure => rw [HQJ.out]; omega
                    · have hbt := ins_takes hIx P3.out
                      obtain ⟨op, ia, ib, im, iname⟩ := x
                      obtain ⟨⟨c0, c1, c2, c3, c4⟩, -⟩ := he
                      simp only [Nat.add_zero] at c0 c1 c2 c3 c4 hLx
                      obtain ⟨tk, htk⟩ : ∃ tk, takes ⟨op, ia, ib, im, iname⟩ = tk := ⟨_, rfl⟩
                      obtain ⟨lv, hlv⟩ : ∃ lv, leaves ⟨op, ia, ib, im, iname⟩ = lv := ⟨_, rfl⟩
                      have HTL := hide (And.intro htk hlv)
                      rw [htk, hlv] at hbt
                      rw [hlv] at hLx
                      have HIx := hide hIx
                      have HE1 : Hid (∀ w', Calls Tryz.prog 80 #[.agg #[.int .i64 op, .int .i64 ia, .int .i64 ib, .string im, .string iname]] w' fun e w2 => e = .returned (.tuple #[.int .i64 tk, .int .i64 lv]) ∧ Gw w' w2) := hide fun w' => by
                        have := l04Effect_any op ia ib im iname w'
                        rwa [htk, hlv] at this
                      have hw1 : wrap64 (di - tk) = di - tk := by unfold wrap64; omega
                      have hw2 : wrap64 (di - tk + lv) = di - tk + lv := by unfold wrap64; omega
                      have HV1 := hide hV1
                      have HDi := hide hdi
                      have hgw : g < wr.heap.size := hg2'
                      obtain ⟨wE, hwE⟩ : ∃ wE, wE = wr.alloc (.cells #[.int .i64 op, .int .i64 ia, .int .i64 ib, .string im, .string iname] 139) := ⟨_, rfl⟩
                      have bE : Below wr.heap.size wr wE := by rw [hwE]; exact (Below.refl _ _).alloc (Nat.le_refl _) _
                      have hxE : wE.heap[wr.heap.size]? = some (.cells #[.int .i64 op, .int .i64 ia, .int .i64 ib, .string im, .string iname] 139 (0, 0)) := by rw [hwE]; exact Deep.blk_alloc_new wr _
                      clear hV1 hdi hIx htk hlv hg2' hfz
                      by_cases h1 : di < tk
                      · as_aux_lemma =>
                        go_wp2_with (go_at_call 80; rw [← hwE]; refine (HE1.out _).mono ?_; rintro e w5 ⟨rfl, gr⟩; have b5 := bE.trans (gr.below.mono bE.size); have d5 := (b5.cell (p := ⟨g, t, none⟩) hgw).trans dc; have x5 := (gr.below.block wr.heap.size (by rw [hwE]; simp)).trans hxE; have x50 := (heapCells x5).1 0; have x51 := (heapCells x5).1 1; have hz5 : wr.heap.size < w5.heap.size := (Array.getElem?_eq_some_iff.1 x5).1; simp only [List.getElem?_toArray, List.getElem?_cons_zero, List.getElem?_cons_succ] at x50 x51)
                        go_ret2
                        exact HP.out _ _ 11 t rfl (HBad.out 11 t (HV1.out.symm.trans (by rw [one_range HDi.out (by omega) (by rw [HTL.out.1]; omega)]; rfl))) (HB'.out.trans (b5.mono HB'.out.size))
                      · by_cases h2x : 60 < di - tk + lv
                        · as_aux_lemma =>
                          go_wp2_with (go_at_call 80; rw [← hwE]; refine (HE1.out _).mono ?_; rintro e w5 ⟨rfl, gr⟩; have b5 := bE.trans (gr.below.mono bE.size); have d5 := (b5.cell (p := ⟨g, t, none⟩) hgw).trans dc; have x5 := (gr.below.block wr.heap.size (by rw [hwE]; simp)).trans hxE; have x50 := (heapCells x5).1 0; have x51 := (heapCells x5).1 1; have hz5 : wr.heap.size < w5.heap.size := (Array.getElem?_eq_some_iff.1 x5).1; simp only [List.getElem?_toArray, List.getElem?_cons_zero, List.getElem?_cons_succ] at x50 x51)
                          go_ret2
                          exact HP.out _ _ 14 t rfl (HBad.out 14 t (HV1.out.symm.trans (by rw [one_deep HDi.out (by omega) (by rw [HTL.out.1]; omega) (by rw [HTL.out.1, HTL.out.2]; omega)]; rfl))) (HB'.out.trans (b5.mono HB'.out.size))
                        · as_aux_lemma =>
                          go_upto_region 29 with (go_at_call 80; rw [← hwE]; refine (HE1.out _).mono ?_; rintro e w5 ⟨rfl, gr⟩; have b5 := bE.trans (gr.below.mono bE.size); have d5 := (b5.cell (p := ⟨g, t, none⟩) hgw).trans dc; have x5 := (gr.below.block wr.heap.size (by rw [hwE]; simp)).trans hxE; have x50 := (heapCells x5).1 0; have x51 := (heapCells x5).1 1; have hz5 : wr.heap.size < w5.heap.size := (Array.getElem?_eq_some_iff.1 x5).1; simp only [List.getElem?_toArray, List.getElem?_cons_zero, List.getElem?_cons_succ] at x50 x51)
                          obtain ⟨wl, rfl⟩ : ∃ wl, wl = wr := ⟨_, rfl⟩
                          have HX5 := hide x5
                          have B5 := hide b5
                          obtain ⟨jb, hjb⟩ : ∃ jb, decide (op = 11 ∨ op = 12) = jb := ⟨_, rfl⟩
                          have HJ := hide hjb
                          clear hwE bE hxE gr dc d5 x5 b5 c0 c1 c2 c3 c4 HQt hjb
                          go_cut [149] from 101 to 223 (fun v wc => v = .bool jb ∧ wc = w5.alloc (.cells #[] 3))
                          case first =>
                            as_aux_lemma =>
                            by_cases o11 : op = 11
                            · have p11 : (op == 11) = true := by simpa using o11
                              obtain rfl : jb = true := by rw [← HJ.out]; simp [o11]
                              clear o11
                              go_wp2_with fail
                              go_meet
                              case rel => exact ⟨rfl, rfl⟩
                            · have p11 : (op == 11) = false := by simpa using o11
                              by_cases o12 : op = 12
                              · have p12 : (op == 12) = true := by simpa using o12
                                obtain rfl : jb = true := by rw [← HJ.out]; simp [o12]
                                clear o11 o12
                                go_wp2_with fail
                                go_meet
                                case rel => exact ⟨rfl, rfl⟩
                              · have p12 : (op == 12) = false := by simpa using o12
                                obtain rfl : jb = false := by rw [← HJ.out]; simp [o11, o12]
                                clear o11 o12
                                go_wp2_with fail
                                go_meet
                                case rel => exact ⟨rfl, rfl⟩
                          case rest =>
                          as_aux_lemma =>
                          obtain ⟨rfl, rfl⟩ := hcut
                          go_upto_if 149 with fail
                          go_cut [13] from 101 to 223 (fun v wc => Hid (NRow wc w5.heap.size v (if jb = true then [ia] else [])) ∧ Hid (Below w5.heap.size w5 wc))
                          case first =>
                            as_aux_lemma =>
                            cases jb with
                            | true =>
                              as_aux_lemma =>
                              go_wp2_with (at_builtin; refine wp_append_num rfl _ _ rfl w5.heap.size (.slice (some ⟨w5.heap.size, 0, none⟩) 0 0) [] rfl ((NRow.lit0 w5 w5.heap.size (Nat.le_refl _)).on ((Below.refl _ _).alloc (Nat.le_refl _) _)) (w5.heap.size + 1) ia rfl (num_new (w5.alloc (.cells #[] 3)) ia (by simp)) (by simp) (by simp <;> omega) ?_; intro v6 w6 h2 h3; have b56 : Below w5.heap.size w5 w6 := Below.grown (((Below.refl _ _).alloc (Nat.le_refl _) _).alloc (by simp) _) h3 (by simp <;> omega) (fun q hq => by cases hq; exact Nat.le_refl _); have h2' : NRow w6 w5.heap.size v6 [ia] := h2)
                              go_meet
                              case rel => exact ⟨hide h2', hide b56⟩
                            | false =>
                              as_aux_lemma =>
                              go_wp2_with fail
                              go_meet
                              case rel => exact ⟨hide (NRow.lit0 w5 w5.heap.size (Nat.le_refl _)), hide ((Below.refl _ _).alloc (Nat.le_refl _) _)⟩
                          case rest =>
                            as_aux_lemma =>
                            obtain ⟨HN1, HB1⟩ := hcut
                            obtain ⟨w6, rfl⟩ : ∃ w6, w6 = wc := ⟨_, rfl⟩
                            obtain ⟨F1, hF1⟩ : ∃ F1, (if jb = true then [ia] else []) = F1 := ⟨_, rfl⟩
                            rw [hF1] at HN1
                            have HF1 := hide hF1
                            have hF1l : F1.length ≤ 1 := by rw [← hF1]; split <;> simp
                            obtain ⟨va, vc', rfl⟩ := nrow_form HN1.out
                            have x6 := (HB1.out.block wl.heap.size hz5).trans HX5.out
                            have x60 := (heapCells x6).1 0
                            simp only [List.getElem?_toArray, List.getElem?_cons_zero] at x60
                            have HX6 := hide x6
                            clear x50 x51 hF1 x6
                            obtain ⟨nb, hnb⟩ : ∃ nb, decide (op ≠ 11 ∧ op ≠ 14 ∧ op ≠ 17) = nb := ⟨_, rfl⟩
                            have HNb := hide hnb
                            clear hnb
                            go_upto_region 31 with fail
                            go_cut [167] from 101 to 223 (fun v wc => v = .bool nb ∧ wc = w6)
                            case first =>
                              as_aux_lemma =>
                              by_cases o11 : op = 11
                              · have n11 : (op != 11) = false := by simpa using o11
                                obtain rfl : nb = false := by rw [← HNb.out]; simp [o11]
                                clear o11
                                go_wp2_with fail
                                go_meet
                                case rel => exact ⟨rfl, rfl⟩
                              · have n11 : (op != 11) = true := by simpa using o11
                                by_cases o14 : op = 14
                                · have n14 : (op != 14) = false := by simpa using o14
                                  obtain rfl : nb = false := by rw [← HNb.out]; simp [o14]
                                  clear o11 o14
                                  go_wp2_with fail
                                  go_meet
                                  case rel => exact ⟨rfl, rfl⟩
                                · have n14 : (op != 14) = true := by simpa using o14
                                  by_cases o17 : op = 17
                                  · have n17 : (op != 17) = false := by simpa using o17
                                    obtain rfl : nb = false := by rw [← HNb.out]; simp [o17]
                                    clear o11 o14 o17
                                    go_wp2_with fail
                                    go_meet
                                    case rel => exact ⟨rfl, rfl⟩
                                  · have n17 : (op != 17) = true := by simpa using o17
                                    obtain rfl : nb = true := by rw [← HNb.out]; simp [o11, o14, o17]
                                    clear o11 o14 o17
                                    go_wp2_with fail
                                    go_meet
                                    case rel => exact ⟨rfl, rfl⟩
                            case rest =>
                            as_aux_lemma =>
                            obtain ⟨rfl, rfl⟩ := hcut
                            go_upto_if 167 with fail
                            go_cut [13] from 101 to 223 (fun v w8 => Hid (NRow w8 w5.heap.size v (F1 ++ (if nb = true then [(t : Int) + 1] else []))) ∧ Hid (Below w5.heap.size w5 w8))
                            case first =>
                              as_aux_lemma =>
                              cases nb with
                              | true =>
                                as_aux_lemma =>
                                go_wp2_with (at_builtin; refine wp_append_num rfl _ _ rfl w5.heap.size (.slice va F1.length vc') F1 rfl (HN1.out.on ((Below.refl _ _).alloc (Nat.le_refl _) _)) wc.heap.size ((t : Int) + 1) rfl (num_new wc ((t : Int) + 1) rfl) (by omega) (by simp; have := HB1.out.size; omega) ?_; intro v7 w7 h4 h5; have b57 : Below w5.heap.size w5 w7 := Below.grown (HB1.out.alloc HB1.out.size _) h5 (by simp; have := HB1.out.size; omega) (fun q hq => (NRow.lt HN1.out q hq).1))
                                go_meet
                                case rel => exact ⟨hide h4, hide b57⟩
                              | false =>
                                as_aux_lemma =>
                                go_wp2_with fail
                                go_meet
                                case rel => exact ⟨hide (by simpa using HN1.out), HB1⟩
                            case rest =>
                              as_aux_lemma =>
                              obtain ⟨HN2, HB2⟩ := hcut
                              obtain ⟨w7, rfl⟩ : ∃ w7, w7 = wc := ⟨_, rfl⟩
                              obtain ⟨F2, hF2⟩ : ∃ F2, follows ⟨op, ia, ib, im, iname⟩ t = F2 := ⟨_, rfl⟩
                              have hN2 := HN2.out
                              rw [← HF1.out, show ((if jb = true then [ia] else []) ++ (if nb = true then [(t : Int) + 1] else [])) = F2 from by rw [← hF2, ← HJ.out, ← HNb.out]; simp only [decide_eq_true_eq]; rfl] at hN2
                              have HNx := hide hN2
                              have hF2l : F2.length ≤ 2 := by rw [← hF2]; unfold follows; rw [List.length_append]; split <;> split <;> simp
                              have HFL : Hid (∀ u ∈ F2, 0 ≤ u ∧ u ≤ (j : Int)) := hide (by
                                have := follows_in HIx.out hp3
                                rwa [hF2] at this)
                              have HF2 := hide hF2
                              obtain ⟨vb, vd, rfl⟩ := nrow_form hN2
                              have x7 := (HB2.out.block wl.heap.size hz5).trans HX5.out
                              have x70 := (heapCells x7).1 0
                              simp only [List.getElem?_toArray, List.getElem?_cons_zero] at x70
                              have HB3 : Hid (Below wl.heap.size wl w7) := hide (B5.out.trans (HB2.out.mono B5.out.size))
                              clear x60 hF2 hN2 x7 HN2 hF1l HX6
                              by_cases h3y : op = 14 ∧ di - tk + lv ≠ 0
                              · have p14 : (op == 14) = true := by simpa using h3y.1
                                have h3b : (di - tk + lv != 0) = true := by simpa using h3y.2
                                have HT9 := hide (HBad.out 8 t (HV1.out.symm.trans (by rw [one_full HDi.out (by omega) (by rw [HTL.out.1]; omega) (by rw [HTL.out.1, HTL.out.2]; omega) (by rw [HTL.out.1, HTL.out.2]; exact h3y)]; rfl)))
                                clear h3y
                                go_wp2_with fail
                                go_ret2
                                exact HP.out _ _ 8 t rfl HT9.out (HB'.out.trans (HB3.out.mono HB'.out.size))
                              · obtain ⟨G, hG⟩ : ∃ G, goTo j t (di - tk + lv) F2 d' b' = G := ⟨_, rfl⟩
                                have HG := hide hG
                                have HVG : Hid (restV j t (l.drop (t + 1)) G = R) := hide (by rw [← HV1.out, one_goes HDi.out (by omega) (by rw [HTL.out.1]; omega) (by rw [HTL.out.1, HTL.out.2]; omega) (by rw [HTL.out.1, HTL.out.2]; exact h3y), HTL.out.1, HTL.out.2, HF2.out, hG])
                                have p14 : (op == 14) = false ∨ ((op == 14) = true ∧ (di - tk + lv != 0) = false) := by
                                  by_cases e1 : op = 14
                                  · refine .inr ⟨by simpa using e1, ?_⟩
                                    cases hq : (di - tk + lv != 0) with
                                    | false => rfl
                                    | true => exact absurd ⟨e1, by simpa using hq⟩ h3y
                                  · exact .inl (by simpa using e1)
                                have HRw := hide (HR'.out.on (HB3.out.mono (Nat.le_refl _)))
                                clear hG h3y
                                go_upto_region 33 with fail
                                go_cut [179] from 101 to 223 (fun v wc => v = .bool false ∧ wc = w7)
                                case first =>
                                  as_aux_lemma =>
                                  rcases p14 with p14 | ⟨p14, h3b⟩
                                  all_goals
                                    go_wp2_with fail
                                    go_meet
                                    case rel => exact ⟨rfl, rfl⟩
                                case rest =>
                                  as_aux_lemma =>
                                  obtain ⟨rfl, rfl⟩ := hcut
                                  clear p14 x70
                                  go_wp2_with fail
                                  go_loopg [7, 14] F2.length (fun qu ag i w8 => ∃ (u : Nat) (d2 : List Int) (b2 : Bool), i = .int .i64 u ∧ u ≤ F2.length ∧ qu = F2.length - u ∧ ag = .bool b2 ∧ d2.length = j ∧ Hid (NRow w8 wf.heap.size (.slice (some ⟨g, 0, none⟩) j vc) d2) ∧ Hid (NRow w8 w5.heap.size (.slice vb F2.length vd) F2) ∧ Hid (Below wf.heap.size wf w8) ∧ Hid (∀ y ∈ d2, -1 ≤ y ∧ y ≤ 60) ∧ Hid (goTo j t (di - tk + lv) (F2.drop u) d2 b2 = G))
                                  case atStart => exact ⟨0, d', b', rfl, by omega, rfl, rfl, hd', HRw, HNx, hide (HB'.out.trans (HB3.out.mono HB'.out.size)), HU', hide (by rw [List.drop_zero]; exact HG.out)⟩
                                  case round =>
                                    obtain ⟨u, d2, b2, rfl, hu, hqu, rfl, hd2, HR2, HN2, HB2, HU2, HG2⟩ := hrel
                                    have HQ8 := (HB2.out.cell (p := ⟨w.heap.size, 4, none⟩) hzr).trans HQ4.out
                                    have HQU := hide hqu
                                    clear hqu
                                    by_cases hu2 : u < F2.length
                                    · as_aux_lemma =>
                                      have i8 : (u : Int) < F2.length := by omega
                                      obtain ⟨y, hy⟩ : ∃ y, F2[u] = y := ⟨_, rfl⟩
                                      have hg2 := HG2.out
                                      rw [List.drop_eq_getElem_cons hu2, hy, goTo] at hg2
                                      have hyb := HFL.out y (by rw [← hy]; exact List.getElem_mem hu2)
                                      obtain ⟨gn, cn', evn, hn1, hn2, hcn, -⟩ := HN2.out.at (Nat.lt_of_le_of_lt (Nat.zero_le _) hu2)
                                      cases evn
                                      have yc := hcn u hu2
                                      rw [hy] at yc
                                      clear hy hcn hn1
                                      obtain ⟨z, rfl⟩ : ∃ z : Nat, y = z := ⟨y.toNat, by omega⟩
                                      by_cases hz : z = j
                                      · have hzb : ((z : Int) == (j : Int)) = true := by simp [hz]
                                        rw [if_pos (by omega)] at hg2
                                        have HT9 := hide (HBad.out 10 t (by rw [← HVG.out, ← hg2]; rfl))
                                        clear hg2 hz hyb
                                        go_wp2
                                        go_quiet (fail)
                                        go_wp2
                                        go_ret2
                                        exact HP.out _ _ 10 t rfl HT9.out (below_drewN HB2.out _)
                                      · have hzb : ((z : Int) == (j : Int)) = false := by simp; omega
                                        have hzj : z < j := by omega
                                        have izj : (z : Int) < j := by omega
                                        rw [if_neg (by omega), Int.toNat_natCast] at hg2
                                        obtain ⟨g9, c9, ev9, hg91, hg92, hcell, hfz⟩ := HR2.out.at (by rw [hd2]; omega)
                                        rw [hd2] at ev9
                                        cases ev9
                                        have dz := hcell z (by rw [hd2]; exact hzj)
                                        obtain ⟨dv, hdv⟩ : ∃ dv, d2.getD z 0 = dv := ⟨_, rfl⟩
                                        have hdv2 : d2[z]'(by rw [hd2]; exact hzj) = dv := by rw [← hdv, List.getD_eq_getElem?_getD, List.getElem?_eq_getElem (by rw [hd2]; exact hzj)]; rfl
                                        rw [hdv2] at dz
                                        rw [hdv] at hg2
                                        clear hcell hdv hdv2 hz hyb
                                        by_cases hng : dv < 0
                                        · rw [if_pos hng] at hg2
                                          have fz := hfz z
                                          have HG3 := hide hg2
                                          have HR3 : Hid (∀ q, NRow ((wr.drewN q).setCell ⟨g, z, none⟩ (.int .i64 (di - tk + lv))) wf.heap.size (.slice (some ⟨g, 0, none⟩) j vc) (d2.set z (di - tk + lv))) := hide fun q => (HR2.out.on (below_drewN (Below.refl _ _) q)).set z _
                                          have HN3 : Hid (∀ q, NRow ((wr.drewN q).setCell ⟨g, z, none⟩ (.int .i64 (di - tk + lv))) w5.heap.size (.slice (some ⟨gn, 0, none⟩) F2.length vd) F2) := hide fun q => ownsRow_setCell_below (HN2.out.on (below_drewN (Below.refl _ _) q)) (a := ⟨g, z, none⟩) (by show g < w5.heap.size; omega) _
                                          have HB3 : Hid (∀ q, Below wf.heap.size wf ((wr.drewN q).setCell ⟨g, z, none⟩ (.int .i64 (di - tk + lv)))) := hide fun q => (below_drewN HB2.out q).setCell (p := ⟨g, z, none⟩) hg91 _
                                          have HU3 : Hid (∀ y ∈ d2.set z (di - tk + lv), -1 ≤ y ∧ y ≤ 60) := hide (by
                                            intro y hy
                                            rcases List.mem_or_eq_of_mem_set hy with h | h
                                            · exact HU2.out y h
                                            · omega)
                                          clear hg2 hfz
                                          go_wp2
                                          go_quiet (fail)
                                          go_wp2
                                          go_roundg (F2.length - (u + 1))
                                          case measure => rw [HQU.out]; omega
                                          case rel => exact ⟨u + 1, d2.set z (di - tk + lv), true, by go_num, by omega, rfl, rfl, by simp [hd2], hide (HR3.out _), hide (HN3.out _), hide (HB3.out _), HU3, HG3⟩
                                        · rw [if_neg hng] at hg2
                                          by_cases hne : dv = (di - tk + lv)
                                          · have hnb : (dv != (di - tk + lv)) = false := by simp [hne]
                                            rw [if_neg (by simp [hne])] at hg2
                                            have HG3 := hide hg2
                                            clear hg2 hfz hne
                                            go_wp2
                                            go_quiet (fail)
                                            go_wp2
                                            go_roundg (F2.length - (u + 1))
                                            case measure => rw [HQU.out]; omega
                                            case rel => exact ⟨u + 1, d2, b2, by go_num, by omega, rfl, rfl, hd2, hide (HR2.out.on (below_drewN (Below.refl _ _) _)), hide (HN2.out.on (below_drewN (Below.refl _ _) _)), hide (below_drewN HB2.out _), HU2, HG3⟩
                                          · have hnb : (dv != (di - tk + lv)) = true := by simp [hne]
                                            rw [if_pos hne] at hg2
                                            have HT9 := hide (HBad.out 8 t (by rw [← HVG.out, ← hg2]; rfl))
                                            clear hg2 hfz hne
                                            go_wp2
                                            go_quiet (fail)
                                            go_wp2
                                            go_ret2
                                            exact HP.out _ _ 8 t rfl HT9.out (below_drewN HB2.out _)
                                    · as_aux_lemma =>
                                      have i8 : ¬ (u : Int) < F2.length := by omega
                                      have hg2 := HG2.out
                                      rw [List.drop_of_length_le (by omega)] at hg2
                                      have hV2 := HVG.out
                                      rw [← hg2] at hV2
                                      have HV2 : Hid (fromV j (t + 1) (l.drop (t + 1)) d2 b2 = R) := hide hV2
                                      clear hg2 hV2
                                      go_wp2
                                      go_roundg (j - (t + 1))
                                      case rel => exact ⟨t + 1, d2, b2, by go_num, by omega, rfl, rfl, hd2, HR2, HB2, HU2, HV2⟩
                                      case measure => rw [HQJ.out]; omega
                  · as_aux_lemma =>
                    have i3 : ¬ (t : Int) < j := by omega
                    obtain rfl : t = j := by omega
                    have hV1 := HV'.out
                    rw [List.drop_of_length_le (by rw [HN.out]; exact Nat.le_refl _)] at hV1
                    have hV2 : Ver.go d' b' = R := hV1
                    obtain ⟨f, hf, hfT⟩ := HF.out
                    have hfd := fromV_fwd l 0 d false d' b' HLv.out (show fromV t 0 l d false = _ from by rw [hV2]; exact HRR.out)
                    have HM2 : Hid (2 * negs d' + (if b' then 1 else 0) < gq) := hide (by
                      rw [HQ.out]
                      have h2 := hfd.2.1
                      cases b' with
                      | true =>
                        as_aux_lemma =>
                        have := (hfd.2.2 rfl).resolve_left (by simp)
                        simp
                        omega
                      | false => simp; omega)
                    have HE2 : Hid ((b' = true ∧ ∃ f, negs d' < f ∧ roundsV l f d' = T) ∨ (b' = false ∧ T = (0, 0))) := hide (by
                      cases b' with
                      | true =>
                        as_aux_lemma =>
                        obtain ⟨f', h1, h2⟩ := rounds_step HLv.out hf (by rw [HN.out, hV2]; exact HRR.out)
                        exact .inl ⟨rfl, f', h1, by rw [← h2, hfT]⟩
                      | false => exact .inr ⟨rfl, by rw [← hfT]; exact rounds_end hf (by rw [HN.out, hV2]; exact HRR.out)⟩)
                    clear hV1 hV2 hf hfT hfd
                    go_wp2
                    go_roundg (2 * negs d' + (if b' then 1 else 0))
                    case measure => exact HM2.out
                    case rel => exact ⟨d', b', rfl, rfl, hd', HR', HB', HU', HE2⟩
end Go.Proofs.YtfbglokjehmgeaaGreatDoor
