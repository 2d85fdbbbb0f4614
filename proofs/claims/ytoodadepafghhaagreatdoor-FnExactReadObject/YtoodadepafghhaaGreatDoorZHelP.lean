/- The law's marks in what ReadObject answered: the codes. No condition. -/
import Derived.Test.YtoodadepafghhaaGreatDoorZHelC
import Derived.Test.YtoodadepafghhaaGreatDoorZRdO3
namespace Go.Proofs.YtoodadepafghhaaGreatDoor
open Go.ChangeShapes Go.WideShapes Go.ChangeAt Go.RowKit Go.Deep

/-- How far the marks have counted ahead of code i. -/
def cAt (L : List CV) (K : Int) : Nat → Int
  | 0 => K
  | i + 1 => match L[i]? with
    | some p => cAt L K i + 1 + 1 + 1 + 1 + 5 * (p.1.list.length : Int)
    | none => cAt L K i
theorem cAt_succ {L : List CV} {K : Int} {i : Nat} (h : i < L.length) : cAt L K (i + 1) = cAt L K i + 1 + 1 + 1 + 1 + 5 * (L[i].1.list.length : Int) := by
  rw [cAt, List.getElem?_eq_getElem h]
theorem cAt_bound {L : List CV} {K : Int} (h : ∀ p ∈ L, p.1.list.length ≤ 65535) : ∀ i, i ≤ L.length → K ≤ cAt L K i ∧ cAt L K i ≤ K + 400000 * (i : Int)
  | 0, _ => by simp [cAt]
  | i + 1, hi => by
    have := cAt_bound (K := K) h i (by omega)
    have hp := h _ (List.getElem_mem (show i < L.length by omega))
    rw [cAt_succ (by omega)]
    omega
/-- Code i, there to be marked. -/
def CdA (w : World) (B G i : Nat) (p : CV) : Prop := (∀ j, j < 5 → Al w G (i * 5 + j)) ∧ w.cell? ⟨G, i * 5 + 4, none⟩ = some p.2 ∧ FAl w B p.2 p.1.list.length 5 ∧ ∀ g, p.2.ownBlock = some g → g ≠ G
/-- .. marked. -/
def CdM (w : World) (G i : Nat) (p : CV) (K : Int) : Prop := (w.cell? ⟨G, i * 5, none⟩ = some (.string (mt K)) ∧ w.cell? ⟨G, i * 5 + 1, none⟩ = some (.int .i64 (K + 1)) ∧ w.cell? ⟨G, i * 5 + 2, none⟩ = some (.int .i64 (K + 1 + 1)) ∧ w.cell? ⟨G, i * 5 + 3, none⟩ = some (.int .i64 (K + 1 + 1 + 1))) ∧
  w.cell? ⟨G, i * 5 + 4, none⟩ = some p.2 ∧ FMk w p.2 p.1.list.length 5 insMs (K + 1 + 1 + 1 + 1) ∧ ∀ g, p.2.ownBlock = some g → g ≠ G
theorem CdA.set {w : World} {B G i : Nat} {p : CV} (h : CdA w B G i p) {o : Nat} (ho : o ≠ i * 5 + 4) (v : Value) : CdA (w.setCell ⟨G, o, none⟩ v) B G i p :=
  ⟨fun j hj => (h.1 j hj).set _ _, set_off h.2.1 ho v, h.2.2.1.on ((Tch.refl (fun k => k = G) w).set rfl o v), h.2.2.2⟩
theorem CdA.tch {S : Nat → Prop} {w w' : World} {B G i : Nat} {p : CV} (h : CdA w B G i p) (t : Tch S w w') (hG : ¬ S G) : CdA w' B G i p :=
  ⟨fun j hj => t.al _ _ (h.1 j hj), t.cell hG h.2.1, h.2.2.1.on t, h.2.2.2⟩
theorem CdM.set {w : World} {G i : Nat} {p : CV} {K : Int} (h : CdM w G i p K) {o : Nat} (ho : i * 5 + 5 ≤ o) (v : Value) : CdM (w.setCell ⟨G, o, none⟩ v) G i p K := by
  obtain ⟨⟨h0, h1, h2, h3⟩, h5, h6, h7⟩ := h
  exact ⟨⟨set_off h0 (by omega) v, set_off h1 (by omega) v, set_off h2 (by omega) v, set_off h3 (by omega) v⟩, set_off h5 (by omega) v, h6.on ((Tch.refl (fun k => k = G) w).set rfl o v) fun g hg e => h7 g hg e, h7⟩
theorem CdM.tch {S : Nat → Prop} {w w' : World} {G i : Nat} {p : CV} {K : Int} (h : CdM w G i p K) (t : Tch S w w') (hG : ¬ S G) (hs : ∀ g, p.2.ownBlock = some g → ¬ S g) : CdM w' G i p K := by
  obtain ⟨⟨h0, h1, h2, h3⟩, h5, h6, h7⟩ := h
  exact ⟨⟨t.cell hG h0, t.cell hG h1, t.cell hG h2, t.cell hG h3⟩, t.cell hG h5, h6.on t hs, h7⟩
/-- The blocks that a row of codes lies in. -/
def CS (v : Value) (L : List CV) (k : Nat) : Prop := v.ownBlock = some k ∨ ∃ p ∈ L, p.2.ownBlock = some k
def CAl (w : World) (B : Nat) (v : Value) (L : List CV) : Prop := ∃ a c, v = .slice a L.length c ∧ ∀ i (hi : i < L.length), ∃ G, a = some ⟨G, 0, none⟩ ∧ CdA w B G i L[i]
theorem CAl.tch {S : Nat → Prop} {w w' : World} {B : Nat} {v : Value} {L : List CV} (h : CAl w B v L) (t : Tch S w w') (hs : ∀ k, v.ownBlock = some k → ¬ S k) : CAl w' B v L := by
  obtain ⟨a, c, rfl, h⟩ := h
  refine ⟨a, c, rfl, fun i hi => ?_⟩
  obtain ⟨G, rfl, h1⟩ := h i hi
  exact ⟨G, rfl, h1.tch t (hs G rfl)⟩
def MkC (w : World) (v : Value) (L : List CV) (K : Int) : Prop := ∃ a c, v = .slice a L.length c ∧ ∀ i (hi : i < L.length), ∃ G, a = some ⟨G, 0, none⟩ ∧ CdM w G i L[i] (cAt L K i)
theorem MkC.tch {S : Nat → Prop} {w w' : World} {v : Value} {L : List CV} {K : Int} (h : MkC w v L K) (t : Tch S w w') (hs : ∀ k, CS v L k → ¬ S k) : MkC w' v L K := by
  obtain ⟨a, c, rfl, h⟩ := h
  refine ⟨a, c, rfl, fun i hi => ?_⟩
  obtain ⟨G, rfl, h1⟩ := h i hi
  exact ⟨G, rfl, h1.tch t (hs G (.inl rfl)) fun g hg => hs g (.inr ⟨_, List.getElem_mem hi, hg⟩)⟩
theorem MkC.on {w w' : World} {v : Value} {L : List CV} {K : Int} (h : MkC w v L K) (bel : Below w.heap.size w w') : MkC w' v L K := h.tch (S := fun _ => False) (Tch.of_below bel) fun _ _ e => e
theorem capart {L : List CV} (h : L.Pairwise fun a b => ∀ k, a.2.ownBlock = some k → b.2.ownBlock ≠ some k) {i j : Nat} (hij : i < j) (hj : j < L.length) {g : Nat} (hi : (L[i]'(by omega)).2.ownBlock = some g) : L[j].2.ownBlock ≠ some g :=
  (List.pairwise_iff_getElem.1 h) i j (by omega) hj hij g hi
set_option maxHeartbeats 8000000 in
theorem markCodeS_mk (v : Value) (B : Nat) (L : List CV) (K0 : Int) (w : World) (hl : L.length ≤ 255) (hpl : ∀ p ∈ L, p.1.list.length ≤ 65535) (k0 : 0 ≤ K0) (k1 : K0 ≤ 1000000) (h : CAl w B v L) (hap : L.Pairwise fun a b => ∀ k, a.2.ownBlock = some k → b.2.ownBlock ≠ some k) :
    Calls Tryz.prog 56 #[v, .int .i64 K0] w fun e w' => e = .returned (.int .i64 (cAt L K0 L.length)) ∧ MkC w' v L K0 ∧ Tch (CS v L) w w' := by
  have HAp := hide hap
  have HP := hide hpl
  obtain ⟨a, c, rfl, hA⟩ := h
  have HA := hide hA
  clear hA hap hpl
  obtain ⟨n, hn⟩ : ∃ n, L.length = n := ⟨_, rfl⟩
  have HN := hide hn
  rw [hn] at hl ⊢
  clear hn
  go_enter Tryz.func56, Tryz.ntmps56
  go_wp2
  go_loopw [1, 5] (fun q i wr => ∃ k : Nat, i = .int .i64 k ∧ q = .int .i64 (cAt L K0 k) ∧ k ≤ n ∧ Hid (∀ i (hi : i < L.length), i < k → ∃ G, a = some ⟨G, 0, none⟩ ∧ CdM wr G i L[i] (cAt L K0 i)) ∧ Hid (∀ i (hi : i < L.length), ∃ G, a = some ⟨G, 0, none⟩ ∧ CdA wr B G i L[i]) ∧ Tch (CS (.slice a n c) L) w wr) (fun _ i _ => n - (intOf i).toNat)
  case atStart => exact ⟨0, rfl, rfl, by omega, hide (fun i _ hi => absurd hi (by omega)), HA, Tch.refl _ _⟩
  case round =>
    obtain ⟨k, rfl, rfl, hk, HM, HA', hbw⟩ := hrel
    by_cases hp : k < n
    · have i1 : (k : Int) < n := by omega
      have hkl : k < L.length := by rw [HN.out]; exact hp
      obtain ⟨G, rfl, hit⟩ := HA'.out k hkl
      have hb := cAt_bound (K := K0) HP.out k (by omega)
      have hpl := HP.out _ (List.getElem_mem hkl)
      obtain ⟨J, hJ⟩ : ∃ J, cAt L K0 k = J := ⟨_, rfl⟩
      have HK := hide hJ
      have hKs := cAt_succ (K := K0) hkl
      have hap : ∀ i (hi : i < L.length), i < k → ∀ g, L[i].2.ownBlock = some g → L[k].2.ownBlock ≠ some g := fun i hi hik g hg => capart HAp.out hik hkl hg
      obtain ⟨⟨it, uu⟩, hLk⟩ : ∃ p, L[k] = p := ⟨_, rfl⟩
      have HLk := hide hLk
      rw [hJ] at hb hKs ⊢
      rw [hLk] at hKs hpl hit hap
      obtain ⟨hal, h4, ⟨a2, c2, e2, -⟩, hob⟩ := id hit
      simp only [] at e2 hpl hKs hap hob
      subst e2
      obtain ⟨q, hq⟩ : ∃ q, it.list.length = q := ⟨_, rfl⟩
      have HQ := hide hq
      rw [hq] at hpl hKs
      have HIT := hide hit
      have HKS := hide hKs
      have HOB := hide hob
      have HAPk := hide hap
      have HB := hide hb
      have hJ0 : 0 ≤ J ∧ J ≤ 1000000000 := by omega
      have HW := hide hbw
      clear hal h4 hit hKs hJ hLk hap hob hq hb hbw
      go_wp2_with fail
      refine (markText_any _ _ (by omega)).mono ?_
      rintro e w5 ⟨rfl, b5⟩
      have t5 := Tch.of_below (S := fun _ => False) b5
      have HT5 := hide t5
      have hit5 := HIT.out.tch t5 (fun e => e)
      obtain ⟨⟨y0, c0⟩, f0⟩ := hit5.1 0 (by omega)
      obtain ⟨⟨y1, c1⟩, f1⟩ := hit5.1 1 (by omega)
      obtain ⟨⟨y2, c2'⟩, f2⟩ := hit5.1 2 (by omega)
      obtain ⟨⟨y3, c3⟩, f3⟩ := hit5.1 3 (by omega)
      simp only [Nat.add_zero] at c0 f0
      have c4 : w5.cell? ⟨G, k * 5 + 4, none⟩ = some (.slice a2 q c2) := by rw [← HQ.out]; exact hit5.2.1
      have HC4 := hide c4
      have HIT5 := hide hit5
      clear hit5 t5 b5
      go_wp2_with fail
      have t9 : Tch (fun b => b = G) w5 ((((w5.setCell ⟨G, k * 5, none⟩ (.string (mt J))).setCell ⟨G, k * 5 + 1, none⟩ (.int .i64 (J + 1))).setCell ⟨G, k * 5 + 2, none⟩ (.int .i64 (J + 1 + 1))).setCell ⟨G, k * 5 + 3, none⟩ (.int .i64 (J + 1 + 1 + 1))) := ((((Tch.refl (fun b => b = G) w5).set rfl (k * 5) (.string (mt J))).set rfl (k * 5 + 1) (.int .i64 (J + 1))).set rfl (k * 5 + 2) (.int .i64 (J + 1 + 1))).set rfl (k * 5 + 3) (.int .i64 (J + 1 + 1 + 1))
      have HPA := hide (HIT5.out.2.2.1.on t9)
      have hpk := markInsS_mk B _ q (J + 1 + 1 + 1 + 1) _ (by omega) (by omega) (by omega) (by have := HPA.out; rw [HQ.out] at this; exact this)
      refine hpk.mono ?_
      rintro e w7 ⟨rfl, hpm, t7⟩
      have hGS : ¬ ((Value.slice a2 q c2).ownBlock = some G) := fun e => (HOB.out G (by rw [HQ.out]; exact e)) rfl
      have HM7 : Hid (∀ i (hi : i < L.length), i < k + 1 → ∃ G', some (⟨G, 0, none⟩ : Addr) = some ⟨G', 0, none⟩ ∧ CdM w7 G' i L[i] (cAt L K0 i)) := by
        refine hide fun i hi hik => ⟨G, rfl, ?_⟩
        by_cases hlt : i < k
        · obtain ⟨G', e, h⟩ := HM.out i hi hlt
          cases e
          exact (((((h.tch HT5.out (fun e => e) fun _ _ e => e).set (o := k * 5) (by omega) (.string (mt J))).set (o := k * 5 + 1) (by omega) (.int .i64 (J + 1))).set (o := k * 5 + 2) (by omega) (.int .i64 (J + 1 + 1))).set (o := k * 5 + 3) (by omega) (.int .i64 (J + 1 + 1 + 1))).tch t7 hGS (fun g hg e => HAPk.out i hi hlt g hg (by rw [HQ.out]; exact e))
        · obtain rfl : i = k := by omega
          rw [HLk.out, HK.out]
          refine ⟨⟨t7.cell hGS ?_, t7.cell hGS ?_, t7.cell hGS ?_, t7.cell hGS ?_⟩, t7.cell hGS ?_, ?_, fun g hg => HOB.out g hg⟩
          · exact set_off (set_off (set_off (set_at (HIT5.out.1 0 (by omega)) _) (by omega) _) (by omega) _) (by omega) _
          · exact set_off (set_off (set_at ((HIT5.out.1 1 (by omega)).set _ _) _) (by omega) _) (by omega) _
          · exact set_off (set_at (((HIT5.out.1 2 (by omega)).set _ _).set _ _) _) (by omega) _
          · exact set_at ((((HIT5.out.1 3 (by omega)).set _ _).set _ _).set _ _) _
          · exact set_off (set_off (set_off (set_off HIT5.out.2.1 (by omega) _) (by omega) _) (by omega) _) (by omega) _
          · rw [← HQ.out] at hpm
            exact hpm
      have HA7 : Hid (∀ i (hi : i < L.length), ∃ G', some (⟨G, 0, none⟩ : Addr) = some ⟨G', 0, none⟩ ∧ CdA w7 B G' i L[i]) := by
        refine hide fun i hi => ⟨G, rfl, ?_⟩
        obtain ⟨G', e, h⟩ := HA'.out i hi
        cases e
        exact (((((h.tch HT5.out (fun e => e)).set (o := k * 5) (by omega) (.string (mt J))).set (o := k * 5 + 1) (by omega) (.int .i64 (J + 1))).set (o := k * 5 + 2) (by omega) (.int .i64 (J + 1 + 1))).set (o := k * 5 + 3) (by omega) (.int .i64 (J + 1 + 1 + 1))).tch t7 hGS
      have hb7 : Tch (CS (.slice (some ⟨G, 0, none⟩) n c) L) w w7 :=
        HW.out.trans ((HT5.out.wid (fun _ e => e.elim)).trans ((t9.wid (fun j e => .inl (by subst e; rfl))).trans (t7.wid (fun j e => .inr ⟨_, List.getElem_mem hkl, by rw [HLk.out]; show (Value.slice a2 it.list.length c2).ownBlock = some j; rw [HQ.out]; exact e⟩))))
      clear c0 c1 c2' c3 c4 f0 f1 f2 f3 y0 y1 y2 y3 hpm t7 t9
      go_wp2
      go_roundw
      case rel => exact ⟨k + 1, by go_num, by rw [HKS.out], by omega, HM7, HA7, hb7⟩
      case measure => simp [intOf]; omega
    · have i1 : ¬ (k : Int) < n := by omega
      obtain rfl : k = n := by omega
      go_wp2
      go_ret
      exact ⟨rfl, ⟨a, c, by rw [HN.out], fun i hi => HM.out i hi (by rw [← HN.out]; exact hi)⟩, hbw⟩
set_option maxHeartbeats 8000000 in
theorem heldCodeS_mk (v : Value) (L : List CV) (K0 : Int) (w : World) (hl : L.length ≤ 255) (hpl : ∀ p ∈ L, p.1.list.length ≤ 65535) (k0 : 0 ≤ K0) (k1 : K0 ≤ 1000000) (h : MkC w v L K0) :
    Calls Tryz.prog 62 #[v, .int .i64 K0] w fun e w' => e = .returned (.int .i64 (cAt L K0 L.length)) ∧ Below w.heap.size w w' := by
  have HP := hide hpl
  have HM := hide h
  obtain ⟨a, c, rfl, -⟩ := h
  clear hpl
  obtain ⟨n, hn⟩ : ∃ n, L.length = n := ⟨_, rfl⟩
  have HN := hide hn
  rw [hn] at hl ⊢
  rw [hn] at HM
  clear hn
  go_enter Tryz.func62, Tryz.ntmps62
  go_wp2
  go_loopw [1, 5] (fun q i wr => ∃ k : Nat, i = .int .i64 k ∧ q = .int .i64 (cAt L K0 k) ∧ k ≤ n ∧ Below w.heap.size w wr) (fun _ i _ => n - (intOf i).toNat)
  case atStart => exact ⟨0, rfl, rfl, by omega, Below.refl _ _⟩
  case round =>
    obtain ⟨k, rfl, rfl, hk, hbw⟩ := hrel
    by_cases hp : k < n
    · have i1 : (k : Int) < n := by omega
      have hkl : k < L.length := by rw [HN.out]; exact hp
      obtain ⟨a', c', e, hM⟩ := HM.out.on hbw
      cases e
      obtain ⟨G, rfl, hit⟩ := hM k hkl
      have hb := cAt_bound (K := K0) HP.out k (by omega)
      have hpl := HP.out _ (List.getElem_mem hkl)
      have hKs := cAt_succ (K := K0) hkl
      obtain ⟨J, hJ⟩ : ∃ J, cAt L K0 k = J := ⟨_, rfl⟩
      rw [hJ] at hb hKs hit ⊢
      obtain ⟨⟨it, uu⟩, hLk⟩ : ∃ p, L[k] = p := ⟨_, rfl⟩
      rw [hLk] at hKs hpl hit
      obtain ⟨q, hq⟩ : ∃ q, it.list.length = q := ⟨_, rfl⟩
      simp only [] at hKs hpl
      rw [hq] at hKs hpl
      obtain ⟨⟨c0, c1, c2, c3⟩, c4, hpm, -⟩ := hit
      simp only [] at c4 hpm
      rw [hq] at hpm
      have HPM := hide hpm
      obtain ⟨a2, c2'', rfl, -⟩ := hpm
      have HKS := hide hKs
      have hJ0 : 0 ≤ J ∧ J ≤ 1000000000 := by omega
      have HMT : Hid (∀ w', Calls Tryz.prog 113 #[.int .i64 J] w' fun e w2 => e = .returned (.string (mt J)) ∧ Below w'.heap.size w' w2) := hide fun w' => markText_any _ w' (by omega)
      have hKp : ¬ (J + 1 + 1 + 1 + 1 + 5 * (q : Int)) < 0 := by omega
      have hK0 : q ≤ 1000000 ∧ 0 ≤ J + 1 + 1 + 1 + 1 ∧ J + 1 + 1 + 1 + 1 ≤ 1000000000000000 := by omega
      have HK0 := hide hK0
      generalize hmt : mt J = s at *
      clear hKs hJ hLk hq hM hmt hK0 hb
      go_wp2_with fail
      go_region_with (go_at_call 113; refine (HMT.out _).mono ?_; rintro e w5 ⟨rfl, b5⟩; have d0 := ((Below.trans (Below.refl _ _).drew b5).cell (p := ⟨G, k * 5, none⟩) (block_lt c0)).trans c0; have d1 := ((Below.trans (Below.refl _ _).drew b5).cell (p := ⟨G, k * 5 + 1, none⟩) (block_lt c1)).trans c1; have d2 := ((Below.trans (Below.refl _ _).drew b5).cell (p := ⟨G, k * 5 + 2, none⟩) (block_lt c2)).trans c2; have d3 := ((Below.trans (Below.refl _ _).drew b5).cell (p := ⟨G, k * 5 + 3, none⟩) (block_lt c3)).trans c3; have d4 := ((Below.trans (Below.refl _ _).drew b5).cell (p := ⟨G, k * 5 + 4, none⟩) (block_lt c4)).trans c4; have HPM5 := hide (HPM.out.on (S := fun _ => False) (Tch.of_below (Below.trans (Below.refl _ _).drew b5)) (fun _ _ e => e)))
      all_goals
        have hb5 := hbw.trans ((Below.trans (Below.refl _ _).drew b5).mono hbw.size)
        clear b5 c0 c1 c2 c3 c4
        go_wp2_with fail
        refine (heldInsS_mk _ q _ _ HK0.out.1 HK0.out.2.1 HK0.out.2.2 HPM5.out).mono ?_
        rintro e w7 ⟨rfl, b7⟩
        have hb7 := hb5.trans (b7.mono hb5.size)
        clear b7 d0 d1 d2 d3 d4
        go_wp2
        go_roundw
        case rel => exact ⟨k + 1, by go_num, by rw [HKS.out], by omega, hb7⟩
        case measure => simp [intOf]; omega
    · have i1 : ¬ (k : Int) < n := by omega
      obtain rfl : k = n := by omega
      go_wp2
      go_ret
      exact ⟨rfl, hbw⟩
end Go.Proofs.YtoodadepafghhaaGreatDoor
