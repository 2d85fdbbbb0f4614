/- The model's reader of bytes: what it takes off, and when it is at fault. No condition. -/
import Derived.Test.YtoomnimbokbadaaDoorZRdp
namespace Go.Proofs.YtoomnimbokbadaaDoor
open Go.RowKit

/-- The model's reader in block R: its bytes, its place, its fault. -/
def MR (w : World) (R : Nat) (m : Md) (l : List Int) (p : Nat) (bad : Bool) : Prop :=
  ∃ g o c, SlAt BAt 1 w m (.slice (some ⟨g, o, none⟩) l.length c) l ∧ l.length ≤ c ∧ (w.cell? ⟨R, 0, none⟩ = some (.slice (some ⟨g, o, none⟩) l.length c) ∧ w.cell? ⟨R, 1, none⟩ = some (.int .i64 p) ∧ w.cell? ⟨R, 2, none⟩ = some (.bool bad)) ∧ (w.frozen? ⟨R, 1, none⟩ = false ∧ w.frozen? ⟨R, 2, none⟩ = false) ∧ m.hi ≤ R ∧ p ≤ l.length
def rp (l : List Int) (p : Nat) (bad : Bool) : Rs := if bad then none else some (l.drop p)
theorem MR.same {w w' : World} {R : Nat} {m : Md} {l : List Int} {p : Nat} {bad : Bool} (h : MR w R m l p bad) (s : Same m.lo m.hi w w') (hR : w'.heap[R]? = w.heap[R]?) : MR w' R m l p bad := by
  obtain ⟨g, o, c, h1, h2, ⟨k0, k1, k2⟩, ⟨f1, f2⟩, h3⟩ := h
  have kc : ∀ j, w'.cell? ⟨R, j, none⟩ = w.cell? ⟨R, j, none⟩ := fun j => World.cell?_of_block (w := w) (a := ⟨R, j, none⟩) hR
  have kf : ∀ j, w'.frozen? ⟨R, j, none⟩ = w.frozen? ⟨R, j, none⟩ := fun j => World.frozen?_of_block (w := w) (a := ⟨R, j, none⟩) hR
  exact ⟨g, o, c, h1.same BAt.stays s, h2, ⟨(kc 0).trans k0, (kc 1).trans k1, (kc 2).trans k2⟩, ⟨(kf 1).trans f1, (kf 2).trans f2⟩, h3⟩
theorem MR.below {w w' : World} {R B : Nat} {m : Md} {l : List Int} {p : Nat} {bad : Bool} (h : MR w R m l p bad) (bel : Below B w w') (hR : R < B) : MR w' R m l p bad :=
  h.same (.of_below bel (by obtain ⟨_, _, _, _, _, _, _, h3, _⟩ := h; omega)) (bel.block R hR)
theorem MR.drew {w : World} {R : Nat} {m : Md} {l : List Int} {p : Nat} {bad : Bool} (h : MR w R m l p bad) (n : Nat) : MR (w.drewN n) R m l p bad := h.same (fun _ _ _ => rfl) rfl
theorem MR.goTo {w : World} {R : Nat} {m : Md} {l : List Int} {p p' : Nat} {bad : Bool} (h : MR w R m l p bad) (hp : p' ≤ l.length) : MR (w.setCell ⟨R, 1, none⟩ (.int .i64 p')) R m l p' bad := by
  obtain ⟨g, o, c, h1, h2, ⟨k0, k1, k2⟩, ⟨f1, f2⟩, h3, h4⟩ := h
  exact ⟨g, o, c, h1.same BAt.stays ((Only.set R 1 w _).same h3), h2, ⟨by rw [World.cell?_setCell_other _ _ _ _ (by simp)]; exact k0, World.cell?_setCell_same _ _ _ k1, by rw [World.cell?_setCell_other _ _ _ _ (by simp)]; exact k2⟩, ⟨by rw [World.frozen?_setCell]; exact f1, by rw [World.frozen?_setCell]; exact f2⟩, h3, hp⟩
theorem MR.fault {w : World} {R : Nat} {m : Md} {l : List Int} {p : Nat} {bad : Bool} (h : MR w R m l p bad) : MR (w.setCell ⟨R, 2, none⟩ (.bool true)) R m l p true := by
  obtain ⟨g, o, c, h1, h2, ⟨k0, k1, k2⟩, ⟨f1, f2⟩, h3, h4⟩ := h
  exact ⟨g, o, c, h1.same BAt.stays ((Only.set R 2 w _).same h3), h2, ⟨by rw [World.cell?_setCell_other _ _ _ _ (by simp)]; exact k0, by rw [World.cell?_setCell_other _ _ _ _ (by simp)]; exact k1, World.cell?_setCell_same _ _ _ k2⟩, ⟨by rw [World.frozen?_setCell]; exact f1, by rw [World.frozen?_setCell]; exact f2⟩, h3, h4⟩
theorem Only.drew (R : Nat) (w : World) (n : Nat) : Only R w (w.drewN n) := ⟨rfl, rfl, rfl, rfl, fun _ _ => rfl⟩
def MEight (R : Nat) (m : Md) (l : List Int) (s : Rs) (y : Int) (w w' : World) : Prop := ∃ p' bad', Sim (rNum 8) s (rp l p' bad') y ∧ MR w' R m l p' bad' ∧ Only R w w'
theorem one_sim {l : List Int} {p : Nat} (hp : p < l.length) : Sim rOne (rp l p false) (rp l (p + 1) false) l[p] := by
  unfold Sim rp
  simp only [Bool.false_eq_true, if_false, Option.bind_some, Option.map_some]
  rw [List.drop_eq_getElem_cons hp]
  rfl
theorem one_end {l : List Int} {p : Nat} (hp : l.length ≤ p) : Sim rOne (rp l p false) none 0 := by
  unfold Sim rp
  simp only [Bool.false_eq_true, if_false, Option.bind_some, Option.map_none]
  rw [List.drop_of_length_le hp]
  rfl
set_option maxRecDepth 100000 in
set_option maxHeartbeats 4000000 in
theorem mOne_any (R : Nat) (m : Md) (l : List Int) (p : Nat) (bad : Bool) (w : World) (hl : l.length ≤ 1099511627776) (h : MR w R m l p bad) :
    Calls Tryd.prog 46 #[.pointer (some ⟨R, 0, none⟩)] w fun e w' => ∃ y p' bad', e = .returned (.int .i64 y) ∧ Hid (Sim rOne (rp l p bad) (rp l p' bad') y) ∧ (0 ≤ y ∧ y ≤ 255) ∧ Hid (MR w' R m l p' bad') ∧ Only R w w' := by
  have HM := hide h
  obtain ⟨g, o, c, h1, h2, ⟨k0, k1, k2⟩, ⟨f1, f2⟩, h3, h4⟩ := h
  obtain ⟨n, hn⟩ : ∃ n, l.length = n := ⟨_, rfl⟩
  have HN := hide hn
  rw [hn] at k0 h2 h4 hl
  cases bad with
  | true =>
    clear h1 hn
    go_enter Tryd.func46, Tryd.ntmps46
    go_wp2
    go_quiet (fail)
    go_wp2
    go_ret
    exact ⟨_, p, true, rfl, hide (Sim.lost _ _), by omega, hide (HM.out.drew 1).fault, (Only.drew _ _ _).trans (Only.set _ _ _ _)⟩
  | false =>
    by_cases hp : n ≤ p
    · have i1 : (n : Int) ≤ p := by omega
      clear h1 hn
      go_enter Tryd.func46, Tryd.ntmps46
      go_wp2
      go_quiet (fail)
      go_wp2
      go_ret
      exact ⟨_, p, true, rfl, hide (one_end (by rw [HN.out]; exact hp)), by omega, hide (HM.out.drew 1).fault, (Only.drew _ _ _).trans (Only.set _ _ _ _)⟩
    · have i1 : ¬ (n : Int) ≤ p := by omega
      obtain ⟨y, hy⟩ : ∃ y, l[p] = y := ⟨_, rfl⟩
      have HS : Hid (Sim rOne (rp l p false) (rp l (p + 1) false) y) := hide (by rw [← hy]; exact one_sim (by omega))
      have HL : Hid (p + 1 ≤ l.length) := hide (by omega)
      obtain ⟨a, cc, e, hr⟩ := h1
      cases e
      obtain ⟨b, o', e, -, hb, -, ⟨c0, y0, y1⟩⟩ := hr p (by omega)
      cases e
      rw [hy] at c0 y0 y1
      have hbR : g ≠ R := by omega
      simp only [Nat.mul_one, Nat.add_zero] at c0
      clear hr hy hn hb h3
      have i2 : (p : Int) + 1 - 1 = p := by omega
      go_enter Tryd.func46, Tryd.ntmps46
      go_wp2
      go_quiet (fail)
      go_wp2
      go_quiet (fail)
      go_wp2
      go_ret
      exact ⟨_, p + 1, false, rfl, HS, ⟨y0, y1⟩, hide (((HM.out.drew _).goTo HL.out).drew _), ((Only.drew _ _ _).trans (Only.set _ _ _ _)).trans (Only.drew _ _ _)⟩
set_option maxRecDepth 100000 in
set_option maxHeartbeats 4000000 in
theorem mEight_any (R : Nat) (m : Md) (l : List Int) (p : Nat) (bad : Bool) (w : World) (hl : l.length ≤ 1099511627776) (h : MR w R m l p bad) :
    Calls Tryd.prog 47 #[.pointer (some ⟨R, 0, none⟩)] w fun e w' => ∃ y, e = .returned (.int .i64 y) ∧ I64 y ∧ MEight R m l (rp l p bad) y w w' := by
  have HM := hide h
  have S0 : Hid (Sim (rNum 0) (rp l p bad) (rp l p bad) 0) := hide (Sim.stay _ _)
  clear h
  go_enter Tryd.func47, Tryd.ntmps47
  go_wp2
  go_loopw [3, 4] (fun q i wr => ∃ (k : Nat) (n : Int) (pk : Nat) (bk : Bool), i = .int .i64 k ∧ q = .int .i64 n ∧ k ≤ 8 ∧ I64 n ∧ Hid (Sim (rNum k) (rp l p bad) (rp l pk bk) n) ∧ Hid (MR wr R m l pk bk) ∧ Only R w wr) (fun _ i _ => 8 - (intOf i).toNat)
  case atStart => exact ⟨0, 0, p, bad, rfl, rfl, by omega, by unfold I64; omega, S0, HM, Only.refl _ _⟩
  case round =>
    obtain ⟨k, n, pk, bk, rfl, rfl, hk, hn, Hs, Hr, ho⟩ := hrel
    by_cases hp : k < 8
    · have i1 : (k : Int) < 8 := by omega
      go_wp2_with (go_at_call 46; refine (mOne_any R m l pk bk _ hl Hr.out).mono ?_; rintro e w1 ⟨y, p1, b1, rfl, hs1, hy, hr1, o1⟩)
      go_roundw
      case rel =>
        refine ⟨k + 1, _, p1, b1, by go_num, rfl, by omega, bits_within .or .i64 _ _, ?_, hr1, ho.trans o1⟩
        exact hide (Sim.and Hs.out (Sim.and hs1.out (Sim.stay _ _)))
      case measure => simp [intOf]; omega
    · have i1 : ¬ (k : Int) < 8 := by omega
      obtain rfl : k = 8 := by omega
      go_wp2
      refine bodyPost_ret (v := .int .i64 n) (by simp [results, Tryd.results47, go_sem]) rfl ?_
      exact ⟨n, rfl, hn, ⟨pk, bk, Hs.out, Hr.out, ho⟩⟩
theorem cut_sim {l : List Int} {p n : Nat} (hp : p + n ≤ l.length) : Sim (rCut n) (rp l p false) (rp l (p + n) false) (bs ((l.drop p).take n)) := by
  unfold Sim rp rCut
  simp only [Bool.false_eq_true, if_false, Option.bind_some, Option.map_some]
  have e : ((n : Int)).toNat = n := by omega
  rw [e, if_pos (by rw [List.length_drop]; omega), List.drop_drop]
theorem cut_end {l : List Int} {p n : Nat} (hp : l.length < p + n) (h : p ≤ l.length) : Sim (rCut n) (rp l p false) none ⟨#[]⟩ := by
  unfold Sim rp rCut
  simp only [Bool.false_eq_true, if_false, Option.bind_some, Option.map_none]
  have e : ((n : Int)).toNat = n := by omega
  rw [e, if_neg (by rw [List.length_drop]; omega)]
set_option maxRecDepth 100000 in
set_option maxHeartbeats 8000000 in
theorem mText_any (R : Nat) (m : Md) (l : List Int) (p : Nat) (bad : Bool) (w : World) (hl : l.length ≤ 1099511627776) (h : MR w R m l p bad) :
    Calls Tryd.prog 45 #[.pointer (some ⟨R, 0, none⟩)] w fun e w' => ∃ s p' bad', e = .returned (.string s) ∧ Hid (Sim rTxt (rp l p bad) (rp l p' bad') s) ∧ s.size ≤ 255 ∧ Hid (MR w' R m l p' bad') ∧ Only R w w' := by
  have HM := hide h
  clear h
  go_enter Tryd.func45, Tryd.ntmps45
  go_wp2_with fail
  refine (mOne_any R m l p bad _ hl HM.out).mono ?_
  rintro e w1 ⟨y, p1, b1, rfl, hs1, ⟨y0, y1⟩, hr1, o1⟩
  obtain ⟨k, rfl⟩ : ∃ k : Nat, y = k := ⟨y.toNat, by omega⟩
  obtain ⟨g, o, c, h1, h2, ⟨k0, k1, k2⟩, ⟨f1, f2⟩, h3, h4⟩ := hr1.out
  have H1 := hide h1
  obtain ⟨n, hn⟩ : ∃ n, l.length = n := ⟨_, rfl⟩
  have HN := hide hn
  rw [hn] at k0 h2 h4 hl
  clear h1
  cases b1 with
  | true =>
    clear hn h3
    go_wp2
    go_quiet (fail)
    go_wp2
    go_ret
    exact ⟨_, p1, true, rfl, hide (Sim.and hs1.out (Sim.lost _ _)), by decide, hide (hr1.out.drew 1).fault, (o1.trans (Only.drew _ _ _)).trans (Only.set _ _ _ _)⟩
  | false =>
    by_cases hp : n < p1 + k
    · have i1 : (n : Int) < p1 + k := by omega
      clear hn h3
      go_wp2
      go_quiet (fail)
      go_wp2
      go_ret
      exact ⟨_, p1, true, rfl, hide (Sim.and hs1.out (cut_end (by rw [HN.out]; exact hp) (by rw [HN.out]; exact h4))), by decide, hide (hr1.out.drew 1).fault, (o1.trans (Only.drew _ _ _)).trans (Only.set _ _ _ _)⟩
    · have i1 : ¬ (n : Int) < p1 + k := by omega
      have HC := hide (cut_sim (l := l) (p := p1) (n := k) (by omega))
      have HL : Hid (p1 + k ≤ l.length) := hide (by omega)
      have hsz : (bs ((l.drop p1).take k)).size ≤ 255 := by rw [bs_size, List.length_take]; omega
      have HN2 := hide (show l.length - p1 = n - p1 by omega)
      have H3 := hide h3
      have HK : Hid (k ≤ c - p1 ∧ k ≤ (l.drop p1).length) := hide (by rw [List.length_drop]; omega)
      clear hn h3
      have i2 : (p1 : Int) + k - k = p1 := by omega
      by_cases hcp : c = p1
      · obtain rfl : k = 0 := by omega
        obtain rfl : c = n := by omega
        obtain rfl : p1 = c := by omega
        go_wp2
        go_quiet (fail)
        rename_i nq
        have hcv := fun q => conv_text (w := ((w1.drewN nq).setCell ⟨R, 1, none⟩ (.int .i64 p1)).drewN q) (m := m) (g := g) (o := o) (n := 0) (c := 0) (r := []) SlAt.nil
        go_wp2
        go_quiet (fail)
        go_wp2
        go_ret
        exact ⟨_, p1 + 0, false, rfl, hide (Sim.and hs1.out HC.out), hsz, hide (((hr1.out.drew _).goTo HL.out).drew _), ((o1.trans (Only.drew _ _ _)).trans (Only.set _ _ _ _)).trans (Only.drew _ _ _)⟩
      · have hcp' : ¬ (c : Int) = p1 := by omega
        go_wp2
        go_quiet (fail)
        rename_i nq
        have hcv := fun q => conv_text (slat_take (c' := c - p1) (slat_drop (c' := c - p1) (H1.out.same BAt.stays ((((Only.drew R w1 nq).trans (Only.set R 1 _ (.int .i64 (p1 + k)))).trans (Only.drew R _ q)).same H3.out)) p1 (by have := HK.out; have := HN.out; omega)) k HK.out.2 HK.out.1)
        go_wp2
        go_quiet (fail)
        go_wp2
        go_ret
        exact ⟨_, p1 + k, false, rfl, hide (Sim.and hs1.out HC.out), hsz, hide (((hr1.out.drew _).goTo HL.out).drew _), ((o1.trans (Only.drew _ _ _)).trans (Only.set _ _ _ _)).trans (Only.drew _ _ _)⟩
end Go.Proofs.YtoomnimbokbadaaDoor
