/- Rows of structs in memory of the call's own, once for whatever struct: told by a list, grown by append, read again. No condition. -/
import Derived.Test.YtpaljmhoojpbdaaDoorZRdG
import Derived.BigQuiet
import Derived.Deep.QuietTactic
import Derived.Test.YtpaljmhoojpbdaaDoorZRd
import Derived.OwnWalk
import Derived.Deep.AppendLies
/- The model's reader of bytes: what it takes off, and when it is at fault. No condition. -/
namespace Go.Proofs.YtpaljmhoojpbdaaDoor
open Go.RowKit

/-- The model's reader in block R: its bytes, its place, its fault. -/
def MR (w : World) (R : Nat) (m : Md) (l : List Int) (p : Nat) (bad : Bool) : Prop :=
  ∃ g o c, SlAt BAt 1 w m (.slice (some ⟨g, o, none⟩) l.length c) l ∧ l.length ≤ c ∧ (w.cell? ⟨R, 0, none⟩ = some (.slice (some ⟨g, o, none⟩) l.length c) ∧ w.cell? ⟨R, 1, none⟩ = some (.int .i64 p) ∧ w.cell? ⟨R, 2, none⟩ = some (.bool bad)) ∧ (w.frozen? ⟨R, 1, none⟩ = false ∧ w.frozen? ⟨R, 2, none⟩ = false) ∧ m.hi ≤ R ∧ p ≤ l.length
def rp (l : List Int) (p : Nat) (bad : Bool) : Rs := if bad then none else some (l.drop p)
theorem MR.same {w w' : World} {R : Nat} {m : Md} {l : List Int} {p : Nat} {bad : Bool} (h : MR w R m l p bad) (s : Same m.lo m.hi w w') (hR : w'.heap[R]? = w.heap[R]?) : MR w' R m l p bad := by
  obtain ⟨g, o, c, h1, h2, ⟨k0, k1, k2⟩, ⟨f1, f2⟩, h3⟩ := h
  have kc : ∀ j, w'.cell? ⟨R, j, none⟩ = w.cell? ⟨R, j, none⟩ := fun j => World.cell?_of_block (w := w) (a := ⟨R, j, none⟩) hR
  have kf : ∀ j, w'.frozen? ⟨R, j, none⟩ = w.frozen? ⟨R, j, none⟩ := fun j => World.frozen?_of_block (w := w) (a := ⟨R, j, none⟩) hR
  exact ⟨g, o, c, h1.same BAt.stays s, h2, ⟨(kc 0).trans k0, (kc 1).trans k1, (kc 2).trans k2⟩, ⟨(kf 1).trans f1, (kf 2).trans f2⟩, h3⟩
theorem MR.below {w w' : World} {R B : Nat} {m : Md} {l : List Int} {p : Nat} {bad : Bool} (h : MR w R m l p bad) (bel : Below B w w') (hR : R < B) : MR w' R m l p bad :=
  h.same (.of_below bel (by obtain ⟨_, _, _, _, _, _, _, h3, _⟩ := h; omega)) (bel.block R hR)
theorem MR.drew {w : World} {R : Nat} {m : Md} {l : List Int} {p : Nat} {bad : Bool} (h : MR w R m l p bad) (n : Nat) : MR (w.drewN n) R m l p bad := h.same (fun _ _ _ => rfl) rfl
theorem MR.goTo {w : World} {R : Nat} {m : Md} {l : List Int} {p p' : Nat} {bad : Bool} (h : MR w R m l p bad) (hp : p' ≤ l.length) : MR (w.setCell ⟨R, 1, none⟩ (.int .i64 p')) R m l p' bad := by
  obtain ⟨g, o, c, h1, h2, ⟨k0, k1, k2⟩, ⟨f1, f2⟩, h3, h4⟩ := h
  exact ⟨g, o, c, h1.same BAt.stays ((Only.set R 1 w _).same h3), h2, ⟨by rw [World.cell?_setCell_other _ _ _ _ (by simp)]; exact k0, World.cell?_setCell_same _ _ _ k1, by rw [World.cell?_setCell_other _ _ _ _ (by simp)]; exact k2⟩, ⟨by rw [World.frozen?_setCell]; exact f1, by rw [World.frozen?_setCell]; exact f2⟩, h3, hp⟩
theorem MR.fault {w : World} {R : Nat} {m : Md} {l : List Int} {p : Nat} {bad : Bool} (h : MR w R m l p bad) : MR (w.setCell ⟨R, 2, none⟩ (.bool true)) R m l p true := by
  obtain ⟨g, o, c, h1, h2, ⟨k0, k1, k2⟩, ⟨f1, f2⟩, h3, h4⟩ := h
  exact ⟨g, o, c, h1.same BAt.stays ((Only.set R 2 w _).same h3), h2, ⟨by rw [World.cell?_setCell_other _ _ _ _ (by simp)]; exact k0, by rw [World.cell?_setCell_other _ _ _ _ (by simp)]; exact k1, World.cell?_setCell_same _ _ _ k2⟩, ⟨by rw [World.frozen?_setCell]; exact f1, by rw [World.frozen?_setCell]; exact f2⟩, h3, h4⟩
theorem Only.drew (R : Nat) (w : World) (n : Nat) : Only R w (w.drewN n) := ⟨rfl, rfl, rfl, rfl, fun _ _ => rfl⟩
def MEight (R : Nat) (m : Md) (l : List Int) (s : Rs) (y : Int) (w w' : World) : Prop := ∃ p' bad', Sim (rNum 8) s (rp l p' bad') y ∧ MR w' R m l p' bad' ∧ Only R w w'
theorem one_sim {l : List Int} {p : Nat} (hp : p < l.length) : Sim rOne (rp l p false) (rp l (p + 1) false) l[p] := by
  unfold Sim rp
  simp only [Bool.false_eq_true, if_false, Option.bind_some, Option.map_some]
  rw [List.drop_eq_getElem_cons hp]
  rfl
theorem one_end {l : List Int} {p : Nat} (hp : l.length ≤ p) : Sim rOne (rp l p false) none 0 := by
  unfold Sim rp
  simp only [Bool.false_eq_true, if_false, Option.bind_some, Option.map_none]
  rw [List.drop_of_length_le hp]
  rfl
set_option maxRecDepth 100000 in
set_option maxHeartbeats 4000000 in
theorem mOne_any (R : Nat) (m : Md) (l : List Int) (p : Nat) (bad : Bool) (w : World) (hl : l.length ≤ 1099511627776) (h : MR w R m l p bad) :
    Calls Tryd.prog 70 #[.pointer (some ⟨R, 0, none⟩)] w fun e w' => ∃ y p' bad', e = .returned (.int .i64 y) ∧ Hid (Sim rOne (rp l p bad) (rp l p' bad') y) ∧ (0 ≤ y ∧ y ≤ 255) ∧ Hid (MR w' R m l p' bad') ∧ Only R w w' := by
  have HM := hide h
  obtain ⟨g, o, c, h1, h2, ⟨k0, k1, k2⟩, ⟨f1, f2⟩, h3, h4⟩ := h
  obtain ⟨n, hn⟩ : ∃ n, l.length = n := ⟨_, rfl⟩
  have HN := hide hn
  rw [hn] at k0 h2 h4 hl
  cases bad with
  | true =>
    clear h1 hn
    go_enter Tryd.func70, Tryd.ntmps70
    go_wp2
    go_quiet (fail)
    go_wp2
    go_ret
    exact ⟨_, p, true, rfl, hide (Sim.lost _ _), by omega, hide (HM.out.drew 1).fault, (Only.drew _ _ _).trans (Only.set _ _ _ _)⟩
  | false =>
    by_cases hp : n ≤ p
    · have i1 : (n : Int) ≤ p := by omega
      clear h1 hn
      go_enter Tryd.func70, Tryd.ntmps70
      go_wp2
      go_quiet (fail)
      go_wp2
      go_ret
      exact ⟨_, p, true, rfl, hide (one_end (by rw [HN.out]; exact hp)), by omega, hide (HM.out.drew 1).fault, (Only.drew _ _ _).trans (Only.set _ _ _ _)⟩
    · have i1 : ¬ (n : Int) ≤ p := by omega
      obtain ⟨y, hy⟩ : ∃ y, l[p] = y := ⟨_, rfl⟩
      have HS : Hid (Sim rOne (rp l p false) (rp l (p + 1) false) y) := hide (by rw [← hy]; exact one_sim (by omega))
      have HL : Hid (p + 1 ≤ l.length) := hide (by omega)
      obtain ⟨a, cc, e, hr⟩ := h1
      cases e
      obtain ⟨b, o', e, -, hb, -, ⟨c0, y0, y1⟩⟩ := hr p (by omega)
      cases e
      rw [hy] at c0 y0 y1
      have hbR : g ≠ R := by omega
      simp only [Nat.mul_one, Nat.add_zero] at c0
      clear hr hy hn hb h3
      have i2 : (p : Int) + 1 - 1 = p := by omega
      go_enter Tryd.func70, Tryd.ntmps70
      go_wp2
      go_quiet (fail)
      go_wp2
      go_quiet (fail)
      go_wp2
      go_ret
      exact ⟨_, p + 1, false, rfl, HS, ⟨y0, y1⟩, hide (((HM.out.drew _).goTo HL.out).drew _), ((Only.drew _ _ _).trans (Only.set _ _ _ _)).trans (Only.drew _ _ _)⟩
set_option maxRecDepth 100000 in
set_option maxHeartbeats 4000000 in
theorem mEight_any (R : Nat) (m : Md) (l : List Int) (p : Nat) (bad : Bool) (w : World) (hl : l.length ≤ 1099511627776) (h : MR w R m l p bad) :
    Calls Tryd.prog 69 #[.pointer (some ⟨R, 0, none⟩)] w fun e w' => ∃ y, e = .returned (.int .i64 y) ∧ I64 y ∧ MEight R m l (rp l p bad) y w w' := by
  have HM := hide h
  have S0 : Hid (Sim (rNum 0) (rp l p bad) (rp l p bad) 0) := hide (Sim.stay _ _)
  clear h
  go_enter Tryd.func69, Tryd.ntmps69
  go_wp2
  go_loopw [3, 4] (fun q i wr => ∃ (k : Nat) (n : Int) (pk : Nat) (bk : Bool), i = .int .i64 k ∧ q = .int .i64 n ∧ k ≤ 8 ∧ I64 n ∧ Hid (Sim (rNum k) (rp l p bad) (rp l pk bk) n) ∧ Hid (MR wr R m l pk bk) ∧ Only R w wr) (fun _ i _ => 8 - (intOf i).toNat)
  case atStart => exact ⟨0, 0, p, bad, rfl, rfl, by omega, by unfold I64; omega, S0, HM, Only.refl _ _⟩
  case round =>
    obtain ⟨k, n, pk, bk, rfl, rfl, hk, hn, Hs, Hr, ho⟩ := hrel
    by_cases hp : k < 8
    · have i1 : (k : Int) < 8 := by omega
      go_wp2_with (go_at_call 70; refine (mOne_any R m l pk bk _ hl Hr.out).mono ?_; rintro e w1 ⟨y, p1, b1, rfl, hs1, hy, hr1, o1⟩)
      go_roundw
      case rel =>
        refine ⟨k + 1, _, p1, b1, by go_num, rfl, by omega, bits_within .or .i64 _ _, ?_, hr1, ho.trans o1⟩
        exact hide (Sim.and Hs.out (Sim.and hs1.out (Sim.stay _ _)))
      case measure => simp [intOf]; omega
    · have i1 : ¬ (k : Int) < 8 := by omega
      obtain rfl : k = 8 := by omega
      go_wp2
      refine bodyPost_ret (v := .int .i64 n) (by simp [results, Tryd.results69, go_sem]) rfl ?_
      exact ⟨n, rfl, hn, ⟨pk, bk, Hs.out, Hr.out, ho⟩⟩
theorem cut_sim {l : List Int} {p n : Nat} (hp : p + n ≤ l.length) : Sim (rCut n) (rp l p false) (rp l (p + n) false) (bs ((l.drop p).take n)) := by
  unfold Sim rp rCut
  simp only [Bool.false_eq_true, if_false, Option.bind_some, Option.map_some]
  have e : ((n : Int)).toNat = n := by omega
  rw [e, if_pos (by rw [List.length_drop]; omega), List.drop_drop]
theorem cut_end {l : List Int} {p n : Nat} (hp : l.length < p + n) (h : p ≤ l.length) : Sim (rCut n) (rp l p false) none ⟨#[]⟩ := by
  unfold Sim rp rCut
  simp only [Bool.false_eq_true, if_false, Option.bind_some, Option.map_none]
  have e : ((n : Int)).toNat = n := by omega
  rw [e, if_neg (by rw [List.length_drop]; omega)]
set_option maxRecDepth 100000 in
set_option maxHeartbeats 8000000 in
theorem mText_any (R : Nat) (m : Md) (l : List Int) (p : Nat) (bad : Bool) (w : World) (hl : l.length ≤ 1099511627776) (h : MR w R m l p bad) :
    Calls Tryd.prog 68 #[.pointer (some ⟨R, 0, none⟩)] w fun e w' => ∃ s p' bad', e = .returned (.string s) ∧ Hid (Sim rTxt (rp l p bad) (rp l p' bad') s) ∧ s.size ≤ 255 ∧ Hid (MR w' R m l p' bad') ∧ Only R w w' := by
  have HM := hide h
  clear h
  go_enter Tryd.func68, Tryd.ntmps68
  go_wp2_with fail
  refine (mOne_any R m l p bad _ hl HM.out).mono ?_
  rintro e w1 ⟨y, p1, b1, rfl, hs1, ⟨y0, y1⟩, hr1, o1⟩
  obtain ⟨k, rfl⟩ : ∃ k : Nat, y = k := ⟨y.toNat, by omega⟩
  obtain ⟨g, o, c, h1, h2, ⟨k0, k1, k2⟩, ⟨f1, f2⟩, h3, h4⟩ := hr1.out
  have H1 := hide h1
  obtain ⟨n, hn⟩ : ∃ n, l.length = n := ⟨_, rfl⟩
  have HN := hide hn
  rw [hn] at k0 h2 h4 hl
  clear h1
  cases b1 with
  | true =>
    clear hn h3
    go_wp2
    go_quiet (fail)
    go_wp2
    go_ret
    exact ⟨_, p1, true, rfl, hide (Sim.and hs1.out (Sim.lost _ _)), by decide, hide (hr1.out.drew 1).fault, (o1.trans (Only.drew _ _ _)).trans (Only.set _ _ _ _)⟩
  | false =>
    by_cases hp : n < p1 + k
    · have i1 : (n : Int) < p1 + k := by omega
      clear hn h3
      go_wp2
      go_quiet (fail)
      go_wp2
      go_ret
      exact ⟨_, p1, true, rfl, hide (Sim.and hs1.out (cut_end (by rw [HN.out]; exact hp) (by rw [HN.out]; exact h4))), by decide, hide (hr1.out.drew 1).fault, (o1.trans (Only.drew _ _ _)).trans (Only.set _ _ _ _)⟩
    · have i1 : ¬ (n : Int) < p1 + k := by omega
      have HC := hide (cut_sim (l := l) (p := p1) (n := k) (by omega))
      have HL : Hid (p1 + k ≤ l.length) := hide (by omega)
      have hsz : (bs ((l.drop p1).take k)).size ≤ 255 := by rw [bs_size, List.length_take]; omega
      have HN2 := hide (show l.length - p1 = n - p1 by omega)
      have H3 := hide h3
      have HK : Hid (k ≤ c - p1 ∧ k ≤ (l.drop p1).length) := hide (by rw [List.length_drop]; omega)
      clear hn h3
      have i2 : (p1 : Int) + k - k = p1 := by omega
      by_cases hcp : c = p1
      · obtain rfl : k = 0 := by omega
        obtain rfl : c = n := by omega
        obtain rfl : p1 = c := by omega
        go_wp2
        go_quiet (fail)
        rename_i nq
        have hcv := fun q => conv_text (w := ((w1.drewN nq).setCell ⟨R, 1, none⟩ (.int .i64 p1)).drewN q) (m := m) (g := g) (o := o) (n := 0) (c := 0) (r := []) SlAt.nil
        go_wp2
        go_quiet (fail)
        go_wp2
        go_ret
        exact ⟨_, p1 + 0, false, rfl, hide (Sim.and hs1.out HC.out), hsz, hide (((hr1.out.drew _).goTo HL.out).drew _), ((o1.trans (Only.drew _ _ _)).trans (Only.set _ _ _ _)).trans (Only.drew _ _ _)⟩
      · have hcp' : ¬ (c : Int) = p1 := by omega
        go_wp2
        go_quiet (fail)
        rename_i nq
        have hcv := fun q => conv_text (slat_take (c' := c - p1) (slat_drop (c' := c - p1) (H1.out.same BAt.stays ((((Only.drew R w1 nq).trans (Only.set R 1 _ (.int .i64 (p1 + k)))).trans (Only.drew R _ q)).same H3.out)) p1 (by have := HK.out; have := HN.out; omega)) k HK.out.2 HK.out.1)
        go_wp2
        go_quiet (fail)
        go_wp2
        go_ret
        exact ⟨_, p1 + k, false, rfl, hide (Sim.and hs1.out HC.out), hsz, hide (((hr1.out.drew _).goTo HL.out).drew _), ((o1.trans (Only.drew _ _ _)).trans (Only.set _ _ _ _)).trans (Only.drew _ _ _)⟩
end Go.Proofs.YtpaljmhoojpbdaaDoor

namespace Go.Proofs.YtpaljmhoojpbdaaDoor
open Go.ChangeShapes Go.WideShapes Go.ChangeAt Go.RowKit Go.Deep

/-- A struct's make: its type, its slice's type, how many cells and bytes, its zero, its cells. -/
structure FlatK (D : Type) where
  ty : TypeId
  sl : TypeId
  sz : Nat
  bytes : Nat
  zero : Value
  cs : D → List Value
structure FlatK.Ok {D : Type} (F : FlatK D) : Prop where
  info : (Tryd.prog.info? F.ty).map (fun i => (i.zero, i.size, i.bytes)) = some (some F.zero, F.sz, F.bytes)
  under : Tryd.prog.underlying F.sl = some (.slice F.ty)
  pos : 0 < F.sz
  zsz : F.zero.cells.size = F.sz
  len : ∀ x, (F.cs x).length = F.sz
  by_ : F.bytes ≤ 1024
def FlatK.all {D : Type} (F : FlatK D) (l : List D) : List Value := l.flatMap F.cs
theorem FlatK.all_len {D : Type} {F : FlatK D} (hF : F.Ok) : ∀ l : List D, (F.all l).length = l.length * F.sz
  | [] => by simp [FlatK.all]
  | x :: r => by
    have := FlatK.all_len hF r
    unfold FlatK.all at this ⊢
    rw [List.flatMap_cons, List.length_append, this, hF.len, List.length_cons, Nat.add_mul]
    omega
theorem FlatK.all_app {D : Type} (F : FlatK D) (l r : List D) : F.all (l ++ r) = F.all l ++ F.all r := by unfold FlatK.all; rw [List.flatMap_append]
theorem FlatK.all_at {D : Type} {F : FlatK D} (hF : F.Ok) : ∀ (l : List D) (i : Nat) (h : i < l.length) (j : Nat), j < F.sz → (F.all l)[i * F.sz + j]? = (F.cs l[i])[j]?
  | [], i, h, _, _ => absurd h (by simp)
  | x :: r, 0, _, j, hj => by
    unfold FlatK.all
    rw [List.flatMap_cons, Nat.zero_mul, Nat.zero_add, List.getElem?_append_left (by rw [hF.len]; exact hj)]
    rfl
  | x :: r, i + 1, h, j, hj => by
    have := FlatK.all_at hF r i (by simpa using h) j hj
    unfold FlatK.all at this ⊢
    rw [List.flatMap_cons, List.getElem?_append_right (by rw [hF.len, Nat.add_mul]; omega), hF.len]
    rw [show (i + 1) * F.sz + j - F.sz = i * F.sz + j by rw [Nat.add_mul]; omega, this]
    rfl
def FRow {D : Type} (F : FlatK D) (w : World) (B : Nat) (v : Value) (l : List D) : Prop := w.ownsRow B F.ty F.sz v l.length (F.all l)
theorem FRow.nil {D : Type} (F : FlatK D) (w : World) (B : Nat) : FRow F w B (.slice none 0 0) [] := World.ownsRow_nil _ _ _ _
/-- It goes on where the rows of its own type have not turned. -/
theorem FRow.of_heap {D : Type} {F : FlatK D} {w w' : World} {B : Nat} {v : Value} {l : List D} (h : FRow F w B v l) (hk : ∀ k, B ≤ k → k < w.heap.size → (∃ C, w.heap[k]? = some (.cells C F.ty (0, 0))) → w'.heap[k]? = w.heap[k]?) : FRow F w' B v l := by
  refine ⟨h.1, ?_⟩
  rcases h.2 with h2 | ⟨g, cap, cur, e, hb, hg, r⟩
  · exact .inl h2
  · exact .inr ⟨g, cap, cur, e, hb, (hk g hb (Array.getElem?_eq_some_iff.1 hg).1 ⟨_, hg⟩).trans hg, r⟩
theorem FRow.on {D : Type} {F : FlatK D} {w w' : World} {B : Nat} {v : Value} {l : List D} (h : FRow F w B v l) (bel : Below w.heap.size w w') : FRow F w' B v l := h.of_heap fun k _ hk _ => bel.block k hk
theorem FRow.le {D : Type} {F : FlatK D} {w : World} {B C : Nat} {v : Value} {l : List D} (h : FRow F w B v l) (hc : C ≤ B) : FRow F w C v l := ⟨h.1, h.2.imp id fun ⟨g, cap, cur, e, hb, r⟩ => ⟨g, cap, cur, e, by omega, r⟩⟩
theorem FRow.form {D : Type} {F : FlatK D} {w : World} {B : Nat} {v : Value} {l : List D} (h : FRow F w B v l) : ∃ a c, v = .slice a l.length c := by
  rcases h.2 with ⟨e, e2⟩ | ⟨g, cap, _, e, -⟩
  · exact ⟨none, 0, by rw [e, e2]⟩
  · exact ⟨_, _, e⟩
theorem FRow.one {D : Type} {F : FlatK D} {w : World} {B : Nat} {v : Value} {l : List D} (h : FRow F w B v l) : v.oneCell' = true := by
  obtain ⟨a, c, rfl⟩ := h.form
  rfl
theorem FRow.far {D : Type} {F : FlatK D} {w : World} {B k : Nat} {v : Value} {l : List D} (h : FRow F w B v l) (hk : k < B) : some k ≠ v.ownBlock := fun e => by have := (World.ownsRow.lt h k e.symm).1; omega
theorem FRow.lt {D : Type} {F : FlatK D} {w : World} {B k : Nat} {v : Value} {l : List D} (h : FRow F w B v l) (e : v.ownBlock = some k) : B ≤ k ∧ k < w.heap.size := World.ownsRow.lt h k e
/-- The block that it lies in is of its type. -/
theorem FRow.ty {D : Type} {F : FlatK D} {w : World} {B k : Nat} {v : Value} {l : List D} (h : FRow F w B v l) (e : v.ownBlock = some k) : ∃ C, w.heap[k]? = some (.cells C F.ty (0, 0)) := by
  rcases h.2 with ⟨rfl, -⟩ | ⟨g, cap, cur, rfl, -, hg, -⟩
  · cases e
  · cases e; exact ⟨_, hg⟩
theorem wp_append_flat {D : Type} {F : FlatK D} (hF : F.Ok) {w : World} {ops : Array Oper} {rest : List Oper} {o : Oper} {a : Act} {Q : Exit → Act → World → Prop} (hgd : o.guard = none) (s x : Operand)
    (ho : o.op = .call { callee := .builtin .append, args := #[s, x], argTypes := #[F.sl, F.sl] }) (B : Nat) (v : Value) (l : List D) (hs : a.eval s = v) (hown : FRow F w B v l)
    (b : Nat) (p : D) (hx : a.eval x = .slice (some ⟨b, 0, none⟩) 1 1) (hnews : ∀ j c, (F.cs p)[j]? = some c → w.cell? ((⟨b, 0, none⟩ : Addr).add j) = some c) (hp : ∀ u ∈ F.cs p, u.oneCell' = true) (hb : l.length ≤ 100000000) (hbase : B ≤ w.heap.size)
    (h : ∀ v' w', FRow F w' B v' (l ++ [p]) → w.grownBy w' v.ownBlock → wpList Tryd.prog ops Q rest (a.put o.dst v') w') : wpList Tryd.prog ops Q (o :: rest) a w := by
  obtain ⟨i, hi, hz0, hz1, hz2⟩ := info_parts hF.info
  have hbb := hF.by_
  refine wpList_append_own w hgd s x _ ho B F.ty i F.zero F.sz F.bytes hF.under hi hz0 hz1 hz2 hF.zsz hF.pos v l.length (F.all l) hs hown ⟨b, 0, none⟩ 1 1 (F.cs p) hx (by rw [hF.len, Nat.one_mul]) hnews hp (by unfold maxLen; omega) ?_ hbase fun v' w' h2 h3 _ => ?_
  · have : (l.length + 1) * F.bytes ≤ 100000001 * 1024 := Nat.mul_le_mul (by omega) hbb
    omega
  · refine h v' w' ?_ h3
    unfold FRow
    rw [FlatK.all_app, List.length_append]
    have e : F.all [p] = F.cs p := by unfold FlatK.all; simp
    rw [e]
    exact h2
theorem step_flat {D : Type} {F : FlatK D} (hF : F.Ok) {w : World} {ops : Array Oper} {o : Oper} {a : Act} {K : Act → World → Prop} {Q : Exit → Act → World → Prop} {E : Prop} (hgd : o.guard = none) (s x : Operand)
    (ho : o.op = .call { callee := .builtin .append, args := #[s, x], argTypes := #[F.sl, F.sl] }) (B : Nat) (v : Value) (l : List D) (hs : a.eval s = v) (hown : FRow F w B v l)
    (b : Nat) (p : D) (hx : a.eval x = .slice (some ⟨b, 0, none⟩) 1 1) (hnews : ∀ j c, (F.cs p)[j]? = some c → w.cell? ((⟨b, 0, none⟩ : Addr).add j) = some c) (hp : ∀ u ∈ F.cs p, u.oneCell' = true) (hb : l.length ≤ 100000000) (hbase : B ≤ w.heap.size)
    (h : ∀ g cap w', FRow F w' B (.slice (some ⟨g, 0, none⟩) (l.length + 1) cap) (l ++ [p]) → w.grownBy w' v.ownBlock → K (a.put o.dst (.slice (some ⟨g, 0, none⟩) (l.length + 1) cap)) w') :
    if Region.wanted o (yielded ops a.tmps) = true then Oper.wp Tryd.prog o a w K Q else E := by
  obtain ⟨i, hi, hz0, hz1, hz2⟩ := info_parts hF.info
  have hbb := hF.by_
  refine step_append_lies w hgd s x _ ho B F.ty i F.zero F.sz F.bytes hF.under hi hz0 hz1 hz2 hF.zsz hF.pos v l.length (F.all l) hs hown ⟨b, 0, none⟩ 1 1 (F.cs p) hx (by rw [hF.len, Nat.one_mul]) hnews hp (by decide) (by unfold maxLen; omega) ?_ hbase _ rfl fun g cap w' h2 h3 _ _ => ?_
  · have : (l.length + 1) * F.bytes ≤ 100000001 * 1024 := Nat.mul_le_mul (by omega) hbb
    omega
  · refine h g cap w' ?_ h3
    unfold FRow
    rw [FlatK.all_app, List.length_append]
    have e : F.all [p] = F.cs p := by unfold FlatK.all; simp
    rw [e]
    exact h2
/-- The cells of a struct that has just been laid. -/
theorem flat_new {D : Type} (F : FlatK D) (w : World) (p : D) (C : Array Value) (T : TypeId) (hC : C.toList = F.cs p) {b : Nat} (hb : b = w.heap.size) : ∀ j c, (F.cs p)[j]? = some c → (w.alloc (.cells C T)).cell? ((⟨b, 0, none⟩ : Addr).add j) = some c := by
  subst hb
  intro j c hj
  have h := (heapCells (Deep.blk_alloc_new w (.cells C T))).1 j
  rw [add_plain, Nat.zero_add, h, ← hj, ← hC, Array.getElem?_toList]
/-- Such a row, as the readings of arguments have it. -/
theorem FRow.slat {D : Type} {F : FlatK D} (hF : F.Ok) {E : Elem D} {w : World} {B : Nat} {v : Value} {l : List D} (h : FRow F w B v l) (hE : ∀ x ∈ l, ∀ cf m, (∀ j, j < F.sz → cf j = (F.cs x)[j]?) → E cf w m x) : SlAt E F.sz w ⟨B, w.heap.size, false⟩ v l := by
  by_cases hl : l.length = 0
  · obtain rfl := List.length_eq_zero_iff.1 hl
    rcases h.2 with ⟨e, -⟩ | ⟨g, cap, cur, e, -⟩
    · subst e; exact SlAt.nil
    · subst e; exact SlAt.nil
  · obtain ⟨g, cap, rfl, hg1, hg2⟩ := World.ownsRow.form h (by omega)
    have hc := World.ownsRow.cells (g := g) h rfl
    have hcap : l.length ≤ cap := by
      rcases h.2 with ⟨e, -⟩ | ⟨g', cap', cur, e, -, -, hcap, -⟩
      · cases e
      · cases e; exact hcap
    refine ⟨_, cap, rfl, fun i hi => ⟨g, 0, rfl, ⟨hg1, hcap⟩, hg2, (fun e => by cases e), hE _ (List.getElem_mem hi) _ _ fun j hj => ?_⟩⟩
    have e := FlatK.all_at hF l i hi j hj
    have hjl : j < (F.cs l[i]).length := by have := hF.len (l[i]); omega
    obtain ⟨c, hcj⟩ : ∃ c, (F.cs l[i])[j]? = some c := ⟨(F.cs l[i])[j], List.getElem?_eq_getElem hjl⟩
    have := hc _ c (e.trans hcj)
    rw [add_plain, Nat.zero_add] at this
    rw [Nat.zero_add, hcj]
    exact this
/-- A row whose cell is set. -/
theorem FRow.set {D : Type} {F : FlatK D} {w : World} {B g n c : Nat} {l l' : List D} (h : FRow F w B (.slice (some ⟨g, 0, none⟩) n c) l) (o : Nat) (v : Value) (hl : l'.length = l.length) (ha : F.all l' = (F.all l).set o v) : FRow F (w.setCell ⟨g, o, none⟩ v) B (.slice (some ⟨g, 0, none⟩) n c) l' := by
  obtain ⟨h1, h2⟩ := h
  rcases h2 with ⟨e, -⟩ | ⟨g', cap, cur, e, hb, hg, h3, h4, h5, h6⟩
  · cases e
  · cases e
    refine ⟨by rw [ha, List.length_set, hl]; exact h1, .inr ⟨g, c, cur.setIfInBounds o v, by rw [hl], hb, block_set hg v, by rw [hl]; exact h3, h4, by simpa using h5, ?_⟩⟩
    rw [hl, ha, ← h6, Array.toList_setIfInBounds, List.take_set]
/-- The last is dropped. -/
theorem FRow.pop {D : Type} {F : FlatK D} (hF : F.Ok) {w : World} {B g n c : Nat} {l : List D} {x : D} (h : FRow F w B (.slice (some ⟨g, 0, none⟩) (n + 1) c) (l ++ [x])) : FRow F w B (.slice (some ⟨g, 0, none⟩) n c) l := by
  obtain ⟨h1, h2⟩ := h
  rcases h2 with ⟨e, -⟩ | ⟨g', cap, cur, e, hb, hg, h3, h4, h5, h6⟩
  · cases e
  · have hlen : (l ++ [x]).length = l.length + 1 := by simp
    rw [hlen] at e h3 h6
    cases e
    refine ⟨FlatK.all_len hF l, .inr ⟨g, c, cur, rfl, hb, hg, by omega, h4, h5, ?_⟩⟩
    have := congrArg (List.take (l.length * F.sz)) h6
    have hm : min (l.length * F.sz) ((l.length + 1) * F.sz) = l.length * F.sz := Nat.min_eq_left (by rw [Nat.add_mul]; omega)
    rw [List.take_take, hm, FlatK.all_app, List.take_append_of_le_length (by rw [FlatK.all_len hF]; exact Nat.le_refl _), List.take_of_length_le (l := F.all l) (by rw [FlatK.all_len hF]; exact Nat.le_refl _)] at this
    exact this
end Go.Proofs.YtpaljmhoojpbdaaDoor
