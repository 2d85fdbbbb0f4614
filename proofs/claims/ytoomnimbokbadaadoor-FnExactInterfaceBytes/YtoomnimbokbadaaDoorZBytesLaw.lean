/- FnExactInterfaceBytes: at every interface the program's InterfaceBytes answers as the model's, bytes and code; the answer is memory of its own; the interface reads as it did. Listed: the program's table of words, tied. No other condition. -/
import Derived.Test.YtoomnimbokbadaaDoorZPrintOf
import Derived.Test.YtoomnimbokbadaaDoorZMarkB
import Derived.Test.YtoomnimbokbadaaDoorZMarkF
import Derived.Test.YtoomnimbokbadaaDoorZToFace
import Derived.Test.YtoomnimbokbadaaDoorCards
import Derived.Test.YtoomnimbokbadaaDoorTie
import Derived.LaidMore
import Derived.Lay
import Derived.Stop.Joined
import Derived.SevenTiedAt
namespace Go.Proofs.YtoomnimbokbadaaDoor
open Go.ChangeShapes Go.WideShapes Go.ChangeAt Go.RowKit Go.PlainAid

def ibF (x : Fac) : List Int := if facB x then facBytes x else []
theorem ibF_len (x : Fac) : (ibF x).length ≤ 6000 := by
  unfold ibF
  split
  · exact (facBytes_len ‹_›).1
  · exact Nat.zero_le _
set_option maxHeartbeats 4000000 in
theorem specBytes_any (v : Value) (m : Md) (x : Fac) (w : World) (h : FacAt w m v x) (hm : m.hi ≤ w.heap.size) :
    Calls Tryd.prog 19 #[v] w fun e w' => (∃ u, e = .returned (.tuple #[u, .int .i64 (prC x)]) ∧ Own w' w.heap.size u (ibF x)) ∧ Below w.heap.size w w' := by
  have HI : Hid (∀ w', Below w.heap.size w w' → Calls Tryd.prog 15 #[v] w' fun e w2 => e = .returned (.bool (facB x)) ∧ Below w'.heap.size w' w2) := fun w' bel =>
    (specInterfaceOK_any v m x w' (h.on (bel.mono hm)) (Nat.le_trans hm bel.size)).mono fun _ _ ⟨a, b⟩ => ⟨a, b.below⟩
  have HBy : Hid (facB x = true → ∀ w', Below w.heap.size w w' → Calls Tryd.prog 31 #[v] w' fun e w2 => (∃ u, e = .returned u ∧ Own w2 w'.heap.size u (facBytes x)) ∧ Below w'.heap.size w' w2) := fun hf w' bel =>
    l03Bytes_any v m x w' (h.on (bel.mono hm)) (Nat.le_trans hm bel.size) hf
  obtain ⟨u, rfl, -, -, a, c, rfl, -⟩ := h
  generalize x.items.length = n at *
  cases hfb : facB x with
  | false =>
    have hV : ibF x = [] := by unfold ibF; rw [hfb]; rfl
    have hC : prC x = 1 := by unfold prC; rw [hfb]; rfl
    rw [hV, hC]
    rw [hfb] at HI
    generalize x.module = s at *
    clear hV hC hfb HBy
    go_enter Tryd.func19, Tryd.ntmps19
    go_wp2_with (go_at_call 15; refine (HI.out _ ((Below.refl _ _).alloc (Nat.le_refl _) _)).mono ?_; rintro e w1 ⟨rfl, bel⟩)
    go_ret2
    have hz : w.heap.size ≤ w1.heap.size := by have := bel.size; simp at this; omega
    exact ⟨⟨_, rfl, Own.made w1 w.heap.size [] hz (by unfold maxLen; simp)⟩, (((Below.refl _ _).alloc (Nat.le_refl _) _).trans (bel.mono (by simp))).alloc hz _⟩
  | true =>
    have hV : ibF x = facBytes x := by unfold ibF; rw [hfb]; rfl
    have hC : prC x = 0 := by unfold prC; rw [hfb]; rfl
    have HBy' := hide (HBy.out hfb)
    rw [hV, hC]
    rw [hfb] at HI
    generalize facBytes x = fb at *
    generalize x.module = s at *
    clear hV hC hfb HBy
    go_enter Tryd.func19, Tryd.ntmps19
    go_wp2_with fail
    refine (HI.out _ ((Below.refl _ _).alloc (Nat.le_refl _) _)).mono ?_
    rintro e w1 ⟨rfl, bel⟩
    have b1 : Below w.heap.size w w1 := ((Below.refl _ _).alloc (Nat.le_refl _) _).trans (bel.mono (by simp))
    have k0 := (bel.cell (p := ⟨w.heap.size, 0, none⟩) (by simp)).trans (show _ = some (Value.string s) by simp [go_sem])
    have k1 := (bel.cell (p := ⟨w.heap.size, 1, none⟩) (by simp)).trans (show _ = some (Value.slice a n c) by simp [go_sem])
    clear bel
    go_wp2_with fail
    refine (HBy'.out _ b1).mono ?_
    rintro e w2 ⟨⟨u, rfl, ho⟩, b2⟩
    go_wp2
    go_ret2
    exact ⟨⟨_, rfl, ho.low b1.size⟩, b1.trans (b2.mono b1.size)⟩
theorem implBytes_any' (v : Value) (m : Md) (x : Fac) (w : World) (h : FacAt w m v x) (hm : m.hi ≤ w.heap.size) (t : TypeId) (fr : Nat × Nat) (hg : w.heap[0]? = some (.cells keyRow t fr)) :
    Calls Tryd.prog 9 #[v] w fun e w' => (∃ u, e = .returned (.tuple #[u, .int .i64 (prC x)]) ∧ Own w' w.heap.size u (ibF x)) ∧ Below w.heap.size w w' := implBytes_any v m x w h hm t fr hg
theorem Own.out' {w w' : World} {B lo hi : Nat} {v : Value} {l : List Int} (h : Own w B v l) (k : Out lo hi w w') (hb : hi ≤ B) : Own w' B v l := by
  refine ⟨h.1, ?_⟩
  rcases h.2 with h2 | ⟨g, cap, cur, e, hb', hg, r⟩
  · exact .inl h2
  · exact .inr ⟨g, cap, cur, e, hb', (k.block g (Array.getElem?_eq_some_iff.1 hg).1 (.inr (by omega))).trans hg, r⟩
set_option maxRecDepth 100000 in
set_option maxHeartbeats 16000000 in
theorem bytesLaw_any (x : Fac) (v : Value) (w : World) (h : FacAt w ⟨0, w.heap.size, false⟩ v x) (t : TypeId) (fr : Nat × Nat) (hg : w.heap[0]? = some (.cells keyRow t fr)) :
    Calls Tryd.prog 5 #[v] w fun e w' => e = .returned (.bool true) ∧ Below w.heap.size w w' := by
  obtain ⟨s, hs⟩ : ∃ s, x.module = s := ⟨_, rfl⟩
  obtain ⟨n, hn⟩ : ∃ n, x.items.length = n := ⟨_, rfl⟩
  obtain ⟨fb, hfb⟩ : ∃ fb, ibF x = fb := ⟨_, rfl⟩
  obtain ⟨fc, hfc⟩ : ∃ fc, prC x = fc := ⟨_, rfl⟩
  have hfl : fb.length ≤ 6000 := by rw [← hfb]; exact ibF_len x
  have HSz : Hid (∀ w', Below w.heap.size w w' → Calls Tryd.prog 14 #[v, .int .i64 1048576] w' fun e w2 => (∃ k : Int, e = .returned (.int .i64 k) ∧ (0 ≤ k → Small x)) ∧ Below w'.heap.size w' w2) := fun w' bel => szInterface_any v _ x w' (h.on bel) bel.size
  have HTo : Hid (Small x → ∀ w', Below w.heap.size w w' → Calls Tryd.prog 16 #[v] w' fun e w2 => (∃ a c, e = .returned (.agg #[.string s, .slice a n c]) ∧ Hid (FacAt w2 ⟨w'.heap.size, w2.heap.size, true⟩ (.agg #[.string s, .slice a n c]) x)) ∧ Below w'.heap.size w' w2) := fun hx w' bel => toFace_any v _ x s n hs hn w' hx (h.on bel) bel.size
  have HSp : Hid (∀ w' m u, FacAt w' m u x → m.hi ≤ w'.heap.size → Calls Tryd.prog 19 #[u] w' fun e w2 => (∃ u2, e = .returned (.tuple #[u2, .int .i64 fc]) ∧ Own w2 w'.heap.size u2 fb) ∧ Below w'.heap.size w' w2) := fun w' m u hu hm => (specBytes_any u m x w' hu hm).mono fun _ _ ⟨⟨u2, a, o⟩, b⟩ => ⟨⟨u2, by rw [a, hfc], by rw [← hfb]; exact o⟩, b⟩
  have HIm : Hid (∀ w' m u, Below w.heap.size w w' → FacAt w' m u x → m.hi ≤ w'.heap.size → Calls Tryd.prog 9 #[u] w' fun e w2 => (∃ u2, e = .returned (.tuple #[u2, .int .i64 fc]) ∧ Own w2 w'.heap.size u2 fb) ∧ Below w'.heap.size w' w2) := fun w' m u bel hu hm =>
    (implBytes_any' u m x w' hu hm t fr ((bel.block 0 (Array.getElem?_eq_some_iff.1 hg).1).trans hg)).mono fun _ _ ⟨⟨u2, a, o⟩, b⟩ => ⟨⟨u2, by rw [a, hfc], by rw [← hfb]; exact o⟩, b⟩
  obtain ⟨u, rfl, -, -, a, c, rfl, -⟩ := h
  rw [hs, hn] at HSz HTo ⊢
  clear hs hn hfb hfc hg
  go_enter Tryd.func5, Tryd.ntmps5
  go_wp2_with fail
  refine (HSz.out _ ((Below.refl _ _).alloc (Nat.le_refl _) _)).mono ?_
  rintro e w1 ⟨⟨k, rfl, hk⟩, b1⟩
  have hb1 : Below w.heap.size w w1 := ((Below.refl _ _).alloc (Nat.le_refl _) _).trans (b1.mono (by simp))
  have hz1 : w.heap.size < w1.heap.size := by have := b1.size; simp at this; omega
  have HK := hide hk
  have k0 := (b1.cell (p := ⟨w.heap.size, 0, none⟩) (by simp)).trans (show _ = some (Value.string s) by simp [go_sem])
  have k1 := (b1.cell (p := ⟨w.heap.size, 1, none⟩) (by simp)).trans (show _ = some (Value.slice a n c) by simp [go_sem])
  clear b1 hk
  by_cases hk0 : k < 0
  · go_wp2
    go_ret
    exact ⟨rfl, hb1⟩
  · have HSm := hide (HK.out (by omega))
    go_wp2_with fail
    refine (HTo.out HSm.out _ hb1).mono ?_
    rintro e w2 ⟨⟨a2, c2, rfl, HF2⟩, b2⟩
    go_wp2_with fail
    refine (HSp.out _ _ _ HF2.out (Nat.le_refl _)).mono ?_
    rintro e w3 ⟨⟨u0, rfl, hu0⟩, b3⟩
    have HU0 := hide hu0
    have hb3 : Below w1.heap.size w1 w3 := b2.trans (b3.mono b2.size)
    have l0 := (hb3.cell (p := ⟨w.heap.size, 0, none⟩) hz1).trans k0
    have l1 := (hb3.cell (p := ⟨w.heap.size, 1, none⟩) hz1).trans k1
    have hbw3 := hb1.trans (hb3.mono hb1.size)
    have hz3 : w.heap.size < w3.heap.size := Nat.lt_of_lt_of_le hz1 hb3.size
    clear b2 b3 k0 k1 hb3 hu0
    go_wp2_with fail
    refine (HTo.out HSm.out _ hbw3).mono ?_
    rintro e w4 ⟨⟨a4, c4, rfl, HF4⟩, b4⟩
    have m0 := (b4.cell (p := ⟨w.heap.size, 0, none⟩) hz3).trans l0
    have m1 := (b4.cell (p := ⟨w.heap.size, 1, none⟩) hz3).trans l1
    have hbw4 := hbw3.trans (b4.mono hbw3.size)
    have hz4 : w.heap.size < w4.heap.size := Nat.lt_of_lt_of_le hz3 b4.size
    clear l0 l1
    go_wp2_with fail
    refine (HIm.out _ _ _ (hbw4.alloc hbw4.size _) (HF4.out.on ((Below.refl _ _).alloc (Nat.le_refl _) _)) (by simp)).mono ?_
    rintro e w5 ⟨⟨u5, rfl, hu5⟩, b5⟩
    obtain ⟨a5, c5, rfl, -⟩ := hu5.at
    have HU5 := hide (hu5.low (B' := w4.heap.size) (by simp))
    have n0 := (b5.cell (p := ⟨w.heap.size, 0, none⟩) (by simp; omega)).trans ((Below.cell ((Below.refl _ w4).alloc (Nat.le_refl _) _) (p := ⟨w.heap.size, 0, none⟩) hz4).trans m0)
    have n1 := (b5.cell (p := ⟨w.heap.size, 1, none⟩) (by simp; omega)).trans ((Below.cell ((Below.refl _ w4).alloc (Nat.le_refl _) _) (p := ⟨w.heap.size, 1, none⟩) hz4).trans m1)
    have p0 := (b5.cell (p := ⟨w4.heap.size, 0, none⟩) (by simp)).trans (show _ = some (Value.string s) by simp [go_sem])
    have p1 := (b5.cell (p := ⟨w4.heap.size, 1, none⟩) (by simp)).trans (show _ = some (Value.slice a4 n c4) by simp [go_sem])
    have h45 : Below w4.heap.size w4 w5 := ((Below.refl _ _).alloc (Nat.le_refl _) _).trans (b5.mono (by simp))
    have hbw5 := hbw4.trans (h45.mono hbw4.size)
    have h35 : Below w3.heap.size w3 w5 := b4.trans (h45.mono b4.size)
    have hz5 : w4.heap.size < w5.heap.size := by have := b5.size; simp at this; omega
    have HF5 := hide (HF4.out.on h45)
    clear m0 m1 b5 hu5
    go_wp2_with fail
    refine (eqByteS_same _ _ _ _ fb _ (by omega) HU5.out (HU0.out.on h35)).mono ?_
    rintro e w6 ⟨rfl, b6⟩
    have n0' := (b6.cell (p := ⟨w.heap.size, 0, none⟩) (by show w.heap.size < w5.heap.size; omega)).trans n0
    have n1' := (b6.cell (p := ⟨w.heap.size, 1, none⟩) (by show w.heap.size < w5.heap.size; omega)).trans n1
    have p0' := (b6.cell (p := ⟨w4.heap.size, 0, none⟩) hz5).trans p0
    have p1' := (b6.cell (p := ⟨w4.heap.size, 1, none⟩) hz5).trans p1
    have hz6 : w4.heap.size < w6.heap.size := Nat.lt_of_lt_of_le hz5 b6.size
    have h46 := h45.trans (b6.mono (Nat.le_of_lt hz5))
    have h36 := h35.trans (b6.mono h35.size)
    have hbw6 := hbw5.trans (b6.mono hbw5.size)
    have HF6 := hide (HF5.out.on (b6.mono (Nat.le_of_lt hz5)))
    have HU6 := hide (HU5.out.on b6)
    clear n0 n1 p0 p1 b6
    go_wp2
    go_region_with (first
      | (go_at_call 16; refine (HTo.out HSm.out _ hbw6.drew).mono ?_; rintro e w7 ⟨⟨a7, c7, rfl, HF7⟩, b7⟩; have q0 := (b7.cell (p := ⟨w4.heap.size, 0, none⟩) hz6).trans p0'; have q1 := (b7.cell (p := ⟨w4.heap.size, 1, none⟩) hz6).trans p1')
      | (go_at_call 18; refine (eqInterface_same _ _ _ _ x _ (HF6.out.on (Below.trans ((Below.refl _ _).drew) b7 |>.mono (Nat.le_of_lt hz6))) HF7.out (Nat.le_trans (Nat.le_of_lt hz6) b7.size) (Nat.le_refl _)).mono ?_; rintro e w8 ⟨rfl, b8⟩))
    all_goals
      have h68 : Below w6.heap.size w6 w8 := ((Below.refl _ _).drew).trans (b7.trans (b8.mono b7.size))
      have r0 := (h68.cell (p := ⟨w4.heap.size, 0, none⟩) hz6).trans p0'
      have r1 := (h68.cell (p := ⟨w4.heap.size, 1, none⟩) hz6).trans p1'
      have s0 := (h68.cell (p := ⟨w.heap.size, 0, none⟩) (by show w.heap.size < w6.heap.size; omega)).trans n0'
      have s1 := (h68.cell (p := ⟨w.heap.size, 1, none⟩) (by show w.heap.size < w6.heap.size; omega)).trans n1'
      have hbw8 := hbw6.trans (h68.mono hbw6.size)
      have h38 := h36.trans (h68.mono h36.size)
      have h48 := h46.trans (h68.mono h46.size)
      have HU8 := hide (HU6.out.on h68)
      have HF8 := hide (HF6.out.on (h68.mono (Nat.le_of_lt hz6)))
      clear b7 b8 h68 p0' p1' n0' n1'
      go_wp2_with fail
      refine (markInterface_any _ _ x _ rfl HSm.out h48.size HF8.out).mono ?_
      rintro e w9 ⟨⟨K, rfl, hK⟩, o9⟩
      have hK' : ¬ K < 0 := by omega
      have h39 : Below w3.heap.size w3 w9 := h38.trans (o9.below h38.size)
      have HU9 := hide (HU8.out.out' o9 (Nat.le_refl _))
      have t0 := ((o9.below h38.size).cell (p := ⟨w.heap.size, 0, none⟩) hz3).trans s0
      have t1 := ((o9.below h38.size).cell (p := ⟨w.heap.size, 1, none⟩) hz3).trans s1
      clear hK s0 s1 r0 r1
      go_wp2_with fail
      refine (eqByteS_same _ _ _ _ fb _ (by omega) HU9.out (HU0.out.on h39)).mono ?_
      rintro e w10 ⟨rfl, b10⟩
      have h310 := h39.trans (b10.mono h39.size)
      have HU10 := hide (HU9.out.on b10)
      obtain ⟨a10, c10, e10, hb10⟩ := HU10.out.at
      cases e10
      have HB10 := hide hb10
      have t0' := (b10.cell (p := ⟨w.heap.size, 0, none⟩) (by show w.heap.size < w9.heap.size; have := h39.size; omega)).trans t0
      have t1' := (b10.cell (p := ⟨w.heap.size, 1, none⟩) (by show w.heap.size < w9.heap.size; have := h39.size; omega)).trans t1
      have z1 : ¬ 1 + (fb.length : Int) < 0 := by omega
      clear b10 hb10 t0 t1
      go_wp2_with fail
      refine (markByteS_any w4.heap.size _ _ fb _ (by omega) HB10.out).mono ?_
      rintro e w11 ⟨rfl, hm11, b11⟩
      have HM11 := hide hm11
      have h311 := h310.trans (b11.mono b4.size)
      have v0 := (b11.cell (p := ⟨w.heap.size, 0, none⟩) hz4).trans t0'
      have v1 := (b11.cell (p := ⟨w.heap.size, 1, none⟩) hz4).trans t1'
      clear hm11 b11 t0' t1'
      go_wp2_with fail
      refine (heldByteS_any w4.heap.size _ _ fb.length _ (by omega) HM11.out).mono ?_
      rintro e w12 ⟨rfl, b12⟩
      have h312 := h311.trans (b12.mono h311.size)
      have HM12 := hide (HM11.out.on b12)
      have x0 := (b12.cell (p := ⟨w.heap.size, 0, none⟩) (by show w.heap.size < w11.heap.size; have := h311.size; omega)).trans v0
      have x1 := (b12.cell (p := ⟨w.heap.size, 1, none⟩) (by show w.heap.size < w11.heap.size; have := h311.size; omega)).trans v1
      clear b12 v0 v1
      go_wp2_with fail
      refine (HTo.out HSm.out _ (hbw3.trans (h312.mono hbw3.size))).mono ?_
      rintro e w13 ⟨⟨a13, c13, rfl, HF13⟩, b13⟩
      have h313 := h312.trans (b13.mono h312.size)
      have HM13 := hide (HM12.out.on b13)
      go_wp2_with fail
      refine (HIm.out _ _ _ (hbw3.trans (h313.mono hbw3.size)) HF13.out (Nat.le_refl _)).mono ?_
      rintro e w14 ⟨⟨u14, rfl, hu14⟩, b14⟩
      have h314 := h313.trans (b14.mono h313.size)
      have HM14 := hide (HM13.out.on b14)
      have HU14 := hide hu14
      clear hu14
      go_wp2_with fail
      refine (eqByteS_same _ _ _ _ fb _ (by omega) HU14.out (HU0.out.on h314)).mono ?_
      rintro e w15 ⟨rfl, b15⟩
      have h315 := h314.trans (b15.mono h314.size)
      have HM15 := hide (HM14.out.on b15)
      go_wp2_with fail
      refine (heldByteS_any w4.heap.size _ _ fb.length _ (by omega) HM15.out).mono ?_
      rintro e w16 ⟨rfl, b16⟩
      go_wp2
      go_ret
      exact ⟨rfl, hbw3.trans ((h315.trans (b16.mono h315.size)).mono hbw3.size)⟩
theorem fnExactInterfaceBytes_plainList : (Rows.fnExactInterfaceBytesRow.laid.filter fun x => x.2.handleName?.isNone) = Rows.fnExactInterfaceBytesRow.laid := by kernel_rfl
theorem fnExactInterfaceBytes_core (x : Fac) (v : Value) (w : World) (h : FacAt w ⟨0, w.heap.size, false⟩ v x) (hL : laidMetH Tryd.prog Rows.fnExactInterfaceBytesRow.laid w) : Calls Tryd.prog 5 #[v] w fun e w' => e = .returned (.bool true) ∧ Below w.heap.size w w' := by
  obtain ⟨t, fr, hg⟩ := row_of_laid (zs := keys) (name := "loop.example/g00168/impl.keyWords") hL fnExactInterfaceBytes_plainList (by rw [← keys_laid]; simp [Rows.fnExactInterfaceBytesRow]) gKeys gKeysType Tryd.underlying100 Tryd.underlying9 (by kernel_rfl) (by kernel_rfl)
  exact bytesLaw_any x v w h t fr hg

theorem fnExactInterfaceBytes_door (os : Os) (args : Array Value) : laidMetH Tryd.prog Rows.fnExactInterfaceBytesRow.laid ((World.doorLaid Tryd.prog 400 os).forCall (fun _ _ => 0) ⟨#[], args, []⟩).memory :=
  laidMetH_of_parts3 (fuel := 8) (laidMet_of_run' 8 (by kernel_rfl) (by kernel_rfl)) (by kernel_rfl) (by kernel_rfl)

set_option maxRecDepth 100000 in
theorem fnExactInterfaceBytes_lifted (os : Os) (started : os.Started) (H : Type) (enc : TypeId × Value → H) :
    ReturnsInHanded {} Tryd.checked os 5 .any (fun w args => (Rows.fnExactInterfaceBytesSpec.pre enc Tryd.prog Tryd.f5 [] false w args ∧ laidMetH Tryd.prog Rows.fnExactInterfaceBytesRow.laid w) ∧ sizedMet enc Tryd.prog Tryd.f5 (OpenSpec.ofChange Rows.fnExactInterfaceBytesSpec) false w args)
      (Rows.fnExactInterfaceBytesSpec.post enc Tryd.prog Tryd.f5 false true false false) := by
  refine returnsInHanded_of_change_and (C := Tryd.checked) (X := fun w _ => laidMetH Tryd.prog Rows.fnExactInterfaceBytesRow.laid w) (fun _ _ _ hh h => h.of_heap hh) (show ownKnob Tryd.prog.godebug = none by kernel_rfl) started (by kernel_rfl) Tryd.func5
    (ChangeSpec.witness_shaped (enc := enc) (C := Tryd.checked) (os := os) (X := fun w _ => laidMetH Tryd.prog Rows.fnExactInterfaceBytesRow.laid w) false (World.doorLaid Tryd.prog 400 os) #[.agg #[.string ByteArray.empty, .slice none 0 0]] 8 rfl (World.shaped_of_RefB (by kernel_rfl) (by kernel_rfl)) (by kernel_rfl) (by kernel_rfl) (by kernel_rfl) (fnExactInterfaceBytes_door os _)) ?_
  intro W base args ds gs before hval0 hW _ _ hL _
  have hval : ∀ (j : Nat) t v, Tryd.f5.params[j]? = some t → args[j]? = some v → Value.okWide Tryd.prog W .any base t v := hval0
  have hW' := hW
  obtain ⟨p, q, hA0, hV, rfl, hfz, hnd⟩ := hW
  have hA : DataW.TrodAll enc Tryd.prog W 0 (fun _ => true) true Tryd.f5.params.toList args.toList ds p := hA0
  rw [Tryd.params5] at hA hval
  obtain ⟨v0, d0, rfl, rfl, h0⟩ := trodAll_one hA
  have hgl := vars_len hV
  obtain ⟨g0, rfl⟩ : ∃ g0, gs = [g0] := by
    match gs, hgl with
    | [g0], _ => exact ⟨_, rfl⟩
  obtain ⟨a0, b0⟩ := open_face (hval 0 37 v0 rfl rfl) h0
  clear hA0 hval0
  refine (fnExactInterfaceBytes_core a0 v0 W b0 hL).mono fun e W' ⟨he, bel⟩ => ?_
  subst he
  exact ⟨_, rfl, law_post (show laidOutB Tryd.prog = true by kernel_rfl) (by kernel_rfl) (by kernel_rfl) rfl Tryd.underlying4 hW' rfl bel⟩

theorem fnExactInterfaceBytes_holds : Rows.FnExactInterfaceBytesSaid :=
  OpenClaim.holds_of_wide 5 Tryd.f5 rfl rfl rfl rfl rfl rfl rfl ⟨rfl, rfl, rfl, rfl, rfl⟩ rfl rfl rfl rfl rfl (by kernel_rfl) Tryd.func5 (by kernel_rfl)
    (of_decide_eq_true (by kernel_rfl)) (by unfold Func.isWrapper; first | (rw [if_pos (by decide +kernel)]; kernel_rfl) | (rw [if_neg (by decide +kernel)]; exact ⟨rfl, rfl⟩))
    (fun os started H enc _ => fnExactInterfaceBytes_lifted os started H enc)
#print axioms fnExactInterfaceBytes_holds

theorem fnExactInterfaceBytes_plain (f : FuncId) (fn : Func) (hf : Tryd.pinned.checked.prog.funcNamed "loop.example/g00168/laws.FnExactInterfaceBytes" = some f) (hfn : Tryd.pinned.checked.prog.funcs[f]? = some fn) :
    false = Tryd.pinned.checked.prog.looks [] ∧ ∀ (j : Nat) t, fn.params[j]? = some t → Tryd.pinned.checked.prog.wantsStandIn t = false := by
  obtain rfl : f = 5 := Option.some.inj ((show Tryd.prog.funcNamed "loop.example/g00168/laws.FnExactInterfaceBytes" = some 5 by kernel_rfl).symm.trans hf) |>.symm
  obtain rfl : fn = Tryd.f5 := (Option.some.inj (Tryd.func5.symm.trans hfn)).symm
  refine ⟨by kernel_rfl, fun j t ht => ?_⟩
  rw [Tryd.params5] at ht
  have hm : t ∈ [37] := by
    have hm0 := Array.mem_of_getElem? ht
    simpa using hm0
  have hall : ([37].all fun u => !Tryd.prog.wantsStandIn u) = true := by kernel_rfl
  exact (show Tryd.prog.wantsStandIn t = false by simpa using List.all_eq_true.1 hall t hm)

theorem fnExactInterfaceBytes_card : Rows.FnExactInterfaceBytesCardSaid :=
  Claim7.holds_tied_plain_at .later [] _ _ _ _ fnExactInterfaceBytes_holds (fun _ h => by cases h) (by kernel_rfl) (fun _ h => by cases h) fnExactInterfaceBytes_row_tie rfl ⟨rfl, rfl⟩ (by kernel_rfl) rfl fnExactInterfaceBytes_plain (by kernel_rfl)
#print axioms fnExactInterfaceBytes_card

end Go.Proofs.YtoomnimbokbadaaDoor
