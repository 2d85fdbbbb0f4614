/- An argument's bytes: read, and copied by the law's own way. No condition. -/
import Derived.Test.YtoodadepafghhaaGreatDoorZHelN
import Derived.Test.YtoodadepafghhaaGreatDoorZHelP
import Derived.Test.YtoodadepafghhaaGreatDoorZRdO5
import Derived.Test.YtoodadepafghhaaGreatDoorZByt
import Derived.BigQuiet
import Derived.Deep.QuietTactic
/- The law's marks in the object that ReadObject answered. No condition. -/
namespace Go.Proofs.YtoodadepafghhaaGreatDoor
open Go.ChangeShapes Go.WideShapes Go.ChangeAt Go.RowKit Go.Deep

theorem FRow.fal {D : Type} {F : FlatK D} (hF : F.Ok) {w : World} {B : Nat} {v : Value} {l : List D} (h : FRow F w B v l) : FAl w B v l.length F.sz := by
  by_cases hl : l.length = 0
  · obtain ⟨a, c, e⟩ := h.form
    exact ⟨a, c, e, fun j hj => by omega⟩
  · rcases h.2 with ⟨-, e⟩ | ⟨G, cap, cur, rfl, hb, hG, -⟩
    · exact absurd e hl
    · have hc := World.ownsRow.cells (g := G) h rfl
      refine ⟨_, cap, rfl, fun j hj => ⟨G, rfl, rfl, hb, fun q hq => ?_⟩⟩
      have e := FlatK.all_at hF l j hj q hq
      have hql : q < (F.cs l[j]).length := by rw [hF.len]; exact hq
      rw [List.getElem?_eq_getElem hql] at e
      have := hc _ _ e
      rw [add_plain, Nat.zero_add] at this
      exact ⟨⟨_, this⟩, (heapCells hG).2 _⟩
/-- Rows of different types lie in different blocks. -/
theorem FRow.apart {D D' : Type} {F : FlatK D} {G : FlatK D'} {w : World} {B B' : Nat} {v v' : Value} {l : List D} {l' : List D'} (h : FRow F w B v l) (k : FRow G w B' v' l') (hne : F.ty ≠ G.ty) : ∀ g, v.ownBlock = some g → ¬ v'.ownBlock = some g := by
  intro g e e'
  obtain ⟨C, hC⟩ := h.ty e
  obtain ⟨C', hC'⟩ := k.ty e'
  rw [hC] at hC'
  have := congrArg (fun o : Option Obj => match o with | some (.cells _ T _) => T | _ => 0) hC'
  exact hne this
theorem CRow.cal {w : World} {B : Nat} {v : Value} {L : List CV} (h : CRow w B v L) : CAl w B v L := by
  obtain ⟨a, c, rfl, hj⟩ := h.1.fal codeOk
  refine ⟨a, c, rfl, fun i hi => ?_⟩
  obtain ⟨G, rfl, ho, hb, ha⟩ := hj i hi
  have hp := h.2.1 _ (List.getElem_mem hi)
  refine ⟨G, rfl, ha, ?_, hp.1.fal insOk, fun g hg e => ?_⟩
  · have hc := World.ownsRow.cells (g := G) h.1 rfl
    have e : (codeK.all L)[i * 5 + 4]? = some L[i].2 := FlatK.all_at codeOk L i hi 4 (by decide)
    have := hc _ _ e
    rw [add_plain, Nat.zero_add] at this
    exact this
  · subst e
    exact h.1.apart hp.1 (by decide) g ho hg
/-- The blocks of an object's rows. -/
def OS (u2 u3 u4 : Value) (L : List CV) (k : Nat) : Prop := u2.ownBlock = some k ∨ u3.ownBlock = some k ∨ CS u4 L k
def oAt (n2 n3 : Nat) (L : List CV) : Int := cAt L (1 + 2 * (n2 : Int) + 2 * (n3 : Int)) L.length
/-- An object's rows, there to be marked. -/
structure OA (w : World) (B : Nat) (u2 u3 u4 : Value) (n2 n3 : Nat) (L : List CV) : Prop where
  a2 : FAl w B u2 n2 2
  a3 : FAl w B u3 n3 2
  a4 : CAl w B u4 L
  d23 : ∀ g, u2.ownBlock = some g → ¬ u3.ownBlock = some g
  d24 : ∀ g, u2.ownBlock = some g → ¬ CS u4 L g
  d34 : ∀ g, u3.ownBlock = some g → ¬ CS u4 L g
  lt : ∀ k, OS u2 u3 u4 L k → B ≤ k ∧ k < w.heap.size
  m2 : n2 ≤ 255
  m3 : n3 ≤ 255
  m4 : L.length ≤ 255
  mi : ∀ p ∈ L, p.1.list.length ≤ 65535
  ap : L.Pairwise fun a b => ∀ k, a.2.ownBlock = some k → b.2.ownBlock ≠ some k
theorem ObRow.oa {w : World} {B : Nat} {u2 u3 u4 : Value} {x : ObjectD} {L : List CV} (h : ObRow w B u2 u3 u4 x L) (hn : ONum x) : OA w B u2 u3 u4 x.needs.length x.globals.length L := by
  obtain ⟨-, -, m2, m3, m4, -, -, -⟩ := hn
  obtain ⟨h2, h3, h4, h5⟩ := h
  refine ⟨h2.fal needOk, h3.fal globOk, h4.cal, h2.apart h3 (by decide), fun g e => ?_, fun g e => ?_, fun k e => ?_, m2, m3, ?_, fun p hp => (h4.2.1 p hp).2.2.2.2.2.1, h4.2.2⟩
  · rintro (e' | ⟨p, hp, e'⟩)
    · exact h2.apart h4.1 (by decide) g e e'
    · exact h2.apart (h4.2.1 p hp).1 (by decide) g e e'
  · rintro (e' | ⟨p, hp, e'⟩)
    · exact h3.apart h4.1 (by decide) g e e'
    · exact h3.apart (h4.2.1 p hp).1 (by decide) g e e'
  · rcases e with e | e | e | ⟨p, hp, e⟩
    · exact h2.lt e
    · exact h3.lt e
    · exact h4.1.lt e
    · exact (h4.2.1 p hp).1.lt e
  · have := congrArg List.length h5
    rw [List.length_map] at this
    omega
/-- .. marked. -/
def MkO (w : World) (u2 u3 u4 : Value) (n2 n3 : Nat) (L : List CV) : Prop := FMk w u2 n2 2 needMs 1 ∧ FMk w u3 n3 2 globalMs (1 + 2 * (n2 : Int)) ∧ MkC w u4 L (1 + 2 * (n2 : Int) + 2 * (n3 : Int))
theorem MkO.on {w w' : World} {u2 u3 u4 : Value} {n2 n3 : Nat} {L : List CV} (h : MkO w u2 u3 u4 n2 n3 L) (bel : Below w.heap.size w w') : MkO w' u2 u3 u4 n2 n3 L :=
  ⟨h.1.on (S := fun _ => False) (Tch.of_below bel) fun _ _ e => e, h.2.1.on (S := fun _ => False) (Tch.of_below bel) fun _ _ e => e, h.2.2.on bel⟩
theorem MkO.tch {S : Nat → Prop} {w w' : World} {u2 u3 u4 : Value} {n2 n3 : Nat} {L : List CV} (h : MkO w u2 u3 u4 n2 n3 L) (t : Tch S w w') (hs : ∀ k, OS u2 u3 u4 L k → ¬ S k) : MkO w' u2 u3 u4 n2 n3 L :=
  ⟨h.1.on t fun g e => hs g (.inl e), h.2.1.on t fun g e => hs g (.inr (.inl e)), h.2.2.tch t fun g e => hs g (.inr (.inr e))⟩
set_option maxHeartbeats 8000000 in
theorem markObject_mk (s : ByteArray) (pr : Int) (u2 u3 u4 : Value) (n2 n3 : Nat) (L : List CV) (B : Nat) (w : World) (h : OA w B u2 u3 u4 n2 n3 L) :
    Calls Tryz.prog 18 #[.agg #[.string s, .int .i64 pr, u2, u3, u4], .int .i64 1] w fun e w' => e = .returned (.int .i64 (oAt n2 n3 L)) ∧ MkO w' u2 u3 u4 n2 n3 L ∧ Tch (OS u2 u3 u4 L) w w' := by
  have H := hide h
  obtain ⟨⟨a2, c2, rfl, -⟩, ⟨a3, c3, rfl, -⟩, ⟨a4, c4, rfl, -⟩, -, -, -, -, m2, m3, -, -, -⟩ := h
  obtain ⟨n4, hn4⟩ : ∃ k, L.length = k := ⟨_, rfl⟩
  have HN := hide hn4
  rw [hn4] at H ⊢
  clear hn4
  obtain ⟨w0, hw0⟩ : ∃ w0, w0 = w.alloc (.cells #[.string s, .int .i64 pr, .slice a2 n2 c2, .slice a3 n3 c3, .slice a4 n4 c4] 44) := ⟨_, rfl⟩
  have b0 : Below w.heap.size w w0 := by rw [hw0]; exact (Below.refl _ _).alloc (Nat.le_refl _) _
  have hX : w0.heap[w.heap.size]? = some (.cells #[.string s, .int .i64 pr, .slice a2 n2 c2, .slice a3 n3 c3, .slice a4 n4 c4] 44 (0, 0)) := by rw [hw0]; exact Deep.blk_alloc_new w _
  have T0 := hide (Tch.of_below (S := fun _ => False) b0)
  have f3 : Hid (w0.cell? ⟨w.heap.size, 3, none⟩ = some (.slice a3 n3 c3)) := hide ((heapCells hX).1 3)
  have f4 : Hid (w0.cell? ⟨w.heap.size, 4, none⟩ = some (.slice a4 n4 c4)) := hide ((heapCells hX).1 4)
  have hlt : Hid (¬ OS (.slice a2 n2 c2) (.slice a3 n3 c3) (.slice a4 n4 c4) L w.heap.size) := hide fun e => Nat.lt_irrefl _ (H.out.lt _ e).2
  clear b0 hX
  go_enter Tryz.func18, Tryz.ntmps18
  go_wp2_with fail
  rw [← hw0]
  clear hw0
  refine (markNeedS_mk B _ n2 1 w0 (by omega) (by omega) (by omega) (H.out.a2.on T0.out)).mono ?_
  rintro e w1 ⟨rfl, k2, t1⟩
  have K2 := hide k2
  have T1 := hide t1
  have g3 := t1.cell (fun e => hlt.out (.inl e)) f3.out
  have G4 := hide (t1.cell (fun e => hlt.out (.inl e)) f4.out)
  clear k2 t1
  go_wp2_with fail
  refine (markGlobalS_mk B _ n3 (1 + 2 * (n2 : Int)) w1 (by omega) (by omega) (by omega) ((H.out.a3.on T0.out).on T1.out)).mono ?_
  rintro e w2 ⟨rfl, k3, t2⟩
  have K3 := hide k3
  have T2 := hide t2
  have g4 := t2.cell (fun e => hlt.out (.inr (.inl e))) G4.out
  have A4 := hide (((H.out.a4.tch T0.out (fun _ _ e => e)).tch T1.out (fun k e e' => H.out.d24 k e' (.inl e))).tch t2 (fun k e e' => H.out.d34 k e' (.inl e)))
  clear k3 t2 g3
  have hmc := markCodeS_mk (.slice a4 n4 c4) B L (1 + 2 * (n2 : Int) + 2 * (n3 : Int)) w2 H.out.m4 H.out.mi (by omega) (by omega) A4.out H.out.ap
  have HMC := hide hmc
  clear hmc
  go_wp2_with fail
  refine HMC.out.mono ?_
  rintro e w3 ⟨rfl, k4, t3⟩
  have K4 := hide k4
  have T3 := hide t3
  clear k4 t3 g4
  go_wp2
  go_ret
  refine ⟨rfl, ⟨(K2.out.on T2.out fun g e => H.out.d23 g e).on T3.out fun g e => H.out.d24 g e, K3.out.on T3.out fun g e => H.out.d34 g e, K4.out⟩, ?_⟩
  exact (T0.out.wid fun _ e => e.elim).trans ((T1.out.wid fun _ e => .inl e).trans ((T2.out.wid fun _ e => .inr (.inl e)).trans (T3.out.wid fun _ e => .inr (.inr e))))
theorem oAt_bound {n2 n3 : Nat} {L : List CV} (m2 : n2 ≤ 255) (m3 : n3 ≤ 255) (m4 : L.length ≤ 255) (hp : ∀ p ∈ L, p.1.list.length ≤ 65535) : 0 ≤ oAt n2 n3 L ∧ oAt n2 n3 L ≤ 1000000000 := by
  have := cAt_bound (K := 1 + 2 * (n2 : Int) + 2 * (n3 : Int)) hp L.length (Nat.le_refl _)
  unfold oAt
  omega
set_option maxHeartbeats 8000000 in
theorem heldObject_mk (s : ByteArray) (pr : Int) (u2 u3 u4 : Value) (n2 n3 : Nat) (L : List CV) (w : World) (m2 : n2 ≤ 255) (m3 : n3 ≤ 255) (m4 : L.length ≤ 255) (hp : ∀ p ∈ L, p.1.list.length ≤ 65535) (h : MkO w u2 u3 u4 n2 n3 L) :
    Calls Tryz.prog 24 #[.agg #[.string s, .int .i64 pr, u2, u3, u4], .int .i64 1] w fun e w' => e = .returned (.int .i64 (oAt n2 n3 L)) ∧ Below w.heap.size w w' := by
  have HC : Hid (∀ w', Below w.heap.size w w' → Calls Tryz.prog 62 #[u4, .int .i64 (1 + 2 * (n2 : Int) + 2 * (n3 : Int))] w' fun e w2 => e = .returned (.int .i64 (oAt n2 n3 L)) ∧ Below w'.heap.size w' w2) := hide fun w' bel => heldCodeS_mk u4 L (1 + 2 * (n2 : Int) + 2 * (n3 : Int)) w' m4 hp (by omega) (by omega) (h.on bel).2.2
  have hK := oAt_bound m2 m3 m4 hp
  have H := hide h
  obtain ⟨⟨a2, c2, rfl, -⟩, ⟨a3, c3, rfl, -⟩, ⟨a4, c4, rfl, -⟩⟩ := h
  generalize oAt n2 n3 L = K at *
  obtain ⟨n4, hn4⟩ : ∃ k, L.length = k := ⟨_, rfl⟩
  rw [hn4] at H HC ⊢
  clear hn4 m4
  obtain ⟨w0, hw0⟩ : ∃ w0, w0 = w.alloc (.cells #[.string s, .int .i64 pr, .slice a2 n2 c2, .slice a3 n3 c3, .slice a4 n4 c4] 44) := ⟨_, rfl⟩
  have b0 : Below w.heap.size w w0 := by rw [hw0]; exact (Below.refl _ _).alloc (Nat.le_refl _) _
  have hX : w0.heap[w.heap.size]? = some (.cells #[.string s, .int .i64 pr, .slice a2 n2 c2, .slice a3 n3 c3, .slice a4 n4 c4] 44 (0, 0)) := by rw [hw0]; exact Deep.blk_alloc_new w _
  have HX := hide hX
  have hs0 : w.heap.size < w0.heap.size := (Array.getElem?_eq_some_iff.1 hX).1
  have i1 : ¬ (1 + 2 * (n2 : Int)) < 0 := by omega
  have i2 : ¬ (1 + 2 * (n2 : Int) + 2 * (n3 : Int)) < 0 := by omega
  have i3 : ¬ K < 0 := by omega
  have B0 := hide b0
  clear b0 hX hp
  go_enter Tryz.func24, Tryz.ntmps24
  go_wp2_with fail
  rw [← hw0]
  clear hw0
  refine (heldNeedS_mk _ n2 1 w0 (by omega) (by omega) (by omega) (H.out.on B0.out).1).mono ?_
  rintro e w1 ⟨rfl, b1⟩
  have B1 := hide (B0.out.trans (b1.mono B0.out.size))
  obtain ⟨⟨p0, p1, p2, p3, p4⟩, -⟩ := obj_cells ((b1.block _ hs0).trans HX.out)
  have BX := hide b1
  clear b1
  go_wp2_with fail
  refine (heldGlobalS_mk _ n3 (1 + 2 * (n2 : Int)) w1 (by omega) (by omega) (by omega) (H.out.on B1.out).2.1).mono ?_
  rintro e w2 ⟨rfl, b2⟩
  have B2 := hide (B1.out.trans (b2.mono B1.out.size))
  obtain ⟨⟨q0, q1, q2, q3, q4⟩, -⟩ := obj_cells (((BX.out.trans (b2.mono BX.out.size)).block _ hs0).trans HX.out)
  clear b2 p0 p1 p2 p3 p4
  go_wp2_with fail
  refine (HC.out w2 B2.out).mono ?_
  rintro e w3 ⟨rfl, b3⟩
  clear q0 q1 q2 q3 q4
  go_wp2
  go_ret
  exact ⟨rfl, B2.out.trans (b3.mono B2.out.size)⟩
end Go.Proofs.YtoodadepafghhaaGreatDoor

/- Rows of bytes: told the same, marked, and their marks found again, by the law's own ways. No condition. -/
namespace Go.Proofs.YtoodadepafghhaaGreatDoor
open Go.RowKit

def ByAt (w : World) (B : Nat) (a : Option Addr) (l : List Int) : Prop := ∀ i (h : i < l.length), ∃ g, a = some ⟨g, 0, none⟩ ∧ B ≤ g ∧ g < w.heap.size ∧ w.cell? ⟨g, i, none⟩ = some (.int .u8 l[i]) ∧ w.frozen? ⟨g, i, none⟩ = false
theorem Own.at {w : World} {B : Nat} {v : Value} {l : List Int} (h : Own w B v l) : ∃ a c, v = .slice a l.length c ∧ ByAt w B a l := by
  rcases h.2 with ⟨rfl, e⟩ | ⟨g, cap, cur, rfl, hb, hg, _⟩
  · rw [e]
    exact ⟨none, 0, rfl, fun i hi => by omega⟩
  · refine ⟨_, cap, rfl, fun i hi => ⟨g, rfl, hb, (Array.getElem?_eq_some_iff.1 hg).1, ?_, (heapCells hg).2 i⟩⟩
    have := h.cells i (.int .u8 l[i]) (by unfold bc; simp [hi])
    have e : (⟨g, 0, none⟩ : Addr).add i = ⟨g, i, none⟩ := by simp [Addr.add]; intro h; exact h.symm
    rwa [e] at this
theorem ByAt.on {w w' : World} {B : Nat} {a : Option Addr} {l : List Int} (h : ByAt w B a l) (bel : Below w.heap.size w w') : ByAt w' B a l := by
  intro i hi
  obtain ⟨g, e, h1, h2, h3, h4⟩ := h i hi
  exact ⟨g, e, h1, Nat.lt_of_lt_of_le h2 bel.size, (bel.cell (p := ⟨g, i, none⟩) h2).trans h3, (bel.frozen (p := ⟨g, i, none⟩) h2).trans h4⟩
set_option maxHeartbeats 2000000 in
theorem eqByteS_same (B B' : Nat) (v v' : Value) (l : List Int) (w : World) (hl : l.length ≤ 1099511627776) (h : Own w B v l) (h' : Own w B' v' l) :
    Calls Tryz.prog 16 #[v, v'] w fun e w' => e = .returned (.bool true) ∧ Below w.heap.size w w' := by
  have hmix : Tryz.prog.follows .mixedOrders = true := by kernel_rfl
  obtain ⟨a, c, rfl, hb⟩ := h.at
  obtain ⟨a', c', rfl, hb'⟩ := h'.at
  have H := hide hb
  have H' := hide hb'
  obtain ⟨n, hn⟩ : ∃ n, l.length = n := ⟨_, rfl⟩
  have HN := hide hn
  rw [hn] at hl ⊢
  clear h h' hb hb' hn
  go_enter Tryz.func16, Tryz.ntmps16
  go_wp2
  go_loopw [5] (fun i wr => ∃ k : Nat, i = .int .i64 k ∧ k ≤ n ∧ Below w.heap.size w wr) (fun i _ => n - (intOf i).toNat)
  case atStart => exact ⟨0, rfl, by omega, Below.refl _ _⟩
  case round =>
    obtain ⟨k, rfl, hk, hbw⟩ := hrel
    by_cases hp : k < n
    · have i1 : (k : Int) < n := by omega
      have i0 : (0 : Int) ≤ (k : Int) := by omega
      obtain ⟨g, rfl, -, -, hc, -⟩ := H.out.on hbw k (by rw [HN.out]; exact hp)
      obtain ⟨g', rfl, -, -, hc', -⟩ := H'.out.on hbw k (by rw [HN.out]; exact hp)
      generalize l[k]'(by rw [HN.out]; exact hp) = y at *
      go_wp2
      go_quiet (fail)
      go_wp2
      go_roundw
      case rel => exact ⟨k + 1, by go_num, by omega, hbw.trans ((Below.refl _ _).trans ⟨rfl, rfl, rfl, Nat.le_refl _, fun _ _ => rfl⟩)⟩
      case measure => simp [intOf]; omega
    · have i1 : ¬ (k : Int) < n := by omega
      go_wp2
      go_ret
      exact ⟨rfl, hbw⟩
/-- The marks in a row of bytes. -/
def MarkdB (w : World) (B : Nat) (a : Option Addr) (n : Nat) : Prop := ∀ i, i < n → ∃ g, a = some ⟨g, 0, none⟩ ∧ B ≤ g ∧ g < w.heap.size ∧ w.cell? ⟨g, i, none⟩ = some (.int .u8 ((1 + (i : Int)) % 256))
theorem MarkdB.on {w w' : World} {B : Nat} {a : Option Addr} {n : Nat} (h : MarkdB w B a n) (bel : Below w.heap.size w w') : MarkdB w' B a n := by
  intro i hi
  obtain ⟨g, e, h1, h2, h3⟩ := h i hi
  exact ⟨g, e, h1, Nat.lt_of_lt_of_le h2 bel.size, (bel.cell (p := ⟨g, i, none⟩) h2).trans h3⟩
set_option maxHeartbeats 2000000 in
theorem markByteS_any (B : Nat) (a : Option Addr) (c : Nat) (l : List Int) (w : World) (hl : l.length ≤ 1099511627776) (h : ByAt w B a l) :
    Calls Tryz.prog 19 #[.slice a l.length c, .int .i64 1] w fun e w' => e = .returned (.int .i64 (1 + (l.length : Int))) ∧ MarkdB w' B a l.length ∧ Below B w w' := by
  have H := hide h
  obtain ⟨n, hn⟩ : ∃ n, l.length = n := ⟨_, rfl⟩
  have HN := hide hn
  rw [hn] at hl ⊢
  clear h hn
  go_enter Tryz.func19, Tryz.ntmps19
  go_wp2
  go_loopw [1, 5] (fun q i wr => ∃ k : Nat, i = .int .i64 k ∧ q = .int .i64 (1 + (k : Int)) ∧ k ≤ n ∧ Hid (MarkdB wr B a k) ∧ Hid (∀ i, i < n → ∃ g, a = some ⟨g, 0, none⟩ ∧ B ≤ g ∧ g < wr.heap.size ∧ (∃ y, wr.cell? ⟨g, i, none⟩ = some y) ∧ wr.frozen? ⟨g, i, none⟩ = false) ∧ Below B w wr) (fun _ i _ => n - (intOf i).toNat)
  case atStart =>
    refine ⟨0, rfl, rfl, by omega, fun i hi => absurd hi (by omega), fun i hi => ?_, Below.refl _ _⟩
    obtain ⟨g, e, h1, h2, h3, h4⟩ := H.out i (by rw [HN.out]; exact hi)
    exact ⟨g, e, h1, h2, ⟨_, h3⟩, h4⟩
  case round =>
    obtain ⟨k, rfl, rfl, hk, Hm, Hr, hbw⟩ := hrel
    by_cases hp : k < n
    · have i1 : (k : Int) < n := by omega
      obtain ⟨g, rfl, hg1, hg2, ⟨y, hc⟩, hf⟩ := Hr.out k hp
      go_wp2
      go_roundw
      case rel =>
        refine ⟨k + 1, by go_num, by go_num, by omega, fun i hi => ?_, fun i hi => ?_, hbw.setCell (p := ⟨g, k, none⟩) hg1 _⟩
        · by_cases e : i < k
          · obtain ⟨g', e', h1, h2, h3⟩ := Hm.out i e
            cases e'
            exact ⟨g, rfl, h1, by simpa [World.setCell] using h2, (World.cell?_setCell_other _ _ _ _ (by simp <;> omega)).trans h3⟩
          · obtain rfl : i = k := by omega
            exact ⟨g, rfl, hg1, by simpa [World.setCell] using hg2, World.cell?_setCell_same _ _ _ hc⟩
        · obtain ⟨g', e', h1, h2, ⟨y', h3⟩, h4⟩ := Hr.out i hi
          cases e'
          exact ⟨g, rfl, h1, by simpa [World.setCell] using h2, cell?_setCell_some h3, by rw [World.frozen?_setCell]; exact h4⟩
      case measure => simp [intOf]; omega
    · have i1 : ¬ (k : Int) < n := by omega
      obtain rfl : k = n := by omega
      go_wp2
      go_ret
      exact ⟨rfl, Hm.out, hbw⟩
set_option maxHeartbeats 2000000 in
theorem heldByteS_any (B : Nat) (a : Option Addr) (c n : Nat) (w : World) (hl : n ≤ 1099511627776) (h : MarkdB w B a n) :
    Calls Tryz.prog 20 #[.slice a n c, .int .i64 1] w fun e w' => e = .returned (.int .i64 (1 + (n : Int))) ∧ Below w.heap.size w w' := by
  have H := hide h
  clear h
  go_enter Tryz.func20, Tryz.ntmps20
  go_wp2
  go_loop [1, 5] (fun q i => ∃ k : Nat, i = .int .i64 k ∧ q = .int .i64 (1 + (k : Int)) ∧ k ≤ n) (fun _ i => n - (intOf i).toNat)
  case atStart => exact ⟨0, rfl, rfl, by omega⟩
  case round =>
    obtain ⟨k, rfl, rfl, hk⟩ := hrel
    by_cases hp : k < n
    · have i1 : (k : Int) < n := by omega
      obtain ⟨g, rfl, -, -, hc⟩ := H.out k hp
      go_wp2
      go_round
      case rel => exact ⟨k + 1, by go_num, by go_num, by omega⟩
      case measure => simp [intOf]; omega
    · have i1 : ¬ (k : Int) < n := by omega
      obtain rfl : k = n := by omega
      go_wp2
      go_ret
      exact ⟨rfl, Below.refl _ _⟩
end Go.Proofs.YtoodadepafghhaaGreatDoor

namespace Go.Proofs.YtoodadepafghhaaGreatDoor
open Go.ChangeShapes Go.WideShapes Go.ChangeAt Go.RowKit Go.Deep

def IsRow (k : IntKind) (w : World) (a : Option Addr) (len cap : Nat) (zs : List Int) : Prop :=
  (a = none ∧ len = 0 ∧ cap = 0 ∧ zs = []) ∨ ∃ x, a = some x ∧ len ≤ cap ∧ cap ≤ maxLen ∧ zs.length = cap ∧ (∀ i, i < zs.length → w.cell? (x.add i) = some (.int k (zs.getD i 0))) ∧ ∀ n ∈ zs, (Lit.int k n).wf = true
/-- The argument's bytes, read. -/
def ArgB (w : World) (a : Option Addr) (l : List Int) : Prop := ∀ i (h : i < l.length), ∃ b o, a = some ⟨b, o, none⟩ ∧ w.cell? ⟨b, o + i, none⟩ = some (.int .u8 l[i])
theorem ArgB.on {w w' : World} {a : Option Addr} {l : List Int} (h : ArgB w a l) (bel : Below w.heap.size w w') : ArgB w' a l := fun i hi => by
  obtain ⟨b, o, e, h1⟩ := h i hi
  exact ⟨b, o, e, (bel.cell (p := ⟨b, o + i, none⟩) (block_lt h1)).trans h1⟩
theorem u8_wf {y : Int} (h : (Lit.int .u8 y).wf = true) : 0 ≤ y ∧ y ≤ 255 := by
  simp only [Lit.wf, Bool.and_eq_true, decide_eq_true_eq] at h
  exact h
theorem IsRow.argB {w : World} {a : Option Addr} {len cap : Nat} {zs : List Int} (h : IsRow .u8 w a len cap zs) : ∃ l : List Int, l.length = len ∧ (∀ y ∈ l, 0 ≤ y ∧ y ≤ 255) ∧ ArgB w a l := by
  rcases h with ⟨rfl, rfl, rfl, rfl⟩ | ⟨⟨b, o, s⟩, rfl, h1, -, h2, hc, hw⟩
  · exact ⟨[], rfl, fun y hy => (by cases hy), fun i hi => absurd hi (by simp)⟩
  · refine ⟨zs.take len, by rw [List.length_take]; omega, fun y hy => u8_wf (hw y (List.mem_of_mem_take hy)), fun i hi => ?_⟩
    have hi' : i < zs.length := by rw [List.length_take] at hi; omega
    have h0 := hc i hi'
    rw [List.getD_eq_getElem?_getD, List.getElem?_eq_getElem hi'] at h0
    have hs : s = none := by
      have h00 := hc 0 (by omega)
      have := World.cell?_spot h00
      simpa [Addr.add] using this
    subst hs
    rw [add_plain] at h0
    exact ⟨b, o, rfl, by rw [List.getElem_take]; exact h0⟩
set_option maxHeartbeats 2000000 in
theorem toByteS_any (a : Option Addr) (c : Nat) (l : List Int) (w : World) (hl : l.length ≤ 1048576) (h : ArgB w a l) :
    Calls Tryz.prog 22 #[.slice a l.length c] w fun e w' => e = .returned (.slice (some ⟨w.heap.size, 0, none⟩) l.length l.length) ∧ Own w' w.heap.size (.slice (some ⟨w.heap.size, 0, none⟩) l.length l.length) l ∧ Below w.heap.size w w' := by
  have H := hide h
  obtain ⟨n, hn⟩ : ∃ n, l.length = n := ⟨_, rfl⟩
  have HN := hide hn
  rw [hn] at hl ⊢
  clear h hn
  have hmk := run_make_many (P := Tryz.prog) 22 5 (.int .u8 0) 1 1 Tryz.underlying22 (by kernel_rfl) n (by omega) (by omega)
  go_enter Tryz.func22, Tryz.ntmps22
  go_wp2
  go_loopw [4] (fun i wr => ∃ (k : Nat) (C : Array Value), i = .int .i64 k ∧ k ≤ n ∧ wr.heap[w.heap.size]? = some (.cells C 5 (0, 0)) ∧ C.size = n ∧ Hid (∀ i (h : i < l.length), i < k → C[i]? = some (.int .u8 l[i])) ∧ Below w.heap.size w wr) (fun i _ => n - (intOf i).toNat)
  case atStart => exact ⟨0, _, rfl, by omega, Deep.blk_alloc_new _ _, by rw [size_madeCells], hide (fun i _ hi => absurd hi (by omega)), (Below.refl _ _).alloc (Nat.le_refl _) _⟩
  case round =>
    obtain ⟨k, C, rfl, hk, hC, hsz, Hs, hbw⟩ := hrel
    by_cases hp : k < n
    · have i1 : (k : Int) < n := by omega
      obtain ⟨y, hy⟩ : ∃ y, l[k]'(by rw [HN.out]; exact hp) = y := ⟨_, rfl⟩
      obtain ⟨b, o, rfl, c0⟩ := H.out k (by rw [HN.out]; exact hp)
      have c0' := (hbw.cell (p := ⟨b, o + k, none⟩) (block_lt c0)).trans c0
      rw [hy] at c0'
      have HY := hide hy
      obtain ⟨s1, s2⟩ := heapCells hC
      obtain ⟨y0, d0⟩ : ∃ y, wr.cell? ⟨w.heap.size, k, none⟩ = some y := by rw [s1]; exact ⟨_, Array.getElem?_eq_getElem (by omega)⟩
      have f0 := s2 k
      have HC := hide hC
      clear s1 s2 hC c0 hy
      go_wp2
      go_roundw
      case rel =>
        refine ⟨k + 1, _, by go_num, by omega, block_set HC.out _, by simpa using hsz, hide fun i hi hik => ?_, hbw.setCell (p := ⟨w.heap.size, k, none⟩) (Nat.le_refl _) _⟩
        by_cases e : i < k
        · rw [Array.getElem?_setIfInBounds_ne (by omega)]
          exact Hs.out i hi e
        · obtain rfl : i = k := by omega
          rw [Array.getElem?_setIfInBounds_self_of_lt (by omega), HY.out]
      case measure => simp [intOf]; omega
    · have i1 : ¬ (k : Int) < n := by omega
      obtain rfl : k = n := by omega
      go_wp2
      go_ret
      refine ⟨rfl, ⟨by rw [bc_len, HN.out, Nat.mul_one], .inr ⟨w.heap.size, k, C, by rw [HN.out], Nat.le_refl _, hC, by rw [HN.out]; exact Nat.le_refl _, by unfold maxLen; omega, by omega, ?_⟩⟩, hbw⟩
      have e : C.toList = bc l := by
        apply List.ext_getElem?
        intro i
        by_cases hi : i < l.length
        · rw [Array.getElem?_toList, Hs.out i hi (by rw [← HN.out]; exact hi)]
          unfold bc
          simp [hi]
        · have hN := HN.out
          rw [List.getElem?_eq_none (l := C.toList) (by simp; omega), List.getElem?_eq_none (l := bc l) (by rw [bc_len]; omega)]
      rw [e, List.take_of_length_le (by rw [bc_len]; omega)]
theorem Own.al {w : World} {B g n c : Nat} {l : List Int} (h : Own w B (.slice (some ⟨g, 0, none⟩) n c) l) : ∀ i, i < l.length → Al w g i := by
  intro i hi
  obtain ⟨a, c', e, hb⟩ := h.at
  cases e
  obtain ⟨g', e', -, -, h1, h2⟩ := hb i hi
  cases e'
  exact ⟨⟨_, h1⟩, h2⟩
end Go.Proofs.YtoodadepafghhaaGreatDoor
