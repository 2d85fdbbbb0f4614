/- The law's marks in an interface that the program has read: each stands where it was laid. No condition. -/
import Derived.Test.YtoomnimbokbadaaDoorZRdFace
import Derived.Test.YtoomnimbokbadaaDoorZMarkF
import Derived.Deep.RegionWith
namespace Go.Proofs.YtoomnimbokbadaaDoor
open Go.ChangeShapes Go.WideShapes Go.ChangeAt Go.RowKit Go.Deep

/-- A cell that is there and may be written. -/
def Al (w : World) (b o : Nat) : Prop := (∃ z, w.cell? ⟨b, o, none⟩ = some z) ∧ w.frozen? ⟨b, o, none⟩ = false
theorem Al.set {w : World} {b o : Nat} (h : Al w b o) (p : Addr) (v : Value) : Al (w.setCell p v) b o := by
  obtain ⟨⟨z, hz⟩, hf⟩ := h
  exact ⟨cell?_setCell_some hz, by rw [World.frozen?_setCell]; exact hf⟩
/-- Of what was there, the blocks of S alone have turned; no cell is gone. -/
structure Tch (S : Nat → Prop) (w w' : World) : Prop where
  os : w'.os = w.os
  tape : w'.tape = w.tape
  output : w'.output = w.output
  size : w.heap.size ≤ w'.heap.size
  block : ∀ k, k < w.heap.size → ¬ S k → w'.heap[k]? = w.heap[k]?
  al : ∀ b o, Al w b o → Al w' b o
theorem Tch.refl (S : Nat → Prop) (w : World) : Tch S w w := ⟨rfl, rfl, rfl, Nat.le_refl _, fun _ _ _ => rfl, fun _ _ h => h⟩
theorem Tch.trans {S : Nat → Prop} {a b c : World} (h : Tch S a b) (k : Tch S b c) : Tch S a c :=
  ⟨k.os.trans h.os, k.tape.trans h.tape, k.output.trans h.output, Nat.le_trans h.size k.size, fun i hi hs => (k.block i (Nat.lt_of_lt_of_le hi h.size) hs).trans (h.block i hi hs), fun b o ha => k.al b o (h.al b o ha)⟩
theorem Tch.of_below {S : Nat → Prop} {w w' : World} (h : Below w.heap.size w w') : Tch S w w' :=
  ⟨h.os, h.tape, h.output, h.size, fun k hk _ => h.block k hk, fun b o ⟨⟨z, hz⟩, hf⟩ => ⟨⟨z, (h.cell (p := ⟨b, o, none⟩) (block_lt hz)).trans hz⟩, (h.frozen (p := ⟨b, o, none⟩) (block_lt hz)).trans hf⟩⟩
theorem Tch.set {S : Nat → Prop} {a w : World} (h : Tch S a w) {b : Nat} (hb : S b) (o : Nat) (v : Value) : Tch S a (w.setCell ⟨b, o, none⟩ v) :=
  h.trans ⟨rfl, rfl, rfl, by simp [World.setCell], fun k _ hk => Below.heap_setCell _ _ _ _ (fun e => hk (by rw [e]; exact hb)), fun _ _ ha => ha.set _ _⟩
theorem Tch.wid {S S' : Nat → Prop} {w w' : World} (h : Tch S w w') (hs : ∀ k, S k → S' k) : Tch S' w w' := ⟨h.os, h.tape, h.output, h.size, fun k hk hn => h.block k hk fun e => hn (hs k e), h.al⟩
theorem Tch.below {S : Nat → Prop} {w w' : World} {B : Nat} (h : Tch S w w') (hB : B ≤ w.heap.size) (hs : ∀ k, k < B → ¬ S k) : Below B w w' := ⟨h.os, h.tape, h.output, h.size, fun k hk => h.block k (by omega) (hs k hk)⟩
theorem Tch.cell {S : Nat → Prop} {w w' : World} (h : Tch S w w') {b o : Nat} {z : Value} (hb : ¬ S b) (hz : w.cell? ⟨b, o, none⟩ = some z) : w'.cell? ⟨b, o, none⟩ = some z :=
  (World.cell?_of_block (w := w) (a := ⟨b, o, none⟩) (h.block b (block_lt hz) hb)).trans hz
/-- An item's parameters, there to be marked. -/
def PAl (w : World) (B G : Nat) (u : Value) (n : Nat) : Prop := ∃ a c, u = .slice a n c ∧ ∀ j, j < n → ∃ g, a = some ⟨g, 0, none⟩ ∧ u.ownBlock = some g ∧ g ≠ G ∧ B ≤ g ∧ Al w g (j * 2) ∧ Al w g (j * 2 + 1)
theorem PAl.on {S : Nat → Prop} {w w' : World} {B G : Nat} {u : Value} {n : Nat} (h : PAl w B G u n) (t : Tch S w w') : PAl w' B G u n := by
  obtain ⟨a, c, e, hj⟩ := h
  refine ⟨a, c, e, fun j hjn => ?_⟩
  obtain ⟨g, e1, e2, h1, h2, h3, h4⟩ := hj j hjn
  exact ⟨g, e1, e2, h1, h2, t.al _ _ h3, t.al _ _ h4⟩
/-- .. marked. -/
def PMk (w : World) (G : Nat) (u : Value) (n : Nat) (K : Int) : Prop := ∃ a c, u = .slice a n c ∧ ∀ j, j < n → ∃ g, a = some ⟨g, 0, none⟩ ∧ u.ownBlock = some g ∧ g ≠ G ∧
  w.cell? ⟨g, j * 2, none⟩ = some (.int .i64 (K + 2 * (j : Int))) ∧ w.cell? ⟨g, j * 2 + 1, none⟩ = some (.bool ((K + 2 * (j : Int) + 1) % 3 == 0))
theorem PMk.on {S : Nat → Prop} {w w' : World} {G : Nat} {u : Value} {n : Nat} {K : Int} (h : PMk w G u n K) (t : Tch S w w') (hs : ∀ g, g ≠ G → u.ownBlock = some g → ¬ S g) : PMk w' G u n K := by
  obtain ⟨a, c, e, hj⟩ := h
  refine ⟨a, c, e, fun j hjn => ?_⟩
  obtain ⟨g, e1, e2, h1, h2, h3⟩ := hj j hjn
  exact ⟨g, e1, e2, h1, t.cell (hs g h1 e2) h2, t.cell (hs g h1 e2) h3⟩
set_option maxHeartbeats 4000000 in
theorem markParamS_mk (B G : Nat) (u : Value) (n : Nat) (K : Int) (w : World) (hn : n ≤ 255) (k0 : 0 ≤ K) (k1 : K ≤ 1000000000) (h : PAl w B G u n) :
    Calls Tryd.prog 71 #[u, .int .i64 K] w fun e w' => e = .returned (.int .i64 (K + 2 * (n : Int))) ∧ PMk w' G u n K ∧ Tch (fun k => u.ownBlock = some k) w w' := by
  obtain ⟨a, c, rfl, h⟩ := h
  have H := hide h
  clear h
  go_enter Tryd.func71, Tryd.ntmps71
  go_wp2
  go_loopw [1, 5] (fun q i wr => ∃ k : Nat, i = .int .i64 k ∧ q = .int .i64 (K + 2 * (k : Int)) ∧ k ≤ n ∧ Hid (∀ j, j < k → ∃ g, a = some ⟨g, 0, none⟩ ∧ (Value.slice a n c).ownBlock = some g ∧ g ≠ G ∧ wr.cell? ⟨g, j * 2, none⟩ = some (.int .i64 (K + 2 * (j : Int))) ∧ wr.cell? ⟨g, j * 2 + 1, none⟩ = some (.bool ((K + 2 * (j : Int) + 1) % 3 == 0))) ∧ Tch (fun k => (Value.slice a n c).ownBlock = some k) w wr) (fun _ i _ => n - (intOf i).toNat)
  case atStart => exact ⟨0, rfl, by simp, by omega, hide (fun j hj => absurd hj (by omega)), Tch.refl _ _⟩
  case round =>
    obtain ⟨k, rfl, rfl, hk, Hm, hbw⟩ := hrel
    by_cases hp : k < n
    · have i1 : (k : Int) < n := by omega
      obtain ⟨g, rfl, ho, hgG, -, hA0, hA1⟩ := H.out k hp
      obtain ⟨⟨y0, c0⟩, f0⟩ := hbw.al _ _ hA0
      obtain ⟨⟨y1, c1⟩, f1⟩ := hbw.al _ _ hA1
      clear hA0 hA1
      go_wp2
      go_roundw
      case rel =>
        refine ⟨k + 1, by go_num, by first | go_num | (congr 1; omega), by omega, hide fun j hj => ?_, (hbw.set ho _ _).set ho _ _⟩
        by_cases e : j < k
        · obtain ⟨g', e1, e2, h1, h2, h3⟩ := Hm.out j e
          cases e1
          exact ⟨g, rfl, e2, h1, by rw [World.cell?_setCell_other _ _ _ _ (by simp <;> omega), World.cell?_setCell_other _ _ _ _ (by simp <;> omega)]; exact h2, by rw [World.cell?_setCell_other _ _ _ _ (by simp <;> omega), World.cell?_setCell_other _ _ _ _ (by simp <;> omega)]; exact h3⟩
        · obtain rfl : j = k := by omega
          refine ⟨g, rfl, ho, hgG, ?_, ?_⟩
          · rw [World.cell?_setCell_other _ _ _ _ (by simp <;> omega)]
            exact World.cell?_setCell_same _ _ _ c0
          · exact World.cell?_setCell_same _ _ _ (cell?_setCell_some c1).choose_spec
      case measure => simp [intOf]; omega
    · have i1 : ¬ (k : Int) < n := by omega
      obtain rfl : k = n := by omega
      go_wp2
      go_ret
      exact ⟨rfl, ⟨a, c, rfl, Hm.out⟩, hbw⟩
set_option maxHeartbeats 4000000 in
theorem heldParamS_mk (G : Nat) (u : Value) (n : Nat) (K : Int) (w : World) (hn : n ≤ 255) (k0 : 0 ≤ K) (k1 : K ≤ 1000000000) (h : PMk w G u n K) :
    Calls Tryd.prog 72 #[u, .int .i64 K] w fun e w' => e = .returned (.int .i64 (K + 2 * (n : Int))) ∧ w = w' := by
  obtain ⟨a, c, rfl, h⟩ := h
  have H := hide h
  clear h
  go_enter Tryd.func72, Tryd.ntmps72
  go_wp2
  go_loop [1, 5] (fun q i => ∃ k : Nat, i = .int .i64 k ∧ q = .int .i64 (K + 2 * (k : Int)) ∧ k ≤ n) (fun _ i => n - (intOf i).toNat)
  case atStart => exact ⟨0, rfl, by simp, by omega⟩
  case round =>
    obtain ⟨k, rfl, rfl, hk⟩ := hrel
    by_cases hp : k < n
    · have i1 : (k : Int) < n := by omega
      obtain ⟨g, rfl, -, -, c0, c1⟩ := H.out k hp
      go_wp2
      go_round
      case rel => exact ⟨k + 1, by go_num, by first | go_num | (congr 1; omega), by omega⟩
      case measure => simp [intOf]; omega
    · have i1 : ¬ (k : Int) < n := by omega
      obtain rfl : k = n := by omega
      go_wp2
      go_ret
      exact ⟨rfl, rfl⟩
/-- How far the marks have counted ahead of item i. -/
def kAt (L : List IV) : Nat → Int
  | 0 => 1
  | i + 1 => match L[i]? with
    | some p => kAt L i + 1 + 1 + 1 + 1 + 1 + 2 * (p.1.params.length : Int)
    | none => kAt L i
theorem kAt_succ {L : List IV} {i : Nat} (h : i < L.length) : kAt L (i + 1) = kAt L i + 1 + 1 + 1 + 1 + 1 + 2 * (L[i].1.params.length : Int) := by
  rw [kAt, List.getElem?_eq_getElem h]
theorem kAt_bound {L : List IV} (h : ∀ p ∈ L, p.1.params.length ≤ 255) : ∀ i, i ≤ L.length → 1 ≤ kAt L i ∧ kAt L i ≤ 1 + 515 * (i : Int)
  | 0, _ => by simp [kAt]
  | i + 1, hi => by
    have := kAt_bound h i (by omega)
    have hp := h _ (List.getElem_mem (show i < L.length by omega))
    rw [kAt_succ (by omega)]
    omega
/-- Item i, there to be marked. -/
def ItA (w : World) (B G i : Nat) (p : IV) : Prop := (∀ j, j < 6 → Al w G (i * 6 + j)) ∧ w.cell? ⟨G, i * 6 + 5, none⟩ = some p.2 ∧ PAl w B G p.2 p.1.params.length ∧ ∀ g, p.2.ownBlock = some g → g ≠ G ∧ B ≤ g
/-- .. marked. -/
def ItM (w : World) (G i : Nat) (p : IV) (K : Int) : Prop := (w.cell? ⟨G, i * 6, none⟩ = some (.int .i64 K) ∧ w.cell? ⟨G, i * 6 + 1, none⟩ = some (.int .i64 (K + 1)) ∧ w.cell? ⟨G, i * 6 + 2, none⟩ = some (.int .i64 (K + 1 + 1)) ∧ w.cell? ⟨G, i * 6 + 3, none⟩ = some (.int .i64 (K + 1 + 1 + 1)) ∧
  w.cell? ⟨G, i * 6 + 4, none⟩ = some (.string (mt (K + 1 + 1 + 1 + 1)))) ∧ w.cell? ⟨G, i * 6 + 5, none⟩ = some p.2 ∧ PMk w G p.2 p.1.params.length (K + 1 + 1 + 1 + 1 + 1)
theorem ItA.set {w : World} {B G i : Nat} {p : IV} (h : ItA w B G i p) {o : Nat} (ho : o ≠ i * 6 + 5) (v : Value) : ItA (w.setCell ⟨G, o, none⟩ v) B G i p :=
  ⟨fun j hj => (h.1 j hj).set _ _, by rw [World.cell?_setCell_other _ _ _ _ (by simp <;> omega)]; exact h.2.1, h.2.2.1.on ((Tch.refl (fun k => k = G) w).set rfl o v), h.2.2.2⟩
theorem ItA.tch {S : Nat → Prop} {w w' : World} {B G i : Nat} {p : IV} (h : ItA w B G i p) (t : Tch S w w') (hG : ¬ S G) : ItA w' B G i p :=
  ⟨fun j hj => t.al _ _ (h.1 j hj), t.cell hG h.2.1, h.2.2.1.on t, h.2.2.2⟩
theorem ItM.set {w : World} {G i : Nat} {p : IV} {K : Int} (h : ItM w G i p K) {o : Nat} (ho : i * 6 + 6 ≤ o) (v : Value) : ItM (w.setCell ⟨G, o, none⟩ v) G i p K := by
  obtain ⟨⟨h0, h1, h2, h3, h4⟩, h5, h6⟩ := h
  refine ⟨⟨?_, ?_, ?_, ?_, ?_⟩, ?_, h6.on ((Tch.refl (fun k => k = G) w).set rfl o v) fun g hg _ e => hg e⟩ <;> rw [World.cell?_setCell_other _ _ _ _ (by simp <;> omega)] <;> assumption
theorem ItM.tch {S : Nat → Prop} {w w' : World} {G i : Nat} {p : IV} {K : Int} (h : ItM w G i p K) (t : Tch S w w') (hG : ¬ S G) (hs : ∀ g, g ≠ G → p.2.ownBlock = some g → ¬ S g) : ItM w' G i p K := by
  obtain ⟨⟨h0, h1, h2, h3, h4⟩, h5, h6⟩ := h
  exact ⟨⟨t.cell hG h0, t.cell hG h1, t.cell hG h2, t.cell hG h3, t.cell hG h4⟩, t.cell hG h5, h6.on t hs⟩
theorem set_at {w : World} {G o : Nat} (h : Al w G o) (v : Value) : (w.setCell ⟨G, o, none⟩ v).cell? ⟨G, o, none⟩ = some v := by
  obtain ⟨⟨z, hz⟩, -⟩ := h
  exact World.cell?_setCell_same _ _ _ hz
theorem set_off {w : World} {G o o' : Nat} {z : Value} (h : w.cell? ⟨G, o, none⟩ = some z) (hne : o' ≠ o) (v : Value) : (w.setCell ⟨G, o', none⟩ v).cell? ⟨G, o, none⟩ = some z := by
  rw [World.cell?_setCell_other _ _ _ _ (fun e => hne (congrArg Addr.off e))]
  exact h
/-- An answer's rows are there to be marked, and no two items share one. -/
theorem irow_al {w : World} {B : Nat} {v : Value} {L : List IV} (h : IRow w B v L) : ∃ a c, v = .slice a L.length c ∧ ∀ i (hi : i < L.length), ∃ G, a = some ⟨G, 0, none⟩ ∧ B ≤ G ∧ G < w.heap.size ∧ ItA w B G i L[i] := by
  by_cases hl : L.length = 0
  · rcases h.1.2 with ⟨e, -⟩ | ⟨g, cap, cur, e, -⟩
    · exact ⟨none, 0, by rw [e, hl], fun i hi => by omega⟩
    · exact ⟨_, _, e, fun i hi => by omega⟩
  · rcases h.1.2 with ⟨-, e⟩ | ⟨G, cap, cur, rfl, hb, hG, hcap, -, hsz, hx⟩
    · exact absurd e hl
    · have hlt := (Array.getElem?_eq_some_iff.1 hG).1
      have hc := World.ownsRow.cells (g := G) h.1 rfl
      refine ⟨_, cap, rfl, fun i hi => ⟨G, rfl, hb, hlt, fun j hj => ?_, ?_, ?_⟩⟩
      · have hlen : i * 6 + j < (ic L).length := by rw [ic_len]; omega
        have := hc (i * 6 + j) _ (List.getElem?_eq_getElem hlen)
        rw [add_plain, Nat.zero_add] at this
        exact ⟨⟨_, this⟩, (heapCells hG).2 _⟩
      · have := hc _ _ (ic_at L i hi).2.2.2.2.2
        rwa [add_plain, Nat.zero_add] at this
      · obtain ⟨hp, -⟩ := h.2.1 L[i] (List.getElem_mem hi)
        rcases hp.2 with ⟨e, e0⟩ | ⟨g, cap', cur', e, hb', hg, -⟩
        · exact ⟨⟨none, 0, by rw [e, e0], fun j hj => by omega⟩, fun g hg => by rw [e] at hg; cases hg⟩
        · have hpc := World.ownsRow.cells (g := g) (by rw [e] at hp; exact hp) rfl
          have hgG : g ≠ G := by
            intro e2
            subst e2
            rw [hG] at hg
            have := congrArg (fun o : Option Obj => match o with | some (.cells _ T _) => T | _ => 0) hg
            simp at this
          refine ⟨⟨_, cap', e, fun j hj => ⟨g, rfl, by rw [e]; rfl, hgG, hb', ?_, ?_⟩⟩, fun g' hg' => ?_⟩
          · have := hpc _ _ (pc_at L[i].1.params j hj).1
            rw [add_plain, Nat.zero_add] at this
            exact ⟨⟨_, this⟩, (heapCells hg).2 _⟩
          · have := hpc _ _ (pc_at L[i].1.params j hj).2
            rw [add_plain, Nat.zero_add] at this
            exact ⟨⟨_, this⟩, (heapCells hg).2 _⟩
          · rw [e] at hg'
            cases hg'
            exact ⟨hgG, hb'⟩
def MkI (w : World) (v : Value) (L : List IV) : Prop := ∃ a c, v = .slice a L.length c ∧ ∀ i (hi : i < L.length), ∃ G, a = some ⟨G, 0, none⟩ ∧ ItM w G i L[i] (kAt L i)
theorem MkI.on {w w' : World} {v : Value} {L : List IV} (h : MkI w v L) (bel : Below w.heap.size w w') : MkI w' v L := by
  obtain ⟨a, c, e, hi⟩ := h
  refine ⟨a, c, e, fun i h => ?_⟩
  obtain ⟨G, e1, h1⟩ := hi i h
  exact ⟨G, e1, h1.tch (S := fun _ => False) (Tch.of_below bel) (fun e => e) (fun _ _ _ e => e)⟩
theorem apart_of {L : List IV} (h : L.Pairwise fun a b => ∀ k, a.2.ownBlock = some k → b.2.ownBlock ≠ some k) {i j : Nat} (hij : i < j) (hj : j < L.length) {g : Nat} (hi : (L[i]'(by omega)).2.ownBlock = some g) : L[j].2.ownBlock ≠ some g :=
  (List.pairwise_iff_getElem.1 h) i j (by omega) hj hij g hi
set_option maxHeartbeats 8000000 in
theorem markItemS_mk (v : Value) (B : Nat) (L : List IV) (w : World) (hi : Nat) (hl : L.length ≤ 255) (h : IRow w B v L) (hv : ∀ k, v.ownBlock = some k → k < hi) (hv2 : ∀ p ∈ L, ∀ k, p.2.ownBlock = some k → k < hi) :
    Calls Tryd.prog 44 #[v, .int .i64 1] w fun e w' => e = .returned (.int .i64 (kAt L L.length)) ∧ MkI w' v L ∧ Tch (fun k => B ≤ k ∧ k < hi) w w' := by
  have HAp := hide h.2.2
  have HP : Hid (∀ p ∈ L, p.1.params.length ≤ 255) := hide fun p hp => (h.2.1 p hp).2.2.2.2.2.2.1
  obtain ⟨a, c, rfl, hA⟩ := irow_al h
  have HA := hide hA
  have HV := hide hv
  have HV2 := hide hv2
  clear h hA hv hv2
  obtain ⟨n, hn⟩ : ∃ n, L.length = n := ⟨_, rfl⟩
  have HN := hide hn
  rw [hn] at hl ⊢
  clear hn
  go_enter Tryd.func44, Tryd.ntmps44
  go_wp2
  go_loopw [1, 5] (fun q i wr => ∃ k : Nat, i = .int .i64 k ∧ q = .int .i64 (kAt L k) ∧ k ≤ n ∧ Hid (∀ i (hi : i < L.length), i < k → ∃ G, a = some ⟨G, 0, none⟩ ∧ ItM wr G i L[i] (kAt L i)) ∧ Hid (∀ i (hi : i < L.length), ∃ G, a = some ⟨G, 0, none⟩ ∧ B ≤ G ∧ G < wr.heap.size ∧ ItA wr B G i L[i]) ∧ Tch (fun k => B ≤ k ∧ k < hi) w wr) (fun _ i _ => n - (intOf i).toNat)
  case atStart => exact ⟨0, rfl, rfl, by omega, hide (fun i _ hi => absurd hi (by omega)), HA, Tch.refl _ _⟩
  case round =>
    obtain ⟨k, rfl, rfl, hk, HM, HA', hbw⟩ := hrel
    by_cases hp : k < n
    · have i1 : (k : Int) < n := by omega
      have hkl : k < L.length := by rw [HN.out]; exact hp
      obtain ⟨G, rfl, hG1, hG2, hit⟩ := HA'.out k hkl
      have hGh : G < hi := HV.out G rfl
      have hb := kAt_bound HP.out k (by omega)
      have hpl := HP.out _ (List.getElem_mem hkl)
      obtain ⟨K, hK⟩ : ∃ K, kAt L k = K := ⟨_, rfl⟩
      have HK := hide hK
      have hKs := kAt_succ hkl
      have hap : ∀ i (hi : i < L.length), i < k → ∀ g, L[i].2.ownBlock = some g → L[k].2.ownBlock ≠ some g := fun i hi hik g hg => apart_of HAp.out hik hkl hg
      obtain ⟨⟨it, uu⟩, hLk⟩ : ∃ p, L[k] = p := ⟨_, rfl⟩
      have HLk := hide hLk
      rw [hK] at hb hKs ⊢
      rw [hLk] at hKs hpl hit hap
      obtain ⟨hal, h5, ⟨a2, c2, e2, -⟩, hob⟩ := id hit
      simp only [] at e2 hpl hKs hap hob
      subst e2
      obtain ⟨q, hq⟩ : ∃ q, it.params.length = q := ⟨_, rfl⟩
      have HQ := hide hq
      rw [hq] at hpl hKs
      obtain ⟨⟨y0, c0⟩, f0⟩ := hal 0 (by omega)
      obtain ⟨⟨y1, c1⟩, f1⟩ := hal 1 (by omega)
      obtain ⟨⟨y2, c2'⟩, f2⟩ := hal 2 (by omega)
      obtain ⟨⟨y3, c3⟩, f3⟩ := hal 3 (by omega)
      have a0 := hal 0 (by omega)
      have a1 := hal 1 (by omega)
      have a2' := hal 2 (by omega)
      have a3 := hal 3 (by omega)
      simp only [Nat.add_zero] at c0 f0 a0
      have A0 := hide a0
      have A1 := hide a1
      have A2 := hide a2'
      have A3 := hide a3
      have HIT := hide hit
      have HKS := hide hKs
      have HOB := hide hob
      have HAPk := hide hap
      have HB := hide hb
      clear hal h5 hit hK hKs hLk hap hob hq a0 a1 a2' a3
      have hKl : K ≤ 4000000000000000000 - 10 := by omega
      go_wp2_with fail
      have t4 : Tch (fun b => b = G) wr ((((wr.setCell ⟨G, k * 6, none⟩ (.int .i64 K)).setCell ⟨G, k * 6 + 1, none⟩ (.int .i64 (K + 1))).setCell ⟨G, k * 6 + 2, none⟩ (.int .i64 (K + 1 + 1))).setCell ⟨G, k * 6 + 3, none⟩ (.int .i64 (K + 1 + 1 + 1))) := ((((Tch.refl (fun b => b = G) wr).set rfl (k * 6) (.int .i64 K)).set rfl (k * 6 + 1) (.int .i64 (K + 1))).set rfl (k * 6 + 2) (.int .i64 (K + 1 + 1))).set rfl (k * 6 + 3) (.int .i64 (K + 1 + 1 + 1))
      have HM4 := hide (fun i (hi : i < L.length) (hik : i < k) (G' : Nat) (h : ItM wr G' i L[i] (kAt L i)) (e : G' = G) => (((ItM.set (G := G) (e ▸ h) (o := k * 6) (by omega) (.int .i64 K)).set (o := k * 6 + 1) (by omega) (.int .i64 (K + 1))).set (o := k * 6 + 2) (by omega) (.int .i64 (K + 1 + 1))).set (o := k * 6 + 3) (by omega) (.int .i64 (K + 1 + 1 + 1)))
      have HA4 := hide (fun i (hi : i < L.length) (G' : Nat) (h : ItA wr B G' i L[i]) (e : G' = G) => (((ItA.set (G := G) (e ▸ h) (o := k * 6) (by omega) (.int .i64 K)).set (o := k * 6 + 1) (by omega) (.int .i64 (K + 1))).set (o := k * 6 + 2) (by omega) (.int .i64 (K + 1 + 1))).set (o := k * 6 + 3) (by omega) (.int .i64 (K + 1 + 1 + 1)))
      have E0 := hide (set_off (set_off (set_off (set_at A0.out (.int .i64 K)) (o' := k * 6 + 1) (by omega) (.int .i64 (K + 1))) (o' := k * 6 + 2) (by omega) (.int .i64 (K + 1 + 1))) (o' := k * 6 + 3) (by omega) (.int .i64 (K + 1 + 1 + 1)))
      have E1 := hide (set_off (set_off (set_at (A1.out.set ⟨G, k * 6, none⟩ (.int .i64 K)) (.int .i64 (K + 1))) (o' := k * 6 + 2) (by omega) (.int .i64 (K + 1 + 1))) (o' := k * 6 + 3) (by omega) (.int .i64 (K + 1 + 1 + 1)))
      have E2 := hide (set_off (set_at ((A2.out.set ⟨G, k * 6, none⟩ (.int .i64 K)).set ⟨G, k * 6 + 1, none⟩ (.int .i64 (K + 1))) (.int .i64 (K + 1 + 1))) (o' := k * 6 + 3) (by omega) (.int .i64 (K + 1 + 1 + 1)))
      have E3 := hide (set_at (((A3.out.set ⟨G, k * 6, none⟩ (.int .i64 K)).set ⟨G, k * 6 + 1, none⟩ (.int .i64 (K + 1))).set ⟨G, k * 6 + 2, none⟩ (.int .i64 (K + 1 + 1))) (.int .i64 (K + 1 + 1 + 1)))
      refine (markText_any _ _ (by omega)).mono ?_
      rintro e w5 ⟨rfl, b5⟩
      have t5 := Tch.of_below (S := fun _ => False) b5
      have HT5 := hide t5
      have HA5 := hide (fun i hi G' h e => (HA4.out i hi G' h e).tch t5 (fun e => e))
      have HM5 := hide (fun i hi hik G' h e => (HM4.out i hi hik G' h e).tch t5 (fun e => e) (fun _ _ _ e => e))
      have D0 := hide (t5.cell (fun e => e) E0.out)
      have D1 := hide (t5.cell (fun e => e) E1.out)
      have D2 := hide (t5.cell (fun e => e) E2.out)
      have D3 := hide (t5.cell (fun e => e) E3.out)
      have b15 : Tch (fun k => B ≤ k ∧ k < hi) wr w5 := (t4.wid (fun j e => by subst e; exact ⟨hG1, hGh⟩)).trans (Tch.of_below b5)
      have HB15 := hide b15
      have hG5 : G < w5.heap.size := by have := b5.size; simp [World.setCell] at this; omega
      clear c0 c1 c2' c3 f0 f1 f2 f3 y0 y1 y2 y3 t4 t5 HM4 HA4 E0 E1 E2 E3 A0 A1 A2 A3 b5 b15 HT5
      have hitk := HA5.out k hkl G (by rw [HLk.out]; exact HIT.out) rfl
      rw [HLk.out] at hitk
      obtain ⟨⟨y4, c4⟩, f4⟩ := hitk.1 4 (by omega)
      have A4 := hide (hitk.1 4 (by omega))
      have c5 : w5.cell? ⟨G, k * 6 + 5, none⟩ = some (.slice a2 q c2) := by rw [← HQ.out]; exact hitk.2.1
      have HPA := hide (hitk.2.2.1.on ((Tch.refl (fun b => b = G) w5).set rfl (k * 6 + 4) (.string (mt (K + 1 + 1 + 1 + 1)))))
      have HC5 := hide c5
      clear hitk
      go_wp2_with fail
      have hpk := markParamS_mk B G _ q (K + 1 + 1 + 1 + 1 + 1) _ hpl (by have := HB.out; omega) (by have := HB.out; omega) (by have := HPA.out; rw [HQ.out] at this; exact this)
      refine hpk.mono ?_
      rintro e w7 ⟨rfl, hpm, t7⟩
      have hGS : ¬ ((Value.slice a2 q c2).ownBlock = some G) := fun e => (HOB.out G (by rw [HQ.out]; exact e)).1 rfl
      have HM7 : Hid (∀ i (hi : i < L.length), i < k + 1 → ∃ G', some (⟨G, 0, none⟩ : Addr) = some ⟨G', 0, none⟩ ∧ ItM w7 G' i L[i] (kAt L i)) := by
        refine hide fun i hi hik => ⟨G, rfl, ?_⟩
        by_cases hlt : i < k
        · obtain ⟨G', e, h⟩ := HM.out i hi hlt
          cases e
          exact ((HM5.out i hi hlt G h rfl).set (o := k * 6 + 4) (by omega) (.string (mt (K + 1 + 1 + 1 + 1)))).tch t7 hGS (fun g _ hg e => HAPk.out i hi hlt g hg (by rw [HQ.out]; exact e))
        · obtain rfl : i = k := by omega
          rw [HLk.out, HK.out]
          have E4 := set_at A4.out (.string (mt (K + 1 + 1 + 1 + 1)))
          refine ⟨⟨t7.cell hGS (set_off D0.out (by omega) _), t7.cell hGS (set_off D1.out (by omega) _), t7.cell hGS (set_off D2.out (by omega) _), t7.cell hGS (set_off D3.out (by omega) _), t7.cell hGS E4⟩, t7.cell hGS (set_off ?_ (by omega) _), ?_⟩
          · have := HC5.out
            rw [← HQ.out] at this
            exact this
          · rw [← HQ.out] at hpm
            exact hpm
      have HA7 : Hid (∀ i (hi : i < L.length), ∃ G', some (⟨G, 0, none⟩ : Addr) = some ⟨G', 0, none⟩ ∧ B ≤ G' ∧ G' < w7.heap.size ∧ ItA w7 B G' i L[i]) := by
        refine hide fun i hi => ⟨G, rfl, hG1, ?_, ?_⟩
        · have := t7.size
          simp [World.setCell] at this
          omega
        · obtain ⟨G', e, -, -, h⟩ := HA'.out i hi
          cases e
          exact ((HA5.out i hi G h rfl).set (o := k * 6 + 4) (by omega) (.string (mt (K + 1 + 1 + 1 + 1)))).tch t7 hGS
      have hkk := HV2.out _ (List.getElem_mem hkl)
      rw [HLk.out] at hkk
      have hb7 : Tch (fun k => B ≤ k ∧ k < hi) w w7 :=
        hbw.trans (HB15.out.trans (((Tch.refl _ w5).set (b := G) ⟨hG1, hGh⟩ (k * 6 + 4) (.string (mt (K + 1 + 1 + 1 + 1)))).trans (t7.wid (fun j e => ⟨(HOB.out j (by rw [HQ.out]; exact e)).2, hkk j (by rw [HQ.out]; exact e)⟩))))
      clear c4 f4 c5 hpm t7
      go_wp2
      go_roundw
      case rel => exact ⟨k + 1, by go_num, by rw [HKS.out], by omega, HM7, HA7, hb7⟩
      case measure => simp [intOf]; omega
    · have i1 : ¬ (k : Int) < n := by omega
      obtain rfl : k = n := by omega
      go_wp2
      go_ret
      exact ⟨rfl, ⟨a, c, by rw [HN.out], fun i hi => HM.out i hi (by rw [← HN.out]; exact hi)⟩, hbw⟩
set_option maxHeartbeats 8000000 in
theorem heldItemS_mk (v : Value) (L : List IV) (w : World) (hl : L.length ≤ 255) (hp : ∀ p ∈ L, p.1.params.length ≤ 255) (h : MkI w v L) :
    Calls Tryd.prog 48 #[v, .int .i64 1] w fun e w' => e = .returned (.int .i64 (kAt L L.length)) ∧ Below w.heap.size w w' := by
  have HP := hide hp
  have HM := hide h
  obtain ⟨a, c, rfl, -⟩ := h
  clear hp
  obtain ⟨n, hn⟩ : ∃ n, L.length = n := ⟨_, rfl⟩
  have HN := hide hn
  rw [hn] at hl ⊢
  rw [hn] at HM
  clear hn
  go_enter Tryd.func48, Tryd.ntmps48
  go_wp2
  go_loopw [1, 5] (fun q i wr => ∃ k : Nat, i = .int .i64 k ∧ q = .int .i64 (kAt L k) ∧ k ≤ n ∧ Below w.heap.size w wr) (fun _ i _ => n - (intOf i).toNat)
  case atStart => exact ⟨0, rfl, rfl, by omega, Below.refl _ _⟩
  case round =>
    obtain ⟨k, rfl, rfl, hk, hbw⟩ := hrel
    by_cases hp : k < n
    · have i1 : (k : Int) < n := by omega
      have hkl : k < L.length := by rw [HN.out]; exact hp
      obtain ⟨a', c', e, hM⟩ := HM.out.on hbw
      cases e
      obtain ⟨G, rfl, hit⟩ := hM k hkl
      have hb := kAt_bound HP.out k (by omega)
      have hpl := HP.out _ (List.getElem_mem hkl)
      have hKs := kAt_succ hkl
      obtain ⟨K, hK⟩ : ∃ K, kAt L k = K := ⟨_, rfl⟩
      rw [hK] at hb hKs hit ⊢
      obtain ⟨⟨it, uu⟩, hLk⟩ : ∃ p, L[k] = p := ⟨_, rfl⟩
      rw [hLk] at hKs hpl hit
      obtain ⟨q, hq⟩ : ∃ q, it.params.length = q := ⟨_, rfl⟩
      simp only [] at hKs hpl
      rw [hq] at hKs hpl
      obtain ⟨⟨c0, c1, c2, c3, c4⟩, c5, hpm⟩ := hit
      simp only [] at c5 hpm
      rw [hq] at hpm
      have HPM := hide hpm
      obtain ⟨a2, c2'', rfl, -⟩ := hpm
      have HKS := hide hKs
      have HMT : Hid (∀ w', Calls Tryd.prog 70 #[.int .i64 (K + 1 + 1 + 1 + 1)] w' fun e w2 => e = .returned (.string (mt (K + 1 + 1 + 1 + 1))) ∧ Below w'.heap.size w' w2) := hide fun w' => markText_any _ w' (by omega)
      have hKp : ¬ (K + 1 + 1 + 1 + 1 + 1 + 2 * (q : Int)) < 0 := by omega
      have hK0 : 0 ≤ K + 1 + 1 + 1 + 1 + 1 ∧ K + 1 + 1 + 1 + 1 + 1 ≤ 1000000000 := by omega
      have HK0 := hide hK0
      generalize hmt : mt (K + 1 + 1 + 1 + 1) = s at *
      clear hKs hK hLk hq hM hmt hK0
      go_wp2_with fail
      go_region_with (go_at_call 70; refine (HMT.out _).mono ?_; rintro e w5 ⟨rfl, b5⟩; have c4' := ((Below.trans (Below.refl _ _).drew b5).cell (p := ⟨G, k * 6 + 4, none⟩) (block_lt c4)).trans c4; have c5' := ((Below.trans (Below.refl _ _).drew b5).cell (p := ⟨G, k * 6 + 5, none⟩) (block_lt c5)).trans c5; have HPM5 := hide (HPM.out.on (S := fun _ => False) (Tch.of_below (Below.trans (Below.refl _ _).drew b5)) (fun _ _ _ e => e)))
      all_goals
        have hb5 := hbw.trans ((Below.trans (Below.refl _ _).drew b5).mono hbw.size)
        clear b5 c0 c1 c2 c3
        go_wp2_with fail
        refine (heldParamS_mk G _ q _ _ hpl HK0.out.1 HK0.out.2 HPM5.out).mono ?_
        rintro e w7 ⟨rfl, rfl⟩
        go_wp2
        go_roundw
        case rel => exact ⟨k + 1, by go_num, by rw [HKS.out], by omega, hb5⟩
        case measure => simp [intOf]; omega
    · have i1 : ¬ (k : Int) < n := by omega
      obtain rfl : k = n := by omega
      go_wp2
      go_ret
      exact ⟨rfl, hbw⟩
theorem markInterface_mk (s : ByteArray) (v : Value) (B : Nat) (L : List IV) (w : World) (hi : Nat) (hl : L.length ≤ 255) (h : IRow w B v L) (hv : ∀ k, v.ownBlock = some k → k < hi) (hv2 : ∀ p ∈ L, ∀ k, p.2.ownBlock = some k → k < hi) :
    Calls Tryd.prog 21 #[.agg #[.string s, v], .int .i64 1] w fun e w' => e = .returned (.int .i64 (kAt L L.length)) ∧ MkI w' v L ∧ Tch (fun k => B ≤ k ∧ k < hi) w w' := by
  have HM : Hid (∀ w', Below w.heap.size w w' → Calls Tryd.prog 44 #[v, .int .i64 1] w' fun e w2 => e = .returned (.int .i64 (kAt L L.length)) ∧ MkI w2 v L ∧ Tch (fun k => B ≤ k ∧ k < hi) w' w2) := hide fun w' bel => markItemS_mk v B L w' hi hl (h.on bel) hv hv2
  obtain ⟨a, n, c, rfl⟩ := irow_form h
  generalize kAt L L.length = K at *
  clear hv hv2
  go_enter Tryd.func21, Tryd.ntmps21
  go_wp2_with fail
  refine (HM.out _ ((Below.refl _ _).alloc (Nat.le_refl _) _)).mono ?_
  rintro e w1 ⟨rfl, hm, o1⟩
  go_wp2
  go_ret
  exact ⟨rfl, hm, (Tch.of_below ((Below.refl _ _).alloc (Nat.le_refl _) _)).trans o1⟩
theorem heldInterface_mk (s : ByteArray) (v : Value) (L : List IV) (w : World) (hl : L.length ≤ 255) (hp : ∀ p ∈ L, p.1.params.length ≤ 255) (h : MkI w v L) :
    Calls Tryd.prog 26 #[.agg #[.string s, v], .int .i64 1] w fun e w' => e = .returned (.int .i64 (kAt L L.length)) ∧ Below w.heap.size w w' := by
  have HM : Hid (∀ w', Below w.heap.size w w' → Calls Tryd.prog 48 #[v, .int .i64 1] w' fun e w2 => e = .returned (.int .i64 (kAt L L.length)) ∧ Below w'.heap.size w' w2) := hide fun w' bel => heldItemS_mk v L w' hl hp (h.on bel)
  have hb := kAt_bound hp L.length (Nat.le_refl _)
  obtain ⟨a, c, rfl, -⟩ := h
  generalize L.length = n at *
  generalize kAt L n = K at *
  have hK : ¬ K < 0 := by omega
  go_enter Tryd.func26, Tryd.ntmps26
  go_wp2_with fail
  refine (HM.out _ ((Below.refl _ _).alloc (Nat.le_refl _) _)).mono ?_
  rintro e w1 ⟨rfl, o1⟩
  go_wp2
  go_ret
  exact ⟨rfl, ((Below.refl _ _).alloc (Nat.le_refl _) _).trans (o1.mono (by simp))⟩
set_option maxHeartbeats 2000000 in
/-- A row of bytes marked: that row alone has turned. -/
theorem markByteS_tch (g c : Nat) (l : List Int) (w : World) (hl : l.length ≤ 1099511627776) (h : ∀ i, i < l.length → Al w g i) :
    Calls Tryd.prog 22 #[.slice (some ⟨g, 0, none⟩) l.length c, .int .i64 1] w fun e w' => e = .returned (.int .i64 (1 + (l.length : Int))) ∧ Tch (fun k => k = g) w w' := by
  have H := hide h
  obtain ⟨n, hn⟩ : ∃ n, l.length = n := ⟨_, rfl⟩
  have HN := hide hn
  rw [hn] at hl ⊢
  clear h hn
  go_enter Tryd.func22, Tryd.ntmps22
  go_wp2
  go_loopw [1, 5] (fun q i wr => ∃ k : Nat, i = .int .i64 k ∧ q = .int .i64 (1 + (k : Int)) ∧ k ≤ n ∧ Tch (fun k => k = g) w wr) (fun _ i _ => n - (intOf i).toNat)
  case atStart => exact ⟨0, rfl, rfl, by omega, Tch.refl _ _⟩
  case round =>
    obtain ⟨k, rfl, rfl, hk, hbw⟩ := hrel
    by_cases hp : k < n
    · have i1 : (k : Int) < n := by omega
      obtain ⟨⟨y, hc⟩, hf⟩ := hbw.al _ _ (H.out k (by rw [HN.out]; exact hp))
      go_wp2
      go_roundw
      case rel => exact ⟨k + 1, by go_num, by go_num, by omega, hbw.set rfl k _⟩
      case measure => simp [intOf]; omega
    · have i1 : ¬ (k : Int) < n := by omega
      obtain rfl : k = n := by omega
      go_wp2
      go_ret
      exact ⟨rfl, hbw⟩
end Go.Proofs.YtoomnimbokbadaaDoor
