/- Maps from whatever keys to numbers, in memory of the call's own, as a list of what was put. No condition. -/
import Derived.Test.YtfbglokjehmgeaaGreatDoorZLkI
import Derived.Test.YtfbglokjehmgeaaGreatDoorZObjEq
import Derived.Deep.RegionWith
import Derived.BigQuiet
import Derived.WalkSmall
import Derived.Test.YtfbglokjehmgeaaGreatDoorZHelQ
import Derived.Test.YtfbglokjehmgeaaGreatDoorZLkW
import Derived.MapKept
import Derived.LaidEql
import Derived.Laws.StructEq
import Derived.OwnWalk
/- An image as plain data; what holds the same is told the same. No condition. -/
namespace Go.Proofs.YtfbglokjehmgeaaGreatDoor
open Go.ChangeShapes Go.WideShapes Go.ChangeAt Go.RowKit Go.Deep

abbrev StringD := ByteArray
abbrev IntD := Int
def StringAt : Elem StringD := fun cf _ _ x => cf 0 = some (.string x) ∧ x.size ≤ maxLen
theorem StringAt.stays : Stays StringAt := fun _ _ _ _ _ h _ => h
theorem StringAt.widens : Widens StringAt := fun _ _ _ _ _ h _ _ _ => h
theorem StringAt.loc : Loc StringAt 1 := fun _ _ _ _ _ e ⟨c0, hr⟩ => ⟨(e 0 (by omega)).trans c0, hr⟩
def IntAt : Elem IntD := fun cf _ _ x => cf 0 = some (.int .i64 x) ∧ I64 x
theorem IntAt.stays : Stays IntAt := fun _ _ _ _ _ h _ => h
theorem IntAt.widens : Widens IntAt := fun _ _ _ _ _ h _ _ _ => h
theorem IntAt.loc : Loc IntAt 1 := fun _ _ _ _ _ e ⟨c0, hr⟩ => ⟨(e 0 (by omega)).trans c0, hr⟩
set_option maxHeartbeats 4000000 in
theorem eqStringS_same (v v' : Value) (m m' : Md) (l : List StringD) (w : World) (hn : l.length ≤ maxLen) (h : SlAt StringAt 1 w m v l) (h' : SlAt StringAt 1 w m' v' l) (hm : m.hi ≤ w.heap.size) (hm' : m'.hi ≤ w.heap.size) :
    Calls Tryz.prog 27 #[v, v'] w fun e w' => e = .returned (.bool true) ∧ Below w.heap.size w w' := by
  unfold maxLen at hn
  have HS := hide h
  have HS' := hide h'
  obtain ⟨a, c, rfl, -⟩ := h
  obtain ⟨a', c', rfl, -⟩ := h'
  obtain ⟨n, hl⟩ : ∃ n, l.length = n := ⟨_, rfl⟩
  have HN := hide hl
  rw [hl] at hn ⊢
  clear hl
  go_enter Tryz.func27, Tryz.ntmps27
  go_wp2
  go_loopw [5] (fun i wr => ∃ k : Nat, i = .int .i64 k ∧ k ≤ n ∧ Below w.heap.size w wr) (fun i _ => n - (intOf i).toNat)
  case atStart => exact ⟨0, rfl, by omega, Below.refl _ _⟩
  case round =>
    obtain ⟨k, rfl, hk, hbw⟩ := hrel
    by_cases hp : k < n
    · have i1 : (k : Int) < n := by omega
      obtain ⟨x, hx⟩ : ∃ x, l[k]'(by rw [HN.out]; exact hp) = x := ⟨_, rfl⟩
      obtain ⟨a1, c1', e1, hrows⟩ := HS.out.on StringAt.stays (hbw.mono hm)
      cases e1
      obtain ⟨b, o, rfl, hb1, hb2, -, he⟩ := hrows k (by rw [HN.out]; exact hp)
      obtain ⟨a2, c2', e2, hrows'⟩ := HS'.out.on StringAt.stays (hbw.mono hm')
      cases e2
      obtain ⟨b', o', rfl, hb1', hb2', -, heq⟩ := hrows' k (by rw [HN.out]; exact hp)
      rw [hx] at he heq
      clear hx hrows hrows'
      obtain ⟨d0, -⟩ := he
      obtain ⟨d1, -⟩ := heq
      simp only [Nat.mul_one, Nat.add_zero] at d0 d1
      go_wp2
      go_quiet (fail)
      go_wp2
      go_roundw
      case rel => exact ⟨k + 1, by go_num, by omega, Go.below_drewN hbw _⟩
      case measure => simp [intOf]; omega
    · have i1 : ¬ (k : Int) < n := by omega
      go_wp2
      go_ret
      exact ⟨rfl, hbw⟩
set_option maxHeartbeats 4000000 in
theorem eqIntS_same (v v' : Value) (m m' : Md) (l : List IntD) (w : World) (hn : l.length ≤ maxLen) (h : SlAt IntAt 1 w m v l) (h' : SlAt IntAt 1 w m' v' l) (hm : m.hi ≤ w.heap.size) (hm' : m'.hi ≤ w.heap.size) :
    Calls Tryz.prog 28 #[v, v'] w fun e w' => e = .returned (.bool true) ∧ Below w.heap.size w w' := by
  unfold maxLen at hn
  have HS := hide h
  have HS' := hide h'
  obtain ⟨a, c, rfl, -⟩ := h
  obtain ⟨a', c', rfl, -⟩ := h'
  obtain ⟨n, hl⟩ : ∃ n, l.length = n := ⟨_, rfl⟩
  have HN := hide hl
  rw [hl] at hn ⊢
  clear hl
  go_enter Tryz.func28, Tryz.ntmps28
  go_wp2
  go_loopw [5] (fun i wr => ∃ k : Nat, i = .int .i64 k ∧ k ≤ n ∧ Below w.heap.size w wr) (fun i _ => n - (intOf i).toNat)
  case atStart => exact ⟨0, rfl, by omega, Below.refl _ _⟩
  case round =>
    obtain ⟨k, rfl, hk, hbw⟩ := hrel
    by_cases hp : k < n
    · have i1 : (k : Int) < n := by omega
      obtain ⟨x, hx⟩ : ∃ x, l[k]'(by rw [HN.out]; exact hp) = x := ⟨_, rfl⟩
      obtain ⟨a1, c1', e1, hrows⟩ := HS.out.on IntAt.stays (hbw.mono hm)
      cases e1
      obtain ⟨b, o, rfl, hb1, hb2, -, he⟩ := hrows k (by rw [HN.out]; exact hp)
      obtain ⟨a2, c2', e2, hrows'⟩ := HS'.out.on IntAt.stays (hbw.mono hm')
      cases e2
      obtain ⟨b', o', rfl, hb1', hb2', -, heq⟩ := hrows' k (by rw [HN.out]; exact hp)
      rw [hx] at he heq
      clear hx hrows hrows'
      obtain ⟨d0, -⟩ := he
      obtain ⟨d1, -⟩ := heq
      simp only [Nat.mul_one, Nat.add_zero] at d0 d1
      go_wp2
      go_quiet (fail)
      go_wp2
      go_roundw
      case rel => exact ⟨k + 1, by go_num, by omega, Go.below_drewN hbw _⟩
      case measure => simp [intOf]; omega
    · have i1 : ¬ (k : Int) < n := by omega
      go_wp2
      go_ret
      exact ⟨rfl, hbw⟩
structure ImageD where
  globals : Int
  procs : List CodeD
  names : List StringD
  start : List IntD
/-- A struct's value that is the data. -/
def ImageVal (w : World) (m : Md) (v : Value) (x : ImageD) : Prop := ∃ u1 u2 u3, v = .agg #[.int .i64 (x.globals), u1, u2, u3] ∧ (I64 x.globals ∧ x.procs.length ≤ maxLen ∧ x.names.length ≤ maxLen ∧ x.start.length ≤ maxLen) ∧ SlAt CodeAt 5 w m u1 x.procs ∧ SlAt StringAt 1 w m u2 x.names ∧ SlAt IntAt 1 w m u3 x.start
theorem ImageVal.same {w w' : World} {m : Md} {v : Value} {x : ImageD} (h : ImageVal w m v x) (s : Same m.lo m.hi w w') : ImageVal w' m v x := by
  obtain ⟨u1, u2, u3, e, hb, h1, h2, h3⟩ := h
  exact ⟨u1, u2, u3, e, hb, h1.same CodeAt.stays s, h2.same StringAt.stays s, h3.same IntAt.stays s⟩
theorem ImageVal.wid {w : World} {m m' : Md} {v : Value} {x : ImageD} (h : ImageVal w m v x) (a : m'.lo ≤ m.lo) (b : m.hi ≤ m'.hi) (c : m'.made = m.made) : ImageVal w m' v x := by
  obtain ⟨u1, u2, u3, e, hb, h1, h2, h3⟩ := h
  exact ⟨u1, u2, u3, e, hb, h1.wid CodeAt.widens a b c, h2.wid StringAt.widens a b c, h3.wid IntAt.widens a b c⟩
theorem ImageVal.on {w w' : World} {m : Md} {v : Value} {x : ImageD} (h : ImageVal w m v x) (bel : Below m.hi w w') : ImageVal w' m v x := h.same (.of_below bel (Nat.le_refl _))
set_option maxHeartbeats 4000000 in
theorem eqImage_same (v v' : Value) (m m' : Md) (x : ImageD) (w : World) (h : ImageVal w m v x) (h' : ImageVal w m' v' x) (hm : m.hi ≤ w.heap.size) (hm' : m'.hi ≤ w.heap.size) :
    Calls Tryz.prog 8 #[v, v'] w fun e w' => e = .returned (.bool true) ∧ Below w.heap.size w w' := by
  obtain ⟨u1, u2, u3, rfl, hb, s1, s2, s3⟩ := h
  have HS1 := hide s1
  obtain ⟨p1, c1, rfl, -⟩ := s1
  have HS2 := hide s2
  obtain ⟨p2, c2, rfl, -⟩ := s2
  have HS3 := hide s3
  obtain ⟨p3, c3, rfl, -⟩ := s3
  obtain ⟨u1q, u2q, u3q, rfl, -, s1q, s2q, s3q⟩ := h'
  have HS1q := hide s1q
  obtain ⟨p1q, c1q, rfl, -⟩ := s1q
  have HS2q := hide s2q
  obtain ⟨p2q, c2q, rfl, -⟩ := s2q
  have HS3q := hide s3q
  obtain ⟨p3q, c3q, rfl, -⟩ := s3q
  obtain ⟨-, lb1, lb2, lb3⟩ := hb
  go_enter Tryz.func8, Tryz.ntmps8
  go_wp2_with fail
  refine (eqCodeS_same (.slice p1 x.procs.length c1) (.slice p1q x.procs.length c1q) m m' x.procs _ lb1 (HS1.out.on CodeAt.stays (Below.mono (((Below.refl _ _).alloc (Nat.le_refl _) _).alloc (by simp) _) hm)) (HS1q.out.on CodeAt.stays (Below.mono (((Below.refl _ _).alloc (Nat.le_refl _) _).alloc (by simp) _) hm')) (Nat.le_trans hm (Below.size (((Below.refl _ _).alloc (Nat.le_refl _) _).alloc (by simp) _))) (Nat.le_trans hm' (Below.size (((Below.refl _ _).alloc (Nat.le_refl _) _).alloc (by simp) _)))).mono ?_
  rintro e w1' ⟨rfl, bel1⟩
  have z1 : w.heap.size + 2 ≤ w1'.heap.size := Nat.le_trans (by first | omega | (simp <;> omega)) bel1.size
  have f1_2 := (bel1.cell (p := ⟨w.heap.size, 2, none⟩) (by first | omega | (simp <;> omega))).trans (show _ = some (Value.slice p2 x.names.length c2) by simp [go_sem])
  have f1_2q := (bel1.cell (p := ⟨w.heap.size + 1, 2, none⟩) (by first | omega | (simp <;> omega))).trans (show _ = some (Value.slice p2q x.names.length c2q) by simp [go_sem])
  have f1_3 := (bel1.cell (p := ⟨w.heap.size, 3, none⟩) (by first | omega | (simp <;> omega))).trans (show _ = some (Value.slice p3 x.start.length c3) by simp [go_sem])
  have f1_3q := (bel1.cell (p := ⟨w.heap.size + 1, 3, none⟩) (by first | omega | (simp <;> omega))).trans (show _ = some (Value.slice p3q x.start.length c3q) by simp [go_sem])
  go_wp2_with fail
  refine (eqStringS_same (.slice p2 x.names.length c2) (.slice p2q x.names.length c2q) m m' x.names _ lb2 (HS2.out.on StringAt.stays (Below.mono (Below.trans (((Below.refl _ _).alloc (Nat.le_refl _) _).alloc (by simp) _) (Below.mono bel1 (Below.size (((Below.refl _ _).alloc (Nat.le_refl _) _).alloc (by simp) _)))) hm)) (HS2q.out.on StringAt.stays (Below.mono (Below.trans (((Below.refl _ _).alloc (Nat.le_refl _) _).alloc (by simp) _) (Below.mono bel1 (Below.size (((Below.refl _ _).alloc (Nat.le_refl _) _).alloc (by simp) _)))) hm')) (Nat.le_trans hm (Below.size (Below.trans (((Below.refl _ _).alloc (Nat.le_refl _) _).alloc (by simp) _) (Below.mono bel1 (Below.size (((Below.refl _ _).alloc (Nat.le_refl _) _).alloc (by simp) _)))))) (Nat.le_trans hm' (Below.size (Below.trans (((Below.refl _ _).alloc (Nat.le_refl _) _).alloc (by simp) _) (Below.mono bel1 (Below.size (((Below.refl _ _).alloc (Nat.le_refl _) _).alloc (by simp) _))))))).mono ?_
  rintro e w2' ⟨rfl, bel2⟩
  have z2 : w.heap.size + 2 ≤ w2'.heap.size := Nat.le_trans (by first | omega | (simp <;> omega)) bel2.size
  have f2_3 := (bel2.cell (p := ⟨w.heap.size, 3, none⟩) (by show w.heap.size < _; first | omega | (simp <;> omega))).trans f1_3
  have f2_3q := (bel2.cell (p := ⟨w.heap.size + 1, 3, none⟩) (by show w.heap.size + 1 < _; first | omega | (simp <;> omega))).trans f1_3q
  go_wp2_with fail
  refine (eqIntS_same (.slice p3 x.start.length c3) (.slice p3q x.start.length c3q) m m' x.start _ lb3 (HS3.out.on IntAt.stays (Below.mono (Below.trans (Below.trans (((Below.refl _ _).alloc (Nat.le_refl _) _).alloc (by simp) _) (Below.mono bel1 (Below.size (((Below.refl _ _).alloc (Nat.le_refl _) _).alloc (by simp) _)))) (Below.mono bel2 (Below.size (Below.trans (((Below.refl _ _).alloc (Nat.le_refl _) _).alloc (by simp) _) (Below.mono bel1 (Below.size (((Below.refl _ _).alloc (Nat.le_refl _) _).alloc (by simp) _))))))) hm)) (HS3q.out.on IntAt.stays (Below.mono (Below.trans (Below.trans (((Below.refl _ _).alloc (Nat.le_refl _) _).alloc (by simp) _) (Below.mono bel1 (Below.size (((Below.refl _ _).alloc (Nat.le_refl _) _).alloc (by simp) _)))) (Below.mono bel2 (Below.size (Below.trans (((Below.refl _ _).alloc (Nat.le_refl _) _).alloc (by simp) _) (Below.mono bel1 (Below.size (((Below.refl _ _).alloc (Nat.le_refl _) _).alloc (by simp) _))))))) hm')) (Nat.le_trans hm (Below.size (Below.trans (Below.trans (((Below.refl _ _).alloc (Nat.le_refl _) _).alloc (by simp) _) (Below.mono bel1 (Below.size (((Below.refl _ _).alloc (Nat.le_refl _) _).alloc (by simp) _)))) (Below.mono bel2 (Below.size (Below.trans (((Below.refl _ _).alloc (Nat.le_refl _) _).alloc (by simp) _) (Below.mono bel1 (Below.size (((Below.refl _ _).alloc (Nat.le_refl _) _).alloc (by simp) _))))))))) (Nat.le_trans hm' (Below.size (Below.trans (Below.trans (((Below.refl _ _).alloc (Nat.le_refl _) _).alloc (by simp) _) (Below.mono bel1 (Below.size (((Below.refl _ _).alloc (Nat.le_refl _) _).alloc (by simp) _)))) (Below.mono bel2 (Below.size (Below.trans (((Below.refl _ _).alloc (Nat.le_refl _) _).alloc (by simp) _) (Below.mono bel1 (Below.size (((Below.refl _ _).alloc (Nat.le_refl _) _).alloc (by simp) _)))))))))).mono ?_
  rintro e w3' ⟨rfl, bel3⟩
  go_wp2
  go_ret
  exact ⟨rfl, (Below.trans (Below.trans (Below.trans (((Below.refl _ _).alloc (Nat.le_refl _) _).alloc (by simp) _) (Below.mono bel1 (Below.size (((Below.refl _ _).alloc (Nat.le_refl _) _).alloc (by simp) _)))) (Below.mono bel2 (Below.size (Below.trans (((Below.refl _ _).alloc (Nat.le_refl _) _).alloc (by simp) _) (Below.mono bel1 (Below.size (((Below.refl _ _).alloc (Nat.le_refl _) _).alloc (by simp) _))))))) (Below.mono bel3 (Below.size (Below.trans (Below.trans (((Below.refl _ _).alloc (Nat.le_refl _) _).alloc (by simp) _) (Below.mono bel1 (Below.size (((Below.refl _ _).alloc (Nat.le_refl _) _).alloc (by simp) _)))) (Below.mono bel2 (Below.size (Below.trans (((Below.refl _ _).alloc (Nat.le_refl _) _).alloc (by simp) _) (Below.mono bel1 (Below.size (((Below.refl _ _).alloc (Nat.le_refl _) _).alloc (by simp) _))))))))))⟩
/-- What a code's numbers and texts must be to be read. -/
def CFit (x : CodeD) : Prop := (x.name.size ≤ maxLen ∧ I64 x.params ∧ I64 x.cells ∧ I64 x.result ∧ x.list.length ≤ maxLen) ∧ ∀ y ∈ x.list, I64 y.op ∧ I64 y.a ∧ I64 y.b ∧ y.mod.size ≤ maxLen ∧ y.name.size ≤ maxLen
theorem kcode_at {w : World} {B : Nat} {v : Value} {L : List CV} (h : KRow w B v L) (hc : ∀ p ∈ L, CFit p.1) : SlAt CodeAt 5 w ⟨B, w.heap.size, false⟩ v (L.map Prod.fst) := by
  obtain ⟨a, c, rfl⟩ := h.1.form
  have hs : SlAt (fun cf w' m (p : CV) => w' = w ∧ m = ⟨B, w.heap.size, false⟩ ∧ p ∈ L ∧ ∀ j, j < 5 → cf j = (codeK.cs p)[j]?) 5 w ⟨B, w.heap.size, false⟩ (.slice a L.length c) L := by
    obtain ⟨a', c', e, hr⟩ := h.1.slat codeOk (E := fun cf _ _ (p : CV) => p ∈ L ∧ ∀ j, j < 5 → cf j = (codeK.cs p)[j]?) (fun x hx cf m hc => ⟨hx, hc⟩)
    cases e
    refine ⟨_, _, rfl, fun i hi => ?_⟩
    obtain ⟨b, o, e, g1, g2, g3, g4⟩ := hr i hi
    exact ⟨b, o, e, g1, g2, g3, rfl, rfl, g4⟩
  obtain ⟨a', c', e, hr⟩ := hs
  cases e
  refine ⟨a, c, by rw [List.length_map], fun i hi => ?_⟩
  have hi' : i < L.length := by rw [List.length_map] at hi; exact hi
  obtain ⟨b, o, e, g1, g2, g3, -, -, hp, hcc⟩ := hr i hi'
  have hins := h.2.1 _ hp
  obtain ⟨hb, hi2⟩ := hc _ hp
  refine ⟨b, o, e, ⟨g1.1, by rw [List.length_map]; exact g1.2⟩, g2, g3, ?_⟩
  rw [List.getElem_map]
  exact ⟨⟨hcc 0 (by decide), hcc 1 (by decide), hcc 2 (by decide), hcc 3 (by decide)⟩, hb, L[i].2, hcc 4 (by decide), hins.slat insOk fun x hx cf m hc => ⟨⟨hc 0 (by decide), hc 1 (by decide), hc 2 (by decide), hc 3 (by decide), hc 4 (by decide)⟩, hi2 x hx⟩⟩
/-- What an image must be to be read. -/
structure IFit (x : ImageD) : Prop where
  glob : I64 x.globals
  procs : x.procs.length ≤ 2000
  names : x.names.length ≤ 2000
  start : x.start.length ≤ 2000
  codes : ∀ y ∈ x.procs, CFit y ∧ y.list.length ≤ 65535
  texts : ∀ s ∈ x.names, s.size ≤ maxLen
  nums : ∀ s ∈ x.start, I64 s
theorem irows_val {w : World} {B : Nat} {pv nv sv : Value} {x : ImageD} (h : IRows w B pv nv sv x.procs x.names x.start) (hf : IFit x) : ImageVal w ⟨B, w.heap.size, false⟩ (.agg #[.int .i64 x.globals, pv, nv, sv]) x := by
  obtain ⟨⟨cl, e, hk⟩, h2, h3⟩ := h
  have h1 := hf.procs
  have h4 := hf.names
  have h5 := hf.start
  refine ⟨pv, nv, sv, rfl, ⟨hf.glob, by unfold maxLen; omega, by unfold maxLen; omega, by unfold maxLen; omega⟩, ?_, ?_, ?_⟩
  · have := kcode_at hk fun p hp => (hf.codes p.1 (by rw [← e]; exact List.mem_map.2 ⟨p, hp, rfl⟩)).1
    rw [e] at this
    exact this
  · exact h2.slat strOk fun x hx cf m hcf => ⟨hcf 0 (by decide), hf.texts x hx⟩
  · exact h3.slat zOk fun x hx cf m hcf => ⟨hcf 0 (by decide), hf.nums x hx⟩
end Go.Proofs.YtfbglokjehmgeaaGreatDoor

/- The law's marks in an image. No condition. -/
namespace Go.Proofs.YtfbglokjehmgeaaGreatDoor
open Go.ChangeShapes Go.WideShapes Go.ChangeAt Go.RowKit Go.Deep

theorem FRow.fal {D : Type} {F : FlatK D} (hF : F.Ok) {w : World} {B : Nat} {v : Value} {l : List D} (h : FRow F w B v l) : FAl w B v l.length F.sz := by
  by_cases hl : l.length = 0
  · obtain ⟨a, c, e⟩ := h.form
    exact ⟨a, c, e, fun j hj => by omega⟩
  · rcases h.2 with ⟨-, e⟩ | ⟨G, cap, cur, rfl, hb, hG, -⟩
    · exact absurd e hl
    · have hc := World.ownsRow.cells (g := G) h rfl
      refine ⟨_, cap, rfl, fun j hj => ⟨G, rfl, rfl, hb, fun q hq => ?_⟩⟩
      have e := FlatK.all_at hF l j hj q hq
      have hql : q < (F.cs l[j]).length := by rw [hF.len]; exact hq
      rw [List.getElem?_eq_getElem hql] at e
      have := hc _ _ e
      rw [add_plain, Nat.zero_add] at this
      exact ⟨⟨_, this⟩, (heapCells hG).2 _⟩
/-- Rows of different types lie in different blocks. -/
theorem FRow.apart {D D' : Type} {F : FlatK D} {G : FlatK D'} {w : World} {B B' : Nat} {v v' : Value} {l : List D} {l' : List D'} (h : FRow F w B v l) (k : FRow G w B' v' l') (hne : F.ty ≠ G.ty) : ∀ g, v.ownBlock = some g → ¬ v'.ownBlock = some g := by
  intro g e e'
  obtain ⟨C, hC⟩ := h.ty e
  obtain ⟨C', hC'⟩ := k.ty e'
  rw [hC] at hC'
  have := congrArg (fun o : Option Obj => match o with | some (.cells _ T _) => T | _ => 0) hC'
  exact hne this
theorem KRow.cal {w : World} {B : Nat} {v : Value} {L : List CV} (h : KRow w B v L) : CAl w B v L := by
  obtain ⟨a, c, rfl, hj⟩ := h.1.fal codeOk
  refine ⟨a, c, rfl, fun i hi => ?_⟩
  obtain ⟨G, rfl, ho, hb, ha⟩ := hj i hi
  have hp := h.2.1 _ (List.getElem_mem hi)
  refine ⟨G, rfl, ha, ?_, hp.fal insOk, fun g hg e => ?_⟩
  · have hc := World.ownsRow.cells (g := G) h.1 rfl
    have e : (codeK.all L)[i * 5 + 4]? = some L[i].2 := FlatK.all_at codeOk L i hi 4 (by decide)
    have := hc _ _ e
    rw [add_plain, Nat.zero_add] at this
    exact this
  · subst e
    exact h.1.apart hp (by decide) g ho hg
theorem img_cells {w : World} {G : Nat} {y0 y1 y2 y3 : Value} {T : TypeId} (h : w.heap[G]? = some (.cells #[y0, y1, y2, y3] T (0, 0))) :
    (w.cell? ⟨G, 0, none⟩ = some y0 ∧ w.cell? ⟨G, 1, none⟩ = some y1 ∧ w.cell? ⟨G, 2, none⟩ = some y2 ∧ w.cell? ⟨G, 3, none⟩ = some y3) ∧ ∀ j, w.frozen? ⟨G, j, none⟩ = false := by
  obtain ⟨s1, s2⟩ := heapCells h
  exact ⟨⟨s1 0, s1 1, s1 2, s1 3⟩, s2⟩
/-- The blocks of an image's rows. -/
def MS (pv nv sv : Value) (L : List CV) (k : Nat) : Prop := CS pv L k ∨ nv.ownBlock = some k ∨ sv.ownBlock = some k
def iAt (L : List CV) (n2 n3 : Nat) : Int := cAt L 1 L.length + (n2 : Int) + (n3 : Int)
/-- An image's rows, there to be marked. -/
structure MA (w : World) (B : Nat) (pv nv sv : Value) (L : List CV) (n2 n3 : Nat) : Prop where
  a1 : CAl w B pv L
  a2 : FAl w B nv n2 1
  a3 : FAl w B sv n3 1
  d12 : ∀ g, CS pv L g → ¬ nv.ownBlock = some g
  d13 : ∀ g, CS pv L g → ¬ sv.ownBlock = some g
  d23 : ∀ g, nv.ownBlock = some g → ¬ sv.ownBlock = some g
  lt : ∀ k, MS pv nv sv L k → B ≤ k ∧ k < w.heap.size
  m1 : L.length ≤ 2000
  m2 : n2 ≤ 2000
  m3 : n3 ≤ 2000
  mi : ∀ p ∈ L, p.1.list.length ≤ 65535
  ap : L.Pairwise fun a b => ∀ k, a.2.ownBlock = some k → b.2.ownBlock ≠ some k
theorem IRows.ma {w : World} {B : Nat} {pv nv sv : Value} {x : ImageD} (h : IRows w B pv nv sv x.procs x.names x.start) (hf : IFit x) : ∃ L, MA w B pv nv sv L x.names.length x.start.length := by
  obtain ⟨⟨L, e, hk⟩, h2, h3⟩ := h
  have hl := hf.procs
  rw [← e, List.length_map] at hl
  refine ⟨L, hk.cal, h2.fal strOk, h3.fal zOk, ?_, ?_, h2.apart h3 (by decide), ?_, hl, hf.names, hf.start, fun p hp => (hf.codes p.1 (by rw [← e]; exact List.mem_map.2 ⟨p, hp, rfl⟩)).2, hk.2.2⟩
  · rintro g (e' | ⟨p, hp, e'⟩)
    · exact hk.1.apart h2 (by decide) g e'
    · exact (hk.2.1 p hp).apart h2 (by decide) g e'
  · rintro g (e' | ⟨p, hp, e'⟩)
    · exact hk.1.apart h3 (by decide) g e'
    · exact (hk.2.1 p hp).apart h3 (by decide) g e'
  · rintro k ((e' | ⟨p, hp, e'⟩) | e' | e')
    · exact hk.1.lt e'
    · exact (hk.2.1 p hp).lt e'
    · exact h2.lt e'
    · exact h3.lt e'
theorem MA.tch {S : Nat → Prop} {w w' : World} {B : Nat} {pv nv sv : Value} {L : List CV} {n2 n3 : Nat} (h : MA w B pv nv sv L n2 n3) (t : Tch S w w') (hs : ∀ k, MS pv nv sv L k → ¬ S k) : MA w' B pv nv sv L n2 n3 :=
  ⟨h.a1.tch t fun k e => hs k (.inl (.inl e)), h.a2.on t, h.a3.on t, h.d12, h.d13, h.d23, fun k e => ⟨(h.lt k e).1, Nat.lt_of_lt_of_le (h.lt k e).2 t.size⟩, h.m1, h.m2, h.m3, h.mi, h.ap⟩
theorem MA.bound {w : World} {B : Nat} {pv nv sv : Value} {L : List CV} {n2 n3 : Nat} (h : MA w B pv nv sv L n2 n3) : 1 ≤ cAt L 1 L.length ∧ cAt L 1 L.length ≤ 900000000 := by
  have h1 := cAt_bound (K := 1) h.mi L.length (Nat.le_refl _)
  have h2 := h.m1
  omega
/-- .. marked. -/
def MkI (w : World) (pv nv sv : Value) (L : List CV) (n2 n3 : Nat) : Prop := MkC w pv L 1 ∧ SMk w nv n2 strM (cAt L 1 L.length) ∧ SMk w sv n3 intM (cAt L 1 L.length + (n2 : Int))
theorem MkI.tch {S : Nat → Prop} {w w' : World} {pv nv sv : Value} {L : List CV} {n2 n3 : Nat} (h : MkI w pv nv sv L n2 n3) (t : Tch S w w') (hs : ∀ k, MS pv nv sv L k → ¬ S k) : MkI w' pv nv sv L n2 n3 :=
  ⟨h.1.tch t fun g e => hs g (.inl e), h.2.1.on t fun g e => hs g (.inr (.inl e)), h.2.2.on t fun g e => hs g (.inr (.inr e))⟩
theorem MkI.on {w w' : World} {pv nv sv : Value} {L : List CV} {n2 n3 : Nat} (h : MkI w pv nv sv L n2 n3) (bel : Below w.heap.size w w') : MkI w' pv nv sv L n2 n3 := h.tch (S := fun _ => False) (Tch.of_below bel) fun _ _ e => e
set_option maxHeartbeats 8000000 in
theorem markImage_mk (gl : Int) (pv nv sv : Value) (L : List CV) (n2 n3 : Nat) (B : Nat) (w : World) (h : MA w B pv nv sv L n2 n3) :
    Calls Tryz.prog 11 #[.agg #[.int .i64 gl, pv, nv, sv], .int .i64 1] w fun e w' => e = .returned (.int .i64 (iAt L n2 n3)) ∧ MkI w' pv nv sv L n2 n3 ∧ Tch (MS pv nv sv L) w w' := by
  have H := hide h
  have hK := h.bound
  obtain ⟨⟨a1, c1, rfl, -⟩, ⟨a2, c2, rfl, -⟩, ⟨a3, c3, rfl, -⟩, -, -, -, -, m1, m2, m3, -, -⟩ := h
  obtain ⟨n1, hn1⟩ : ∃ k, L.length = k := ⟨_, rfl⟩
  have HN := hide hn1
  have hi : iAt L n2 n3 = cAt L 1 L.length + (n2 : Int) + (n3 : Int) := rfl
  rw [hn1] at H hK hi ⊢
  have HCm : Hid (∀ w', CAl w' B (.slice a1 n1 c1) L → Calls Tryz.prog 33 #[.slice a1 n1 c1, .int .i64 1] w' fun e w2 => e = .returned (.int .i64 (cAt L 1 n1)) ∧ MkC w2 (.slice a1 n1 c1) L 1 ∧ Tch (CS (.slice a1 n1 c1) L) w' w2) := hide fun w' hc => by
    have := markCodeS_mk (.slice a1 n1 c1) B L 1 w' H.out.m1 H.out.mi (by omega) (by omega) hc H.out.ap
    rw [hn1] at this
    exact this
  have HMk : Hid (∀ w', MkC w' (.slice a1 n1 c1) L 1 → SMk w' (.slice a2 n2 c2) n2 strM (cAt L 1 n1) → SMk w' (.slice a3 n3 c3) n3 intM (cAt L 1 n1 + (n2 : Int)) → MkI w' (.slice a1 n1 c1) (.slice a2 n2 c2) (.slice a3 n3 c3) L n2 n3) := hide fun w' h1 h2 h3 => ⟨h1, by rw [hn1]; exact h2, by rw [hn1]; exact h3⟩
  rw [hi]
  clear hn1 hi
  obtain ⟨K, hKe⟩ : ∃ K, cAt L 1 n1 = K := ⟨_, rfl⟩
  rw [hKe] at hK HCm HMk ⊢
  clear hKe
  obtain ⟨w0, hw0⟩ : ∃ w0, w0 = w.alloc (.cells #[.int .i64 gl, .slice a1 n1 c1, .slice a2 n2 c2, .slice a3 n3 c3] 28) := ⟨_, rfl⟩
  have b0 : Below w.heap.size w w0 := by rw [hw0]; exact (Below.refl _ _).alloc (Nat.le_refl _) _
  have hX : w0.heap[w.heap.size]? = some (.cells #[.int .i64 gl, .slice a1 n1 c1, .slice a2 n2 c2, .slice a3 n3 c3] 28 (0, 0)) := by rw [hw0]; exact Deep.blk_alloc_new w _
  have T0 := hide (Tch.of_below (S := fun _ => False) b0)
  have f2 : Hid (w0.cell? ⟨w.heap.size, 2, none⟩ = some (.slice a2 n2 c2)) := hide ((heapCells hX).1 2)
  have f3 : Hid (w0.cell? ⟨w.heap.size, 3, none⟩ = some (.slice a3 n3 c3)) := hide ((heapCells hX).1 3)
  have hlt : Hid (¬ MS (.slice a1 n1 c1) (.slice a2 n2 c2) (.slice a3 n3 c3) L w.heap.size) := hide fun e => Nat.lt_irrefl _ (H.out.lt _ e).2
  clear b0 hX
  go_enter Tryz.func11, Tryz.ntmps11
  go_wp2_with fail
  rw [← hw0]
  clear hw0
  refine (HCm.out w0 (H.out.a1.tch T0.out (fun _ _ e => e))).mono ?_
  rintro e w1 ⟨rfl, k2, t1⟩
  have K2 := hide k2
  have T1 := hide t1
  have g2 := t1.cell (fun e => hlt.out (.inl e)) f2.out
  have G3 := hide (t1.cell (fun e => hlt.out (.inl e)) f3.out)
  clear k2 t1
  go_wp2_with fail
  refine (markStringS_mk B _ n2 K w1 (by omega) (by omega) (by omega) ((H.out.a2.on T0.out).on T1.out)).mono ?_
  rintro e w2 ⟨rfl, k3, t2⟩
  have K3 := hide k3
  have T2 := hide t2
  have g3 := t2.cell (fun e => hlt.out (.inr (.inl e))) G3.out
  clear k3 t2 g2
  go_wp2_with fail
  refine (markIntS_mk B _ n3 (K + (n2 : Int)) w2 (by omega) (by omega) (by omega) (((H.out.a3.on T0.out).on T1.out).on T2.out)).mono ?_
  rintro e w3 ⟨rfl, k4, t3⟩
  have K4 := hide k4
  have T3 := hide t3
  clear k4 t3 g3
  go_wp2
  go_ret
  refine ⟨rfl, HMk.out _ ((K2.out.tch T2.out fun g e => H.out.d12 g e).tch T3.out fun g e => H.out.d13 g e) (K3.out.on T3.out fun g e => H.out.d23 g e) K4.out, ?_⟩
  exact (T0.out.wid fun _ e => e.elim).trans ((T1.out.wid fun _ e => .inl e).trans ((T2.out.wid fun _ e => .inr (.inl e)).trans (T3.out.wid fun _ e => .inr (.inr e))))
set_option maxHeartbeats 8000000 in
theorem heldImage_mk (gl : Int) (pv nv sv : Value) (L : List CV) (n2 n3 : Nat) (w : World) (hK : 1 ≤ cAt L 1 L.length ∧ cAt L 1 L.length ≤ 900000000) (m1 : L.length ≤ 2000) (m2 : n2 ≤ 2000) (m3 : n3 ≤ 2000) (hp : ∀ p ∈ L, p.1.list.length ≤ 65535) (h : MkI w pv nv sv L n2 n3) :
    Calls Tryz.prog 12 #[.agg #[.int .i64 gl, pv, nv, sv], .int .i64 1] w fun e w' => e = .returned (.int .i64 (iAt L n2 n3)) ∧ Below w.heap.size w w' := by
  have HC : Hid (∀ w', Below w.heap.size w w' → Calls Tryz.prog 36 #[pv, .int .i64 1] w' fun e w2 => e = .returned (.int .i64 (cAt L 1 L.length)) ∧ Below w'.heap.size w' w2) := hide fun w' bel => heldCodeS_mk pv L 1 w' m1 hp (by omega) (by omega) (h.on bel).1
  have hi : iAt L n2 n3 = cAt L 1 L.length + (n2 : Int) + (n3 : Int) := rfl
  have H := hide (fun w' (b : Below w.heap.size w w') => (h.on b).2)
  obtain ⟨⟨a1, c1, rfl, -⟩, ⟨a2, c2, rfl, -⟩, ⟨a3, c3, rfl, -⟩⟩ := h
  rw [hi]
  obtain ⟨n1, hn1⟩ : ∃ k, L.length = k := ⟨_, rfl⟩
  rw [hn1] at HC H hK ⊢
  clear hn1 m1 hi
  generalize cAt L 1 n1 = K at *
  obtain ⟨w0, hw0⟩ : ∃ w0, w0 = w.alloc (.cells #[.int .i64 gl, .slice a1 n1 c1, .slice a2 n2 c2, .slice a3 n3 c3] 28) := ⟨_, rfl⟩
  have b0 : Below w.heap.size w w0 := by rw [hw0]; exact (Below.refl _ _).alloc (Nat.le_refl _) _
  have hX : w0.heap[w.heap.size]? = some (.cells #[.int .i64 gl, .slice a1 n1 c1, .slice a2 n2 c2, .slice a3 n3 c3] 28 (0, 0)) := by rw [hw0]; exact Deep.blk_alloc_new w _
  have HX := hide hX
  have hs0 : w.heap.size < w0.heap.size := (Array.getElem?_eq_some_iff.1 hX).1
  have i1 : ¬ K < 0 := by omega
  have i2 : ¬ K + (n2 : Int) < 0 := by omega
  have i3 : ¬ K + (n2 : Int) + (n3 : Int) < 0 := by omega
  have B0 := hide b0
  clear b0 hX hp
  go_enter Tryz.func12, Tryz.ntmps12
  go_wp2_with fail
  rw [← hw0]
  clear hw0
  refine (HC.out w0 B0.out).mono ?_
  rintro e w1 ⟨rfl, b1⟩
  have B1 := hide (B0.out.trans (b1.mono B0.out.size))
  obtain ⟨⟨p0, p1, p2, p3⟩, -⟩ := img_cells ((b1.block _ hs0).trans HX.out)
  have BX := hide b1
  clear b1
  go_wp2_with fail
  refine (heldStringS_mk _ n2 K w1 (by omega) (by omega) (by omega) (H.out w1 B1.out).1).mono ?_
  rintro e w2 ⟨rfl, b2⟩
  have B2 := hide (B1.out.trans (b2.mono B1.out.size))
  obtain ⟨⟨q0, q1, q2, q3⟩, -⟩ := img_cells (((BX.out.trans (b2.mono BX.out.size)).block _ hs0).trans HX.out)
  clear b2 p0 p1 p2 p3
  go_wp2_with fail
  refine (heldIntS_mk _ n3 (K + (n2 : Int)) w2 (by omega) (by omega) (by omega) (H.out w2 B2.out).2).mono ?_
  rintro e w3 ⟨rfl, b3⟩
  clear q0 q1 q2 q3
  go_wp2
  go_ret
  exact ⟨rfl, B2.out.trans (b3.mono B2.out.size)⟩
end Go.Proofs.YtfbglokjehmgeaaGreatDoor

namespace Go.Proofs.YtfbglokjehmgeaaGreatDoor
open Go.ChangeShapes Go.WideShapes Go.ChangeAt Go.RowKit Go.Deep Go.MapKept

/-- A key's make: its type, the map's type, its value, when two are one. -/
structure MK (α : Type) where
  kt : TypeId
  mt : TypeId
  enc : α → Value
  eq : α → α → Bool
abbrev ML (α : Type) := List (α × Int)
section
variable {α : Type}
def MK.kv (K : MK α) (x : α × Int) : Value × Value := (K.enc x.1, .int .i64 x.2)
def MK.get (K : MK α) : ML α → α → Option Int
  | [], _ => none
  | x :: r, k => if K.eq k x.1 = true then some x.2 else K.get r k
def MK.put (K : MK α) : ML α → α → Int → ML α
  | [], k, c => [(k, c)]
  | x :: r, k, c => if K.eq k x.1 = true then (k, c) :: r else x :: K.put r k c
def MK.find (K : MK α) : ML α → α → Nat → Option (Nat × Value)
  | [], _, _ => none
  | x :: r, k, i => if K.eq k x.1 = true then some (i, .int .i64 x.2) else K.find r k (i + 1)
structure MK.Ok (K : MK α) : Prop where
  same : ∀ a b, K.eq a b = true ↔ a = b
  map : Tryz.prog.underlying K.mt = some (.map K.kt 3)
  fnd : ∀ (k : α) (w : World) (l : List MapEntry) (M : ML α), l.map (fun e => (e.key, e.val)) = M.map K.kv → (Instr.findKey K.kt (K.enc k) l).run Tryz.prog w = .ok (K.find M k 0) w
  chk : ∀ e k w, (Instr.checkKey e 10000 K.kt (K.enc k)).run Tryz.prog w = .ok () w
  bits : ∀ k, Instr.sameBits 10000 (K.enc k) (K.enc k) = true
variable {K : MK α}
theorem MK.get_put (hK : K.Ok) : ∀ (M : ML α) (k : α) (c : Int) (k' : α), K.get (K.put M k c) k' = if K.eq k' k = true then some c else K.get M k'
  | [], k, c, k' => rfl
  | x :: r, k, c, k' => by
    unfold MK.put
    by_cases h : K.eq k x.1 = true
    · rw [if_pos h]
      have e := (hK.same _ _).1 h
      unfold MK.get
      by_cases h2 : K.eq k' k = true
      · rw [if_pos h2, if_pos h2]
      · rw [if_neg h2, if_neg h2, if_neg (by rw [← e]; exact h2)]
    · rw [if_neg h]
      unfold MK.get
      by_cases h2 : K.eq k' x.1 = true
      · have e := (hK.same _ _).1 h2
        rw [if_pos h2, if_neg (fun h3 => h ((hK.same _ _).2 (((hK.same _ _).1 h3).symm.trans e))), if_pos h2]
      · rw [if_neg h2, if_neg h2, MK.get_put hK r k c k']
theorem MK.find_none (K : MK α) : ∀ {M : ML α} {k : α} (i : Nat), K.get M k = none → K.find M k i = none
  | [], _, _, _ => rfl
  | x :: r, k, i, h => by
    unfold MK.get at h
    unfold MK.find
    by_cases e : K.eq k x.1 = true
    · rw [if_pos e] at h
      cases h
    · rw [if_neg e] at h ⊢
      exact MK.find_none K (i + 1) h
theorem MK.put_none (K : MK α) : ∀ {M : ML α} {k : α} (c : Int), K.get M k = none → K.put M k c = M ++ [(k, c)]
  | [], _, _, _ => rfl
  | x :: r, k, c, h => by
    unfold MK.get at h
    unfold MK.put
    by_cases e : K.eq k x.1 = true
    · rw [if_pos e] at h
      cases h
    · rw [if_neg e] at h ⊢
      rw [MK.put_none K c h]
      rfl
theorem MK.find_some (hK : K.Ok) : ∀ {M : ML α} {k : α} {c : Int} (i : Nat), K.get M k = some c → ∃ j, M[j]? = some (k, c) ∧ K.find M k i = some (i + j, .int .i64 c) ∧ ∀ d, K.put M k d = M.modify j fun _ => (k, d)
  | [], _, _, _, h => by cases h
  | x :: r, k, c, i, h => by
    unfold MK.get at h
    by_cases e : K.eq k x.1 = true
    · rw [if_pos e] at h
      cases h
      refine ⟨0, ?_, ?_, fun d => ?_⟩
      · rw [(hK.same _ _).1 e]; rfl
      · unfold MK.find; rw [if_pos e]; rfl
      · unfold MK.put; rw [if_pos e]; rfl
    · rw [if_neg e] at h
      obtain ⟨j, h1, h2, h4⟩ := MK.find_some hK (i + 1) h
      refine ⟨j + 1, ?_, ?_, fun d => ?_⟩
      · simpa using h1
      · unfold MK.find
        rw [if_neg e, h2]
        congr 2
        omega
      · unfold MK.put
        rw [if_neg e, h4 d]
        rfl
/-- The map in block b. -/
def GM (K : MK α) (w : World) (b : Nat) (M : ML α) : Prop := ∃ es clock, w.heap[b]? = some (.map es clock) ∧ es.toList.map (fun e => (e.key, e.val)) = M.map K.kv
theorem GM.made (K : MK α) (w : World) : GM K (w.alloc (.map #[] 0)) w.heap.size [] := ⟨#[], 0, (MapKept.heap_alloc w _).1, rfl⟩
theorem GM.lt {w : World} {b : Nat} {M : ML α} (h : GM K w b M) : b < w.heap.size := by
  obtain ⟨es, clock, hb, -⟩ := h
  exact (Array.getElem?_eq_some_iff.1 hb).1
theorem GM.on {w w' : World} {b : Nat} {M : ML α} (h : GM K w b M) (hb : w'.heap[b]? = w.heap[b]?) : GM K w' b M := by
  obtain ⟨es, clock, h1, h2⟩ := h
  exact ⟨es, clock, hb.trans h1, h2⟩
theorem GM.below {w w' : World} {b : Nat} {M : ML α} (h : GM K w b M) (bel : Below w.heap.size w w') : GM K w' b M := h.on (bel.block b h.lt)
theorem zeroI64 (w : World) : (zeroValue 3).run Tryz.prog w = .ok (.int .i64 0) w := by kernel_rfl
/-- m[k], and whether it is there. -/
theorem GM.look (hK : K.Ok) {w : World} {b : Nat} {M : ML α} (h : GM K w b M) (k : α) :
    (Instr.lookup K.mt (.map (some b)) (K.enc k) true).run Tryz.prog w = .ok (.tuple #[.int .i64 ((K.get M k).getD 0), .bool (K.get M k).isSome]) w := by
  obtain ⟨es, clock, hb, he⟩ := h
  have hf := hK.fnd k w es.toList M he
  have hz := zeroI64 w
  have hm := hK.map
  have hc := hK.chk es.isEmpty k w
  cases g : K.get M k with
  | none =>
    rw [MK.find_none K 0 g] at hf
    simp [Instr.lookup, run_underlying hm, MapKept.run_getObj_map hb, hc, hf, hz, Result.andThen]
  | some c =>
    obtain ⟨j, -, h2, -⟩ := MK.find_some hK 0 g
    rw [h2] at hf
    simp [Instr.lookup, run_underlying hm, MapKept.run_getObj_map hb, hc, hf, Result.andThen]
theorem GM.look1 (hK : K.Ok) {w : World} {b : Nat} {M : ML α} (h : GM K w b M) (k : α) :
    (Instr.lookup K.mt (.map (some b)) (K.enc k) false).run Tryz.prog w = .ok (.int .i64 ((K.get M k).getD 0)) w := by
  obtain ⟨es, clock, hb, he⟩ := h
  have hf := hK.fnd k w es.toList M he
  have hz := zeroI64 w
  have hm := hK.map
  have hc := hK.chk es.isEmpty k w
  cases g : K.get M k with
  | none =>
    rw [MK.find_none K 0 g] at hf
    simp [Instr.lookup, run_underlying hm, MapKept.run_getObj_map hb, hc, hf, hz, Result.andThen]
  | some c =>
    obtain ⟨j, -, h2, -⟩ := MK.find_some hK 0 g
    rw [h2] at hf
    simp [Instr.lookup, run_underlying hm, MapKept.run_getObj_map hb, hc, hf, Result.andThen]
/-- m[k] = c. -/
theorem GM.put (hK : K.Ok) {w : World} {b : Nat} {M : ML α} (h : GM K w b M) (k : α) (c : Int) :
    ∃ w', (Instr.mapUpdate K.mt (.map (some b)) (K.enc k) (.int .i64 c)).run Tryz.prog w = .ok () w' ∧ GM K w' b (K.put M k c) ∧ w.grownBy w' (some b) ∧ w'.heap.size = w.heap.size := by
  obtain ⟨es, clock, hb, he⟩ := h
  have hf := hK.fnd k w es.toList M he
  have hm := hK.map
  have hc := hK.chk false k w
  have hgrow : ∀ o : Obj, w.grownBy { w with heap := w.heap.setIfInBounds b o } (some b) := fun o => ⟨rfl, rfl, rfl, by simp, fun i _ hi => (heap_set (o' := o) hb).2 i fun e => hi (by rw [e])⟩
  cases g : K.get M k with
  | none =>
    rw [MK.find_none K 0 g] at hf
    refine ⟨{ w with heap := w.heap.setIfInBounds b (.map (es.push { key := K.enc k, val := .int .i64 c, born := clock }) (clock + 1)) }, ?_, ?_, hgrow _, by simp⟩
    · simp [Instr.mapUpdate, run_underlying hm, MapKept.run_getObj_map hb, hc, hf, MapKept.run_setObj_map _ hb, Result.andThen]
    · refine ⟨_, _, (heap_set hb).1, ?_⟩
      rw [MK.put_none K c g]
      simp [he, MK.kv]
  | some d =>
    obtain ⟨j, h1, h2, h4⟩ := MK.find_some hK 0 g
    rw [h2] at hf
    have hes : (es.toList.map (fun e => (e.key, e.val)))[j]? = some (K.enc k, .int .i64 d) := by rw [he, List.getElem?_map, h1]; rfl
    rw [List.getElem?_map] at hes
    obtain ⟨e0, he0, hkv⟩ := Option.map_eq_some_iff.1 hes
    have hj : es[j]? = some e0 := by simpa using he0
    have hk0 : e0.key = K.enc k := congrArg Prod.fst hkv
    have hst : (Instr.keyThatStays (K.enc k) (K.enc k)).run Tryz.prog w = .ok (K.enc k) w := by
      have := hK.bits k
      simp [Instr.keyThatStays, this]
    refine ⟨{ w with heap := w.heap.setIfInBounds b (.map (es.modify j fun e => { e with key := K.enc k, val := .int .i64 c }) clock) }, ?_, ?_, hgrow _, by simp⟩
    · simp [Instr.mapUpdate, run_underlying hm, MapKept.run_getObj_map hb, hc, hf, hj, hk0, hst, MapKept.run_setObj_map _ hb, Result.andThen]
    · refine ⟨_, _, (heap_set hb).1, ?_⟩
      rw [h4 c]
      apply List.ext_getElem?
      intro i
      have hi : (es.toList.map (fun e => (e.key, e.val)))[i]? = (M.map K.kv)[i]? := by rw [he]
      rw [List.getElem?_map, List.getElem?_map] at hi
      rw [List.getElem?_map, List.getElem?_map, Array.toList_modify, List.getElem?_modify, List.getElem?_modify]
      by_cases e : j = i
      · subst e
        rw [he0, h1]
        simp [MK.kv]
      · simpa [if_neg e] using hi
/-- They, at the operation, for the walk. -/
theorem wpList_look_g (hK : K.Ok) {w : World} {ops : Array Oper} {rest : List Oper} {o : Oper} {a : Act} {Q : Exit → Act → World → Prop} (hg : o.guard = none) (m x : Operand) (hop : o.op = Op.lookup K.mt m x true)
    (b : Nat) (M : ML α) (k : α) (hm : a.eval m = .map (some b)) (hx : a.eval x = K.enc k) (h : GM K w b M)
    (hC : wpList Tryz.prog ops Q rest (a.put o.dst (.tuple #[.int .i64 ((K.get M k).getD 0), .bool (K.get M k).isSome])) w) : wpList Tryz.prog ops Q (o :: rest) a w := by
  refine wpList_plain hg fun K' hK' => ?_
  unfold Oper.wp
  simp [execOp, hop, hm, hx, h.look hK, Result.andThen]
  exact hK' _ _ hC
theorem wpList_look_some (hK : K.Ok) {w : World} {ops : Array Oper} {rest : List Oper} {o : Oper} {a : Act} {Q : Exit → Act → World → Prop} (hg : o.guard = none) (m x : Operand) (hop : o.op = Op.lookup K.mt m x true)
    (b : Nat) (M : ML α) (k : α) (hm : a.eval m = .map (some b)) (hx : a.eval x = K.enc k) (h : GM K w b M) (c : Int) (hc : K.get M k = some c)
    (hC : wpList Tryz.prog ops Q rest (a.put o.dst (.tuple #[.int .i64 c, .bool true])) w) : wpList Tryz.prog ops Q (o :: rest) a w :=
  wpList_look_g hK hg m x hop b M k hm hx h (by rw [hc]; exact hC)
theorem wpList_look_none (hK : K.Ok) {w : World} {ops : Array Oper} {rest : List Oper} {o : Oper} {a : Act} {Q : Exit → Act → World → Prop} (hg : o.guard = none) (m x : Operand) (hop : o.op = Op.lookup K.mt m x true)
    (b : Nat) (M : ML α) (k : α) (hm : a.eval m = .map (some b)) (hx : a.eval x = K.enc k) (h : GM K w b M) (hc : K.get M k = none)
    (hC : wpList Tryz.prog ops Q rest (a.put o.dst (.tuple #[.int .i64 0, .bool false])) w) : wpList Tryz.prog ops Q (o :: rest) a w :=
  wpList_look_g hK hg m x hop b M k hm hx h (by rw [hc]; exact hC)
theorem wpList_put_g (hK : K.Ok) {w : World} {ops : Array Oper} {rest : List Oper} {o : Oper} {a : Act} {Q : Exit → Act → World → Prop} (hg : o.guard = none) (m x v : Operand) (hop : o.op = Op.mapUpdate K.mt m x v)
    (b : Nat) (M : ML α) (k : α) (c : Int) (hm : a.eval m = .map (some b)) (hx : a.eval x = K.enc k) (hv : a.eval v = .int .i64 c) (h : GM K w b M)
    (hC : ∀ w', GM K w' b (K.put M k c) → w.grownBy w' (some b) → w'.heap.size = w.heap.size → wpList Tryz.prog ops Q rest (a.put o.dst undef) w') : wpList Tryz.prog ops Q (o :: rest) a w := by
  refine wpList_plain hg fun K' hK' => ?_
  obtain ⟨w', hrun, r1, r2, r3⟩ := h.put hK k c
  unfold Oper.wp
  simp [execOp, hop, hm, hx, hv, hrun, Result.andThen]
  exact hK' _ _ (hC w' r1 r2 r3)
end
theorem beq_self (k : ByteArray) : (k == k) = true := by
  rw [beq_toListBytes]
  exact beq_self_eq_true _
/-- Keys that are texts. -/
def sM : MK ByteArray := ⟨9, 98, fun s => .string s, eqS⟩
theorem sM_now (k : ByteArray) : ∀ (l : List MapEntry) (M : ML ByteArray) (i : Nat), l.map (fun e => (e.key, e.val)) = M.map sM.kv → Instr.findNow .string (.string k) l i = some (sM.find M k i)
  | [], M, i, h => by
    cases M with
    | nil => rfl
    | cons x r => simp at h
  | e :: l, M, i, h => by
    cases M with
    | nil => simp at h
    | cons x r =>
      simp only [List.map_cons, List.cons.injEq] at h
      obtain ⟨h1, h2⟩ := h
      have hk1 : e.key = .string x.1 := congrArg Prod.fst h1
      have hv1 : e.val = .int .i64 x.2 := congrArg Prod.snd h1
      have ih := sM_now k l r (i + 1) h2
      unfold Instr.findNow MK.find
      rw [hk1, hv1]
      have hb : (k == x.1) = sM.eq k x.1 := beq_toListBytes k x.1
      simp only [Instr.sameNow, hb]
      cases sM.eq k x.1 with
      | true => rfl
      | false => simpa using ih
theorem sM_ok : sM.Ok where
  same := fun _ _ => eqS_iff
  map := Tryz.underlying98
  fnd := fun k w l M h => by
    show (Instr.findKey 9 (.string k) l).run Tryz.prog w = _
    simp [Instr.findKey, run_underlying Tryz.underlying9, sM_now k l M 0 h]
  chk := fun e k w => by
    show (Instr.checkKey e 10000 9 (.string k)).run Tryz.prog w = _
    rw [show (10000 : Nat) = 9999 + 1 from rfl]
    unfold Instr.checkKey
    simp [run_underlying Tryz.underlying9]
  bits := fun k => by
    show Instr.sameBits 10000 (.string k) (.string k) = true
    simp [Instr.sameBits, beq_self]
/-- Keys that are two texts. -/
def pM : MK (ByteArray × ByteArray) := ⟨148, 104, fun p => .agg #[.string p.1, .string p.2], fun p q => eqS p.1 q.1 && eqS p.2 q.2⟩
theorem pM_eq (k l : ByteArray × ByteArray) (w : World) : (Op.equal 148 (pM.enc k) (pM.enc l)).run Tryz.prog w = .ok (pM.eq k l) w := by
  obtain ⟨p, n⟩ := k
  obtain ⟨q, m⟩ := l
  have u3 := Tryz.underlying9
  have a3 := Tryz.isAgg9
  have z3 := Tryz.sizeOf9
  have hS : Tryz.prog.underlying 148 = some (.struct (Tryz.prog.fieldsOf 148)) := by kernel_rfl
  have hp : Tryz.prog.stoodInHeld 148 = false := by kernel_rfl
  unfold Op.equal Op.maxDepth
  show (Op.equalIn 10000 148 (.agg #[.string p, .string n]) (.agg #[.string q, .string m])).run Tryz.prog w = .ok (eqS p q && eqS n m) w
  rw [show (10000 : Nat) = 9999 + 1 from rfl, run_equalIn_agg w 9999 148 _ _ hS hp]
  simp only [Program.fieldsOf, Tryz.underlying148]
  go_simp
  unfold eqS
  cases h1 : p.toList == q.toList <;> cases h2 : n.toList == m.toList <;> simp_all
theorem pM_ask (k : ByteArray × ByteArray) (w : World) : ∀ (l : List MapEntry) (M : ML (ByteArray × ByteArray)) (i : Nat), l.map (fun e => (e.key, e.val)) = M.map pM.kv →
    (Instr.findAsking 148 (pM.enc k) l i).run Tryz.prog w = .ok (pM.find M k i) w
  | [], M, i, h => by
    cases M with
    | nil => simp [Instr.findAsking, MK.find]
    | cons x r => simp at h
  | e :: l, M, i, h => by
    cases M with
    | nil => simp at h
    | cons x r =>
      simp only [List.map_cons, List.cons.injEq] at h
      obtain ⟨h1, h2⟩ := h
      have hk1 : e.key = pM.enc x.1 := congrArg Prod.fst h1
      have hv1 : e.val = .int .i64 x.2 := congrArg Prod.snd h1
      have ih := pM_ask k w l r (i + 1) h2
      have he := pM_eq k x.1 w
      unfold Instr.findAsking MK.find
      rw [hk1, hv1]
      cases c : pM.eq k x.1 with
      | true =>
        rw [c] at he
        simp [he]
      | false =>
        rw [c] at he
        simp [he, ih]
theorem pM_ok : pM.Ok where
  same := fun a b => by
    obtain ⟨a1, a2⟩ := a
    obtain ⟨b1, b2⟩ := b
    show (eqS a1 b1 && eqS a2 b2) = true ↔ _
    rw [Bool.and_eq_true, eqS_iff, eqS_iff]
    simp
  map := Tryz.underlying104
  fnd := fun k w l M h => by
    have hS : Tryz.prog.underlying 148 = some (.struct (Tryz.prog.fieldsOf 148)) := by kernel_rfl
    show (Instr.findKey 148 (pM.enc k) l).run Tryz.prog w = _
    cases l with
    | nil =>
      cases M with
      | nil => simp [Instr.findKey, run_underlying hS, Instr.findNow, MK.find]
      | cons x r => simp at h
    | cons e l =>
      have := pM_ask k w (e :: l) M 0 h
      have hn : Instr.findNow (.struct (Tryz.prog.fieldsOf 148)) (pM.enc k) (e :: l) 0 = none := by simp [Instr.findNow, Instr.sameNow]
      simp [Instr.findKey, run_underlying hS, hn, this]
  chk := fun e k w => by
    have u3 := Tryz.underlying9
    have a3 := Tryz.isAgg9
    have z3 := Tryz.sizeOf9
    have h2 : ∀ s, (Instr.checkKey e 9999 9 (.string s)).run Tryz.prog w = .ok () w := fun s => by
      rw [show (9999 : Nat) = 9998 + 1 from rfl]
      unfold Instr.checkKey
      simp [run_underlying u3]
    show (Instr.checkKey e 10000 148 (.agg #[.string k.1, .string k.2])).run Tryz.prog w = _
    rw [show (10000 : Nat) = 9999 + 1 from rfl]
    unfold Instr.checkKey
    simp only [Sem.run_bind, run_underlying Tryz.underlying148, Result.andThen_ok]
    rw [← Array.forIn_toList]
    simp only [List.forIn_cons, List.forIn_nil]
    go_simp
  bits := fun k => by
    show Instr.sameBits 10000 (.agg #[.string k.1, .string k.2]) (.agg #[.string k.1, .string k.2]) = true
    simp [Instr.sameBits, beq_self]
end Go.Proofs.YtfbglokjehmgeaaGreatDoor
