/- Linking, the model's names of procedures. No condition. -/
import Derived.Test.YtfbglokjehmgeaaGreatDoorZLkX
import Derived.Deep.RegionHeld3
/- Linking over plain data: what linked objects name, where, and the image. No condition. -/
namespace Go.Proofs.YtfbglokjehmgeaaGreatDoor
open Go.ChangeShapes Go.WideShapes Go.ChangeAt Go.RowKit Go.Deep

def OBn : ObjectD := ⟨⟨#[]⟩, 0, [], [], []⟩
/-- The objects of an order. -/
def objsOf (L : List ObjectD) (o : List Nat) : List ObjectD := o.map fun k => L.getD k OBn
/-- A module's name, a dot, a name. -/
def dotN (m n : ByteArray) : ByteArray := m ++ ⟨#[46]⟩ ++ n
def pnames (x : ObjectD) : List ByteArray := x.procs.map fun p => dotN x.module p.name
def namesP (P : List ObjectD) : List ByteArray := P.flatMap pnames
/-- What is as small as a right object is. -/
structure Tiny (x : ObjectD) : Prop where
  mod : x.module.size ≤ 40
  globs : x.globals.length ≤ 100
  gnames : ∀ g ∈ x.globals, g.name.size ≤ 40 ∧ 0 ≤ g.length ∧ g.length ≤ 100
  procs : x.procs.length ≤ 60
  codes : ∀ p ∈ x.procs, p.name.size ≤ 40 ∧ p.list.length ≤ 2000 ∧ (∀ y ∈ p.list, y.mod.size ≤ 40 ∧ y.name.size ≤ 40) ∧ 0 < p.list.length
theorem objsOf_len (L : List ObjectD) (o : List Nat) : (objsOf L o).length = o.length := by unfold objsOf; simp
theorem objsOf_at {L : List ObjectD} {o : List Nat} {i : Nat} (h : i < o.length) (hk : o[i] < L.length) : (objsOf L o)[i]'(by rw [objsOf_len]; exact h) = L[o[i]] := by
  unfold objsOf
  simp [List.getD, hk]
theorem flat_take {α β : Type} (f : α → List β) {l : List α} {i : Nat} (h : i < l.length) : (l.take (i + 1)).flatMap f = (l.take i).flatMap f ++ f l[i] := by
  rw [List.take_succ_eq_append_getElem h, List.flatMap_append]
  simp
theorem namesP_len {P : List ObjectD} (h : ∀ x ∈ P, Tiny x) : (namesP P).length ≤ 60 * P.length := by
  induction P with
  | nil => simp [namesP]
  | cons x r ih =>
    have h1 := ih fun y hy => h y (List.mem_cons_of_mem _ hy)
    have h2 := (h x (List.mem_cons_self ..)).procs
    unfold namesP pnames at h1 ⊢
    simp only [List.flatMap_cons, List.length_append, List.length_map, List.length_cons]
    omega
end Go.Proofs.YtfbglokjehmgeaaGreatDoor

namespace Go.Proofs.YtfbglokjehmgeaaGreatDoor
open Go.ChangeShapes Go.WideShapes Go.ChangeAt Go.RowKit Go.Deep

theorem FRow.made {D : Type} (F : FlatK D) (w : World) (B : Nat) (hB : B ≤ w.heap.size) : FRow F (w.alloc (.cells #[] F.ty)) B (.slice (some ⟨w.heap.size, 0, none⟩) 0 0) [] :=
  World.ownsRow_made w #[] 0 hB (by decide) (by simp)
/-- A block of another type is not the row's. -/
theorem FRow.far_ty {D : Type} {F : FlatK D} {w : World} {B k : Nat} {v : Value} {l : List D} {C : Array Value} {T : TypeId} {fr : Nat × Nat} (h : FRow F w B v l) (hk : w.heap[k]? = some (.cells C T fr)) (hT : T ≠ F.ty) : some k ≠ v.ownBlock := fun e => by
  obtain ⟨C', hC⟩ := h.ty e.symm
  rw [hk] at hC
  cases hC
  exact hT rfl
theorem FRow.bel {D : Type} {F : FlatK D} {w w' : World} {B : Nat} {v : Value} {l : List D} (h : FRow F w B v l) (hg : w.grownBy w' v.ownBlock) (hB : B ≤ w.heap.size) : Below B w w' := (Below.refl _ _).grown hg hB fun _ hk => (h.lt hk).1
theorem Same.two {B lo hi : Nat} {w a b : World} (h : Below B w a) (k : Below B w b) (hB : hi ≤ B) : Same lo hi a b := fun i _ hi => (k.block i (by omega)).trans (h.block i (by omega)).symm
set_option maxRecDepth 20000 in
set_option maxHeartbeats 8000000 in
theorem l05Names_any (a : Option Addr) (cp : Nat) (m : Md) (L : List ObjectD) (ov : Value) (o : List Nat) (Bo : Nat) (w : World) (h : SlAt ObjectAt 5 w m (.slice a L.length cp) L) (hm : m.hi ≤ w.heap.size) (_hL : L.length ≤ 1000) (hT : ∀ x ∈ L, Tiny x) (ho : FRow intK w Bo ov o) (hk : ∀ k ∈ o, k < L.length) (hol : o.length ≤ 1000) :
    Calls Tryz.prog 81 #[.slice a L.length cp, ov] w fun e w' => (∃ v, e = .returned v ∧ FRow strK w' w.heap.size v (namesP (objsOf L o))) ∧ Below w.heap.size w w' := by
  have hmix : Tryz.prog.follows .mixedOrders = true := by kernel_rfl
  have HS := hide h
  obtain ⟨oa, oc, rfl⟩ := ho.form
  have HInt : Hid (∀ i (h : i < o.length), ∃ g', oa = some ⟨g', 0, none⟩ ∧ o.length ≤ oc ∧ g' < w.heap.size ∧ w.cell? ⟨g', i, none⟩ = some (.int .i64 (o[i] : Int))) := hide fun i hi => by
    obtain ⟨g', c', e, q1, q2, q3, hc⟩ := ho.one_at intOk hi
    cases e
    have := hc 0 (by decide)
    exact ⟨g', rfl, q1, q3, by simpa [intK] using this⟩
  have HKn := hide hk
  have HTi := hide hT
  obtain ⟨nL, hnL⟩ : ∃ k, L.length = k := ⟨_, rfl⟩
  obtain ⟨no, hno⟩ : ∃ k, o.length = k := ⟨_, rfl⟩
  have HNL := hide hnL
  have HNo := hide hno
  rw [hnL] at HS ⊢
  rw [hno] at hol ⊢
  clear h ho hk hT hnL hno
  go_enter Tryz.func81, Tryz.ntmps81
  go_wp2
  go_loopw [5, 6] (fun v i wr => ∃ j : Nat, i = .int .i64 j ∧ j ≤ no ∧ Hid (FRow strK wr w.heap.size v (namesP ((objsOf L o).take j))) ∧ Below w.heap.size w wr) (fun _ i _ => no - (intOf i).toNat)
  case atStart => exact ⟨0, rfl, by omega, hide (FRow.made strK w w.heap.size (Nat.le_refl _)), (Below.refl _ _).alloc (Nat.le_refl _) _⟩
  case round =>
    obtain ⟨j, rfl, hj, Hj, hbw⟩ := hrel
    obtain ⟨w8, rfl⟩ : ∃ w8, w8 = wr := ⟨_, rfl⟩
    by_cases hp : j < no
    · have i1 : (j : Int) < no := by omega
      have hjo : j < o.length := by rw [HNo.out]; exact hp
      obtain ⟨g', rfl, q1, q2, q3⟩ := HInt.out j hjo
      rw [HNo.out] at q1
      have hkL : o[j] < L.length := HKn.out _ (List.getElem_mem hjo)
      have HX := hide (objsOf_at hjo hkL)
      have HTx := hide (HTi.out _ (List.getElem_mem hkL))
      obtain ⟨k, hk⟩ : ∃ k, o[j] = k := ⟨_, rfl⟩
      have q4 := (hbw.cell (p := ⟨g', j, none⟩) q2).trans q3
      have i2 : ((o[j] : Nat) : Int) < nL := by rw [← HNL.out]; omega
      have hS := HS.out
      rw [← HNL.out] at hS
      obtain ⟨a', c', e', hr⟩ := hS.on ObjectAt.stays (hbw.mono hm)
      cases e'
      obtain ⟨b, of, rfl, g1, g2, -, he⟩ := hr o[j] hkL
      rw [HNL.out] at g1
      obtain ⟨x, hx⟩ : ∃ x, L[o[j]] = x := ⟨_, rfl⟩
      rw [hx] at he HX HTx
      rw [hk] at q4 i2 he
      obtain ⟨⟨d0, d1⟩, -, u2, u3, u4, ⟨d2, d3, d4⟩, s2, s3, s4⟩ := he
      have HP := hide s4
      obtain ⟨a2, c2, rfl, -⟩ := s2
      obtain ⟨a3, c3, rfl, -⟩ := s3
      obtain ⟨a4, c4, rfl, -⟩ := s4
      simp only [Nat.add_zero] at d0 d1 d2 d3 d4
      obtain ⟨mo, pr, l2, l3, l4⟩ := x
      simp only [] at d0 d1 d2 d3 d4 HP
      obtain ⟨n2, hn2⟩ : ∃ k, l2.length = k := ⟨_, rfl⟩
      obtain ⟨n3, hn3⟩ : ∃ k, l3.length = k := ⟨_, rfl⟩
      obtain ⟨n4, hn4⟩ : ∃ k, l4.length = k := ⟨_, rfl⟩
      have HN4 := hide hn4
      rw [hn2] at d2
      rw [hn3] at d3
      rw [hn4] at d4 HP
      have HK := hide hk
      clear hr hS hx hk q1 q2 q3 hkL hn2 hn3 hn4
      obtain ⟨tl, tc⟩ : Tiny ⟨mo, pr, l2, l3, l4⟩ ∧ True := ⟨HTx.out, trivial⟩
      have HMo := hide tl.mod
      have HC := hide tl.codes
      have hn60 : n4 ≤ 60 := by rw [← HN4.out]; exact tl.procs
      have hmo : mo.size ≤ 40 := tl.mod
      clear tl tc HTx
      obtain ⟨Z, hZ⟩ : ∃ Z, namesP ((objsOf L o).take j) = Z := ⟨_, rfl⟩
      have hZ2 : namesP ((objsOf L o).take (j + 1)) = Z ++ pnames ⟨mo, pr, l2, l3, l4⟩ := by
        unfold namesP at hZ ⊢
        rw [flat_take pnames (by rw [objsOf_len]; exact hjo), hZ, HX.out]
      have hZl : Z.length ≤ 60000 := by
        have := namesP_len (P := (objsOf L o).take j) fun x hx => by
          have hx := List.mem_of_mem_take hx
          unfold objsOf at hx
          obtain ⟨k, hk, rfl⟩ := List.mem_map.1 hx
          have hkn := HKn.out k hk
          rw [show L.getD k OBn = L[k] by simp [List.getD, hkn]]
          exact HTi.out _ (List.getElem_mem hkn)
        rw [hZ, List.length_take] at this
        omega
      have HZ := hide (And.intro hZ2 hZl)
      rw [hZ] at Hj
      clear hZ hZ2 hZl HX HK
      obtain ⟨va, vc, e⟩ := Hj.out.form
      subst e
      go_wp2_with fail
      go_loopw [5, 8] (fun v i wr => ∃ q : Nat, i = .int .i64 q ∧ q ≤ n4 ∧ Hid (FRow strK wr w.heap.size v (Z ++ (pnames ⟨mo, pr, l2, l3, l4⟩).take q)) ∧ Hid (wr.heap[w8.heap.size]? = some (.cells #[.string mo, .int .i64 pr, .slice a2 n2 c2, .slice a3 n3 c3, .slice a4 n4 c4] 48 (0, 0))) ∧ Below w.heap.size w wr ∧ w8.heap.size < wr.heap.size) (fun _ i _ => n4 - (intOf i).toNat)
      case atStart => exact ⟨0, rfl, by omega, hide (by rw [List.take_zero, List.append_nil]; exact Hj.out.on ((Below.refl _ _).alloc (Nat.le_refl _) _)), hide (Deep.blk_alloc_new w8 _), hbw.alloc hbw.size _, by simp⟩
      case round =>
        obtain ⟨q, rfl, hq, Hq, Hb, hbq, hlt⟩ := hrel
        have hYl : (Z ++ (pnames ⟨mo, pr, l2, l3, l4⟩).take q).length ≤ 100000000 := by rw [List.length_append, List.length_take]; have := HZ.out.2; omega
        obtain ⟨Y, hY⟩ : ∃ Y, Z ++ (pnames ⟨mo, pr, l2, l3, l4⟩).take q = Y := ⟨_, rfl⟩
        have HY := hide hY
        rw [hY] at Hq hYl
        obtain ⟨vb, vd, e⟩ := Hq.out.form
        obtain ⟨nY, hnY⟩ : ∃ k, Y.length = k := ⟨_, rfl⟩
        have HNY := hide hnY
        have HYl := hide hYl
        rw [hnY] at e
        subst e
        clear hY hnY hYl
        obtain ⟨k0, k1, k2, k3, k4⟩ : (wr.cell? ⟨w8.heap.size, 0, none⟩ = some (.string mo)) ∧ (wr.cell? ⟨w8.heap.size, 1, none⟩ = some (.int .i64 pr)) ∧ (wr.cell? ⟨w8.heap.size, 2, none⟩ = some (.slice a2 n2 c2)) ∧ (wr.cell? ⟨w8.heap.size, 3, none⟩ = some (.slice a3 n3 c3)) ∧ (wr.cell? ⟨w8.heap.size, 4, none⟩ = some (.slice a4 n4 c4)) :=
          ⟨(heapCells Hb.out).1 0, (heapCells Hb.out).1 1, (heapCells Hb.out).1 2, (heapCells Hb.out).1 3, (heapCells Hb.out).1 4⟩
        by_cases hp4 : q < n4
        · have i4 : (q : Int) < n4 := by omega
          have hq4 : q < l4.length := by rw [HN4.out]; exact hp4
          have hP := HP.out
          rw [← HN4.out] at hP
          obtain ⟨a', c', e', hr⟩ := hP.same CodeAt.stays (Same.two hbw hbq (by rw [Md.inner_hi]; exact hm))
          cases e'
          obtain ⟨pb, po, rfl, p1, p2, -, he⟩ := hr q hq4
          rw [HN4.out] at p1
          rw [Md.inner_hi] at p2
          obtain ⟨y, hy⟩ : ∃ y, l4[q] = y := ⟨_, rfl⟩
          have hyt := HC.out _ (List.getElem_mem hq4)
          rw [hy] at he hyt
          have hpn : (pnames ⟨mo, pr, l2, l3, l4⟩).take (q + 1) = (pnames ⟨mo, pr, l2, l3, l4⟩).take q ++ [dotN mo y.name] := by
            unfold pnames
            rw [List.take_succ_eq_append_getElem (by simpa using hq4)]
            simp [hy]
          have HPn := hide hpn
          obtain ⟨⟨e0, e1, e2, e3⟩, -, v4, e4, -⟩ := he
          obtain ⟨yn, y1, y2, y3, y4⟩ := y
          simp only [Nat.add_zero] at e0 hyt
          have hyn : yn.size ≤ 40 := hyt.1
          have hb1 : pb < wr.heap.size := by have := hbw.size; omega
          obtain ⟨N1, hN1⟩ : ∃ N1, mo ++ ⟨#[46]⟩ = N1 := ⟨_, rfl⟩
          obtain ⟨N2, hN2⟩ : ∃ N2, N1 ++ yn = N2 := ⟨_, rfl⟩
          have t1 : ¬ 9223372036854775807 < mo.size + 1 := by omega
          have hN1s : N1.size = mo.size + 1 := by rw [← hN1, ByteArray.size_append]; rfl
          have t2 : ¬ 9223372036854775807 < N1.size + yn.size := by omega
          have hdot : dotN mo yn = N2 := by unfold dotN; rw [hN1, hN2]
          rw [hdot] at HPn
          clear hr hy hpn hyt hdot e1 e2 e3 e4 p1 hN1s
          have bA : Below wr.heap.size wr (wr.alloc (.cells #[.string N2] 9)).drew := ((Below.refl _ _).alloc (Nat.le_refl _) _).drew
          go_wp2_with fail
          go_region_held3 (fun w' => w'.cell? ⟨w8.heap.size, 0, none⟩ = some (.string mo) ∧ w'.cell? ⟨w8.heap.size, 4, none⟩ = some (.slice (some ⟨pb, po, none⟩) n4 c4) ∧ w'.cell? ⟨pb, po + q * 5, none⟩ = some (.string yn))
            (first
              | (go_split_ands; refine ⟨?_, ?_, ?_⟩ <;> assumption)
              | (go_split_ands; exact ⟨(bA.cell (p := ⟨w8.heap.size, 0, none⟩) hlt).trans k0, (bA.cell (p := ⟨w8.heap.size, 4, none⟩) hlt).trans k4, (bA.cell (p := ⟨pb, po + q * 5, none⟩) hb1).trans e0⟩)
              | (go_split_ands; exact ⟨(heapCells hx3).1 0, (heapCells hx3).1 4, hy3⟩))
            ((first
              | (refine step_flat strOk (by rfl) _ _ (by rfl) w.heap.size (.slice vb nY vd) Y (by rfl) (Hq.out.on bA) wr.heap.size N2 (by rfl) (fun j c hj => flat_new strK wr N2 #[.string N2] 9 rfl rfl j c hj) (by intro z hz; simp [strK] at hz; subst hz; rfl) HYl.out (by have := hbq.size; show w.heap.size ≤ (wr.alloc _).heap.size; rw [World.size_alloc]; omega) ?_; intro g1 c1 w3 h3 gr3; have hx3 := (gr3.block w8.heap.size (by show w8.heap.size < (wr.alloc _).heap.size; rw [World.size_alloc]; omega) (FRow.far_ty (Hq.out.on bA) ((bA.block _ hlt).trans Hb.out) (by decide))).trans ((bA.block _ hlt).trans Hb.out); have hbel3 : Below w.heap.size w w3 := hbq.trans ((bA.mono hbq.size).trans ((Hq.out.on bA).bel gr3 (by have := hbq.size; show w.heap.size ≤ (wr.alloc _).heap.size; rw [World.size_alloc]; omega))); have hy3 : w3.cell? ⟨pb, po + q * 5, none⟩ = some (.string yn) := (Same.two (lo := 0) hbq hbel3 hm).cell (Nat.zero_le _) p2 |>.trans e0)
              | fail))
          have H3 := hide (show FRow strK w3 w.heap.size _ (Z ++ (pnames ⟨mo, pr, l2, l3, l4⟩).take (q + 1)) by
            rw [HPn.out, ← List.append_assoc, HY.out]; exact h3)
          have HX3 := hide hx3
          have HB3 := hide hbel3
          have hlt3 : w8.heap.size < w3.heap.size := (Array.getElem?_eq_some_iff.1 hx3).1
          clear h3 gr3 hx3 hbel3 hy3 bA
          go_wp2_with fail
          go_roundw
          case rel => exact ⟨q + 1, by go_num, by omega, H3, HX3, HB3.out, hlt3⟩
          case measure => simp [intOf]; omega
        · have i4 : ¬ (q : Int) < n4 := by omega
          go_wp2
          go_roundw
          case rel =>
            refine ⟨j + 1, by go_num, by omega, ?_, hbq⟩
            have := Hq.out
            rw [← HY.out, List.take_of_length_le (by unfold pnames; rw [List.length_map, HN4.out]; omega), ← HZ.out.1] at this
            exact hide this
          case measure => simp [intOf]; omega
    · have i1 : ¬ (j : Int) < no := by omega
      go_wp2
      go_ret
      refine ⟨⟨_, rfl, ?_⟩, hbw⟩
      have := Hj.out
      rw [List.take_of_length_le (by rw [objsOf_len, HNo.out]; omega)] at this
      exact this
end Go.Proofs.YtfbglokjehmgeaaGreatDoor
