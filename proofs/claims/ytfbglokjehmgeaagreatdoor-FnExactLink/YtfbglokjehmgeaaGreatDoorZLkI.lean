/- Linking, the model's image. No condition. -/
import Derived.Test.YtfbglokjehmgeaaGreatDoorZLawZ
import Derived.Test.YtfbglokjehmgeaaGreatDoorZLkRW
import Derived.Deep.RegionLaw
namespace Go.Proofs.YtfbglokjehmgeaaGreatDoor
open Go.ChangeShapes Go.WideShapes Go.ChangeAt Go.RowKit Go.Deep

/-- What an image holds. -/
def IRows (w : World) (B : Nat) (pv nv sv : Value) (C : List CodeD) (N : List ByteArray) (S : List Int) : Prop :=
  (∃ cl : List CV, cl.map Prod.fst = C ∧ KRow w B pv cl) ∧ FRow strK w B nv N ∧ FRow zK w B sv S
/-- What stands while the image is made. -/
def IS (w : World) (b B : Nat) (lv ov qv : Value) (o : List Nat) (p : List ByteArray) (N : List ByteArray) (k3 : Nat) (n : Int) (pv nv sv : Value) (cl : List CV) (S : List Int) (c : Int) (s : ByteArray) (wr : World) : Prop :=
  wr.heap[w.heap.size]? = some (.cells #[.int .i64 0, .slice none 0 0, .slice none 0 0, .slice none 0 0] 28 (0, 0)) ∧ wr.heap[k3]? = some (.cells #[.int .i64 n, pv, nv, sv] 28 (0, 0)) ∧ w.heap.size < k3 ∧ KRow wr (w.heap.size + 1) pv cl ∧ FRow strK wr (w.heap.size + 1) nv N ∧ FRow zK wr (w.heap.size + 1) sv S ∧ LX wr b B lv ov qv o p c s ∧ w.grownBy wr (some b)
section
variable {w : World} {b B : Nat} {lv ov qv : Value} {o : List Nat} {p : List ByteArray} {N : List ByteArray} {k3 : Nat} {n n2 : Int} {pv nv sv pv2 sv2 : Value} {cl cl2 : List CV} {S S2 : List Int} {c c2 : Int} {s s2 : ByteArray} {wr wA w5 w' : World}
theorem IS.below (h : IS w b B lv ov qv o p N k3 n pv nv sv cl S c s wr) (bel : Below wr.heap.size wr w') : IS w b B lv ov qv o p N k3 n pv nv sv cl S c s w' := by
  obtain ⟨h1, h2, h3, h4, h5, h6, h7, h8⟩ := h
  have hlt : ∀ {k : Nat} {x : Obj}, wr.heap[k]? = some x → w'.heap[k]? = some x := fun hx => (bel.block _ (Array.getElem?_eq_some_iff.1 hx).1).trans hx
  exact ⟨hlt h1, hlt h2, h3, h4.on bel, h5.on bel, h6.on bel, h7.below bel, h8.trans (below_grown bel)⟩
/-- The image's own block alone has turned. -/
theorem IS.set (h : IS w b B lv ov qv o p N k3 n pv nv sv cl S c s wr) (hb : b < w.heap.size) (hk : ∀ k, k ≠ k3 → w'.heap[k]? = wr.heap[k]?) (hs : w'.heap.size = wr.heap.size) (ho : w'.os = wr.os ∧ w'.tape = wr.tape ∧ w'.output = wr.output) (hx : w'.heap[k3]? = some (.cells #[.int .i64 n2, pv2, nv, sv2] 28 (0, 0))) (hp : KRow wr (w.heap.size + 1) pv2 cl2) (hz : FRow zK wr (w.heap.size + 1) sv2 S2) : IS w b B lv ov qv o p N k3 n2 pv2 nv sv2 cl2 S2 c s w' := by
  obtain ⟨h1, h2, h3, h4, h5, h6, h7, h8⟩ := h
  have hne : ∀ {k : Nat} {X : Array Value} {T : TypeId}, wr.heap[k]? = some (.cells X T (0, 0)) → T ≠ 28 → w'.heap[k]? = wr.heap[k]? := fun hy hT => hk _ fun e => by
    subst e
    rw [h2] at hy
    cases hy
    exact hT rfl
  refine ⟨(hk _ (by omega)).trans h1, hx, h3, hp.of_heap fun k _ _ ⟨C, T, hC, hT⟩ => hne hC (by rcases hT with e | e <;> rw [e] <;> decide), h5.of_heap fun k _ _ ⟨C, hC⟩ => hne hC (by decide), hz.of_heap fun k _ _ ⟨C, hC⟩ => hne hC (by decide), h7.turn (hk _ (by omega)) (fun k _ ⟨C, T, hC, hT⟩ => hne hC (by rcases hT with e | e <;> rw [e] <;> decide)), ⟨ho.1.trans h8.os, ho.2.1.trans h8.tape, ho.2.2.trans h8.output, by rw [hs]; exact h8.size, fun k hk1 hkb => (hk k (by omega)).trans (h8.block k hk1 hkb)⟩⟩
theorem IS.set0 (h : IS w b B lv ov qv o p N k3 n pv nv sv cl S c s wr) (hb : b < w.heap.size) (n2 : Int) : IS w b B lv ov qv o p N k3 n2 pv nv sv cl S c s (wr.setCell ⟨k3, 0, none⟩ (.int .i64 n2)) :=
  h.set hb (fun _ hk => Below.heap_setCell _ _ _ _ hk) (by simp [World.setCell]) ⟨rfl, rfl, rfl⟩ (block_set h.2.1 _) h.2.2.2.1 h.2.2.2.2.2.1
theorem grown_same {a c : World} {lo hi : Nat} (h : w.grownBy a (some b)) (k : w.grownBy c (some b)) (hb : b ≤ w.heap.size) (hi2 : hi ≤ b) : Same lo hi a c := fun i _ h2 => (k.block i (by omega) (fun e => by cases e; omega)).trans (h.block i (by omega) (fun e => by cases e; omega)).symm
theorem IS.lt (h : IS w b B lv ov qv o p N k3 n pv nv sv cl S c s wr) : k3 < wr.heap.size := (Array.getElem?_eq_some_iff.1 h.2.1).1
theorem IS.push {v' u : Value} {y : CodeD} (h : IS w b B lv ov qv o p N k3 n pv nv sv cl S c s wr) (hb : b < w.heap.size) (hgA : wr.grownBy wA (some b)) (hl : LX wA b B lv ov qv o p c2 s2) (hu : FRow insK wA wr.heap.size u y.list) (hg : wA.grownBy w5 pv.ownBlock) (ho : FRow codeK w5 (w.heap.size + 1) v' (cl ++ [(y, u)])) :
    IS w b B lv ov qv o p N k3 n v' nv sv (cl ++ [(y, u)]) S c2 s2 (w5.setCell ⟨k3, 1, none⟩ v') := by
  obtain ⟨h1, h2, h3, h4, h5, h6, h7, h8⟩ := h
  have hk3 : k3 < wr.heap.size := (Array.getElem?_eq_some_iff.1 h2).1
  have hA : ∀ k, k < wr.heap.size → k ≠ b → wA.heap[k]? = wr.heap[k]? := fun k hk hkb => hgA.block k hk fun e => by cases e; exact hkb rfl
  have hsA := hgA.size
  have hpo : ∀ k, pv.ownBlock = some k → w.heap.size + 1 ≤ k ∧ k < wr.heap.size ∧ ∃ C, wA.heap[k]? = some (.cells C 86 (0, 0)) := fun k e => by
    obtain ⟨l1, l2⟩ := h4.1.lt e
    obtain ⟨C, hC⟩ := h4.1.ty e
    exact ⟨l1, l2, C, (hA k l2 (by omega)).trans hC⟩
  have h5k : ∀ {k : Nat} {X : Array Value} {T : TypeId}, wA.heap[k]? = some (.cells X T (0, 0)) → T ≠ 86 → w5.heap[k]? = wA.heap[k]? := fun hx hT => hg.block _ (Array.getElem?_eq_some_iff.1 hx).1 fun e => by
    obtain ⟨-, -, C, hC⟩ := hpo _ e.symm
    rw [hC] at hx
    cases hx
    exact hT rfl
  have x3 : w5.heap[k3]? = some (.cells #[.int .i64 n, pv, nv, sv] 28 (0, 0)) := by
    have hx := (hA k3 hk3 (by omega)).trans h2
    exact (h5k hx (by decide)).trans hx
  have hfar : ∀ {k : Nat} {X : Array Value} {T : TypeId}, w5.heap[k]? = some (.cells X T (0, 0)) → T ≠ 28 → (w5.setCell ⟨k3, 1, none⟩ v').heap[k]? = w5.heap[k]? := fun hx hT => Below.heap_setCell _ _ _ _ fun e => by
    have e : _ = k3 := e
    subst e
    rw [x3] at hx
    cases hx
    exact hT rfl
  have hall : ∀ {k : Nat} {X : Array Value} {T : TypeId}, wA.heap[k]? = some (.cells X T (0, 0)) → T ≠ 86 → T ≠ 28 → (w5.setCell ⟨k3, 1, none⟩ v').heap[k]? = wA.heap[k]? := fun hx h1 h2 => (hfar ((h5k hx h1).trans hx) h2).trans (h5k hx h1)
  have hkr : KRow w5 (w.heap.size + 1) v' (cl ++ [(y, u)]) := h4.push (fun k a b' _ => hA k b' (by omega)) hu (by omega) hg ho
  have hb5 : w5.heap[b]? = wA.heap[b]? := hg.block b (by omega) fun e => by obtain ⟨l1, -⟩ := hpo _ e.symm; omega
  refine ⟨?_, block_set x3 _, h3, hkr.of_heap fun k _ _ ⟨C, T, hC, hT⟩ => hfar hC (by rcases hT with e | e <;> rw [e] <;> decide), ?_, ?_, hl.turn ((Below.heap_setCell _ _ _ _ (by show b ≠ k3; omega)).trans hb5) (fun k _ ⟨C, T, hC, hT⟩ => hall hC (by rcases hT with e | e <;> rw [e] <;> decide) (by rcases hT with e | e <;> rw [e] <;> decide)), ?_⟩
  · have e0 : wA.heap[w.heap.size]? = wr.heap[w.heap.size]? := hA _ (by omega) (by omega)
    have e1 : w5.heap[w.heap.size]? = wA.heap[w.heap.size]? := hg.block _ (by omega) fun e => by obtain ⟨l1, -⟩ := hpo _ e.symm; omega
    exact ((Below.heap_setCell _ _ _ _ (by show w.heap.size ≠ k3; omega)).trans (e1.trans e0)).trans h1
  · refine h5.of_heap fun k k1 k2 ⟨C, hC⟩ => ?_
    have e := hA k k2 (by omega)
    exact (hall (e.trans hC) (by decide) (by decide)).trans e
  · refine h6.of_heap fun k k1 k2 ⟨C, hC⟩ => ?_
    have e := hA k k2 (by omega)
    exact (hall (e.trans hC) (by decide) (by decide)).trans e
  · refine ⟨hg.os.trans (hgA.os.trans h8.os), hg.tape.trans (hgA.tape.trans h8.tape), hg.output.trans (hgA.output.trans h8.output), ?_, fun k hk1 hkb => ?_⟩
    · have e1 := hg.size
      have e2 := h8.size
      simp [World.setCell]
      omega
    · have hk2 := h8.size
      have e1 := h8.block k hk1 hkb
      have e2 := hA k (by omega) (fun e => hkb (by rw [e]))
      have e3 : w5.heap[k]? = wA.heap[k]? := hg.block _ (by omega) fun e => by obtain ⟨l1, -⟩ := hpo _ e.symm; omega
      exact (Below.heap_setCell _ _ _ _ (by show k ≠ k3; omega)).trans (e3.trans (e2.trans e1))
theorem IS.pushS {v' : Value} {z : Int} (h : IS w b B lv ov qv o p N k3 n pv nv sv cl S c s wr) (hb : b < w.heap.size) (hov : ∀ k, ov.ownBlock = some k → k < w.heap.size) (hA : Below wr.heap.size wr wA) (hg : wA.grownBy w5 sv.ownBlock) (ho : FRow zK w5 (w.heap.size + 1) v' (S ++ [z])) :
    IS w b B lv ov qv o p N k3 n pv nv v' cl (S ++ [z]) c s (w5.setCell ⟨k3, 3, none⟩ v') := by
  obtain ⟨h1, h2, h3, h4, h5, h6, h7, h8⟩ := h.below hA
  have hpo : ∀ k, sv.ownBlock = some k → w.heap.size + 1 ≤ k ∧ k < wA.heap.size ∧ ∃ C, wA.heap[k]? = some (.cells C 3 (0, 0)) := fun k e => ⟨(h6.lt e).1, (h6.lt e).2, h6.ty e⟩
  have h5k : ∀ {k : Nat} {X : Array Value} {T : TypeId}, wA.heap[k]? = some (.cells X T (0, 0)) → T ≠ 3 → w5.heap[k]? = wA.heap[k]? := fun hx hT => hg.block _ (Array.getElem?_eq_some_iff.1 hx).1 fun e => by
    obtain ⟨-, -, C, hC⟩ := hpo _ e.symm
    rw [hC] at hx
    cases hx
    exact hT rfl
  have x3 : w5.heap[k3]? = some (.cells #[.int .i64 n, pv, nv, sv] 28 (0, 0)) := (h5k h2 (by decide)).trans h2
  have hfar : ∀ {k : Nat} {X : Array Value} {T : TypeId}, w5.heap[k]? = some (.cells X T (0, 0)) → T ≠ 28 → (w5.setCell ⟨k3, 3, none⟩ v').heap[k]? = w5.heap[k]? := fun hx hT => Below.heap_setCell _ _ _ _ fun e => by
    have e : _ = k3 := e
    subst e
    rw [x3] at hx
    cases hx
    exact hT rfl
  have hall : ∀ {k : Nat} {X : Array Value} {T : TypeId}, wA.heap[k]? = some (.cells X T (0, 0)) → T ≠ 3 → T ≠ 28 → (w5.setCell ⟨k3, 3, none⟩ v').heap[k]? = wA.heap[k]? := fun hx h1 h2 => (hfar ((h5k hx h1).trans hx) h2).trans (h5k hx h1)
  have hsz := h8.size
  have hlow : ∀ k, k < w.heap.size + 1 → (w5.setCell ⟨k3, 3, none⟩ v').heap[k]? = wA.heap[k]? := fun k hk => by
    have hkk : k < wA.heap.size := by have := (Array.getElem?_eq_some_iff.1 h1).1; omega
    exact (Below.heap_setCell _ _ _ _ (by show k ≠ k3; omega)).trans (hg.block k hkk fun e => by obtain ⟨l1, -⟩ := hpo _ e.symm; omega)
  refine ⟨(hlow _ (by omega)).trans h1, block_set x3 _, h3, h4.of_heap fun k _ _ ⟨C, T, hC, hT⟩ => hall hC (by rcases hT with e | e <;> rw [e] <;> decide) (by rcases hT with e | e <;> rw [e] <;> decide), h5.of_heap fun k _ _ ⟨C, hC⟩ => hall hC (by decide) (by decide), ho.of_heap fun k _ _ ⟨C, hC⟩ => hfar hC (by decide), ⟨(hlow b (by omega)).trans h7.1, h7.2.1.of_own fun k hk => hlow k (by have := hov k hk; omega), h7.2.2.of_heap fun k _ _ ⟨C, hC⟩ => hall hC (by decide) (by decide)⟩, ⟨hg.os.trans h8.os, hg.tape.trans h8.tape, hg.output.trans h8.output, ?_, fun k hk1 hkb => (hlow k (by omega)).trans (h8.block k hk1 hkb)⟩⟩
  have e1 := hg.size
  simp [World.setCell]
  omega
/-- At the end: the result's own block has turned. -/
theorem IS.fin (h : IS w b B lv ov qv o p N k3 n pv nv sv cl S c s wr) (hb : b < w.heap.size) (hk : ∀ k, k ≠ w.heap.size → w'.heap[k]? = wr.heap[k]?) (hs : w'.heap.size = wr.heap.size) (ho : w'.os = wr.os ∧ w'.tape = wr.tape ∧ w'.output = wr.output) :
    LX w' b B lv ov qv o p c s ∧ w.grownBy w' (some b) ∧ KRow w' w.heap.size pv cl ∧ FRow strK w' w.heap.size nv N ∧ FRow zK w' w.heap.size sv S := by
  obtain ⟨h1, h2, h3, h4, h5, h6, h7, h8⟩ := h
  have hne : ∀ {k : Nat} {X : Array Value} {T : TypeId}, wr.heap[k]? = some (.cells X T (0, 0)) → T ≠ 28 → w'.heap[k]? = wr.heap[k]? := fun hy hT => hk _ fun e => by
    subst e
    rw [h1] at hy
    cases hy
    exact hT rfl
  refine ⟨h7.turn (hk _ (by omega)) (fun k _ ⟨C, T, hC, hT⟩ => hne hC (by rcases hT with e | e <;> rw [e] <;> decide)), ⟨ho.1.trans h8.os, ho.2.1.trans h8.tape, ho.2.2.trans h8.output, by rw [hs]; exact h8.size, fun k hk1 hkb => (hk k (by omega)).trans (h8.block k hk1 hkb)⟩, (h4.of_heap fun k k1 _ _ => hk k (by omega)).le (by omega), (h5.of_heap fun k k1 _ _ => hk k (by omega)).le (by omega), (h6.of_heap fun k k1 _ _ => hk k (by omega)).le (by omega)⟩
theorem IS.stopped {qa0 na0 sa0 : Option Addr} {ql0 qc0 nl0 nc0 sl0 sc0 : Nat} {v1 v2 v3 : Value} {R : Int × ByteArray} {C : List CodeD} {S2 : List Int} (f : LX w' b B lv ov qv o p c s ∧ w.grownBy w' (some b) ∧ KRow w' w.heap.size v1 cl ∧ FRow strK w' w.heap.size v2 N ∧ FRow zK w' w.heap.size v3 S) (hR : R = (c, s)) (hc : ¬ c = 0) :
    ∃ qa ql qc na nl nc sa sl sc, Ending.returned (.agg #[.int .i64 n, .slice qa0 ql0 qc0, .slice na0 nl0 nc0, .slice sa0 sl0 sc0]) = .returned (.agg #[.int .i64 n, .slice qa ql qc, .slice na nl nc, .slice sa sl sc]) ∧ LS w' b B lv o p R.1 R.2 ∧ w.grownBy w' (some b) ∧ (R.1 = 0 → IRows w' w.heap.size (.slice qa ql qc) (.slice na nl nc) (.slice sa sl sc) C N S2) := by
  subst hR
  exact ⟨_, _, _, _, _, _, _, _, _, rfl, f.1.ls, f.2.1, fun h => absurd h hc⟩
theorem IS.whole {R : Int × ByteArray} {C : List CodeD} {S2 : List Int} {qa0 na0 sa0 : Option Addr} {ql0 qc0 nl0 nc0 sl0 sc0 : Nat} (f : LX w' b B lv ov qv o p c s ∧ w.grownBy w' (some b) ∧ KRow w' w.heap.size (.slice qa0 ql0 qc0) cl ∧ FRow strK w' w.heap.size (.slice na0 nl0 nc0) N ∧ FRow zK w' w.heap.size (.slice sa0 sl0 sc0) S) (hR : R = (c, s)) (hC : cl.map Prod.fst = C) (hS : S = S2) :
    ∃ qa ql qc na nl nc sa sl sc, Ending.returned (.agg #[.int .i64 n, .slice qa0 ql0 qc0, .slice na0 nl0 nc0, .slice sa0 sl0 sc0]) = .returned (.agg #[.int .i64 n, .slice qa ql qc, .slice na nl nc, .slice sa sl sc]) ∧ LS w' b B lv o p R.1 R.2 ∧ w.grownBy w' (some b) ∧ (R.1 = 0 → IRows w' w.heap.size (.slice qa ql qc) (.slice na nl nc) (.slice sa sl sc) C N S2) := by
  subst hR hS
  exact ⟨_, _, _, _, _, _, _, _, _, rfl, f.1.ls, f.2.1, fun _ => ⟨⟨_, hC, f.2.2.1⟩, f.2.2.2.1, f.2.2.2.2⟩⟩
end
set_option maxRecDepth 20000 in
set_option maxHeartbeats 16000000 in
theorem image_any (a : Option Addr) (cp : Nat) (m : Md) (L : List ObjectD) (b B : Nat) (o : List Nat) (p : List ByteArray) (s0 : ByteArray) (w : World) (h : SlAt ObjectAt 5 w m (.slice a L.length cp) L) (hm : m.hi ≤ b) (hbB : b < B) (hB : B ≤ w.heap.size) (hL : L.length ≤ 1000) (hT : ∀ x ∈ L, Tiny x) (hls : LS w b B (.slice a L.length cp) o p 0 s0) (hk : ∀ k ∈ o, k < L.length) (hol : o.length ≤ 1000) :
    Calls Tryz.prog 47 #[.pointer (some ⟨b, 0, none⟩)] w fun e w' => ∃ qa ql qc na nl nc sa sl sc, e = .returned (.agg #[.int .i64 (gsumP (objsOf L o) 0), .slice qa ql qc, .slice na nl nc, .slice sa sl sc]) ∧ LS w' b B (.slice a L.length cp) o p (resO (objsOf L o) (namesP (objsOf L o)) (objsOf L o) (0, s0)).1 (resO (objsOf L o) (namesP (objsOf L o)) (objsOf L o) (0, s0)).2 ∧ w.grownBy w' (some b) ∧
      ((resO (objsOf L o) (namesP (objsOf L o)) (objsOf L o) (0, s0)).1 = 0 → IRows w' w.heap.size (.slice qa ql qc) (.slice na nl nc) (.slice sa sl sc) (codesR (objsOf L o) (namesP (objsOf L o)) (objsOf L o)) (namesP (objsOf L o)) (starts (objsOf L o) 0)) := by
  have hmix : Tryz.prog.follows .mixedOrders = true := by kernel_rfl
  have HS := hide h
  have HTi := hide hT
  have HKn := hide hk
  obtain ⟨P, hP⟩ : ∃ P, objsOf L o = P := ⟨_, rfl⟩
  have HP := hide hP
  have HTP := hide (tiny_objs hT hk)
  rw [hP] at HTP
  obtain ⟨N, hN⟩ : ∃ N, namesP P = N := ⟨_, rfl⟩
  have HN := hide hN
  have hNl : N.length ≤ 60000 := by
    have := namesP_len HTP.out
    rw [hN, ← hP, objsOf_len] at this
    omega
  rw [hP, hN]
  have HNm : Hid (∀ (w1 : World) (ov : Value) (Bo : Nat), Below w.heap.size w w1 → FRow intK w1 Bo ov o → Calls Tryz.prog 81 #[.slice a L.length cp, ov] w1 fun e w' => (∃ v, e = .returned v ∧ FRow strK w' w1.heap.size v N) ∧ Below w1.heap.size w1 w') := hide fun w1 ov Bo hb ho => by
    have := l05Names_any a cp m L ov o Bo w1 (h.on ObjectAt.stays (hb.mono (by omega))) (by have := hb.size; omega) hL hT ho hk hol
    rwa [hP, hN] at this
  have HRs : Hid (∀ (w1 : World) (lv1 ov qv : Value) (st : Int × ByteArray) (mo : ByteArray) (pr : Int) (x2 x3 x4 : Option Addr) (n2 n3 n4 c2 c3 c4 : Nat) (cn : ByteArray) (pp ce rr : Int) (lb lo n lc : Nat) (cl : List InsD) (md : Md) (nv : Value) (Bn : Nat), lv1 = .slice a L.length cp → w.grownBy w1 (some b) → LX w1 b B lv1 ov qv o p st.1 st.2 → SlAt InsAt 5 w1 md (.slice (some ⟨lb, lo, none⟩) n lc) cl → md.hi ≤ b → 0 < cl.length → cl.length ≤ 2000 → (∀ y ∈ cl, y.mod.size ≤ 40 ∧ y.name.size ≤ 40) → FRow strK w1 Bn nv N →
      Calls Tryz.prog 82 #[.pointer (some ⟨b, 0, none⟩), .agg #[.string mo, .int .i64 pr, .slice x2 n2 c2, .slice x3 n3 c3, .slice x4 n4 c4], .agg #[.string cn, .int .i64 pp, .int .i64 ce, .int .i64 rr, .slice (some ⟨lb, lo, none⟩) n lc], nv] w1 fun e w' =>
        RsPost P N mo cn pp ce rr cl b B lv1 ov qv o p st w1 e w') := hide fun w1 lv1 ov qv st mo pr x2 x3 x4 n2 n3 n4 c2 c3 c4 cn pp ce rr lb lo n lc cl md nv Bn e hg hlx hcl hmd q0 q1 q2 hnv => by
    subst e
    have := resolve_any a cp m L b B ov qv o p st w1 (h.on ObjectAt.stays ((grown_below hg (Nat.le_refl b) (by omega)).mono hm)) hm hbB (by have := hg.size; omega) hT hlx hk hol mo pr x2 x3 x4 n2 n3 n4 c2 c3 c4 cn pp ce rr lb lo n lc cl md hcl hmd q0 q1 q2 nv N Bn hnv (by omega)
    rwa [hP] at this
  have hPl : P.length = o.length := by rw [← hP, objsOf_len]
  obtain ⟨ov, qv, hlx⟩ := hls.lx
  obtain ⟨hxb, ho, hq⟩ := hlx
  have c0 : w.cell? ⟨b, 0, none⟩ = some (.slice a L.length cp) := (heapCells hxb).1 0
  have hbw0 : b < w.heap.size := by omega
  obtain ⟨oa, oc, rfl⟩ := ho.form
  have c1 : w.cell? ⟨b, 1, none⟩ = some (.slice oa o.length oc) := (heapCells hxb).1 1
  have HO := hide ho
  have HLs := hide (show LX w b B (.slice a L.length cp) (.slice oa o.length oc) qv o p 0 s0 from ⟨hxb, ho, hq⟩)
  have HOv := hide (fun k (e : (Value.slice oa o.length oc).ownBlock = some k) => (ho.lt e).2)
  obtain ⟨nL, hnL⟩ : ∃ k, L.length = k := ⟨_, rfl⟩
  obtain ⟨no, hno⟩ : ∃ k, o.length = k := ⟨_, rfl⟩
  have HNL := hide hnL
  have HNo := hide hno
  rw [hnL] at hL HS c0 HNm HLs HRs ⊢
  rw [hno] at hol c1 HO HLs HOv hPl
  have HPl := hide hPl
  have HInt : Hid (∀ (w1 : World) (oa : Option Addr) (oc i : Nat) (h : i < o.length), FRow intK w1 B (.slice oa no oc) o → ∃ g', oa = some ⟨g', 0, none⟩ ∧ no ≤ oc ∧ g' < w1.heap.size ∧ w1.cell? ⟨g', i, none⟩ = some (.int .i64 (o[i] : Int))) := hide fun w1 oa oc i hi ho => by
    rw [← hno] at ho ⊢
    obtain ⟨g', c', e, q1, q2, q3, hc⟩ := ho.one_at intOk hi
    cases e
    have := hc 0 (by decide)
    exact ⟨g', rfl, q1, q3, by simpa [intK] using this⟩
  obtain ⟨lv, hlv⟩ : ∃ lv, Value.slice a nL cp = lv := ⟨_, rfl⟩
  have HLv := hide hlv
  rw [hlv] at HLs ⊢
  obtain ⟨R, hR⟩ : ∃ R, resO P N P (0, s0) = R := ⟨_, rfl⟩
  have HR := hide hR
  rw [hR]
  obtain ⟨G, hG⟩ : ∃ G, gsumP P 0 = G := ⟨_, rfl⟩
  have HG0 := hide hG
  rw [hG]
  clear hR hG
  clear h ho hk hT hnL hno hls hP hN hxb hq hlv hPl
  go_enter Tryz.func47, Tryz.ntmps47
  obtain ⟨W, hW⟩ : ∃ W, W = w.alloc (.cells #[.int .i64 0, .slice none 0 0, .slice none 0 0, .slice none 0 0] 28) := ⟨_, rfl⟩
  have x0 : W.heap[w.heap.size]? = some (.cells #[.int .i64 0, .slice none 0 0, .slice none 0 0, .slice none 0 0] 28 (0, 0)) := by rw [hW]; exact Deep.blk_alloc_new w _
  have bW : Below w.heap.size w W := by rw [hW]; exact (Below.refl _ _).alloc (Nat.le_refl _) _
  have hWs : W.heap.size = w.heap.size + 1 := by rw [hW, World.size_alloc]
  have HX0 := hide x0
  have HBW := hide bW
  have y0 := (bW.cell (p := ⟨b, 0, none⟩) hbw0).trans c0
  have y1 := (bW.cell (p := ⟨b, 1, none⟩) hbw0).trans c1
  go_upto_region 1 with fail
  rw [← hW]
  clear hW x0 bW
  go_cut [3] from 10 to 19 (fun v wc => ∃ k3 na nc, v = .pointer (some ⟨k3, 0, none⟩) ∧ w.heap.size < k3 ∧ Hid (FRow strK wc (w.heap.size + 1) (.slice na N.length nc) N) ∧ Hid (wc.heap[k3]? = some (.cells #[.int .i64 0, .slice none 0 0, .slice na N.length nc, .slice none 0 0] 28 (0, 0))) ∧ Hid (Below W.heap.size W wc))
  case first =>
    go_region_held3 (fun w' => w'.cell? ⟨b, 0, none⟩ = some (.slice a nL cp) ∧ w'.cell? ⟨b, 1, none⟩ = some (.slice oa no oc))
      (first
        | (go_split_ands; exact ⟨y0, y1⟩)
        | go_keep
        | (go_split_ands; first
            | exact ⟨v0, v1⟩
            | exact ⟨((((((Below.refl w.heap.size w1).setCell (by show w.heap.size ≤ w.heap.size + 1; omega) _).setCell (by show w.heap.size ≤ w.heap.size + 1; omega) _).setCell (by show w.heap.size ≤ w.heap.size + 1; omega) _).setCell (by show w.heap.size ≤ w.heap.size + 1; omega) _).cell (p := ⟨b, 0, none⟩) hbw0).trans v0, ((((((Below.refl w.heap.size w1).setCell (by show w.heap.size ≤ w.heap.size + 1; omega) _).setCell (by show w.heap.size ≤ w.heap.size + 1; omega) _).setCell (by show w.heap.size ≤ w.heap.size + 1; omega) _).setCell (by show w.heap.size ≤ w.heap.size + 1; omega) _).cell (p := ⟨b, 1, none⟩) hbw0).trans v1⟩
            | exact ⟨(((Below.refl w1.heap.size w1).alloc (Nat.le_refl _) _).cell (p := ⟨b, 0, none⟩) hbw1).trans v0, (((Below.refl w1.heap.size w1).alloc (Nat.le_refl _) _).cell (p := ⟨b, 1, none⟩) hbw1).trans v1⟩))
      ((first
        | (go_at_call 81
           refine (HNm.out _ _ B HBW.out.drew (HO.out.on HBW.out.drew)).mono ?_
           rintro e w1 ⟨⟨nv, rfl, hnv⟩, bel1⟩
           have b1 : Below w.heap.size w w1 := HBW.out.drew.trans (bel1.mono (by show w.heap.size ≤ W.heap.size; omega))
           have hbw1 : b < w1.heap.size := by have := b1.size; omega
           have v0 := (b1.cell (p := ⟨b, 0, none⟩) hbw0).trans c0
           have v1 := (b1.cell (p := ⟨b, 1, none⟩) hbw0).trans c1
           have HNv := hide hnv
           obtain ⟨na, nc, rfl⟩ := hnv.form
           have HBl := hide bel1
           clear hnv b1 bel1)
        | (go_at_call 81
           refine (HNm.out _ _ B (HBW.out.alloc HBW.out.size _).drew (HO.out.on (HBW.out.alloc HBW.out.size _).drew)).mono ?_
           rintro e w1 ⟨⟨nv, rfl, hnv⟩, bel1⟩
           have b1 : Below w.heap.size w w1 := (HBW.out.alloc HBW.out.size _).drew.trans (bel1.mono (by show w.heap.size ≤ (W.alloc _).heap.size; rw [World.size_alloc]; omega))
           have hbw1 : b < w1.heap.size := by have := b1.size; omega
           have v0 := (b1.cell (p := ⟨b, 0, none⟩) hbw0).trans c0
           have v1 := (b1.cell (p := ⟨b, 1, none⟩) hbw0).trans c1
           have hx3 : w1.heap[w.heap.size + 1]? = some (.cells #[.int .i64 0, .slice none 0 0, .slice none 0 0, .slice none 0 0] 28 (0, 0)) := by
             rw [← hWs]
             exact (bel1.block W.heap.size (by show W.heap.size < (W.alloc _).heap.size; rw [World.size_alloc]; omega)).trans (Deep.blk_alloc_new W _)
           have f0 := (heapCells hx3).2 0
           have f1 := (heapCells hx3).2 1
           have f2 := (heapCells hx3).2 2
           have f3 := (heapCells hx3).2 3
           have k0 : w1.cell? ⟨w.heap.size + 1, 0, none⟩ = some (.int .i64 0) := (heapCells hx3).1 0
           have k1 : w1.cell? ⟨w.heap.size + 1, 1, none⟩ = some (.slice none 0 0) := (heapCells hx3).1 1
           have k2 : w1.cell? ⟨w.heap.size + 1, 2, none⟩ = some (.slice none 0 0) := (heapCells hx3).1 2
           have k3 : w1.cell? ⟨w.heap.size + 1, 3, none⟩ = some (.slice none 0 0) := (heapCells hx3).1 3
           have HX3 := hide hx3
           have HNv := hide hnv
           obtain ⟨na, nc, rfl⟩ := hnv.form
           have HBl := hide bel1
           clear hnv b1 bel1 hx3)
        | fail))
    · go_wp2_with fail
      go_meet
      case rel =>
        have hsz := HBl.out.size
        have hsz2 : W.heap.size ≤ w1.heap.size := hsz
        refine ⟨_, _, _, rfl, by omega, hide ((HNv.out.le (by show w.heap.size + 1 ≤ W.heap.size; omega)).on ((Below.refl _ _).alloc (Nat.le_refl _) _)), hide (Deep.blk_alloc_new w1 _), hide ?_⟩
        exact ((Below.refl W.heap.size W).drew.trans HBl.out).alloc hsz2 _
    · go_wp2_with fail
      go_meet
      case rel =>
        have hsz := HBl.out.size
        have hsz2 : (W.alloc (.cells #[.int .i64 0, .slice none 0 0, .slice none 0 0, .slice none 0 0] 28)).heap.size ≤ w1.heap.size := hsz
        have hsz3 : (W.alloc (.cells #[.int .i64 0, .slice none 0 0, .slice none 0 0, .slice none 0 0] 28)).heap.size = w.heap.size + 2 := by rw [World.size_alloc]; omega
        have hf := HNv.out
        refine ⟨_, _, _, rfl, by omega, hide ?_, hide (block_set (block_set (block_set (block_set HX3.out _) _) _) _), hide ?_⟩
        · exact ((((hf.set_far (by show w.heap.size + 1 < (W.alloc _).heap.size; omega) _ _).set_far (by show w.heap.size + 1 < (W.alloc _).heap.size; omega) _ _).set_far (by show w.heap.size + 1 < (W.alloc _).heap.size; omega) _ _).set_far (by show w.heap.size + 1 < (W.alloc _).heap.size; omega) _ _).le (by show w.heap.size + 1 ≤ (W.alloc _).heap.size; omega)
        · exact ((((((Below.refl W.heap.size W).alloc (Nat.le_refl _) _).drew.trans (HBl.out.mono (by show W.heap.size ≤ (W.alloc _).heap.size; omega))).setCell (by show W.heap.size ≤ w.heap.size + 1; omega) _).setCell (by show W.heap.size ≤ w.heap.size + 1; omega) _).setCell (by show W.heap.size ≤ w.heap.size + 1; omega) _).setCell (by show W.heap.size ≤ w.heap.size + 1; omega) _
  case rest =>
    obtain ⟨k3, na, nc, rfl, hk3, Hnm, Hx3, Hbc⟩ := hcut
    have HI0 : Hid (IS w b B lv (.slice oa no oc) qv o p N k3 0 (.slice none 0 0) (.slice na N.length nc) (.slice none 0 0) [] [] 0 s0 wc) := hide ⟨(Hbc.out.block _ (Array.getElem?_eq_some_iff.1 HX0.out).1).trans HX0.out, Hx3.out, hk3, KRow.nil _ _, Hnm.out, FRow.nil _ _ _, (HLs.out.below HBW.out).below Hbc.out, below_grown (HBW.out.trans (Hbc.out.mono (by omega)))⟩
    have hcb : w.heap.size ≤ wc.heap.size := by have := Hbc.out.size; omega
    clear y0 y1 c0 c1 Hnm Hx3 Hbc HX0 HBW HNm HO HLs
    have HOv' := HOv
    obtain ⟨ov, hov⟩ : ∃ ov, Value.slice oa no oc = ov := ⟨_, rfl⟩
    have HOe := hide hov
    rw [hov] at HI0 HOv
    clear HOv' hov
    obtain ⟨nv, hnv⟩ : ∃ nv, Value.slice na N.length nc = nv := ⟨_, rfl⟩
    rw [hnv] at HI0
    clear hnv hWs
    go_wp2_with fail
    go_loopw [4] (fun i wr => ∃ (j : Nat) (n : Int), i = .int .i64 j ∧ j ≤ no ∧ 0 ≤ n ∧ n ≤ 10000 * j ∧ Hid (gsumP (P.drop j) n = G) ∧ Hid (IS w b B lv ov qv o p N k3 n (.slice none 0 0) nv (.slice none 0 0) [] [] 0 s0 wr)) (fun i _ => no - (intOf i).toNat)
    case atStart => exact ⟨0, 0, rfl, by omega, by omega, by omega, hide (by rw [List.drop_zero]; exact HG0.out), HI0⟩
    case round =>
      obtain ⟨j, n, rfl, hj, hn0, hn1, Hg, Hs⟩ := hrel
      obtain ⟨w8, rfl⟩ : ∃ w8, w8 = wr := ⟨_, rfl⟩
      have h8 := Hs.out.2.2.2.2.2.2.2
      obtain ⟨hxb, ho, -⟩ := Hs.out.2.2.2.2.2.2.1
      have b0 : w8.cell? ⟨b, 0, none⟩ = some lv := (heapCells hxb).1 0
      have b1 : w8.cell? ⟨b, 1, none⟩ = some ov := (heapCells hxb).1 1
      rw [← HOe.out] at b1 ho
      rw [← HLv.out] at b0
      have hb8 : b < w8.heap.size := (Array.getElem?_eq_some_iff.1 hxb).1
      by_cases hp : j < no
      · have i1 : (j : Int) < no := by omega
        have hjo : j < o.length := by rw [HNo.out]; exact hp
        obtain ⟨g', hg', q1, q2, q3⟩ := HInt.out w8 oa oc j hjo ho
        rw [hg'] at b1
        clear hg'
        have hkL : o[j] < L.length := HKn.out _ (List.getElem_mem hjo)
        have HX := hide (objsOf_at hjo hkL)
        have HTx := hide (HTi.out _ (List.getElem_mem hkL))
        obtain ⟨k, hk⟩ : ∃ k, o[j] = k := ⟨_, rfl⟩
        have q4 := q3
        have i2 : ((o[j] : Nat) : Int) < nL := by rw [← HNL.out]; omega
        have hS := HS.out
        rw [← HNL.out] at hS
        have h80 := h8
        obtain ⟨a', c', e', hr⟩ := hS.on ObjectAt.stays ((grown_below h80 (Nat.le_refl b) (by omega)).mono hm)
        cases e'
        obtain ⟨gb, of, rfl, g1, g2, -, he⟩ := hr o[j] hkL
        rw [HNL.out] at g1
        obtain ⟨x, hx⟩ : ∃ x, L[o[j]] = x := ⟨_, rfl⟩
        rw [hx] at he HX HTx
        rw [hk] at q4 i2 he
        have hjP : j < P.length := by rw [← HP.out, objsOf_len]; exact hjo
        have hdr : P.drop j = x :: P.drop (j + 1) := by
          rw [List.drop_eq_getElem_cons hjP]
          congr 1
          have := HX.out
          simpa [← HP.out] using this
        rw [hdr, gsumP_cons] at Hg
        obtain ⟨⟨d0, d1⟩, -, u2, u3, u4, ⟨d2, d3, d4⟩, s2, s3, s4⟩ := he
        have HPg := hide s3
        obtain ⟨a2, c2, rfl, -⟩ := s2
        obtain ⟨a3, c3, rfl, -⟩ := s3
        obtain ⟨a4, c4, rfl, -⟩ := s4
        simp only [Nat.add_zero] at d0 d1 d2 d3 d4
        obtain ⟨mo, pr, l2, l3, l4⟩ := x
        simp only [] at d0 d1 d2 d3 d4 HPg Hg
        obtain ⟨n2, hn2⟩ : ∃ k, l2.length = k := ⟨_, rfl⟩
        obtain ⟨n3, hn3⟩ : ∃ k, l3.length = k := ⟨_, rfl⟩
        obtain ⟨n4, hn4⟩ : ∃ k, l4.length = k := ⟨_, rfl⟩
        have HN3 := hide hn3
        rw [hn2] at d2
        rw [hn3] at d3 HPg
        rw [hn4] at d4
        have hn100 : n3 ≤ 100 := by rw [← HN3.out]; exact HTx.out.globs
        have HG := hide HTx.out.gnames
        simp only [] at HG
        clear hr hS hx hk q1 q2 q3 hkL hn2 hn3 hn4 hdr HX HTx h80 ho hxb
        go_wp2_with fail
        go_cut [5] from 29 to 41 (fun v wc => v = .pointer (some ⟨w8.heap.size, 0, none⟩) ∧ Hid (wc.heap[w8.heap.size]? = some (.cells #[.string mo, .int .i64 pr, .slice a2 n2 c2, .slice a3 n3 c3, .slice a4 n4 c4] 48 (0, 0))) ∧ Hid (Below w8.heap.size w8 wc))
        case first =>
          go_region_held3 (fun w' => w'.cell? ⟨b, 0, none⟩ = some (.slice (some ⟨gb, of, none⟩) nL cp) ∧ w'.cell? ⟨b, 1, none⟩ = some (.slice (some ⟨g', 0, none⟩) no oc) ∧ w'.cell? ⟨g', j, none⟩ = some (.int .i64 k) ∧ w'.cell? ⟨gb, of + k * 5, none⟩ = some (.string mo) ∧ w'.cell? ⟨gb, of + k * 5 + 1, none⟩ = some (.int .i64 pr) ∧ w'.cell? ⟨gb, of + k * 5 + 2, none⟩ = some (.slice a2 n2 c2) ∧ w'.cell? ⟨gb, of + k * 5 + 3, none⟩ = some (.slice a3 n3 c3) ∧ w'.cell? ⟨gb, of + k * 5 + 4, none⟩ = some (.slice a4 n4 c4))
            (first
              | (go_split_ands; exact ⟨b0, b1, q4, d0, d1, d2, d3, d4⟩)
              | go_keep
              | fail)
            (fail)
          go_wp2_with fail
          go_meet
          case rel => exact ⟨rfl, hide (Deep.blk_alloc_new w8 _), hide ((Below.refl _ _).alloc (Nat.le_refl _) _).drew⟩
        case rest =>
          obtain ⟨rfl, Hbx, Hbc⟩ := hcut
          have HIc := hide (Hs.out.below Hbc.out)
          have hltc : k3 < w8.heap.size := Hs.out.lt
          clear b0 b1 q4 d0 d1 d2 d3 d4 h8
          go_wp2_with fail
          go_loopw [6] (fun i wr => ∃ (q : Nat) (n' : Int), i = .int .i64 q ∧ q ≤ n3 ∧ 0 ≤ n' ∧ n' ≤ 10000 * j + 100 * q ∧ Hid (gsumP (P.drop (j + 1)) (gsum (l3.drop q) n') = G) ∧ Hid (wr.heap[w8.heap.size]? = some (.cells #[.string mo, .int .i64 pr, .slice a2 n2 c2, .slice a3 n3 c3, .slice a4 n4 c4] 48 (0, 0))) ∧ Hid (IS w b B lv ov qv o p N k3 n' (.slice none 0 0) nv (.slice none 0 0) [] [] 0 s0 wr)) (fun i _ => n3 - (intOf i).toNat)
          case atStart => exact ⟨0, n, rfl, by omega, by omega, by omega, hide (by rw [List.drop_zero]; exact Hg.out), Hbx, HIc⟩
          case round =>
            obtain ⟨q, n', rfl, hq, hn0', hn1', Hq, Hb, Hi⟩ := hrel
            have k3f : wr.cell? ⟨w8.heap.size, 3, none⟩ = some (.slice a3 n3 c3) := (heapCells Hb.out).1 3
            by_cases hp3 : q < n3
            · have i3 : (q : Int) < n3 := by omega
              have hq3 : q < l3.length := by rw [HN3.out]; exact hp3
              have hP := HPg.out
              rw [← HN3.out] at hP
              obtain ⟨a', c', e', hr⟩ := hP.same GlobalAt.stays (grown_same Hs.out.2.2.2.2.2.2.2 Hi.out.2.2.2.2.2.2.2 (by omega) (by rw [Md.inner_hi]; exact hm))
              cases e'
              obtain ⟨pb, po, rfl, p1, p2, -, he⟩ := hr q hq3
              rw [HN3.out] at p1
              obtain ⟨y, hy⟩ : ∃ y, l3[q] = y := ⟨_, rfl⟩
              have hyt := HG.out _ (List.getElem_mem hq3)
              have hdr : l3.drop q = y :: l3.drop (q + 1) := by rw [List.drop_eq_getElem_cons hq3, hy]
              rw [hdr, gsum_cons] at Hq
              rw [hy] at he hyt
              obtain ⟨⟨-, e1⟩, -⟩ := he
              obtain ⟨yn, yl⟩ := y
              simp only [] at e1 hyt
              obtain ⟨hyn, hy0, hy1⟩ := hyt
              have m0 : wr.cell? ⟨k3, 0, none⟩ = some (.int .i64 n') := (heapCells Hi.out.2.1).1 0
              have mf := (heapCells Hi.out.2.1).2 0
              have hgl : 1 ≤ glen ⟨yn, yl⟩ ∧ glen ⟨yn, yl⟩ ≤ 100 := by unfold glen; simp only []; split <;> omega
              have HSet := hide (Hi.out.set0 (by omega) (n' + glen ⟨yn, yl⟩))
              have HGl := hide (show glen ⟨yn, yl⟩ = if 1 < yl then yl else 1 from rfl)
              clear hr hy hdr
              generalize glen ⟨yn, yl⟩ = G at *
              have HBk := hide (show (wr.setCell ⟨k3, 0, none⟩ (.int .i64 (n' + G))).heap[w8.heap.size]? = some (.cells #[.string mo, .int .i64 pr, .slice a2 n2 c2, .slice (some ⟨pb, po, none⟩) n3 c3, .slice a4 n4 c4] 48 (0, 0)) from (Below.heap_setCell _ _ _ _ (by show w8.heap.size ≠ k3; omega)).trans Hb.out)
              by_cases hge : 1 < yl
              · obtain rfl : G = yl := by rw [HGl.out, if_pos hge]
                go_wp2_with fail
                go_region
                go_wp2_with fail
                go_roundw
                case rel => exact ⟨q + 1, _, by go_num, by omega, by omega, by omega, Hq, HBk, hide (HSet.out.below (Below.refl _ _).drew)⟩
                case measure => simp [intOf]; omega
              · obtain rfl : G = 1 := by rw [HGl.out, if_neg hge]
                go_wp2_with fail
                go_region
                go_wp2_with fail
                go_roundw
                case rel => exact ⟨q + 1, _, by go_num, by omega, by omega, by omega, Hq, HBk, hide (HSet.out.below (Below.refl _ _).drew)⟩
                case measure => simp [intOf]; omega
            · have i3 : ¬ (q : Int) < n3 := by omega
              go_wp2
              go_roundw
              case rel =>
                refine ⟨j + 1, n', by go_num, by omega, by omega, by omega, ?_, Hi⟩
                have := Hq.out
                rw [show l3.drop q = [] from List.drop_of_length_le (by rw [HN3.out]; omega)] at this
                exact hide this
              case measure => simp [intOf]; omega
      · have i1 : ¬ (j : Int) < no := by omega
        have hnG : n = G := by
          have := Hg.out
          rw [List.drop_eq_nil_of_le (by rw [HPl.out]; omega)] at this
          exact this
        subst hnG
        go_wp2_with fail
        clear b0 b1 ho hxb h8 hb8
        go_loopw [7] (fun i wr => ∃ (j : Nat) (pv sv : Value) (cl : List CV) (S : List Int) (c : Int) (s : ByteArray), i = .int .i64 j ∧ j ≤ no ∧ Hid (cl.map Prod.fst = codesR P N (P.take j)) ∧ Hid (S = starts (P.take j) 0) ∧ Hid (resO P N (P.drop j) (c, s) = R) ∧ Hid (IS w b B lv ov qv o p N k3 n pv nv sv cl S c s wr)) (fun i _ => no - (intOf i).toNat)
        case atStart => exact ⟨0, _, _, [], [], 0, s0, rfl, by omega, hide (by rw [List.take_zero]; rfl), hide (by rw [List.take_zero]; rfl), hide (by rw [List.drop_zero]; exact HR.out), Hs⟩
        case round =>
          clear Hs Hg hn0 hn1 hj i1 hp
          obtain ⟨j, pv, sv, cl, S, c, s, rfl, hj, Hc, HS2, HRj, Hs⟩ := hrel
          obtain ⟨w8, rfl⟩ : ∃ w8, w8 = wr := ⟨_, rfl⟩
          have h8 := Hs.out.2.2.2.2.2.2.2
          obtain ⟨hxb, ho, -⟩ := Hs.out.2.2.2.2.2.2.1
          have b0 : w8.cell? ⟨b, 0, none⟩ = some lv := (heapCells hxb).1 0
          have b1 : w8.cell? ⟨b, 1, none⟩ = some ov := (heapCells hxb).1 1
          have b3 : w8.cell? ⟨b, 3, none⟩ = some (.int .i64 c) := (heapCells hxb).1 3
          rw [← HOe.out] at b1 ho
          rw [← HLv.out] at b0
          have hb8 : b < w8.heap.size := (Array.getElem?_eq_some_iff.1 hxb).1
          by_cases hp : j < no
          · have i1 : (j : Int) < no := by omega
            by_cases hc : c = 0
            · subst hc
              have hjo : j < o.length := by rw [HNo.out]; exact hp
              obtain ⟨g', hg', q1, q2, q3⟩ := HInt.out w8 oa oc j hjo ho
              rw [hg'] at b1
              clear hg'
              have hkL : o[j] < L.length := HKn.out _ (List.getElem_mem hjo)
              have HX := hide (objsOf_at hjo hkL)
              have HTx := hide (HTi.out _ (List.getElem_mem hkL))
              obtain ⟨k, hk⟩ : ∃ k, o[j] = k := ⟨_, rfl⟩
              have q4 := q3
              have i2 : ((o[j] : Nat) : Int) < nL := by rw [← HNL.out]; omega
              have hS := HS.out
              rw [← HNL.out] at hS
              have h80 := h8
              obtain ⟨a', c', e', hr⟩ := hS.on ObjectAt.stays ((grown_below h80 (Nat.le_refl b) (by omega)).mono hm)
              cases e'
              obtain ⟨gb, of, rfl, g1, g2, -, he⟩ := hr o[j] hkL
              rw [HNL.out] at g1
              obtain ⟨x, hx⟩ : ∃ x, L[o[j]] = x := ⟨_, rfl⟩
              rw [hx] at he HX HTx
              rw [hk] at q4 i2 he
              have hjP : j < P.length := by rw [← HP.out, objsOf_len]; exact hjo
              have hdr : P.drop j = x :: P.drop (j + 1) := by
                rw [List.drop_eq_getElem_cons hjP]
                congr 1
                have := HX.out
                simpa [← HP.out] using this
              rw [hdr, resO_cons] at HRj
              have HPj := hide (show P[j] = x by have := HX.out; simpa [← HP.out] using this)
              obtain ⟨⟨d0, d1⟩, -, u2, u3, u4, ⟨d2, d3, d4⟩, s2, s3, s4⟩ := he
              have HPc := hide s4
              obtain ⟨a2, c2, rfl, -⟩ := s2
              obtain ⟨a3, c3, rfl, -⟩ := s3
              obtain ⟨a4, c4, rfl, -⟩ := s4
              simp only [Nat.add_zero] at d0 d1 d2 d3 d4
              obtain ⟨mo, pr, l2, l3, l4⟩ := x
              simp only [] at d0 d1 d2 d3 d4 HPc HRj
              obtain ⟨n2, hn2⟩ : ∃ k, l2.length = k := ⟨_, rfl⟩
              obtain ⟨n3, hn3⟩ : ∃ k, l3.length = k := ⟨_, rfl⟩
              obtain ⟨n4, hn4⟩ : ∃ k, l4.length = k := ⟨_, rfl⟩
              have HN4 := hide hn4
              rw [hn2] at d2
              rw [hn3] at d3
              rw [hn4] at d4 HPc
              have hn60 : n4 ≤ 60 := by rw [← HN4.out]; exact HTx.out.procs
              have HCd := hide HTx.out.codes
              simp only [] at HCd
              obtain ⟨Q, hQ⟩ : ∃ Q, resC P N mo l4 (0, s) = Q := ⟨_, rfl⟩
              have HQ := hide hQ
              rw [hQ] at HRj
              clear hr hS hx hk q1 q2 q3 hkL hn2 hn3 hn4 hdr HX HTx h80 ho hxb hQ
              go_wp2_with fail
              go_cut [8] from 76 to 88 (fun v wc => v = .pointer (some ⟨w8.heap.size, 0, none⟩) ∧ Hid (wc.heap[w8.heap.size]? = some (.cells #[.string mo, .int .i64 pr, .slice a2 n2 c2, .slice a3 n3 c3, .slice a4 n4 c4] 48 (0, 0))) ∧ Hid (Below w8.heap.size w8 wc))
              case first =>
                go_region_held3 (fun w' => w'.cell? ⟨b, 0, none⟩ = some (.slice (some ⟨gb, of, none⟩) nL cp) ∧ w'.cell? ⟨b, 1, none⟩ = some (.slice (some ⟨g', 0, none⟩) no oc) ∧ w'.cell? ⟨g', j, none⟩ = some (.int .i64 k) ∧ w'.cell? ⟨gb, of + k * 5, none⟩ = some (.string mo) ∧ w'.cell? ⟨gb, of + k * 5 + 1, none⟩ = some (.int .i64 pr) ∧ w'.cell? ⟨gb, of + k * 5 + 2, none⟩ = some (.slice a2 n2 c2) ∧ w'.cell? ⟨gb, of + k * 5 + 3, none⟩ = some (.slice a3 n3 c3) ∧ w'.cell? ⟨gb, of + k * 5 + 4, none⟩ = some (.slice a4 n4 c4))
                  (first
                    | (go_split_ands; exact ⟨b0, b1, q4, d0, d1, d2, d3, d4⟩)
                    | go_keep
                    | fail)
                  (fail)
                go_wp2_with fail
                go_meet
                case rel => exact ⟨rfl, hide (Deep.blk_alloc_new w8 _), hide ((Below.refl _ _).alloc (Nat.le_refl _) _).drew⟩
              case rest =>
                obtain ⟨rfl, Hbx, Hbc⟩ := hcut
                have HIc := hide (Hs.out.below Hbc.out)
                have hltc : k3 < w8.heap.size := Hs.out.lt
                clear b0 b1 b3 q4 d0 d1 d2 d3 d4 h8
                go_wp2_with fail
                go_loopw [9] (fun i wr => ∃ (q : Nat) (pv : Value) (cl' : List CV) (c : Int) (s1 : ByteArray), i = .int .i64 q ∧ q ≤ n4 ∧ Hid (cl'.map Prod.fst = codesR P N (P.take j) ++ (l4.take q).map (codeR P N)) ∧ Hid (resC P N mo (l4.drop q) (c, s1) = Q) ∧ Hid (wr.heap[w8.heap.size]? = some (.cells #[.string mo, .int .i64 pr, .slice a2 n2 c2, .slice a3 n3 c3, .slice a4 n4 c4] 48 (0, 0))) ∧ Hid (IS w b B lv ov qv o p N k3 n pv nv sv cl' S c s1 wr)) (fun i _ => n4 - (intOf i).toNat)
                case atStart => exact ⟨0, pv, cl, 0, s, rfl, by omega, hide (by rw [List.take_zero, List.map_nil, List.append_nil]; exact Hc.out), hide (by rw [List.drop_zero]; exact HQ.out), Hbx, HIc⟩
                case round =>
                  obtain ⟨q, pv', cl', c, s1, rfl, hq, Hq, HRq, Hb, Hi⟩ := hrel
                  obtain ⟨k0, k1, k2, k3f, k4⟩ : (wr.cell? ⟨w8.heap.size, 0, none⟩ = some (.string mo)) ∧ (wr.cell? ⟨w8.heap.size, 1, none⟩ = some (.int .i64 pr)) ∧ (wr.cell? ⟨w8.heap.size, 2, none⟩ = some (.slice a2 n2 c2)) ∧ (wr.cell? ⟨w8.heap.size, 3, none⟩ = some (.slice a3 n3 c3)) ∧ (wr.cell? ⟨w8.heap.size, 4, none⟩ = some (.slice a4 n4 c4)) :=
                    ⟨(heapCells Hb.out).1 0, (heapCells Hb.out).1 1, (heapCells Hb.out).1 2, (heapCells Hb.out).1 3, (heapCells Hb.out).1 4⟩
                  have hclen : cl'.length ≤ 60000 + q := by
                    have h1 : (cl'.map Prod.fst).length = cl'.length := List.length_map ..
                    have h2 := congrArg List.length Hq.out
                    have h3 := codesR_bound (P := P) (N := N) (Q := P.take j) fun x hx => HTP.out x (List.mem_of_mem_take hx)
                    simp only [List.length_append, List.length_map, List.length_take] at h2
                    rw [List.length_take] at h3
                    omega
                  by_cases hp4 : q < n4
                  · have i4 : (q : Int) < n4 := by omega
                    have hq4 : q < l4.length := by rw [HN4.out]; exact hp4
                    have hP := HPc.out
                    rw [← HN4.out] at hP
                    obtain ⟨a', c', e', hr⟩ := hP.same CodeAt.stays (grown_same Hs.out.2.2.2.2.2.2.2 Hi.out.2.2.2.2.2.2.2 (by omega) (by rw [Md.inner_hi]; exact hm))
                    cases e'
                    obtain ⟨pb, po, rfl, p1, p2, -, he⟩ := hr q hq4
                    rw [HN4.out] at p1
                    rw [Md.inner_hi] at p2
                    obtain ⟨y, hy⟩ : ∃ y, l4[q] = y := ⟨_, rfl⟩
                    have hyt := HCd.out _ (List.getElem_mem hq4)
                    have hdr : l4.drop q = y :: l4.drop (q + 1) := by rw [List.drop_eq_getElem_cons hq4, hy]
                    rw [hdr, resC_cons] at HRq
                    have hq1 : (l4.take (q + 1)).map (codeR P N) = (l4.take q).map (codeR P N) ++ [codeR P N y] := by rw [List.take_succ_eq_append_getElem hq4, hy, List.map_append, List.map_singleton]
                    have HQ1 := hide hq1
                    rw [hy] at he hyt
                    obtain ⟨⟨e0, e1, e2, e3⟩, -, v4, e4, s4⟩ := he
                    obtain ⟨yn, yp, yc, yr, yl⟩ := y
                    simp only [Nat.add_zero] at e0 e1 e2 e3 e4 hyt s4
                    obtain ⟨t1, t2, t3, t4⟩ := hyt
                    obtain ⟨a5, c5, rfl, r5⟩ := s4
                    obtain ⟨lb, lo, rfl, -⟩ := r5 0 t4
                    have HCl := hide (show SlAt InsAt 5 wr _ (.slice (some ⟨lb, lo, none⟩) yl.length c5) yl from ⟨_, _, rfl, r5⟩)
                    obtain ⟨ny, hny⟩ : ∃ k, yl.length = k := ⟨_, rfl⟩
                    rw [hny] at e4 HCl
                    have HT4 := hide t4
                    have HT2 := hide t2
                    have HT3 := hide t3
                    obtain ⟨cells1, fr1⟩ := heapCells Hi.out.2.1
                    have m1 : wr.cell? ⟨k3, 1, none⟩ = some pv' := cells1 1
                    have m2 : wr.cell? ⟨k3, 2, none⟩ = some nv := cells1 2
                    have mf := fr1 1
                    have hk3b : w.heap.size < k3 := Hi.out.2.2.1
                    have hk3c : k3 < wr.heap.size := Hi.out.lt
                    have hw8c : w8.heap.size < wr.heap.size := (Array.getElem?_eq_some_iff.1 Hb.out).1
                    have hNV := Hi.out.2.2.2.2.1
                    clear hr hy hdr t4 t2 t3 r5 cells1 fr1 hq1 hP
                    go_wp2_with fail
                    have hkr := Hi.out.2.2.2.1
                    have HKr := hide hkr.1
                    clear hkr
                    have hpbb : pb ≠ b := by intro e; omega
                    have hk3nb : k3 ≠ b := by omega
                    have hw8nb : w8.heap.size ≠ b := by omega
                    have hpbc : pb < wr.heap.size := by omega
                    have hpbw : pb < w.heap.size + 1 := by omega
                    refine wp_region_z (S := fun w' => ∀ k o, k = k3 ∨ k = w8.heap.size ∨ k = pb → w'.cell? ⟨k, o, none⟩ = wr.cell? ⟨k, o, none⟩) 15 (by kernel_rfl) (fun k o _ => rfl) (fun hHeld => ?_)
                    refine wpAnyZ_take (i := 0) (v := ?_) rfl (by kernel_rfl) (by kernel_rfl) (by kernel_rfl) (by kernel_rfl) (fun _ _ _ h => h) (by rfl) ?_ hHeld ?_
                    rotate_left
                    · intro wS hSw
                      go_simp
                      rfl
                    simp only [Act.put, List.setIfInBounds_toArray, List.set_cons_zero, List.set_cons_succ, List.getElem_toArray, List.getElem_cons_zero]
                    refine wpAnyZ_take (i := 1) (v := ?_) rfl (by kernel_rfl) (by kernel_rfl) (by kernel_rfl) (by kernel_rfl) (fun _ _ _ h => h) (by rfl) ?_ hHeld ?_
                    rotate_left
                    · intro wS hSw
                      have s0 := (hSw k3 1 (.inl rfl)).trans m1
                      go_simp
                      rfl
                    simp only [Act.put, List.setIfInBounds_toArray, List.set_cons_zero, List.set_cons_succ, List.getElem_toArray, List.getElem_cons_succ, List.getElem_cons_zero]
                    refine wpAnyZ_take (i := 2) (v := ?_) rfl (by kernel_rfl) (by kernel_rfl) (by kernel_rfl) (by kernel_rfl) (fun _ _ _ h => h) (by rfl) ?_ hHeld ?_
                    rotate_left
                    · intro wS hSw
                      go_simp
                      rfl
                    simp only [Act.put, List.setIfInBounds_toArray, List.set_cons_zero, List.set_cons_succ, List.getElem_toArray, List.getElem_cons_succ, List.getElem_cons_zero]
                    refine wpAnyZ_take (i := 3) (v := ?_) rfl (by kernel_rfl) (by kernel_rfl) (by kernel_rfl) (by kernel_rfl) (fun _ _ _ h => h) (by rfl) ?_ hHeld ?_
                    rotate_left
                    · intro wS hSw
                      have s0 := (hSw w8.heap.size 0 (.inr (.inl rfl))).trans k0; have s1 := (hSw w8.heap.size 1 (.inr (.inl rfl))).trans k1; have s2 := (hSw w8.heap.size 2 (.inr (.inl rfl))).trans k2; have s3 := (hSw w8.heap.size 3 (.inr (.inl rfl))).trans k3f; have s4 := (hSw w8.heap.size 4 (.inr (.inl rfl))).trans k4
                      go_simp
                      rfl
                    simp only [Act.put, List.setIfInBounds_toArray, List.set_cons_zero, List.set_cons_succ, List.getElem_toArray, List.getElem_cons_succ, List.getElem_cons_zero]
                    refine wpAnyZ_take (i := 4) (v := ?_) rfl (by kernel_rfl) (by kernel_rfl) (by kernel_rfl) (by kernel_rfl) (fun _ _ _ h => h) (by rfl) ?_ hHeld ?_
                    rotate_left
                    · intro wS hSw
                      go_simp
                      rfl
                    simp only [Act.put, List.setIfInBounds_toArray, List.set_cons_zero, List.set_cons_succ, List.getElem_toArray, List.getElem_cons_succ, List.getElem_cons_zero]
                    refine wpAnyZ_take (i := 5) (v := ?_) rfl (by kernel_rfl) (by kernel_rfl) (by kernel_rfl) (by kernel_rfl) (fun _ _ _ h => h) (by rfl) ?_ hHeld ?_
                    rotate_left
                    · intro wS hSw
                      have s4 := (hSw w8.heap.size 4 (.inr (.inl rfl))).trans k4
                      go_simp
                      rfl
                    simp only [Act.put, List.setIfInBounds_toArray, List.set_cons_zero, List.set_cons_succ, List.getElem_toArray, List.getElem_cons_succ, List.getElem_cons_zero]
                    refine wpAnyZ_take (i := 6) (v := ?_) rfl (by kernel_rfl) (by kernel_rfl) (by kernel_rfl) (by kernel_rfl) (fun _ _ _ h => h) (by rfl) ?_ hHeld ?_
                    rotate_left
                    · intro wS hSw
                      go_simp
                      rfl
                    simp only [Act.put, List.setIfInBounds_toArray, List.set_cons_zero, List.set_cons_succ, List.getElem_toArray, List.getElem_cons_succ, List.getElem_cons_zero]
                    refine wpAnyZ_take (i := 7) (v := ?_) rfl (by kernel_rfl) (by kernel_rfl) (by kernel_rfl) (by kernel_rfl) (fun _ _ _ h => h) (by rfl) ?_ hHeld ?_
                    rotate_left
                    · intro wS hSw
                      go_simp
                      rfl
                    simp only [Act.put, List.setIfInBounds_toArray, List.set_cons_zero, List.set_cons_succ, List.getElem_toArray, List.getElem_cons_succ, List.getElem_cons_zero]
                    refine wpAnyZ_take (i := 8) (v := ?_) rfl (by kernel_rfl) (by kernel_rfl) (by kernel_rfl) (by kernel_rfl) (fun _ _ _ h => h) (by rfl) ?_ hHeld ?_
                    rotate_left
                    · intro wS hSw
                      have s0 := (hSw pb _ (.inr (.inr rfl))).trans e0; have s1 := (hSw pb _ (.inr (.inr rfl))).trans e1; have s2 := (hSw pb _ (.inr (.inr rfl))).trans e2; have s3 := (hSw pb _ (.inr (.inr rfl))).trans e3; have s4 := (hSw pb _ (.inr (.inr rfl))).trans e4
                      go_simp
                      rfl
                    simp only [Act.put, List.setIfInBounds_toArray, List.set_cons_zero, List.set_cons_succ, List.getElem_toArray, List.getElem_cons_succ, List.getElem_cons_zero]
                    refine wpAnyZ_take (i := 9) (v := ?_) rfl (by kernel_rfl) (by kernel_rfl) (by kernel_rfl) (by kernel_rfl) (fun _ _ _ h => h) (by rfl) ?_ hHeld ?_
                    rotate_left
                    · intro wS hSw
                      go_simp
                      rfl
                    simp only [Act.put, List.setIfInBounds_toArray, List.set_cons_zero, List.set_cons_succ, List.getElem_toArray, List.getElem_cons_succ, List.getElem_cons_zero]
                    refine wpAnyZ_take (i := 10) (v := ?_) rfl (by kernel_rfl) (by kernel_rfl) (by kernel_rfl) (by kernel_rfl) (fun _ _ _ h => h) (by rfl) ?_ hHeld ?_
                    rotate_left
                    · intro wS hSw
                      have s0 := (hSw k3 2 (.inl rfl)).trans m2
                      go_simp
                      rfl
                    simp only [Act.put, List.setIfInBounds_toArray, List.set_cons_zero, List.set_cons_succ, List.getElem_toArray, List.getElem_cons_succ, List.getElem_cons_zero]
                    refine wpAnyZ_one (i := 11) (by kernel_rfl) rfl (fun K hK => ?_)
                    go_simp
                    go_at_call 82
                    refine (HRs.out _ lv ov qv (c, s1) mo pr a2 a3 (some ⟨pb, po, none⟩) n2 n3 n4 c2 c3 c4 yn yp yc yr lb lo ny c5 yl _ nv (w.heap.size + 1) HLv.out.symm (Hi.out.2.2.2.2.2.2.2.trans (below_grown (Below.refl _ _).drew)) (Hi.out.2.2.2.2.2.2.1.below (Below.refl _ _).drew) (HCl.out.on InsAt.stays (Below.refl _ _).drew) ?_ HT4.out HT2.out HT3.out (hNV.on (Below.refl _ _).drew)).mono ?_
                    · rw [Md.inner_hi, Md.inner_hi]; exact hm
                    rintro e w4 ⟨⟨rv, rfl, hrv⟩, hl4, g4⟩
                    have oth : ∀ (k o : Nat), k < wr.heap.size → k ≠ b → w4.cell? ⟨k, o, none⟩ = wr.cell? ⟨k, o, none⟩ := fun k o hk hkb => g4.cell_far ⟨k, o, none⟩ hk (fun e => hkb (Option.some.inj e))
                    have uf : w4.frozen? ⟨k3, 1, none⟩ = false := (g4.frozen_far ⟨k3, 1, none⟩ hk3c (fun e => absurd (Option.some.inj e) (by show ¬ k3 = b; omega))).trans mf
                    have hsz4 : wr.heap.size ≤ w4.heap.size := g4.size
                    have hS4 : ∀ k o, k = k3 ∨ k = w8.heap.size ∨ k = pb → w4.cell? ⟨k, o, none⟩ = wr.cell? ⟨k, o, none⟩ := by
                      intro k o hk
                      rcases hk with e | e | e
                      · rw [e]; exact oth _ o hk3c hk3nb
                      · rw [e]; exact oth _ o hw8c hw8nb
                      · rw [e]; exact oth _ o hpbc hpbb
                    have HS4 := hide hS4
                    have hr1 := hrv.one
                    have HG4 := hide g4
                    have HL4 := hide hl4
                    have HRv := hide hrv
                    clear oth g4 hl4 hrv
                    refine hK.out _ _ hS4 (fun hHeld => ?_)
                    clear hS4 hK K
                    try simp only [Act.put, List.setIfInBounds_toArray, List.set_cons_zero, List.set_cons_succ]
                    refine wpAnyZ_one (i := 12) (by kernel_rfl) rfl (fun K hK => ?_)
                    go_simp
                    refine hK.out _ _ (fun k o hk => (((Below.refl w4.heap.size w4).alloc (Nat.le_refl _) _).cell (p := ⟨k, o, none⟩) (by show k < w4.heap.size; rcases hk with e | e | e <;> omega)).trans (HS4.out k o hk)) (fun hHeld => ?_)
                    clear hK K
                    try simp only [Act.put, List.setIfInBounds_toArray, List.set_cons_zero, List.set_cons_succ]
                    refine wpAnyZ_one (i := 13) (by kernel_rfl) rfl (fun K hK => ?_)
                    refine step_flat codeOk (by rfl) (.tmp 97) (.tmp 108) (by rfl) (w.heap.size + 1) pv' cl' (by rfl) ?_ w4.heap.size (codeR P N ⟨yn, yp, yc, yr, yl⟩, rv) (by rfl) (flat_new codeK w4 (codeR P N ⟨yn, yp, yc, yr, yl⟩, rv) #[.string yn, .int .i64 yp, .int .i64 yc, .int .i64 yr, rv] 86 rfl rfl) (code_one _ hr1) (by omega) ?_ ?_
                    · exact (HKr.out.of_heap (w' := w4) fun k hk hk2 _ => HG4.out.block k hk2 (fun e => absurd (Option.some.inj e) (by omega))).on ((Below.refl _ _).alloc (Nat.le_refl _) _)
                    · show w.heap.size + 1 ≤ (w4.alloc _).heap.size; rw [World.size_alloc]; omega
                    intro g c6 w5 h5 g5
                    have hg4 : wr.grownBy w4 (some b) := ⟨HG4.out.os, HG4.out.tape, HG4.out.output, HG4.out.size, HG4.out.block⟩
                    have hgA : wr.grownBy (w4.alloc (.cells #[.string yn, .int .i64 yp, .int .i64 yc, .int .i64 yr, rv] 86)) (some b) := hg4.trans (below_grown ((Below.refl _ _).alloc (Nat.le_refl _) _))
                    have hfa : ∀ (k : Nat) (C : Array Value) (T : TypeId), wr.heap[k]? = some (.cells C T (0, 0)) → T ≠ 86 → k ≠ b → w5.heap[k]? = wr.heap[k]? := fun k C T hC hT hkb => by
                      have hk := (Array.getElem?_eq_some_iff.1 hC).1
                      have e1 := hgA.block k hk (fun e => hkb (Option.some.inj e))
                      exact (g5.block k (by rw [World.size_alloc]; omega) (HKr.out.far_ty hC hT)).trans e1
                    have hfb : w5.heap[pb]? = wr.heap[pb]? := (g5.block pb (by rw [World.size_alloc]; omega) (HKr.out.far hpbw)).trans (hgA.block pb (by omega) (fun e => hpbb (Option.some.inj e)))
                    have hx5 : w5.heap[k3]? = some (.cells #[.int .i64 n, pv', nv, sv] 28 (0, 0)) := (hfa k3 _ _ Hi.out.2.1 (by decide) (by omega)).trans Hi.out.2.1
                    have w1' := (heapCells hx5).1 1
                    have wf' := (heapCells hx5).2 1
                    have HNx := hide (Hi.out.push (by omega) hgA (HL4.out.below ((Below.refl _ _).alloc (Nat.le_refl _) _)) (HRv.out.on ((Below.refl _ _).alloc (Nat.le_refl _) _)) g5 h5)
                    have HBx := hide ((Below.heap_setCell w5 ⟨k3, 1, none⟩ (.slice (some ⟨g, 0, none⟩) (cl'.length + 1) c6) w8.heap.size (by show w8.heap.size ≠ k3; omega)).trans ((hfa _ _ _ Hb.out (by decide) (by omega)).trans Hb.out))
                    have hS5 : ∀ k o, k = k3 ∨ k = w8.heap.size ∨ k = pb → w5.cell? ⟨k, o, none⟩ = wr.cell? ⟨k, o, none⟩ := by
                      intro k o hk
                      rcases hk with e | e | e
                      · rw [e]; exact World.cell?_of_block (hfa _ _ _ Hi.out.2.1 (by decide) hk3nb)
                      · rw [e]; exact World.cell?_of_block (hfa _ _ _ Hb.out (by decide) hw8nb)
                      · rw [e]; exact World.cell?_of_block hfb
                    clear hfa hfb hx5 g5 h5 hgA hg4
                    refine hK.out _ _ hS5 (fun hHeld => ?_)
                    clear hS5 hK K
                    try simp only [Act.put, List.setIfInBounds_toArray]
                    refine wpAnyZ_take (i := 14) (v := ?_) rfl (by kernel_rfl) (by kernel_rfl) (by kernel_rfl) (by kernel_rfl) (fun _ _ _ h => h) (by rfl) ?_ hHeld ?_
                    rotate_left
                    · intro wS hSw
                      go_simp
                      rfl
                    simp only [Act.put, List.setIfInBounds_toArray, List.set_cons_zero, List.set_cons_succ, List.getElem_toArray, List.getElem_cons_succ, List.getElem_cons_zero]
                    refine wpAnyZ_last (by kernel_rfl) rfl (by kernel_rfl) (fun K hK => ?_)
                    go_simp
                    refine hK.out _ _ ?_
                    clear hK K
                    go_wp2_with fail
                    go_roundw
                    case rel =>
                      refine ⟨q + 1, _, _, _, _, by go_num, by omega, ?_, hide HRq.out, HBx, HNx⟩
                      refine hide ?_
                      rw [List.map_append, Hq.out, HQ1.out, List.append_assoc]
                      rfl
                    case measure => simp [intOf]; omega
                  · have i4 : ¬ (q : Int) < n4 := by omega
                    rw [show l4.drop q = [] from List.drop_eq_nil_of_le (by rw [HN4.out]; omega)] at HRq
                    rw [show l4.take q = l4 from List.take_of_length_le (by rw [HN4.out]; omega)] at Hq
                    have HQe := hide (show (c, s1) = Q from HRq.out)
                    have HCn := hide (show cl'.map Prod.fst = codesR P N (P.take (j + 1)) by
                      rw [Hq.out]
                      unfold codesR
                      rw [flat_take (codesO P N) hjP, HPj.out]
                      rfl)
                    have HSn := hide (show S ++ [((cl'.length : Nat) : Int) - 1] = starts (P.take (j + 1)) 0 by
                      have h1 : cl'.length = ((P.take (j + 1)).flatMap fun y => y.procs).length := by rw [← codesR_len P N, ← HCn.out, List.length_map]
                      rw [flat_take (fun y => y.procs) hjP, HPj.out, List.length_append] at h1
                      rw [List.take_succ_eq_append_getElem hjP, HPj.out, starts_app, ← HS2.out, h1, Nat.zero_add])
                    obtain ⟨cells1, fr1⟩ := heapCells Hi.out.2.1
                    have m1 : wr.cell? ⟨k3, 1, none⟩ = some pv' := cells1 1
                    obtain ⟨pa, pc, hpv⟩ := Hi.out.2.2.2.1.1.form
                    rw [hpv] at m1
                    have m3 : wr.cell? ⟨k3, 3, none⟩ = some sv := cells1 3
                    have mf := fr1 3
                    have HSv := hide Hi.out.2.2.2.2.2.1
                    have HSl : Hid (S.length ≤ 100000000) := hide (by rw [HS2.out, starts_len, List.length_take]; omega)
                    have hk3b : w.heap.size < k3 := Hi.out.2.2.1
                    have hk3c : k3 < wr.heap.size := Hi.out.lt
                    clear cells1 fr1 hpv
                    go_wp2_with (at_builtin; refine wp_append_flat zOk rfl _ _ rfl (w.heap.size + 1) sv S rfl (HSv.out.on ((Below.refl _ _).alloc (Nat.le_refl _) _)) wr.heap.size (((cl'.length : Nat) : Int) - 1) rfl (flat_new zK wr (((cl'.length : Nat) : Int) - 1) #[.int .i64 (((cl'.length : Nat) : Int) - 1)] 3 rfl rfl) (by intro z hz; simp [zK] at hz; subst hz; rfl) HSl.out (by rw [World.size_alloc]; omega) ?_; intro v5 w5 h5 g5; (obtain ⟨ga, gc, hv5⟩ := h5.form); rw [List.length_append, List.length_singleton] at hv5; subst hv5; (have hx5 : w5.heap[k3]? = some (.cells #[.int .i64 n, pv', nv, sv] 28 (0, 0)) := (g5.block k3 (by rw [World.size_alloc]; omega) (HSv.out.far_ty Hi.out.2.1 (by decide))).trans ((Below.heap_alloc _ _ _ hk3c).trans Hi.out.2.1)); have u3 := (heapCells hx5).1 3; have uf := (heapCells hx5).2 3; have HNx := hide (Hi.out.pushS (by omega) HOv.out ((Below.refl _ _).alloc (Nat.le_refl _) _) g5 h5); clear h5 g5 hx5)
                    go_roundw
                    case rel => exact ⟨j + 1, _, _, cl', _, _, _, by go_num, by omega, HCn, HSn, hide (by rw [HQe.out]; exact HRj.out), HNx⟩
                    case measure => simp [intOf]; omega
            · have HE := hide (show R = (c, s) by rw [← HRj.out, resO_stop _ _ _ _ _ hc])
              have hB1 : w8.heap[w.heap.size]? = some (.cells #[.int .i64 0, .slice none 0 0, .slice none 0 0, .slice none 0 0] 28 (0, 0)) := Hs.out.1
              obtain ⟨y1, y2⟩ := heapCells hB1
              have e0 : w8.cell? ⟨w.heap.size, 0, none⟩ = some (.int .i64 0) := y1 0
              have e1 : w8.cell? ⟨w.heap.size, 1, none⟩ = some (.slice none 0 0) := y1 1
              have e2 : w8.cell? ⟨w.heap.size, 2, none⟩ = some (.slice none 0 0) := y1 2
              have e3 : w8.cell? ⟨w.heap.size, 3, none⟩ = some (.slice none 0 0) := y1 3
              have g0 := y2 0
              have g1 := y2 1
              have g2 := y2 2
              have g3 := y2 3
              obtain ⟨z1, -⟩ := heapCells Hs.out.2.1
              have d0 : w8.cell? ⟨k3, 0, none⟩ = some (.int .i64 n) := z1 0
              have d1 : w8.cell? ⟨k3, 1, none⟩ = some pv := z1 1
              have d2 : w8.cell? ⟨k3, 2, none⟩ = some nv := z1 2
              have d3 : w8.cell? ⟨k3, 3, none⟩ = some sv := z1 3
              have hfin := fun w' => Hs.out.fin (w' := w') (by omega)
              have HFin := hide hfin
              obtain ⟨pa, pc, rfl⟩ := Hs.out.2.2.2.1.1.form
              obtain ⟨na2, nc2, hnv⟩ := Hs.out.2.2.2.2.1.form
              obtain ⟨sa, sc, rfl⟩ := Hs.out.2.2.2.2.2.1.form
              rw [hnv] at d2 HFin
              have HNv := hide hnv
              clear hfin hnv
              clear y1 y2 z1 hB1 ho hxb h8 hb8
              go_wp2_with fail
              refine bodyPost_ret (v := .agg #[.int .i64 n, .slice pa cl.length pc, .slice na2 N.length nc2, .slice sa S.length sc]) (by simp [results, Tryz.results47, go_sem, e0, e1, e2, e3]) rfl ?_
              exact IS.stopped (HFin.out _ (by intro k hk; rw [Below.heap_setCell _ _ _ _ hk, Below.heap_setCell _ _ _ _ hk, Below.heap_setCell _ _ _ _ hk, Below.heap_setCell _ _ _ _ hk]) (by simp [World.setCell]) ⟨rfl, rfl, rfl⟩) HE.out hc
          · have i1 : ¬ (j : Int) < no := by omega
            have hjP : P.length ≤ j := by rw [HPl.out]; omega
            have HE := hide (show R = (c, s) by rw [← HRj.out, List.drop_eq_nil_of_le hjP]; rfl)
            have HC2 := hide (show cl.map Prod.fst = codesR P N P by rw [Hc.out, List.take_of_length_le hjP])
            have HS3 := hide (show S = starts P 0 by rw [HS2.out, List.take_of_length_le hjP])
            have hB1 : w8.heap[w.heap.size]? = some (.cells #[.int .i64 0, .slice none 0 0, .slice none 0 0, .slice none 0 0] 28 (0, 0)) := Hs.out.1
            obtain ⟨y1, y2⟩ := heapCells hB1
            have e0 : w8.cell? ⟨w.heap.size, 0, none⟩ = some (.int .i64 0) := y1 0
            have e1 : w8.cell? ⟨w.heap.size, 1, none⟩ = some (.slice none 0 0) := y1 1
            have e2 : w8.cell? ⟨w.heap.size, 2, none⟩ = some (.slice none 0 0) := y1 2
            have e3 : w8.cell? ⟨w.heap.size, 3, none⟩ = some (.slice none 0 0) := y1 3
            have g0 := y2 0
            have g1 := y2 1
            have g2 := y2 2
            have g3 := y2 3
            obtain ⟨z1, -⟩ := heapCells Hs.out.2.1
            have d0 : w8.cell? ⟨k3, 0, none⟩ = some (.int .i64 n) := z1 0
            have d1 : w8.cell? ⟨k3, 1, none⟩ = some pv := z1 1
            have d2 : w8.cell? ⟨k3, 2, none⟩ = some nv := z1 2
            have d3 : w8.cell? ⟨k3, 3, none⟩ = some sv := z1 3
            have hfin := fun w' => Hs.out.fin (w' := w') (by omega)
            have HFin := hide hfin
            obtain ⟨pa, pc, rfl⟩ := Hs.out.2.2.2.1.1.form
            obtain ⟨na2, nc2, hnv⟩ := Hs.out.2.2.2.2.1.form
            obtain ⟨sa, sc, rfl⟩ := Hs.out.2.2.2.2.2.1.form
            rw [hnv] at d2 HFin
            have HNv := hide hnv
            clear hfin hnv
            clear y1 y2 z1 hB1 ho hxb h8 hb8
            go_wp2_with fail
            refine bodyPost_ret (v := .agg #[.int .i64 n, .slice pa cl.length pc, .slice na2 N.length nc2, .slice sa S.length sc]) (by simp [results, Tryz.results47, go_sem, e0, e1, e2, e3]) rfl ?_
            exact IS.whole (HFin.out _ (by intro k hk; rw [Below.heap_setCell _ _ _ _ hk, Below.heap_setCell _ _ _ _ hk, Below.heap_setCell _ _ _ _ hk, Below.heap_setCell _ _ _ _ hk]) (by simp [World.setCell]) ⟨rfl, rfl, rfl⟩) HE.out HC2.out HS3.out
end Go.Proofs.YtfbglokjehmgeaaGreatDoor
