/- The program's PrintOf and the model's answer alike. The program's table of words is a premise. -/
import Derived.Test.YtoomnimbokbadaaDoorZSum
import Derived.Test.YtoomnimbokbadaaDoorZFacBytesI
import Derived.Test.YtoomnimbokbadaaDoorZFacBytesS
namespace Go.Proofs.YtoomnimbokbadaaDoor
open Go.RowKit

theorem sb_in (s : ByteArray) : ∀ y ∈ sb s, 0 ≤ y ∧ y ≤ 255 := by
  intro y hy
  unfold sb at hy
  obtain ⟨b, _, rfl⟩ := List.mem_map.1 hy
  have := b.toNat_lt
  omega
theorem txtB_in (s : ByteArray) : ∀ y ∈ txtB s, 0 ≤ y ∧ y ≤ 255 := by
  intro y hy
  unfold txtB at hy
  rcases List.mem_cons.1 hy with rfl | h
  · omega
  · exact sb_in s y h
theorem numB_in (n : Int) : ∀ y ∈ numB n, 0 ≤ y ∧ y ≤ 255 := by
  intro y hy
  unfold numB at hy
  simp only [List.mem_cons, List.not_mem_nil, or_false] at hy
  omega
theorem prmB_in (p : Prm) : 0 ≤ prmB p ∧ prmB p ≤ 255 := by
  unfold prmB
  split <;> omega
theorem itB_in (x : Itm) : ∀ y ∈ itB x, 0 ≤ y ∧ y ≤ 255 := by
  intro y hy
  unfold itB itHead at hy
  simp only [List.mem_append, List.mem_cons, List.not_mem_nil, or_false, List.mem_map] at hy
  rcases hy with (((h | h) | h) | h) | h
  · omega
  · exact numB_in _ _ h
  · exact txtB_in _ _ h
  · omega
  · obtain ⟨p, _, rfl⟩ := h
    exact prmB_in p
theorem facBytes_in (x : Fac) : ∀ y ∈ facBytes x, 0 ≤ y ∧ y ≤ 255 := by
  intro y hy
  unfold facBytes facHead at hy
  simp only [List.mem_append, List.mem_cons, List.not_mem_nil, or_false, List.mem_flatMap] at hy
  rcases hy with ((h | h) | h) | h
  · omega
  · exact txtB_in _ _ h
  · omega
  · obtain ⟨z, _, h⟩ := h
    exact itB_in z y h
theorem facBytes_len {x : Fac} (h : facB x = true) : (facBytes x).length ≤ 6000 ∧ 0 < (facBytes x).length := by
  obtain ⟨f1, f2, f3⟩ := fac_ok h
  have h1 := facHead_len x
  have h2 := flat_len x.items f3
  unfold facBytes
  rw [List.length_append]
  omega
theorem Own.bytes {w : World} {B g n c : Nat} {l : List Int} (h : Own w B (.slice (some ⟨g, 0, none⟩) n c) l) (hg : g < w.heap.size) (hl : ∀ y ∈ l, 0 ≤ y ∧ y ≤ 255) : BytesAt w (some ⟨g, 0, none⟩) l := by
  intro i hi
  refine ⟨g, rfl, hg, ?_, hl _ (List.getElem_mem hi)⟩
  have := h.cells i (.int .u8 l[i]) (by unfold bc; simp [hi])
  have e : (⟨g, 0, none⟩ : Addr).add i = ⟨g, i, none⟩ := by simp [Addr.add]; intro h; exact h.symm
  rwa [e] at this
def prV (x : Fac) : Int := if facB x then sumF (facBytes x) else 0
def prC (x : Fac) : Int := if facB x then 0 else 1
set_option maxHeartbeats 4000000 in
theorem implPrintOf_any (v : Value) (m : Md) (x : Fac) (w : World) (h : FacAt w m v x) (hm : m.hi ≤ w.heap.size) (t : TypeId) (fr : Nat × Nat) (hg : w.heap[0]? = some (.cells keyRow t fr)) :
    Calls Tryd.prog 10 #[v] w fun e w' => e = .returned (.tuple #[.int .i64 (prV x), .int .i64 (prC x)]) ∧ Below w.heap.size w w' := by
  have HI : Hid (∀ w', Below w.heap.size w w' → Calls Tryd.prog 9 #[v] w' fun e w2 => (∃ u, e = .returned (.tuple #[u, .int .i64 (if facB x then 0 else 1)]) ∧ Own w2 w'.heap.size u (if facB x then facBytes x else [])) ∧ Below w'.heap.size w' w2) := fun w' bel =>
    implBytes_any v m x w' (h.on (bel.mono hm)) (Nat.le_trans hm bel.size) t fr ((bel.block 0 (Array.getElem?_eq_some_iff.1 hg).1).trans hg)
  obtain ⟨u, rfl, -, -, a, c, rfl, -⟩ := h
  clear hg
  generalize x.items.length = n at *
  cases hfb : facB x with
  | false =>
    have hV : prV x = 0 := by unfold prV; rw [hfb]; rfl
    have hC : prC x = 1 := by unfold prC; rw [hfb]; rfl
    rw [hV, hC]
    rw [hfb] at HI
    generalize x.module = s at *
    clear hV hC hfb
    go_enter Tryd.func10, Tryd.ntmps10
    go_wp2_with (go_at_call 9; refine (HI.out _ ((Below.refl _ _).alloc (Nat.le_refl _) _)).mono ?_; rintro e w1 ⟨⟨u, rfl, -⟩, bel⟩)
    go_ret2
    exact ⟨rfl, ((Below.refl _ _).alloc (Nat.le_refl _) _).trans (bel.mono (by simp))⟩
  | true =>
    have hV : prV x = sumF (facBytes x) := by unfold prV; rw [hfb]; rfl
    have hC : prC x = 0 := by unfold prC; rw [hfb]; rfl
    have hl := facBytes_len hfb
    have Hin := hide (facBytes_in x)
    rw [hV, hC]
    rw [hfb] at HI
    simp only [if_true] at HI
    generalize facBytes x = fb at *
    generalize x.module = s at *
    obtain ⟨l1, l2⟩ := hl
    clear hV hC hfb
    go_enter Tryd.func10, Tryd.ntmps10
    go_wp2_with fail
    refine (HI.out _ ((Below.refl _ _).alloc (Nat.le_refl _) _)).mono ?_
    rintro e w1 ⟨⟨u, rfl, ho⟩, bel⟩
    obtain ⟨g, c', rfl, -, hgl⟩ := World.ownsRow.form ho l2
    have HB := hide (Own.bytes ho hgl Hin.out)
    clear ho
    go_wp2_with (go_at_call 29; refine (sumOf_any _ c' fb _ (by omega) HB.out).mono ?_; rintro e w2 ⟨rfl, rfl⟩)
    go_ret2
    exact ⟨rfl, ((Below.refl _ _).alloc (Nat.le_refl _) _).trans (bel.mono (by simp))⟩
set_option maxHeartbeats 4000000 in
theorem specPrintOf_any (v : Value) (m : Md) (x : Fac) (w : World) (h : FacAt w m v x) (hm : m.hi ≤ w.heap.size) :
    Calls Tryd.prog 11 #[v] w fun e w' => e = .returned (.tuple #[.int .i64 (prV x), .int .i64 (prC x)]) ∧ Below w.heap.size w w' := by
  have HI : Hid (∀ w', Below w.heap.size w w' → Calls Tryd.prog 15 #[v] w' fun e w2 => e = .returned (.bool (facB x)) ∧ Below w'.heap.size w' w2) := fun w' bel =>
    (specInterfaceOK_any v m x w' (h.on (bel.mono hm)) (Nat.le_trans hm bel.size)).mono fun _ _ ⟨a, b⟩ => ⟨a, b.below⟩
  have HBy : Hid (facB x = true → ∀ w', Below w.heap.size w w' → Calls Tryd.prog 31 #[v] w' fun e w2 => (∃ u, e = .returned u ∧ Own w2 w'.heap.size u (facBytes x)) ∧ Below w'.heap.size w' w2) := fun hf w' bel =>
    l03Bytes_any v m x w' (h.on (bel.mono hm)) (Nat.le_trans hm bel.size) hf
  obtain ⟨u, rfl, -, -, a, c, rfl, -⟩ := h
  generalize x.items.length = n at *
  cases hfb : facB x with
  | false =>
    have hV : prV x = 0 := by unfold prV; rw [hfb]; rfl
    have hC : prC x = 1 := by unfold prC; rw [hfb]; rfl
    rw [hV, hC]
    rw [hfb] at HI
    generalize x.module = s at *
    clear hV hC hfb HBy
    go_enter Tryd.func11, Tryd.ntmps11
    go_wp2_with (go_at_call 15; refine (HI.out _ ((Below.refl _ _).alloc (Nat.le_refl _) _)).mono ?_; rintro e w1 ⟨rfl, bel⟩)
    go_ret2
    exact ⟨rfl, ((Below.refl _ _).alloc (Nat.le_refl _) _).trans (bel.mono (by simp))⟩
  | true =>
    have hV : prV x = sumF (facBytes x) := by unfold prV; rw [hfb]; rfl
    have hC : prC x = 0 := by unfold prC; rw [hfb]; rfl
    have hl := facBytes_len hfb
    have Hin := hide (facBytes_in x)
    have HBy' := hide (HBy.out hfb)
    rw [hV, hC]
    rw [hfb] at HI
    generalize facBytes x = fb at *
    generalize x.module = s at *
    obtain ⟨l1, l2⟩ := hl
    clear hV hC hfb HBy
    go_enter Tryd.func11, Tryd.ntmps11
    go_wp2_with fail
    refine (HI.out _ ((Below.refl _ _).alloc (Nat.le_refl _) _)).mono ?_
    rintro e w1 ⟨rfl, bel⟩
    have b1 : Below w.heap.size w w1 := ((Below.refl _ _).alloc (Nat.le_refl _) _).trans (bel.mono (by simp))
    have k0 := (bel.cell (p := ⟨w.heap.size, 0, none⟩) (by simp)).trans (show _ = some (Value.string s) by simp [go_sem])
    have k1 := (bel.cell (p := ⟨w.heap.size, 1, none⟩) (by simp)).trans (show _ = some (Value.slice a n c) by simp [go_sem])
    clear bel
    go_wp2_with fail
    refine (HBy'.out _ b1).mono ?_
    rintro e w2 ⟨⟨u, rfl, ho⟩, b2⟩
    obtain ⟨g, c', rfl, -, hgl⟩ := World.ownsRow.form ho l2
    have HB := hide (Own.bytes ho hgl Hin.out)
    clear ho
    go_wp2_with (go_at_call 30; refine (l03Sum_any _ c' fb _ (by omega) HB.out).mono ?_; rintro e w3 ⟨rfl, rfl⟩)
    go_ret2
    exact ⟨rfl, b1.trans (b2.mono b1.size)⟩
end Go.Proofs.YtoomnimbokbadaaDoor
