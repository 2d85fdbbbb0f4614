/- A code's verification, by the program's way and by the model's: fault or none at every code. The program's table of words and the library's errors.errorType are premises. -/
import Derived.Test.YtpaljmhoojpbdaaDoorZWkI5
import Derived.Test.YtpaljmhoojpbdaaDoorZAsH
namespace Go.Proofs.YtpaljmhoojpbdaaDoor
open Go.ChangeShapes Go.WideShapes Go.ChangeAt Go.RowKit Go.PlainAid Go.Deep

theorem goTo_bad {n i : Nat} {now : Int} : ∀ (ts : List Int) (d : List Int) (ag : Bool) (c p : Int), goTo n i now ts d ag = .bad c p → c ≠ 0
  | [], d, ag, c, p, e => by cases e
  | t :: r, d, ag, c, p, e => by
    rw [goTo] at e
    by_cases h1 : t = (n : Int)
    · rw [if_pos h1] at e
      cases e
      decide
    · rw [if_neg h1] at e
      by_cases h2 : d.getD t.toNat 0 < 0
      · rw [if_pos h2] at e
        exact goTo_bad r _ _ _ _ e
      · rw [if_neg h2] at e
        by_cases h3 : d.getD t.toNat 0 ≠ now
        · rw [if_pos h3] at e
          cases e
          decide
        · rw [if_neg h3] at e
          exact goTo_bad r _ _ _ _ e
theorem oneV_bad {n i : Nat} {x : InsD} {d : List Int} {ag : Bool} {c p : Int} (e : oneV n i x d ag = .bad c p) : c ≠ 0 := by
  unfold oneV at e
  simp only [] at e
  split at e
  · cases e
  · split at e
    · cases e; decide
    · split at e
      · cases e; decide
      · split at e
        · cases e; decide
        · exact goTo_bad _ _ _ _ _ e
theorem fromV_bad {n : Nat} : ∀ (l : List InsD) (i : Nat) (d : List Int) (ag : Bool) (c p : Int), fromV n i l d ag = .bad c p → c ≠ 0
  | [], _, _, _, _, _, e => by cases e
  | x :: r, i, d, ag, c, p, e => by
    rw [fromV] at e
    cases h : oneV n i x d ag with
    | bad c9 p9 =>
      rw [h] at e
      cases e
      exact oneV_bad h
    | go d9 ag9 =>
      rw [h] at e
      exact fromV_bad r _ _ _ _ _ e
theorem roundsV_zero {l : List InsD} : ∀ (f : Nat) (d : List Int), (roundsV l f d).1 = 0 → roundsV l f d = (0, 0)
  | 0, _, _ => rfl
  | f + 1, d, e => by
    rw [roundsV] at e ⊢
    cases h : fromV l.length 0 l d false with
    | bad c p =>
      rw [h] at e
      exact absurd e (fromV_bad _ _ _ _ _ _ h)
    | go d' ag =>
      rw [h] at e
      cases ag with
      | true => exact roundsV_zero f d' e
      | false => rfl
theorem verC_zero {x : CodeD} (h : (verC x).1 = 0) : verC x = (0, 0) := by
  unfold verC at h ⊢
  split at h
  · split at h
    · cases h
    · rename_i h1 _ h2
      rw [if_pos h1]
      exact roundsV_zero _ _ h
  · cases h
theorem l04Verify_any (v : Value) (m : Md) (x : CodeD) (w : World) (hv : CodeVal w m v x) (hm : m.hi ≤ w.heap.size) : Calls Tryd.prog 21 #[v] w fun e w' => VPost x w e w' := by
  obtain ⟨cn, params, cells, result, l⟩ := x
  obtain ⟨u4, rfl, hb, a, c, rfl, H⟩ := hv
  cases hh : headB ⟨cn, params, cells, result, l⟩ with
  | false => exact verify_head cn params cells result l a l.length c w rfl hb.1 hh
  | true => exact verify_form cn params cells result l a c m w hb.1 hh ⟨a, c, rfl, H⟩ hm
set_option maxRecDepth 100000 in
theorem specVerifyCode_any (v : Value) (m : Md) (x : CodeD) (w : World) (hv : CodeVal w m v x) (hm : m.hi ≤ w.heap.size) : Calls Tryd.prog 7 #[v] w fun e w' => e = .returned (.tuple #[.int .i64 (verC x).1, .int .i64 (verC x).2]) ∧ Below w.heap.size w w' := by
  have HV : Hid (∀ w', Below w.heap.size w w' → Calls Tryd.prog 21 #[v] w' fun e w2 => VPost x w' e w2) := hide fun w' bel => l04Verify_any v m x w' (hv.on (bel.mono hm)) (Nat.le_trans hm bel.size)
  obtain ⟨T, hT⟩ : ∃ T, verC x = T := ⟨_, rfl⟩
  have HT := hide hT
  rw [hT]
  obtain ⟨u4, rfl, -, a, c, rfl, -⟩ := hv
  clear hT
  go_enter Tryd.func7, Tryd.ntmps7
  go_wp2_with (go_at_call 21; refine (HV.out _ ((Below.refl _ _).alloc (Nat.le_refl _) _)).mono ?_; rintro e w1 ⟨he, b1⟩; rw [HT.out] at he; subst he)
  go_ret2
  exact ⟨rfl, ((Below.refl _ _).alloc (Nat.le_refl _) _).trans (b1.mono (by simp))⟩
def errCell : Value := .iface 161 (.agg #[.pointer (some ⟨6, 60, none⟩)])
set_option maxRecDepth 100000 in
theorem implVerifyCode_any (v : Value) (m : Md) (x : CodeD) (w : World) (hv : CodeVal w m v x) (hm : m.hi ≤ w.heap.size) (t : TypeId) (fr : Nat × Nat) (hg : w.heap[1]? = some (.cells keyRow t fr)) (he : w.cell? ⟨0, 0, none⟩ = some errCell) (hlt : 0 < w.heap.size) :
    Calls Tryd.prog 9 #[v] w fun e w' => e = .returned (.tuple #[.int .i64 (verC x).1, .int .i64 (verC x).2]) ∧ Below w.heap.size w w' := by
  have HC : Hid (∀ w', Below w.heap.size w w' → Calls Tryd.prog 24 #[v] w' (ErrR (verC x) w'.heap.size w')) := hide fun w' bel => by
    obtain ⟨cn, params, cells, result, l⟩ := x
    exact codeFault_any cn params cells result l v m w' (hv.on (bel.mono hm)) (Nat.le_trans hm bel.size) t fr ((bel.block 1 (Array.getElem?_eq_some_iff.1 hg).1).trans hg)
  have HE : Hid (∀ w', Below w.heap.size w w' → w'.cell? ⟨0, 0, none⟩ = some errCell) := hide fun w' bel => (bel.cell (p := ⟨0, 0, none⟩) hlt).trans he
  by_cases hz : (verC x).1 = 0
  · have HZ := hide (verC_zero hz)
    rw [HZ.out]
    have HCz : Hid (∀ w', Below w.heap.size w w' → Calls Tryd.prog 24 #[v] w' fun e w2 => e = .returned .nilIface ∧ Below w'.heap.size w' w2) := hide fun w' bel => (HC.out w' bel).mono fun _ _ ⟨a, b⟩ => ⟨by rw [b, HZ.out]; rfl, a⟩
    obtain ⟨u4, rfl, -, a, c, rfl, -⟩ := hv
    clear hz hg he
    go_enter Tryd.func9, Tryd.ntmps9
    go_wp2_with (first
      | (go_at_call 24; refine (HCz.out _ ((Below.refl _ _).alloc (Nat.le_refl _) _)).mono ?_; rintro e w1 ⟨rfl, b1⟩)
      | (go_at_call 23; refine (foundFault_nil _).mono ?_; rintro e w2 ⟨rfl, b2⟩))
    go_ret2
    exact ⟨rfl, (((Below.refl _ _).alloc (Nat.le_refl _) _).trans (b1.mono (by simp))).trans (b2.mono (by have := b1.size; simp at this; omega))⟩
  · obtain ⟨T1, hT1⟩ : ∃ T1, (verC x).1 = T1 := ⟨_, rfl⟩
    obtain ⟨T2, hT2⟩ : ∃ T2, (verC x).2 = T2 := ⟨_, rfl⟩
    have HCf : Hid (∀ w', Below w.heap.size w w' → Calls Tryd.prog 24 #[v] w' fun e w2 => e = .returned (.iface 99 (.agg #[.int .i64 T1, .int .i64 T2])) ∧ Below w'.heap.size w' w2) := hide fun w' bel => (HC.out w' bel).mono fun _ _ ⟨a, b⟩ => ⟨by rw [b, if_neg hz, hT1, hT2]; rfl, a⟩
    rw [hT1, hT2]
    obtain ⟨u4, rfl, -, a, c, rfl, -⟩ := hv
    clear hz hg he hT1 hT2
    go_enter Tryd.func9, Tryd.ntmps9
    go_wp2_with (first
      | (go_at_call 24; refine (HCf.out _ ((Below.refl _ _).alloc (Nat.le_refl _) _)).mono ?_; rintro e w1 ⟨rfl, b1⟩)
      | (go_at_call 23; refine (foundFault_hit T1 T2 _ (HE.out _ (((Below.refl _ _).alloc (Nat.le_refl _) _).trans (b1.mono (by simp))))).mono ?_; rintro e w2 ⟨rfl, b2⟩))
    go_ret2
    exact ⟨rfl, (((Below.refl _ _).alloc (Nat.le_refl _) _).trans (b1.mono (by simp))).trans (b2.mono (by have := b1.size; simp at this; omega))⟩
section
variable {H : Type} {enc : TypeId × Value → H} {w : World}
set_option maxRecDepth 100000 in
theorem open_code {r : Reach} {b0 : Nat} {v : Value} {d : DataW H} {ps : List MemPlace} (hval : Value.okWide Tryd.prog w r b0 24 v) (h : DataW.Trod enc Tryd.prog w 0 (fun _ => true) true 24 v d ps) : ∃ x, CodeVal w ⟨0, w.heap.size, false⟩ v x := by
  obtain ⟨cs, rfl, _⟩ := okWide_struct Tryd.underlying24 hval
  obtain ⟨fuel, h⟩ := h
  obtain ⟨hl, -⟩ := open_fields Tryd.underlying24 (hone_of (by kernel_rfl)) (by kernel_rfl) h
  obtain ⟨x, hx⟩ := opens_Code _ _ _ h
  obtain ⟨l, rfl⟩ : ∃ l : List Value, cs = l.toArray := ⟨cs.toList, by simp⟩
  obtain ⟨⟨c0, c1, c2, c3⟩, hr, u4, c4, hs⟩ := hx (fun j => l[j]?) (fun j _ => by simp [Value.cells])
  refine ⟨x, u4, ?_, hr, hs⟩
  have hl' : l.length = 5 := by simpa [Value.cells] using hl
  match l, hl' with
  | [a, b, c, d, e], _ =>
    simp only [List.getElem?_cons_zero, List.getElem?_cons_succ, Option.some.injEq] at c0 c1 c2 c3 c4
    subst c0 c1 c2 c3 c4
    rfl
end
end Go.Proofs.YtpaljmhoojpbdaaDoor
