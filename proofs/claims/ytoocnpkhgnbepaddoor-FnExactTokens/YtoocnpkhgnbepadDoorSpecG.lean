/- The model's signs: it tries twenty, one after another. -/
import Derived.Test.YtoocnpkhgnbepadDoorSpecV
import Derived.Deep.RegionWith
namespace Go.Proofs.YtoocnpkhgnbepadDoor
open Go.RowKit Go.PlainAid

def sgs : List (List UInt8) := [[58, 61], [60, 61], [62, 61], [61], [35], [60], [62], [43], [45], [42], [40], [41], [91], [93], [44], [59], [58], [46], [38], [126]]
def sgAt (k : Nat) : List UInt8 := sgs.getD k []
def sgB (k : Nat) : ByteArray := ⟨(sgAt k).toArray⟩
def sgRow : Array Value := (sgs.map txt).toArray
theorem twenty {k : Nat} (h : k < 20) : k = 0 ∨ k = 1 ∨ k = 2 ∨ k = 3 ∨ k = 4 ∨ k = 5 ∨ k = 6 ∨ k = 7 ∨ k = 8 ∨ k = 9 ∨ k = 10 ∨ k = 11 ∨ k = 12 ∨ k = 13 ∨ k = 14 ∨ k = 15 ∨ k = 16 ∨ k = 17 ∨ k = 18 ∨ k = 19 := by omega
theorem sgRow_at (k : Nat) (h : k < 20) : sgRow[k]? = some (.string (sgB k)) := by
  rcases twenty h with rfl | rfl | rfl | rfl | rfl | rfl | rfl | rfl | rfl | rfl | rfl | rfl | rfl | rfl | rfl | rfl | rfl | rfl | rfl | rfl
  all_goals rfl
/-- The text goes on with these bytes. -/
def Starts (s : ByteArray) (p : Nat) (z : ByteArray) : Prop := p + z.size ≤ s.size ∧ (s.extract p (p + z.size)).toList = z.toList
theorem starts_bt {s z : ByteArray} {p : Nat} : Starts s p z ↔ (p + z.size ≤ s.size ∧ ∀ j, j < z.size → bt s (p + j) = bt z j) := by
  constructor
  · rintro ⟨h, e⟩
    refine ⟨h, fun j hj => ?_⟩
    rw [← toList_inj e, bt_slice s p z.size j h hj]
  · rintro ⟨h, e⟩
    exact ⟨h, by rw [← eq_slice (a := z) h rfl fun j hj => (e j hj).symm]⟩
theorem starts_one {s : ByteArray} {p : Nat} (a : UInt8) (ha : a ≠ 0) : Starts s p ⟨#[a]⟩ ↔ bt s p = (a.toNat : Int) := by
  rw [starts_bt]
  have h0 : a.toNat ≠ 0 := fun e => ha (UInt8.toNat_inj.1 (by simpa using e))
  constructor
  · rintro ⟨_, h⟩
    exact h 0 Nat.zero_lt_one
  · intro h
    have hp : p < s.size := by
      by_cases q : p < s.size
      · exact q
      · rw [bt_end s (by omega)] at h; omega
    refine ⟨hp, fun j hj => ?_⟩
    have hj' : j < 1 := hj
    obtain rfl : j = 0 := by omega
    exact h
theorem starts_two {s : ByteArray} {p : Nat} (a b : UInt8) (hb : b ≠ 0) : Starts s p ⟨#[a, b]⟩ ↔ (bt s p = (a.toNat : Int) ∧ bt s (p + 1) = (b.toNat : Int)) := by
  rw [starts_bt]
  have h0 : b.toNat ≠ 0 := fun e => hb (UInt8.toNat_inj.1 (by simpa using e))
  constructor
  · rintro ⟨_, h⟩
    exact ⟨h 0 Nat.zero_lt_two, h 1 Nat.one_lt_two⟩
  · rintro ⟨h, h'⟩
    have hp : p + 1 < s.size := by
      by_cases q : p + 1 < s.size
      · exact q
      · rw [bt_end s (by omega)] at h'; omega
    refine ⟨hp, fun j hj => ?_⟩
    have hj' : j < 2 := hj
    match j, hj' with
    | 0, _ => exact h
    | 1, _ => exact h'
theorem sg_two {s : ByteArray} {p : Nat} (h : ∀ j, j < 3 → ¬ Starts s p (sgB j)) : (twoB (bt s p) && bt s (p + 1) == 61) = false := by
  rw [Bool.eq_false_iff]
  intro e
  simp only [Bool.and_eq_true, beq_iff_eq] at e
  obtain ⟨e1, e2⟩ := e
  unfold twoB at e1
  rcases of_decide_eq_true e1 with e | e | e
  · exact h 0 (by omega) ((starts_two 58 61 (by decide)).2 ⟨e, e2⟩)
  · exact h 1 (by omega) ((starts_two 60 61 (by decide)).2 ⟨e, e2⟩)
  · exact h 2 (by omega) ((starts_two 62 61 (by decide)).2 ⟨e, e2⟩)
theorem sgn_none {s : ByteArray} {p : Nat} (h : ∀ j, j < 20 → ¬ Starts s p (sgB j)) : sgnLen (bt s p) (bt s (p + 1)) = 0 := by
  unfold sgnLen
  rw [sg_two fun j hj => h j (by omega), if_neg (by decide)]
  cases e : oneB (bt s p) with
  | false => rfl
  | true =>
    exfalso
    unfold oneB at e
    rcases of_decide_eq_true e with e | e | e | e | e | e | e | e | e | e | e | e | e | e | e | e | e
    · exact h 16 (by omega) ((starts_one 58 (by decide)).2 e)
    · exact h 5 (by omega) ((starts_one 60 (by decide)).2 e)
    · exact h 6 (by omega) ((starts_one 62 (by decide)).2 e)
    · exact h 3 (by omega) ((starts_one 61 (by decide)).2 e)
    · exact h 4 (by omega) ((starts_one 35 (by decide)).2 e)
    · exact h 7 (by omega) ((starts_one 43 (by decide)).2 e)
    · exact h 8 (by omega) ((starts_one 45 (by decide)).2 e)
    · exact h 9 (by omega) ((starts_one 42 (by decide)).2 e)
    · exact h 10 (by omega) ((starts_one 40 (by decide)).2 e)
    · exact h 11 (by omega) ((starts_one 41 (by decide)).2 e)
    · exact h 12 (by omega) ((starts_one 91 (by decide)).2 e)
    · exact h 13 (by omega) ((starts_one 93 (by decide)).2 e)
    · exact h 14 (by omega) ((starts_one 44 (by decide)).2 e)
    · exact h 15 (by omega) ((starts_one 59 (by decide)).2 e)
    · exact h 17 (by omega) ((starts_one 46 (by decide)).2 e)
    · exact h 18 (by omega) ((starts_one 38 (by decide)).2 e)
    · exact h 19 (by omega) ((starts_one 126 (by decide)).2 e)
theorem sgn_first {s : ByteArray} {p k : Nat} (hk : k < 20) (hs : Starts s p (sgB k)) (h : ∀ j, j < k → ¬ Starts s p (sgB j)) : sgnLen (bt s p) (bt s (p + 1)) = (sgB k).size := by
  have two : ∀ a : UInt8, twoB (a.toNat : Int) = true → Starts s p ⟨#[a, 61]⟩ → sgnLen (bt s p) (bt s (p + 1)) = 2 := fun a h2 h1 => by
    obtain ⟨e1, e2⟩ := (starts_two a 61 (by decide)).1 h1
    unfold sgnLen
    rw [e1, e2, h2]; rfl
  have one : ∀ a : UInt8, a ≠ 0 → oneB (a.toNat : Int) = true → 3 ≤ k → Starts s p ⟨#[a]⟩ → sgnLen (bt s p) (bt s (p + 1)) = 1 := fun a ha h1 h3 hs => by
    have e1 := (starts_one a ha).1 hs
    unfold sgnLen
    rw [sg_two fun j hj => h j (by omega), if_neg (by decide), e1, h1]; rfl
  rcases twenty hk with rfl | rfl | rfl | rfl | rfl | rfl | rfl | rfl | rfl | rfl | rfl | rfl | rfl | rfl | rfl | rfl | rfl | rfl | rfl | rfl
  · exact two 58 (by decide) hs
  · exact two 60 (by decide) hs
  · exact two 62 (by decide) hs
  · exact one 61 (by decide) (by decide) (by omega) hs
  · exact one 35 (by decide) (by decide) (by omega) hs
  · exact one 60 (by decide) (by decide) (by omega) hs
  · exact one 62 (by decide) (by decide) (by omega) hs
  · exact one 43 (by decide) (by decide) (by omega) hs
  · exact one 45 (by decide) (by decide) (by omega) hs
  · exact one 42 (by decide) (by decide) (by omega) hs
  · exact one 40 (by decide) (by decide) (by omega) hs
  · exact one 41 (by decide) (by decide) (by omega) hs
  · exact one 91 (by decide) (by decide) (by omega) hs
  · exact one 93 (by decide) (by decide) (by omega) hs
  · exact one 44 (by decide) (by decide) (by omega) hs
  · exact one 59 (by decide) (by decide) (by omega) hs
  · exact one 58 (by decide) (by decide) (by omega) hs
  · exact one 46 (by decide) (by decide) (by omega) hs
  · exact one 38 (by decide) (by decide) (by omega) hs
  · exact one 126 (by decide) (by decide) (by omega) hs
theorem sg_size (k : Nat) (h : k < 20) : 1 ≤ (sgB k).size ∧ (sgB k).size ≤ 2 := by
  rcases twenty h with rfl | rfl | rfl | rfl | rfl | rfl | rfl | rfl | rfl | rfl | rfl | rfl | rfl | rfl | rfl | rfl | rfl | rfl | rfl | rfl
  all_goals decide

variable {B : Nat} {w0 w : World} {s : ByteArray} {p : Nat} {l : List Tok} {c : Int} {q : Nat} {x : Tok}
/-- What the scanner is behind a token that it has read, or was too many. -/
def Added (B : Nat) (w0 w' : World) (s : ByteArray) (p' : Nat) (l : List Tok) (q : Nat) (x : Tok) : Prop :=
  (l.length = 1200 ∧ Sc B w0 w' s p' l 13 x.2.2.2) ∨ (l.length < 1200 ∧ Sc B w0 w' s p' (l ++ [x]) 0 q)
theorem Added.cells (h : Added B w0 w s p l q x) : w.cell? ⟨B, 1, none⟩ = some (.int .i64 p) ∧ w.frozen? ⟨B, 1, none⟩ = false ∧ B < w.heap.size := by
  rcases h with ⟨_, h⟩ | ⟨_, h⟩ <;> exact ⟨h.k1, h.fz 1, h.lt⟩
theorem Added.at1 (h : Added B w0 w s p l q x) (y : Int) (p' : Nat) (e : y = p') : Added B w0 (w.setCell ⟨B, 1, none⟩ (.int .i64 y)) s p' l q x := by
  rcases h with ⟨a, h⟩ | ⟨a, h⟩
  · exact .inl ⟨a, h.at1 y p' e⟩
  · exact .inr ⟨a, h.at1 y p' e⟩
theorem Added.drewN (h : Added B w0 w s p l q x) (n : Nat) : Added B w0 (w.drewN n) s p l q x := by
  rcases h with ⟨a, h⟩ | ⟨a, h⟩
  · exact .inl ⟨a, h.drewN n⟩
  · exact .inr ⟨a, h.drewN n⟩
theorem add_either (k n : Int) (x : ByteArray) (q' : Nat) (h : Sc B w0 w s p l 0 q) (hl : l.length ≤ 1200) : Calls Tryd.prog 59 #[.pointer (some ⟨B, 0, none⟩), .int .i64 k, .int .i64 n, .string x, .int .i64 q'] w fun e w' => e = .returned (.tuple #[]) ∧ Added B w0 w' s p l q (k, n, x, q') ∧ Keep B w w' := by
  by_cases e : l.length = 1200
  · exact (add_full k n x q' h e).mono fun _ _ ⟨a, b, d⟩ => ⟨a, .inl ⟨e, b⟩, d⟩
  · exact (add_any k n x q' h (by omega)).mono fun _ _ ⟨a, b, d⟩ => ⟨a, .inr ⟨by omega, b⟩, d⟩
/-- The row of the signs lies apart from the scanner's own rows. -/
theorem Sc.apart {o : Obj} (h : Sc B w0 w s p l c q) (n : Nat) : ∀ v, ((w.alloc o).drewN n).cell? ⟨B, 2, none⟩ = some v → v.ownBlock ≠ some w.heap.size := by
  intro v hv
  have hlt := h.lt
  obtain ⟨v', T, a, b, d⟩ := h
  have e : ((w.alloc o).drewN n).cell? ⟨B, 2, none⟩ = some v' := by
    rw [World.cell?_drewN, World.cell?_alloc_past _ _ _ hlt]; exact (cells_of_heap a).1 2
  rw [e] at hv
  obtain rfl := Option.some.inj hv
  intro hh
  have := (b.lt _ hh).2
  omega

theorem Keep.cell {w' : World} (h : Keep B w w') {g : Nat} (h1 : g < w.heap.size) (h2 : g ≠ B) (h3 : ∀ v, w.cell? ⟨B, 2, none⟩ = some v → v.ownBlock ≠ some g) (i : Nat) : w'.cell? ⟨g, i, none⟩ = w.cell? ⟨g, i, none⟩ := by
  simp only [World.cell?, h g h1 h2 h3]
set_option maxRecDepth 100000 in
set_option maxHeartbeats 4000000 in
theorem sign_any (hs : s.size ≤ 4000) (hps : p ≤ 4000) (h : Sc B w0 w s p l 0 q) (hl : l.length ≤ 1200) :
    Calls Tryd.prog 61 #[.pointer (some ⟨B, 0, none⟩)] w fun e w' => e = .returned (.tuple #[]) ∧
      ((sgnLen (bt s p) (bt s (p + 1)) = 0 ∧ Sc B w0 w' s p l 4 p) ∨
       (1 ≤ sgnLen (bt s p) (bt s (p + 1)) ∧ Added B w0 w' s (p + sgnLen (bt s p) (bt s (p + 1))) l q (5, 0, s.extract p (p + sgnLen (bt s p) (bt s (p + 1))), p))) := by
  have H : Hid (Sc B w0 w s p l 0 q) := h
  clear h
  go_enter Tryd.func61, Tryd.ntmps61
  go_wp2
  go_loopw [3] (fun i wr => ∃ k n : Nat, i = .int .i64 k ∧ k ≤ 20 ∧ wr = (w.alloc (.cells sgRow 9)).drewN n ∧ Hid (∀ j, j < k → ¬ Starts s p (sgB j))) (fun i _ => 20 - (intOf i).toNat)
  case atStart => exact ⟨0, 0, rfl, by omega, rfl, fun j hj => absurd hj (by omega)⟩
  case round =>
    obtain ⟨k, n, rfl, hk20, hwr, Hno⟩ := hrel
    have hsc : Sc B w0 wr s p l 0 q := by rw [hwr]; exact (H.out.alloc _).drewN _
    have Hsc : Hid (Sc B w0 wr s p l 0 q) := hsc
    have k0 := hsc.k0
    have k1 := hsc.k1
    have f1 := hsc.fz 1
    have hgc : ∀ i, i < 20 → wr.cell? ⟨w.heap.size, i, none⟩ = some (.string (sgB i)) := fun i hi => by
      rw [hwr, World.cell?_drewN, World.cell?_alloc_new]; exact sgRow_at i hi
    have Hap : Hid (∀ v, wr.cell? ⟨B, 2, none⟩ = some v → v.ownBlock ≠ some w.heap.size) := by rw [hwr]; exact H.out.apart n
    have hwl : w.heap.size < wr.heap.size := by rw [hwr]; simp
    have hwn : w.heap.size ≠ B := fun e => by have := H.out.lt; omega
    have Hwr : Hid (wr = (w.alloc (.cells sgRow 9)).drewN n) := hwr
    clear hwr hsc
    by_cases hk : k < 20
    · have hgk := hgc k hk
      obtain ⟨z1, z2⟩ := sg_size k hk
      have i0 : (k : Int) < 20 := by omega
      by_cases hst : Starts s p (sgB k)
      · have hfirst := sgn_first hk hst Hno.out
        have Hf : Hid (sgnLen (bt s p) (bt s (p + 1)) = (sgB k).size) := hfirst
        obtain ⟨s1, s2⟩ := hst
        have Hx : Hid (s.extract p (p + (sgB k).size) = sgB k) := toList_inj s2
        clear hgc hfirst hk
        generalize sgB k = Z at *
        have i1 : (p : Int) + Z.size ≤ s.size := by omega
        have i2 : (p : Int) ≤ (p : Int) + Z.size := by omega
        have i3 : ((p : Int) + Z.size).toNat = p + Z.size := by omega
        have i4 : (0 : Int) ≤ (p : Int) + Z.size := by omega
        have e1 : ((s.extract p (p + Z.size)).toList == Z.toList) = true := by rw [s2]; exact beq_self_eq_true _
        have hwrp : IntKind.i64.wrap ((p : Int) + (Z.size : Int)) = (p : Int) + Z.size := by rw [IntKind.wrap_i64]; omega
        clear s2
        go_wp2
        go_quiet (fail)
        go_wp2
        go_region_with (go_at_call 59; refine (add_either 5 0 Z p (Hsc.out.drewN _) hl).mono ?_; rintro e w' ⟨rfl, had, hkp⟩; obtain ⟨g1, g2, g3⟩ := had.cells; have g4 := (hkp.cell hwl hwn Hap.out k).trans hgk; have Had := (show Hid (Added B w0 w' s p l q (5, 0, Z, p)) from had); clear had hkp)
        all_goals go_wp2
        all_goals go_region
        all_goals go_wp2
        all_goals refine bodyPost_ret (results_none rfl _ _ _) rfl ?_
        all_goals refine ⟨rfl, .inr ⟨by rw [Hf.out]; exact z1, ?_⟩⟩
        all_goals rw [Hf.out, Hx.out]
        all_goals first | exact (Had.out.drewN _).at1 _ _ (by omega) | exact (Had.out.at1 _ _ (by omega)).drewN 1 | exact (Had.out.at1 _ _ (by omega)).drewN _
      · have hnew : ∀ j, j < k + 1 → ¬ Starts s p (sgB j) := fun j hj hf => by
          by_cases e : j < k
          · exact Hno.out j e hf
          · obtain rfl : j = k := by omega
            exact hst hf
        have Hnew : Hid (∀ j, j < k + 1 → ¬ Starts s p (sgB j)) := hnew
        by_cases hfit : p + (sgB k).size ≤ s.size
        · have hne : ((s.extract p (p + (sgB k).size)).toList == (sgB k).toList) = false := by
            rw [beq_eq_false_iff_ne]
            exact fun e => hst ⟨hfit, e⟩
          clear hgc hnew hk hst
          generalize sgB k = Z at *
          have i1 : (p : Int) + Z.size ≤ s.size := by omega
          have i2 : (p : Int) ≤ (p : Int) + Z.size := by omega
          have i3 : ((p : Int) + Z.size).toNat = p + Z.size := by omega
          have i4 : (0 : Int) ≤ (p : Int) + Z.size := by omega
          have hwrp : IntKind.i64.wrap ((p : Int) + (Z.size : Int)) = (p : Int) + Z.size := by rw [IntKind.wrap_i64]; omega
          go_wp2
          go_quiet (fail)
          go_wp2
          go_roundw
          case rel => exact ⟨k + 1, _, by go_num, by omega, by rw [Hwr.out, World.drewN_drewN], Hnew⟩
          case measure => simp [intOf]; omega
        · clear hgc hnew hk hst
          generalize sgB k = Z at *
          have i1 : decide ((p : Int) + Z.size ≤ s.size) = false := by simp; omega
          have hwrp : IntKind.i64.wrap ((p : Int) + (Z.size : Int)) = (p : Int) + Z.size := by rw [IntKind.wrap_i64]; omega
          go_wp2
          go_quiet (fail)
          go_wp2
          go_roundw
          case rel => exact ⟨k + 1, _, by go_num, by omega, by rw [Hwr.out, World.drewN_drewN], Hnew⟩
          case measure => simp [intOf]; omega
    · obtain rfl : k = 20 := by omega
      have hz := sgn_none fun j hj => Hno.out j hj
      have Hz : Hid (sgnLen (bt s p) (bt s (p + 1)) = 0) := hz
      clear hz hgc hk hk20
      go_wp2_with (go_at_call 58; refine (fail_any 4 p Hsc.out).mono ?_; rintro e w' ⟨rfl, h', _⟩)
      go_end0
      exact ⟨rfl, .inl ⟨Hz.out, h'⟩⟩
end Go.Proofs.YtoocnpkhgnbepadDoor
