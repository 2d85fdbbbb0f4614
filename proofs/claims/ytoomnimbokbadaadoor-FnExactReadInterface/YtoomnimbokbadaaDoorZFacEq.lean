/- Two interfaces that hold the same are told the same by the law's own way to compare them. No condition. -/
import Derived.Test.YtoomnimbokbadaaDoorZFacTo
import Derived.Deep.RegionWith
namespace Go.Proofs.YtoomnimbokbadaaDoor
open Go.RowKit

theorem eqParam_same (a : Int) (t : Bool) (w : World) : Calls Tryd.prog 86 #[.agg #[.int .i64 a, .bool t], .agg #[.int .i64 a, .bool t]] w fun e w' => e = .returned (.bool true) ∧ Below w.heap.size w w' := by
  go_enter Tryd.func86, Tryd.ntmps86
  go_wp2
  go_ret
  exact ⟨rfl, ((Below.refl _ _).alloc (Nat.le_refl _) _).alloc (by simp) _⟩
set_option maxHeartbeats 2000000 in
theorem eqParamS_same (v v' : Value) (m m' : Md) (l : List Prm) (w : World) (hn : l.length ≤ maxLen) (h : SlAt PrmAt 2 w m v l) (h' : SlAt PrmAt 2 w m' v' l) (hm : m.hi ≤ w.heap.size) (hm' : m'.hi ≤ w.heap.size) :
    Calls Tryd.prog 82 #[v, v'] w fun e w' => e = .returned (.bool true) ∧ Below w.heap.size w w' := by
  unfold maxLen at hn
  obtain ⟨a, c, rfl, h⟩ := h
  obtain ⟨a', c', rfl, h'⟩ := h'
  have H : Hid (∀ i (h : i < l.length), ∃ b o, a = some ⟨b, o, none⟩ ∧ (m.lo ≤ b ∧ l.length ≤ c) ∧ b < m.hi ∧ (m.made = true → ∀ j, w.frozen? ⟨b, j, none⟩ = false) ∧ PrmAt (fun j => w.cell? ⟨b, o + i * 2 + j, none⟩) w (m.inner b) l[i]) := h
  have H' : Hid (∀ i (h : i < l.length), ∃ b o, a' = some ⟨b, o, none⟩ ∧ (m'.lo ≤ b ∧ l.length ≤ c') ∧ b < m'.hi ∧ (m'.made = true → ∀ j, w.frozen? ⟨b, j, none⟩ = false) ∧ PrmAt (fun j => w.cell? ⟨b, o + i * 2 + j, none⟩) w (m'.inner b) l[i]) := h'
  obtain ⟨n, hl⟩ : ∃ n, l.length = n := ⟨_, rfl⟩
  have HN : Hid (l.length = n) := hl
  rw [hl] at hn ⊢
  clear h hl h'
  go_enter Tryd.func82, Tryd.ntmps82
  go_wp2
  go_loopw [5] (fun i wr => ∃ k : Nat, i = .int .i64 k ∧ k ≤ n ∧ Below w.heap.size w wr) (fun i _ => n - (intOf i).toNat)
  case atStart => exact ⟨0, rfl, by omega, Below.refl _ _⟩
  case round =>
    obtain ⟨k, rfl, hk, hbw⟩ := hrel
    by_cases hp : k < n
    · have i1 : (k : Int) < n := by omega
      obtain ⟨x, hx⟩ : ∃ x, l[k]'(by rw [HN.out]; exact hp) = x := ⟨_, rfl⟩
      obtain ⟨b, o, rfl, -, hb2, -, he⟩ := rows_on PrmAt.stays H.out (hbw.mono hm) k (by rw [HN.out]; exact hp)
      obtain ⟨b', o', rfl, -, hb2', -, he'⟩ := rows_on PrmAt.stays H'.out (hbw.mono hm') k (by rw [HN.out]; exact hp)
      rw [hx] at he he'
      clear hx
      obtain ⟨x0, x1⟩ := x
      obtain ⟨c0, c1, -⟩ := he
      obtain ⟨d0, d1, -⟩ := he'
      simp only [Nat.add_zero] at c0 c1 d0 d1
      go_wp2
      go_region_with (go_at_call 86; refine (eqParam_same x0 x1 _).mono ?_; rintro e w' ⟨rfl, bel⟩)
      all_goals go_wp2
      all_goals go_roundw
      all_goals first
        | exact ⟨k + 1, by go_num, by omega, hbw.drew.trans (bel.mono (show w.heap.size ≤ wr.drew.heap.size from hbw.size))⟩
        | (simp [intOf]; omega)
    · have i1 : ¬ (k : Int) < n := by omega
      go_wp2
      go_ret
      exact ⟨rfl, hbw⟩
set_option maxHeartbeats 2000000 in
theorem eqItem_same (x0 x1 x2 x3 : Int) (s : ByteArray) (v v' : Value) (m m' : Md) (l : List Prm) (w : World) (hn : l.length ≤ maxLen) (h : SlAt PrmAt 2 w m v l) (h' : SlAt PrmAt 2 w m' v' l) (hm : m.hi ≤ w.heap.size) (hm' : m'.hi ≤ w.heap.size) :
    Calls Tryd.prog 69 #[.agg #[.int .i64 x0, .int .i64 x1, .int .i64 x2, .int .i64 x3, .string s, v], .agg #[.int .i64 x0, .int .i64 x1, .int .i64 x2, .int .i64 x3, .string s, v']] w fun e w' => e = .returned (.bool true) ∧ Below w.heap.size w w' := by
  have HP : Hid (∀ w', Below w.heap.size w w' → Calls Tryd.prog 82 #[v, v'] w' fun e w2 => e = .returned (.bool true) ∧ Below w'.heap.size w' w2) :=
    fun w' bel => eqParamS_same v v' m m' l w' hn (h.on PrmAt.stays (bel.mono hm)) (h'.on PrmAt.stays (bel.mono hm')) (Nat.le_trans hm bel.size) (Nat.le_trans hm' bel.size)
  obtain ⟨a, c, rfl, -⟩ := h
  obtain ⟨a', c', rfl, -⟩ := h'
  go_enter Tryd.func69, Tryd.ntmps69
  go_wp2_with fail
  refine (HP.out _ (((Below.refl _ _).alloc (Nat.le_refl _) _).alloc (by simp) _)).mono ?_
  rintro e w1 ⟨rfl, bel⟩
  go_wp2
  go_ret
  have h0 := bel.mono (B' := w.heap.size) (by simp; omega)
  refine ⟨rfl, Below.trans ?_ h0⟩
  exact ((Below.refl _ _).alloc (Nat.le_refl _) _).alloc (by simp) _
set_option maxHeartbeats 2000000 in
theorem eqItemS_same (v v' : Value) (m m' : Md) (l : List Itm) (w : World) (hn : l.length ≤ maxLen) (h : SlAt ItmAt 6 w m v l) (h' : SlAt ItmAt 6 w m' v' l) (hm : m.hi ≤ w.heap.size) (hm' : m'.hi ≤ w.heap.size) :
    Calls Tryd.prog 43 #[v, v'] w fun e w' => e = .returned (.bool true) ∧ Below w.heap.size w w' := by
  unfold maxLen at hn
  obtain ⟨a, c, rfl, h⟩ := h
  obtain ⟨a', c', rfl, h'⟩ := h'
  have H : Hid (∀ i (h : i < l.length), ∃ b o, a = some ⟨b, o, none⟩ ∧ (m.lo ≤ b ∧ l.length ≤ c) ∧ b < m.hi ∧ (m.made = true → ∀ j, w.frozen? ⟨b, j, none⟩ = false) ∧ ItmAt (fun j => w.cell? ⟨b, o + i * 6 + j, none⟩) w (m.inner b) l[i]) := h
  have H' : Hid (∀ i (h : i < l.length), ∃ b o, a' = some ⟨b, o, none⟩ ∧ (m'.lo ≤ b ∧ l.length ≤ c') ∧ b < m'.hi ∧ (m'.made = true → ∀ j, w.frozen? ⟨b, j, none⟩ = false) ∧ ItmAt (fun j => w.cell? ⟨b, o + i * 6 + j, none⟩) w (m'.inner b) l[i]) := h'
  obtain ⟨n, hl⟩ : ∃ n, l.length = n := ⟨_, rfl⟩
  have HN : Hid (l.length = n) := hl
  rw [hl] at hn ⊢
  clear h hl h'
  go_enter Tryd.func43, Tryd.ntmps43
  go_wp2
  go_loopw [5] (fun i wr => ∃ k : Nat, i = .int .i64 k ∧ k ≤ n ∧ Below w.heap.size w wr) (fun i _ => n - (intOf i).toNat)
  case atStart => exact ⟨0, rfl, by omega, Below.refl _ _⟩
  case round =>
    obtain ⟨k, rfl, hk, hbw⟩ := hrel
    by_cases hp : k < n
    · have i1 : (k : Int) < n := by omega
      obtain ⟨x, hx⟩ : ∃ x, l[k]'(by rw [HN.out]; exact hp) = x := ⟨_, rfl⟩
      obtain ⟨b, o, rfl, -, hb2, -, he⟩ := rows_on ItmAt.stays H.out (hbw.mono hm) k (by rw [HN.out]; exact hp)
      obtain ⟨b', o', rfl, -, hb2', -, he'⟩ := rows_on ItmAt.stays H'.out (hbw.mono hm') k (by rw [HN.out]; exact hp)
      rw [hx] at he he'
      clear hx
      obtain ⟨x0, x1, x2, x3, s, ps⟩ := x
      obtain ⟨⟨c0, c1, c2, c3, c4⟩, ⟨-, -, -, -, -, r5⟩, u, c5, hu⟩ := he
      obtain ⟨⟨d0, d1, d2, d3, d4⟩, -, u', d5, hu'⟩ := he'
      have HP : Hid (∀ w', Below wr.heap.size wr w' → Calls Tryd.prog 69 #[.agg #[.int .i64 x0, .int .i64 x1, .int .i64 x2, .int .i64 x3, .string s, u], .agg #[.int .i64 x0, .int .i64 x1, .int .i64 x2, .int .i64 x3, .string s, u']] w' fun e w2 => e = .returned (.bool true) ∧ Below w'.heap.size w' w2) :=
        fun w' bel => eqItem_same x0 x1 x2 x3 s u u' _ _ ps w' r5 (hu.on PrmAt.stays (bel.mono (by rw [Md.inner_hi]; exact Nat.le_trans hm hbw.size))) (hu'.on PrmAt.stays (bel.mono (by rw [Md.inner_hi]; exact Nat.le_trans hm' hbw.size)))
          (by rw [Md.inner_hi]; exact Nat.le_trans hm (Nat.le_trans hbw.size bel.size)) (by rw [Md.inner_hi]; exact Nat.le_trans hm' (Nat.le_trans hbw.size bel.size))
      obtain ⟨a2, e2, rfl, -⟩ := hu
      obtain ⟨a3, e3, rfl, -⟩ := hu'
      simp only [Nat.add_zero] at c0 c1 c2 c3 c4 c5 d0 d1 d2 d3 d4 d5
      clear r5
      go_wp2
      go_region_with (go_at_call 69; refine (HP.out _ (Below.refl _ _).drew).mono ?_; rintro e w' ⟨rfl, bel⟩)
      all_goals go_wp2
      all_goals go_roundw
      all_goals first
        | exact ⟨k + 1, by go_num, by omega, hbw.drew.trans (bel.mono (show w.heap.size ≤ wr.drew.heap.size from hbw.size))⟩
        | (simp [intOf]; omega)
    · have i1 : ¬ (k : Int) < n := by omega
      go_wp2
      go_ret
      exact ⟨rfl, hbw⟩
set_option maxHeartbeats 2000000 in
theorem eqInterface_same (v v' : Value) (m m' : Md) (x : Fac) (w : World) (h : FacAt w m v x) (h' : FacAt w m' v' x) (hm : m.hi ≤ w.heap.size) (hm' : m'.hi ≤ w.heap.size) :
    Calls Tryd.prog 18 #[v, v'] w fun e w' => e = .returned (.bool true) ∧ Below w.heap.size w w' := by
  obtain ⟨u, rfl, -, h2, h3⟩ := h
  obtain ⟨u', rfl, -, -, h3'⟩ := h'
  have HP : Hid (∀ w', Below w.heap.size w w' → Calls Tryd.prog 43 #[u, u'] w' fun e w2 => e = .returned (.bool true) ∧ Below w'.heap.size w' w2) :=
    fun w' bel => eqItemS_same u u' m m' x.items w' h2 (h3.on ItmAt.stays (bel.mono hm)) (h3'.on ItmAt.stays (bel.mono hm')) (Nat.le_trans hm bel.size) (Nat.le_trans hm' bel.size)
  obtain ⟨s, l⟩ := x
  obtain ⟨a, c, rfl, -⟩ := h3
  obtain ⟨a', c', rfl, -⟩ := h3'
  go_enter Tryd.func18, Tryd.ntmps18
  go_wp2_with fail
  refine (HP.out _ (((Below.refl _ _).alloc (Nat.le_refl _) _).alloc (by simp) _)).mono ?_
  rintro e w1 ⟨rfl, bel⟩
  go_wp2
  go_ret
  have h0 := bel.mono (B' := w.heap.size) (by simp; omega)
  refine ⟨rfl, Below.trans ?_ h0⟩
  exact ((Below.refl _ _).alloc (Nat.le_refl _) _).alloc (by simp) _
end Go.Proofs.YtoomnimbokbadaaDoor
