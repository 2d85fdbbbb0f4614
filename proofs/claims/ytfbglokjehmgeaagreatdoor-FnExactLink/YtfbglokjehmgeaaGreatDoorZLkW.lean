/- Linking, the model's walk along needs. No condition. -/
import Derived.Test.YtfbglokjehmgeaaGreatDoorZTchL
import Derived.Deep.RegionWith
import Derived.BigQuiet
import Derived.WalkSmall
import Derived.Test.YtfbglokjehmgeaaGreatDoorZHelQ
import Derived.Deep.QuietTactic
import Derived.Deep.LoopGhost
/- The law's marks in an image's rows of texts and of numbers. No condition. -/
namespace Go.Proofs.YtfbglokjehmgeaaGreatDoor
open Go.ChangeShapes Go.WideShapes Go.ChangeAt Go.RowKit Go.Deep

def strM (K : Int) : Value := .string (mt K)
def intM (K : Int) : Value := .int .i64 K
/-- A row of one cell each, marked. -/
def SMk (w : World) (u : Value) (n : Nat) (ms : Int → Value) (K : Int) : Prop := ∃ a c, u = .slice a n c ∧ ∀ j, j < n → ∃ g, a = some ⟨g, 0, none⟩ ∧ u.ownBlock = some g ∧ w.cell? ⟨g, j, none⟩ = some (ms (K + (j : Int)))
theorem SMk.on {S : Nat → Prop} {w w' : World} {u : Value} {n : Nat} {ms : Int → Value} {K : Int} (h : SMk w u n ms K) (t : Tch S w w') (hs : ∀ g, u.ownBlock = some g → ¬ S g) : SMk w' u n ms K := by
  obtain ⟨a, c, e, hj⟩ := h
  refine ⟨a, c, e, fun j hjn => ?_⟩
  obtain ⟨g, e1, e2, h1⟩ := hj j hjn
  exact ⟨g, e1, e2, t.cell (hs g e2) h1⟩
set_option maxHeartbeats 8000000 in
theorem markStringS_mk (B : Nat) (u : Value) (n : Nat) (K : Int) (w : World) (hn : n ≤ 1000000) (k0 : 0 ≤ K) (k1 : K ≤ 1000000000000000) (h : FAl w B u n 1) :
    Calls Tryz.prog 34 #[u, .int .i64 K] w fun e w' => e = .returned (.int .i64 (K + (n : Int))) ∧ SMk w' u n strM K ∧ Tch (fun k => u.ownBlock = some k) w w' := by
  obtain ⟨a, c, rfl, h⟩ := h
  have H := hide h
  clear h
  go_enter Tryz.func34, Tryz.ntmps34
  go_wp2
  go_loopw [1, 5] (fun q i wr => ∃ k : Nat, i = .int .i64 k ∧ q = .int .i64 (K + (k : Int)) ∧ k ≤ n ∧ Hid (∀ g, a = some ⟨g, 0, none⟩ → ∀ j, j < k → wr.cell? ⟨g, j, none⟩ = some (strM (K + (j : Int)))) ∧ Tch (fun k => (Value.slice a n c).ownBlock = some k) w wr) (fun _ i _ => n - (intOf i).toNat)
  case atStart => exact ⟨0, rfl, by simp, by omega, hide (fun g _ j hj => absurd hj (by omega)), Tch.refl _ _⟩
  case round =>
    obtain ⟨k, rfl, rfl, hk, Hm, hbw⟩ := hrel
    by_cases hp : k < n
    · have i1 : (k : Int) < n := by omega
      obtain ⟨g, rfl, ho, -, hA⟩ := H.out k hp
      obtain ⟨J, hJ⟩ : ∃ J, K + (k : Int) = J := ⟨_, rfl⟩
      have HJ := hide hJ
      have HO := hide ho
      have hJ0 : 0 ≤ J ∧ J ≤ 2000000000000000 := by omega
      rw [hJ]
      clear hJ ho
      go_wp2_with fail
      refine (markText_any _ _ (by omega)).mono ?_
      rintro e w1 ⟨rfl, b1⟩
      have t1 := Tch.of_below (S := fun _ => False) b1
      have hb1 := hbw.trans (Tch.of_below b1)
      have hal := hb1.al _ _ (hA 0 (by omega))
      simp only [Nat.mul_one, Nat.add_zero] at hal
      have HAL := hide hal
      obtain ⟨⟨y0, c0⟩, f0⟩ := hal
      have Hm1 := hide (fun j (hj : j < k) => t1.cell (fun e => e) (Hm.out g rfl j hj))
      clear b1 t1 Hm
      go_wp2
      go_roundw
      case rel => exact ⟨k + 1, by go_num, by rw [← HJ.out]; first | go_num | (congr 1; omega), by omega, hide (fun g' e j hj => by
        cases e
        by_cases ej : j < k
        · exact set_off (Hm1.out j ej) (by omega) _
        · obtain rfl : j = k := by omega
          rw [HJ.out]
          exact set_at HAL.out _), hb1.set HO.out _ _⟩
      case measure => simp [intOf]; omega
    · have i1 : ¬ (k : Int) < n := by omega
      obtain rfl : k = n := by omega
      go_wp2
      go_ret
      exact ⟨rfl, ⟨a, c, rfl, fun j hj => by obtain ⟨g, e, ho, -, -⟩ := H.out j hj; exact ⟨g, e, ho, Hm.out g e j hj⟩⟩, hbw⟩
set_option maxHeartbeats 8000000 in
theorem heldStringS_mk (u : Value) (n : Nat) (K : Int) (w : World) (hn : n ≤ 1000000) (k0 : 0 ≤ K) (k1 : K ≤ 1000000000000000) (h : SMk w u n strM K) :
    Calls Tryz.prog 37 #[u, .int .i64 K] w fun e w' => e = .returned (.int .i64 (K + (n : Int))) ∧ Below w.heap.size w w' := by
  obtain ⟨a, c, rfl, h⟩ := h
  have H := hide h
  clear h
  go_enter Tryz.func37, Tryz.ntmps37
  go_wp2
  go_loopw [1, 5] (fun q i wr => ∃ k : Nat, i = .int .i64 k ∧ q = .int .i64 (K + (k : Int)) ∧ k ≤ n ∧ Below w.heap.size w wr) (fun _ i _ => n - (intOf i).toNat)
  case atStart => exact ⟨0, rfl, by simp, by omega, Below.refl _ _⟩
  case round =>
    obtain ⟨k, rfl, rfl, hk, hbw⟩ := hrel
    by_cases hp : k < n
    · have i1 : (k : Int) < n := by omega
      obtain ⟨g, rfl, ho, hM⟩ := H.out k hp
      obtain ⟨J, hJ⟩ : ∃ J, K + (k : Int) = J := ⟨_, rfl⟩
      have HJ := hide hJ
      have hJ0 : 0 ≤ J ∧ J ≤ 2000000000000000 := by omega
      rw [hJ] at hM ⊢
      have c0 := (hbw.cell (p := ⟨g, k, none⟩) (block_lt hM)).trans hM
      unfold strM at c0
      have HT3 : Hid (∀ w', Calls Tryz.prog 30 #[.int .i64 J] w' fun e w2 => e = .returned (.string (mt J)) ∧ Below w'.heap.size w' w2) := hide fun w' => markText_any _ w' (by omega)
      generalize mt J = s3 at *
      clear hJ hM ho
      go_wp2_with fail
      go_region_with (go_at_call 30; refine (HT3.out _).mono ?_; rintro e v3 ⟨rfl, b3⟩; have d0 := ((Below.trans (Below.refl _ _).drew b3).cell (p := ⟨g, k, none⟩) (block_lt c0)).trans c0)
      all_goals
        have hb3 := hbw.trans ((Below.trans (Below.refl _ _).drew b3).mono hbw.size)
        clear b3 c0
        go_wp2
        go_roundw
        case rel => exact ⟨k + 1, by go_num, by rw [← HJ.out]; first | go_num | (congr 1; omega), by omega, hb3⟩
        case measure => simp [intOf]; omega
    · have i1 : ¬ (k : Int) < n := by omega
      obtain rfl : k = n := by omega
      go_wp2
      go_ret
      exact ⟨rfl, hbw⟩
set_option maxHeartbeats 8000000 in
theorem markIntS_mk (B : Nat) (u : Value) (n : Nat) (K : Int) (w : World) (hn : n ≤ 1000000) (k0 : 0 ≤ K) (k1 : K ≤ 1000000000000000) (h : FAl w B u n 1) :
    Calls Tryz.prog 35 #[u, .int .i64 K] w fun e w' => e = .returned (.int .i64 (K + (n : Int))) ∧ SMk w' u n intM K ∧ Tch (fun k => u.ownBlock = some k) w w' := by
  obtain ⟨a, c, rfl, h⟩ := h
  have H := hide h
  clear h
  go_enter Tryz.func35, Tryz.ntmps35
  go_wp2
  go_loopw [1, 5] (fun q i wr => ∃ k : Nat, i = .int .i64 k ∧ q = .int .i64 (K + (k : Int)) ∧ k ≤ n ∧ Hid (∀ g, a = some ⟨g, 0, none⟩ → ∀ j, j < k → wr.cell? ⟨g, j, none⟩ = some (intM (K + (j : Int)))) ∧ Tch (fun k => (Value.slice a n c).ownBlock = some k) w wr) (fun _ i _ => n - (intOf i).toNat)
  case atStart => exact ⟨0, rfl, by simp, by omega, hide (fun g _ j hj => absurd hj (by omega)), Tch.refl _ _⟩
  case round =>
    obtain ⟨k, rfl, rfl, hk, Hm, hbw⟩ := hrel
    by_cases hp : k < n
    · have i1 : (k : Int) < n := by omega
      obtain ⟨g, rfl, ho, -, hA⟩ := H.out k hp
      obtain ⟨J, hJ⟩ : ∃ J, K + (k : Int) = J := ⟨_, rfl⟩
      have HJ := hide hJ
      have HO := hide ho
      have hJ0 : 0 ≤ J ∧ J ≤ 2000000000000000 := by omega
      rw [hJ]
      clear hJ ho
      have hal := hbw.al _ _ (hA 0 (by omega))
      simp only [Nat.mul_one, Nat.add_zero] at hal
      have HAL := hide hal
      obtain ⟨⟨y0, c0⟩, f0⟩ := hal
      go_wp2
      go_roundw
      case rel => exact ⟨k + 1, by go_num, by rw [← HJ.out]; first | go_num | (congr 1; omega), by omega, hide (fun g' e j hj => by
        cases e
        by_cases ej : j < k
        · exact set_off (Hm.out g rfl j ej) (by omega) _
        · obtain rfl : j = k := by omega
          rw [HJ.out]
          exact set_at HAL.out _), hbw.set HO.out _ _⟩
      case measure => simp [intOf]; omega
    · have i1 : ¬ (k : Int) < n := by omega
      obtain rfl : k = n := by omega
      go_wp2
      go_ret
      exact ⟨rfl, ⟨a, c, rfl, fun j hj => by obtain ⟨g, e, ho, -, -⟩ := H.out j hj; exact ⟨g, e, ho, Hm.out g e j hj⟩⟩, hbw⟩
set_option maxHeartbeats 8000000 in
theorem heldIntS_mk (u : Value) (n : Nat) (K : Int) (w : World) (hn : n ≤ 1000000) (k0 : 0 ≤ K) (k1 : K ≤ 1000000000000000) (h : SMk w u n intM K) :
    Calls Tryz.prog 38 #[u, .int .i64 K] w fun e w' => e = .returned (.int .i64 (K + (n : Int))) ∧ Below w.heap.size w w' := by
  obtain ⟨a, c, rfl, h⟩ := h
  have H := hide h
  clear h
  go_enter Tryz.func38, Tryz.ntmps38
  go_wp2
  go_loopw [1, 5] (fun q i wr => ∃ k : Nat, i = .int .i64 k ∧ q = .int .i64 (K + (k : Int)) ∧ k ≤ n ∧ Below w.heap.size w wr) (fun _ i _ => n - (intOf i).toNat)
  case atStart => exact ⟨0, rfl, by simp, by omega, Below.refl _ _⟩
  case round =>
    obtain ⟨k, rfl, rfl, hk, hbw⟩ := hrel
    by_cases hp : k < n
    · have i1 : (k : Int) < n := by omega
      obtain ⟨g, rfl, ho, hM⟩ := H.out k hp
      obtain ⟨J, hJ⟩ : ∃ J, K + (k : Int) = J := ⟨_, rfl⟩
      have HJ := hide hJ
      have hJ0 : 0 ≤ J ∧ J ≤ 2000000000000000 := by omega
      rw [hJ] at hM ⊢
      have c0 := (hbw.cell (p := ⟨g, k, none⟩) (block_lt hM)).trans hM
      unfold intM at c0
      clear hJ hM ho
      go_wp2
      go_roundw
      case rel => exact ⟨k + 1, by go_num, by rw [← HJ.out]; first | go_num | (congr 1; omega), by omega, hbw⟩
      case measure => simp [intOf]; omega
    · have i1 : ¬ (k : Int) < n := by omega
      obtain rfl : k = n := by omega
      go_wp2
      go_ret
      exact ⟨rfl, hbw⟩
end Go.Proofs.YtfbglokjehmgeaaGreatDoor

/- Linking over plain data: which objects, in which order. No condition. -/
namespace Go.Proofs.YtfbglokjehmgeaaGreatDoor
open Go.ChangeShapes Go.WideShapes Go.ChangeAt Go.RowKit Go.Deep

def eqS (a b : ByteArray) : Bool := a.toList == b.toList
theorem toList_inj' {a b : ByteArray} (h : a.toList = b.toList) : a = b := by
  rw [ByteArray.toList_eq, ByteArray.toList_eq] at h
  obtain ⟨⟨x⟩⟩ := a
  obtain ⟨⟨y⟩⟩ := b
  simp only [] at h
  rw [h]
theorem eqS_iff {a b : ByteArray} : eqS a b = true ↔ a = b := by
  unfold eqS
  rw [beq_iff_eq]
  exact ⟨toList_inj', fun h => by rw [h]⟩
theorem eqS_no {a b : ByteArray} : eqS a b = false ↔ a ≠ b := by
  rw [← Bool.not_eq_true, eqS_iff]
/-- The first object of a module. -/
def objAt : List ObjectD → ByteArray → Option Nat
  | [], _ => none
  | x :: r, s => if eqS x.module s then some 0 else (objAt r s).map (· + 1)
theorem objAt_lt : ∀ {L : List ObjectD} {s : ByteArray} {k : Nat}, objAt L s = some k → ∃ h : k < L.length, L[k].module = s
  | [], _, _, h => by cases h
  | x :: r, s, k, h => by
    unfold objAt at h
    by_cases e : eqS x.module s = true
    · rw [if_pos e] at h
      cases h
      exact ⟨by simp, eqS_iff.1 e⟩
    · rw [if_neg e] at h
      obtain ⟨j, hj, rfl⟩ := Option.map_eq_some_iff.1 h
      obtain ⟨h1, h2⟩ := objAt_lt hj
      exact ⟨by simp; omega, by simpa using h2⟩
/-- The first k objects are of other modules. -/
def noneOf (L : List ObjectD) (s : ByteArray) (k : Nat) : Prop := ∀ i (h : i < L.length), i < k → eqS L[i].module s = false
theorem objAt_at : ∀ {L : List ObjectD} {s : ByteArray} {k : Nat}, noneOf L s k → (h : k < L.length) → eqS L[k].module s = true → objAt L s = some k
  | [], _, _, _, h, _ => absurd h (by simp)
  | x :: r, s, 0, _, _, e => by
    unfold objAt
    exact if_pos e
  | x :: r, s, k + 1, n, h, e => by
    have h0 := n 0 (by simp) (by omega)
    simp only [List.getElem_cons_zero] at h0
    unfold objAt
    rw [if_neg (by rw [h0]; decide), objAt_at (L := r) (k := k) (fun i hi hk => by have := n (i + 1) (by simp; omega) (by omega); simpa using this) (by simpa using h) (by simpa using e)]
    rfl
theorem objAt_none : ∀ {L : List ObjectD} {s : ByteArray}, noneOf L s L.length → objAt L s = none
  | [], _, _ => rfl
  | x :: r, s, n => by
    have h0 := n 0 (by simp) (by simp)
    simp only [List.getElem_cons_zero] at h0
    unfold objAt
    rw [if_neg (by rw [h0]; decide), objAt_none (L := r) fun i hi _ => by have := n (i + 1) (by simp; omega) (by simp; omega); simpa using this]
    rfl
theorem noneOf_step {L : List ObjectD} {s : ByteArray} {k : Nat} (n : noneOf L s k) (h : k < L.length) (e : eqS L[k].module s = false) : noneOf L s (k + 1) := by
  intro i hi hk
  by_cases c : i < k
  · exact n i hi c
  · obtain rfl : i = k := by omega
    exact e
/-- Where the first is of which f holds. -/
def firstAt {α : Type} (f : α → Bool) : List α → Option Nat
  | [] => none
  | x :: r => if f x then some 0 else (firstAt f r).map (· + 1)
theorem firstAt_at {α : Type} {f : α → Bool} : ∀ {l : List α} {k : Nat}, (∀ i (h : i < l.length), i < k → f l[i] = false) → (h : k < l.length) → f l[k] = true → firstAt f l = some k
  | [], _, _, h, _ => absurd h (by simp)
  | x :: r, 0, _, _, e => by
    unfold firstAt
    exact if_pos e
  | x :: r, k + 1, n, h, e => by
    have h0 := n 0 (by simp) (by omega)
    simp only [List.getElem_cons_zero] at h0
    unfold firstAt
    rw [if_neg (by rw [h0]; decide), firstAt_at (l := r) (k := k) (fun i hi hk => by have := n (i + 1) (by simp; omega) (by omega); simpa using this) (by simpa using h) (by simpa using e)]
    rfl
theorem firstAt_none {α : Type} {f : α → Bool} : ∀ {l : List α}, (∀ x ∈ l, f x = false) → firstAt f l = none
  | [], _ => rfl
  | x :: r, n => by
    unfold firstAt
    rw [if_neg (by rw [n x (List.mem_cons_self ..)]; decide), firstAt_none (l := r) fun y hy => n y (List.mem_cons_of_mem _ hy)]
    rfl
theorem firstAt_some {α : Type} {f : α → Bool} : ∀ {l : List α} {k : Nat}, firstAt f l = some k → ∃ h : k < l.length, f l[k] = true
  | [], _, h => by cases h
  | x :: r, k, h => by
    unfold firstAt at h
    by_cases e : f x = true
    · rw [if_pos e] at h
      cases h
      exact ⟨by simp, e⟩
    · rw [if_neg e] at h
      obtain ⟨j, hj, rfl⟩ := Option.map_eq_some_iff.1 h
      obtain ⟨h1, h2⟩ := firstAt_some hj
      exact ⟨by simp; omega, by simpa using h2⟩
theorem firstAt_no {α : Type} {f : α → Bool} : ∀ {l : List α}, firstAt f l = none → ∀ x ∈ l, f x = false
  | [], _, x, h => by cases h
  | y :: r, n, x, h => by
    unfold firstAt at n
    by_cases e : f y = true
    · rw [if_pos e] at n
      cases n
    · rw [if_neg e] at n
      rcases List.mem_cons.1 h with rfl | h
      · simpa using e
      · exact firstAt_no (Option.map_eq_none_iff.1 n) x h
abbrev Res := (Int × ByteArray) ⊕ List Nat
/-- A need behind the needs ahead of it. -/
def needsD (L : List ObjectD) (vis : ByteArray → List Nat → Res) (name : ByteArray) : List NeedD → List Nat → Res
  | [], o => .inr o
  | x :: r, o => match vis x.module o with
    | .inl e => .inl e
    | .inr o' => if ((objAt L x.module).bind fun k => L[k]?).map (·.print) = some x.print then needsD L vis name r o' else .inl (17, name)
def endD (k : Nat) : Res → Res
  | .inl e => .inl e
  | .inr o => .inr (o ++ [k])
/-- The order of what a module needs, it last; or the first fault and whose. -/
def visD (L : List ObjectD) : Nat → ByteArray → List Nat → List ByteArray → Res
  | 0, _, o, _ => .inr o
  | g + 1, name, o, opn => match objAt L name with
    | none => .inl (12, name)
    | some k => if o.contains k then .inr o else if (firstAt (fun z => eqS z name) opn).isSome then .inl (18, name) else
      endD k (needsD L (fun s o' => visD L g s o' (opn ++ [name])) name ((L[k]?).elim [] (·.needs)) o)
/-- Each once, all there. -/
def Fine (n : Nat) (o : List Nat) : Prop := o.Nodup ∧ ∀ k ∈ o, k < n
theorem pigeon {α : Type} [DecidableEq α] : ∀ {l r : List α}, l.Nodup → (∀ x ∈ l, x ∈ r) → l.length ≤ r.length
  | [], _, _, _ => Nat.zero_le _
  | x :: l, r, h, k => by
    rw [List.nodup_cons] at h
    have hx := k x (List.mem_cons_self ..)
    have ih := pigeon (l := l) (r := r.erase x) h.2 fun y hy => (List.mem_erase_of_ne (fun e => h.1 (by rw [← e]; exact hy))).2 (k y (List.mem_cons_of_mem _ hy))
    rw [List.length_erase_of_mem hx] at ih
    have := List.length_pos_of_mem hx
    rw [List.length_cons]
    omega
theorem Fine.len {n : Nat} {o : List Nat} (h : Fine n o) : o.length ≤ n := by
  have := pigeon (r := List.range n) h.1 fun k hk => List.mem_range.2 (h.2 k hk)
  rwa [List.length_range] at this
theorem Fine.put {n k : Nat} {o : List Nat} (h : Fine n o) (hk : k < n) (hn : k ∉ o) : Fine n (o ++ [k]) := by
  refine ⟨?_, fun j hj => ?_⟩
  · rw [List.nodup_append]
    exact ⟨h.1, by simp, fun a ha b hb => by rw [List.mem_singleton] at hb; rw [hb]; exact fun e => hn (by rw [← e]; exact ha)⟩
  · rcases List.mem_append.1 hj with hj | hj
    · exact h.2 j hj
    · rw [List.mem_singleton] at hj
      omega
/-- An order, each once, all there; none of those that are open. -/
def Good (L : List ObjectD) (o : List Nat) (opn : List ByteArray) : Prop := Fine L.length o ∧ ∀ z ∈ opn, ∀ j, objAt L z = some j → j ∉ o
theorem needs_good {L : List ObjectD} {vis : ByteArray → List Nat → Res} {name : ByteArray} {opn : List ByteArray} (hv : ∀ s o o', Good L o opn → vis s o = .inr o' → Good L o' opn) : ∀ {l : List NeedD} {o o' : List Nat}, Good L o opn → needsD L vis name l o = .inr o' → Good L o' opn
  | [], o, o', h, e => by
    unfold needsD at e
    cases e
    exact h
  | x :: r, o, o', h, e => by
    unfold needsD at e
    cases hx : vis x.module o with
    | inl c => rw [hx] at e; cases e
    | inr o1 =>
      rw [hx] at e
      simp only [] at e
      split at e
      · exact needs_good hv (hv _ _ _ h hx) e
      · cases e
theorem vis_good {L : List ObjectD} : ∀ {g : Nat} {name : ByteArray} {o o' : List Nat} {opn : List ByteArray}, Good L o opn → visD L g name o opn = .inr o' → Good L o' opn
  | 0, name, o, o', opn, h, e => by
    unfold visD at e
    cases e
    exact h
  | g + 1, name, o, o', opn, h, e => by
    unfold visD at e
    cases ha : objAt L name with
    | none => rw [ha] at e; cases e
    | some k =>
      rw [ha] at e
      simp only [] at e
      obtain ⟨hk, hm⟩ := objAt_lt ha
      split at e
      · cases e
        exact h
      · rename_i hc
        split at e
        · cases e
        · rename_i ho
          have hno : ∀ z ∈ opn, z ≠ name := fun z hz => eqS_no.1 (firstAt_no (by simpa using ho) z hz)
          have hk0 : k ∉ o := by simpa using hc
          have h1 : Good L o (opn ++ [name]) := ⟨h.1, fun z hz j hj => by
            rcases List.mem_append.1 hz with hz | hz
            · exact h.2 z hz j hj
            · rw [List.mem_singleton] at hz
              rw [hz, ha] at hj
              cases hj
              exact hk0⟩
          cases hd : needsD L (fun s o' => visD L g s o' (opn ++ [name])) name ((L[k]?).elim [] (·.needs)) o with
          | inl c => rw [hd] at e; cases e
          | inr o1 =>
            rw [hd] at e
            cases e
            have h2 := needs_good (fun s q q' hq hv => vis_good (g := g) hq hv) h1 hd
            have hk1 : k ∉ o1 := h2.2 name (by simp) k ha
            refine ⟨h2.1.put hk hk1, fun z hz j hj hin => ?_⟩
            rcases List.mem_append.1 hin with hin | hin
            · exact h2.2 z (List.mem_append_left _ hz) j hj hin
            · rw [List.mem_singleton] at hin
              subst hin
              obtain ⟨_, hm2⟩ := objAt_lt hj
              exact hno z hz (hm2.symm.trans hm)
/-- Those that are open are no more than there are. -/
theorem open_len {L : List ObjectD} {opn : List ByteArray} (h : opn.Nodup) (k : ∀ z ∈ opn, (objAt L z).isSome = true) : opn.length ≤ L.length := by
  haveI : DecidableEq ByteArray := fun a b => Classical.propDecidable (a = b)
  have := pigeon (r := L.map (·.module)) h fun z hz => by
    obtain ⟨j, hj⟩ := Option.isSome_iff_exists.1 (k z hz)
    obtain ⟨h1, h2⟩ := objAt_lt hj
    rw [← h2]
    exact List.mem_map.2 ⟨_, List.getElem_mem h1, rfl⟩
  rwa [List.length_map] at this
theorem vis_known {L : List ObjectD} {g : Nat} {name : ByteArray} {o q : List Nat} {opn : List ByteArray} (h : visD L (g + 1) name o opn = .inr q) : ∃ k, objAt L name = some k := by
  unfold visD at h
  cases ha : objAt L name with
  | none => rw [ha] at h; cases h
  | some k => exact ⟨k, rfl⟩
end Go.Proofs.YtfbglokjehmgeaaGreatDoor

/- Linking, the model's walk along needs. No condition. -/
namespace Go.Proofs.YtfbglokjehmgeaaGreatDoor
open Go.ChangeShapes Go.WideShapes Go.ChangeAt Go.RowKit Go.Deep

def idxI : Option Nat → Int
  | some k => k
  | none => -1
set_option maxHeartbeats 4000000 in
theorem l05Object_any (a : Option Addr) (c : Nat) (m : Md) (L : List ObjectD) (s : ByteArray) (w : World) (hn : L.length ≤ 1000000) (h : SlAt ObjectAt 5 w m (.slice a L.length c) L) :
    Calls Tryz.prog 15 #[.slice a L.length c, .string s] w fun e w' => e = .returned (.int .i64 (idxI (objAt L s))) ∧ w' = w := by
  have H := hide h
  have HAt := hide (fun k (n : noneOf L s k) => objAt_at (k := k) n)
  have HNo := hide (objAt_none (L := L) (s := s))
  have HSt := hide (fun k (n : noneOf L s k) => noneOf_step (k := k) n)
  obtain ⟨R, hR⟩ : ∃ R, objAt L s = R := ⟨_, rfl⟩
  rw [hR] at HAt HNo ⊢
  obtain ⟨n, hl⟩ : ∃ n, L.length = n := ⟨_, rfl⟩
  have HN := hide hl
  rw [hl] at hn H ⊢
  clear hl hR h
  go_enter Tryz.func15, Tryz.ntmps15
  go_wp2
  go_loopw [5] (fun i wr => ∃ k : Nat, i = .int .i64 k ∧ k ≤ n ∧ Hid (noneOf L s k) ∧ wr = w) (fun i _ => n - (intOf i).toNat)
  case atStart => exact ⟨0, rfl, by omega, hide (fun i _ hi => absurd hi (by omega)), rfl⟩
  case round =>
    obtain ⟨k, rfl, hk, Hk, rfl⟩ := hrel
    by_cases hp : k < n
    · have i1 : (k : Int) < n := by omega
      have hkl : k < L.length := by rw [HN.out]; exact hp
      obtain ⟨a', c', e', hr⟩ := H.out
      cases e'
      obtain ⟨b, o, rfl, g1, g2, -, ⟨c0, -⟩, -⟩ := hr k hkl
      rw [HN.out] at g1
      simp only [Nat.add_zero] at c0
      have HA := hide (fun e => HAt.out k Hk.out hkl e)
      have HS := hide (fun e => HSt.out k Hk.out hkl e)
      obtain ⟨y, hy⟩ : ∃ y, L[k].module = y := ⟨_, rfl⟩
      rw [hy] at c0 HA HS
      clear hy hr
      unfold eqS at HA HS
      cases hq : y.toList == s.toList with
      | true =>
        have HR := hide (HA.out hq)
        go_wp2
        go_ret
        exact ⟨by rw [HR.out]; rfl, rfl⟩
      | false =>
        have HR := hide (HS.out hq)
        go_wp2
        go_roundw
        case rel => exact ⟨k + 1, by go_num, by omega, HR, trivial⟩
        case measure => simp [intOf]; omega
    · have i1 : ¬ (k : Int) < n := by omega
      obtain rfl : k = n := by omega
      go_wp2
      go_ret
      exact ⟨by rw [HNo.out (by rw [HN.out]; exact Hk.out)]; rfl, rfl⟩
def intK : FlatK Nat := ⟨3, 26, 1, 8, .int .i64 0, fun k => [.int .i64 (k : Int)]⟩
theorem intOk : intK.Ok := ⟨by kernel_rfl, Tryz.underlying26, by decide, rfl, fun _ => rfl, by decide⟩
def strK : FlatK ByteArray := ⟨9, 25, 1, 16, .string ⟨#[]⟩, fun s => [.string s]⟩
theorem strOk : strK.Ok := ⟨by kernel_rfl, Tryz.underlying25, by decide, rfl, fun _ => rfl, by decide⟩
/-- The model's linker in block b: its order, those that are open, its fault; what it makes lies from B on. -/
def LS (w : World) (b B : Nat) (lv : Value) (o : List Nat) (p : List ByteArray) (c : Int) (s : ByteArray) : Prop :=
  ∃ ov pv, w.heap[b]? = some (.cells #[lv, ov, pv, .int .i64 c, .string s] 91 (0, 0)) ∧ FRow intK w B ov o ∧ FRow strK w B pv p
/-- Not of the linker's own rows. -/
def Off (B : Nat) (w : World) (k : Nat) : Prop := k < B ∨ ∃ C T fr, w.heap[k]? = some (.cells C T fr) ∧ T ≠ 3 ∧ T ≠ 9
/-- Of what was there that block alone has turned, and the linker's own rows. -/
structure Fb (b B : Nat) (w w' : World) : Prop where
  os : w'.os = w.os
  tape : w'.tape = w.tape
  output : w'.output = w.output
  size : w.heap.size ≤ w'.heap.size
  block : ∀ k, k < w.heap.size → k ≠ b → Off B w k → w'.heap[k]? = w.heap[k]?
theorem Fb.refl (b B : Nat) (w : World) : Fb b B w w := ⟨rfl, rfl, rfl, Nat.le_refl _, fun _ _ _ _ => rfl⟩
theorem Fb.trans {b B : Nat} {x y z : World} (h : Fb b B x y) (k : Fb b B y z) : Fb b B x z := ⟨k.os.trans h.os, k.tape.trans h.tape, k.output.trans h.output, Nat.le_trans h.size k.size, fun i h1 h2 h3 => by
  have e := h.block i h1 h2 h3
  refine (k.block i (Nat.lt_of_lt_of_le h1 h.size) h2 ?_).trans e
  rcases h3 with h3 | ⟨C, T, fr, q, r⟩
  · exact .inl h3
  · exact .inr ⟨C, T, fr, e.trans q, r⟩⟩
theorem Fb.of_below {b B : Nat} {w w' : World} (h : Below w.heap.size w w') : Fb b B w w' := ⟨h.os, h.tape, h.output, h.size, fun k hk _ _ => h.block k hk⟩
theorem Fb.set (b B : Nat) (w : World) (o : Nat) (v : Value) : Fb b B w (w.setCell ⟨b, o, none⟩ v) := ⟨rfl, rfl, rfl, by simp [World.setCell], fun k _ hk _ => Below.heap_setCell _ _ _ _ hk⟩
theorem Fb.drew {b B : Nat} {x y : World} (h : Fb b B x y) : Fb b B x y.drew := ⟨h.os, h.tape, h.output, h.size, h.block⟩
theorem FRow.set_far {D : Type} {F : FlatK D} {w : World} {B : Nat} {v : Value} {l : List D} (h : FRow F w B v l) {b : Nat} (hb : b < B) (o : Nat) (x : Value) : FRow F (w.setCell ⟨b, o, none⟩ x) B v l := h.of_heap fun k hk _ _ => Below.heap_setCell _ _ _ _ (by show k ≠ b; omega)
set_option maxHeartbeats 4000000 in
theorem fail_any (b B : Nat) (lv : Value) (o : List Nat) (p : List ByteArray) (s0 s : ByteArray) (c : Int) (w : World) (hb : b < B) (h : LS w b B lv o p 0 s0) :
    Calls Tryz.prog 49 #[.pointer (some ⟨b, 0, none⟩), .int .i64 c, .string s] w fun e w' => e = .returned (.tuple #[]) ∧ LS w' b B lv o p c s ∧ Fb b B w w' := by
  obtain ⟨ov, pv, hx, ho, hp⟩ := h
  have HO := hide ho
  have HP := hide hp
  have HX := hide hx
  obtain ⟨s1, s2⟩ := heapCells hx
  have c3 : w.cell? ⟨b, 3, none⟩ = some (.int .i64 0) := s1 3
  have c4 : w.cell? ⟨b, 4, none⟩ = some (.string s0) := s1 4
  have f3 := s2 3
  have f4 := s2 4
  clear s1 s2 hx ho hp
  go_enter Tryz.func49, Tryz.ntmps49
  go_wp2
  go_end0
  refine ⟨rfl, ⟨ov, pv, ?_, (HO.out.set_far hb _ _).set_far hb _ _, (HP.out.set_far hb _ _).set_far hb _ _⟩, (Fb.set _ _ _ _ _).trans (Fb.set _ _ _ _ _)⟩
  exact block_set (block_set HX.out _) _
end Go.Proofs.YtfbglokjehmgeaaGreatDoor

namespace Go.Proofs.YtfbglokjehmgeaaGreatDoor
open Go.ChangeShapes Go.WideShapes Go.ChangeAt Go.RowKit Go.Deep

theorem FRow.one_at {D : Type} {F : FlatK D} (hF : F.Ok) {w : World} {B : Nat} {v : Value} {l : List D} (h : FRow F w B v l) {k : Nat} (hk : k < l.length) : ∃ g c, v = .slice (some ⟨g, 0, none⟩) l.length c ∧ l.length ≤ c ∧ B ≤ g ∧ g < w.heap.size ∧ ∀ j, j < F.sz → w.cell? ⟨g, k * F.sz + j, none⟩ = (F.cs l[k])[j]? := by
  obtain ⟨g, cap, rfl, hg1, hg2⟩ := World.ownsRow.form h (by omega)
  have hc := World.ownsRow.cells (g := g) h rfl
  have hcap : l.length ≤ cap := by
    rcases h.2 with ⟨e, -⟩ | ⟨g', cap', cur, e, -, -, hcap, -⟩
    · cases e
    · cases e; exact hcap
  refine ⟨g, cap, rfl, hcap, hg1, hg2, fun j hj => ?_⟩
  have e := FlatK.all_at hF l k hk j hj
  have hjl : j < (F.cs l[k]).length := by have := hF.len (l[k]); omega
  rw [List.getElem?_eq_getElem hjl] at e ⊢
  have := hc _ _ e
  rwa [add_plain, Nat.zero_add] at this
set_option maxHeartbeats 4000000 in
theorem l01Idx_any (v : Value) (l : List ByteArray) (s : ByteArray) (B : Nat) (w : World) (h : FRow strK w B v l) (hl : l.length ≤ 1000000) :
    Calls Tryz.prog 44 #[v, .string s] w fun e w' => e = .returned (.int .i64 (idxI (firstAt (fun z => eqS z s) l))) ∧ w' = w := by
  have H := hide h
  have HAt := hide (fun k (n : ∀ i (h : i < l.length), i < k → eqS l[i] s = false) => firstAt_at (f := fun z => eqS z s) (k := k) n)
  have HNo := hide (firstAt_none (f := fun z => eqS z s) (l := l))
  obtain ⟨R, hR⟩ : ∃ R, firstAt (fun z => eqS z s) l = R := ⟨_, rfl⟩
  rw [hR] at HAt HNo ⊢
  obtain ⟨a, c, rfl⟩ := h.form
  obtain ⟨n, hn⟩ : ∃ n, l.length = n := ⟨_, rfl⟩
  have HN := hide hn
  rw [hn] at hl H ⊢
  clear hn hR h
  go_enter Tryz.func44, Tryz.ntmps44
  go_wp2
  go_loopw [5] (fun i wr => ∃ k : Nat, i = .int .i64 k ∧ k ≤ n ∧ Hid (∀ i (h : i < l.length), i < k → eqS l[i] s = false) ∧ wr = w) (fun i _ => n - (intOf i).toNat)
  case atStart => exact ⟨0, rfl, by omega, hide (fun i _ hi => absurd hi (by omega)), rfl⟩
  case round =>
    obtain ⟨k, rfl, hk, Hk, rfl⟩ := hrel
    by_cases hp : k < n
    · have i1 : (k : Int) < n := by omega
      have hkl : k < l.length := by rw [HN.out]; exact hp
      obtain ⟨g, c', e, hc, -, -, hcell⟩ := H.out.one_at strOk hkl
      rw [HN.out] at e hc
      cases e
      have c0 := hcell 0 (by decide)
      have HA := hide (fun e => HAt.out k Hk.out hkl e)
      obtain ⟨y, hy⟩ : ∃ y, l[k] = y := ⟨_, rfl⟩
      have HY := hide hy
      rw [hy] at c0 HA
      have c0' : wr.cell? ⟨g, k, none⟩ = some (.string y) := by simpa [strK] using c0
      clear hy hcell c0
      unfold eqS at HA
      cases hq : y.toList == s.toList with
      | true =>
        have HR := hide (HA.out hq)
        go_wp2
        go_ret
        exact ⟨by rw [HR.out]; rfl, rfl⟩
      | false =>
        have HQ := hide hq
        go_wp2
        go_roundw
        case rel =>
          refine ⟨k + 1, by go_num, by omega, hide fun i hi hik => ?_, trivial⟩
          by_cases e : i < k
          · exact Hk.out i hi e
          · obtain rfl : i = k := by omega
            rw [HY.out]
            exact HQ.out
        case measure => simp [intOf]; omega
    · have i1 : ¬ (k : Int) < n := by omega
      obtain rfl : k = n := by omega
      have HR := hide (HNo.out fun x hx => by
        obtain ⟨i, hi, rfl⟩ := List.getElem_of_mem hx
        exact Hk.out i hi (by rw [← HN.out]; exact hi))
      go_wp2
      go_ret
      exact ⟨by rw [HR.out]; rfl, rfl⟩
/-- A row of another type has grown. -/
theorem FRow.grow_row {D D' : Type} {F : FlatK D} {G : FlatK D'} {w w2 : World} {B B' : Nat} {v v' : Value} {l : List D} {l' : List D'} (h : FRow F w B v l) (k : FRow G w B' v' l') (hne : F.ty ≠ G.ty) (hg : w.grownBy w2 v'.ownBlock) : FRow F w2 B v l := by
  refine h.of_heap fun j _ hj ⟨C, hC⟩ => hg.block j hj fun e => ?_
  obtain ⟨C', hC'⟩ := k.ty e.symm
  rw [hC'] at hC
  have := congrArg (fun o : Option Obj => match o with | some (.cells _ T _) => T | _ => 0) hC
  exact hne this.symm
theorem Fb.grown {D : Type} {F : FlatK D} {b B : Nat} {w w' : World} {v : Value} {l : List D} (k : FRow F w B v l) (hT : F.ty = 3 ∨ F.ty = 9) (h : w.grownBy w' v.ownBlock) : Fb b B w w' :=
  ⟨h.os, h.tape, h.output, h.size, fun i hi _ ho => h.block i hi fun e => by
    obtain ⟨C, hC⟩ := k.ty e.symm
    have hlt := (k.lt e.symm).1
    rcases ho with ho | ⟨C', T, fr, q, r1, r2⟩
    · omega
    · rw [hC] at q
      have := congrArg (fun o : Option Obj => match o with | some (.cells _ T _) => T | _ => 0) q
      simp only [] at this
      rcases hT with hT | hT
      · exact r1 (this.symm.trans hT)
      · exact r2 (this.symm.trans hT)⟩
theorem Fb.same {b B lo hi : Nat} {w w' : World} (h : Fb b B w w') (hm : hi ≤ b) (hb : b < B) (hB : B ≤ w.heap.size) : Same lo hi w w' := fun k _ hk => h.block k (by omega) (by omega) (.inl (by omega))
theorem LS.below {w w' : World} {b B : Nat} {lv : Value} {o : List Nat} {p : List ByteArray} {c : Int} {s : ByteArray} (h : LS w b B lv o p c s) (bel : Below w.heap.size w w') : LS w' b B lv o p c s := by
  obtain ⟨ov, pv, hx, ho, hp⟩ := h
  exact ⟨ov, pv, (bel.block _ (Array.getElem?_eq_some_iff.1 hx).1).trans hx, ho.on bel, hp.on bel⟩
theorem LS.drew {w : World} {b B : Nat} {lv : Value} {o : List Nat} {p : List ByteArray} {c : Int} {s : ByteArray} (h : LS w b B lv o p c s) : LS w.drew b B lv o p c s := h
end Go.Proofs.YtfbglokjehmgeaaGreatDoor
