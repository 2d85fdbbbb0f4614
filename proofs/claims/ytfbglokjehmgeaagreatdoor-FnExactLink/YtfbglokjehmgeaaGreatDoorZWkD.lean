/- The program's rounds of verification, over plain data, beside the model's: an instruction that has been looked at once tells nothing more. No condition. -/
import Derived.Test.YtfbglokjehmgeaaGreatDoorZHelQ
import Derived.Test.YtfbglokjehmgeaaGreatDoorZNames
import Derived.Test.YtfbglokjehmgeaaGreatDoorZLkY
/- How a code verifies, told once over plain data. No condition. -/
namespace Go.Proofs.YtfbglokjehmgeaaGreatDoor
open Go.RowKit

def emB (s : ByteArray) : Bool := s.toList == []
/-- What an instruction asks of its A, by its number. -/
def argB (op a : Int) (wr : Int) (cells len result : Int) : Bool :=
  if op = 1 then true
  else if op = 2 then inB a 0 (wrap64 (cells - 1))
  else if op = 6 then inB a 1 100
  else if op = 7 then inB a 0 10
  else if op = 11 ∨ op = 12 then inB a 0 (len - 1)
  else if op = 13 then inB a 0 20 && inB wr 0 1
  else if op = 14 then decide (a = result)
  else if op = 15 ∨ op = 16 then inB a 1 3 && (decide (op = 15) || decide (a ≠ 2))
  else if op = 17 then inB a 1 5
  else decide (a = 0) && inB op 3 10
def namedB (op : Int) : Bool := decide (op = 3) || decide (op = 13)
def insB (x : InsD) (cells len result : Int) : Bool :=
  (namedB x.op == (!(emB x.mod) || !(emB x.name))) && (!(namedB x.op) || (ownB x.mod && ownB x.name)) && (decide (x.op = 13) || decide (x.b = 0)) && argB x.op x.a x.b cells len result
/-- What it takes off the stack, what it leaves. -/
def takes (x : InsD) : Int := if x.op = 4 ∨ x.op = 8 ∨ x.op = 9 ∨ x.op = 10 then 1 else if x.op = 5 then 2 else if x.op = 6 ∨ x.op = 7 then 2 else if x.op = 12 ∨ x.op = 15 ∨ x.op = 16 then 1 else if x.op = 13 ∨ x.op = 14 then x.a else 0
def leaves (x : InsD) : Int := if x.op = 1 ∨ x.op = 2 ∨ x.op = 3 then 1 else if x.op = 4 ∨ x.op = 8 ∨ x.op = 9 ∨ x.op = 10 then 1 else if x.op = 6 ∨ x.op = 7 then 1 else if x.op = 13 then x.b else 0
/-- What follows an instruction: the place of its jump, then the next one. -/
def follows (x : InsD) (i : Nat) : List Int := (if x.op = 11 ∨ x.op = 12 then [x.a] else []) ++ (if x.op ≠ 11 ∧ x.op ≠ 14 ∧ x.op ≠ 17 then [(i : Int) + 1] else [])
/-- A fault, or the depths and whether a new one was reached. -/
inductive Ver where
  | bad (code at_ : Int)
  | go (d : List Int) (again : Bool)
def goTo (n i : Nat) (now : Int) : List Int → List Int → Bool → Ver
  | [], d, ag => .go d ag
  | t :: r, d, ag => if t = n then .bad 10 i else if d.getD t.toNat 0 < 0 then goTo n i now r (d.set t.toNat now) true else if d.getD t.toNat 0 ≠ now then .bad 8 i else goTo n i now r d ag
def oneV (n i : Nat) (x : InsD) (d : List Int) (ag : Bool) : Ver :=
  let di := d.getD i 0
  if di < 0 then .go d ag
  else if di < takes x then .bad 11 i
  else
    let now := di - takes x + leaves x
    if 60 < now then .bad 14 i
    else if x.op = 14 ∧ now ≠ 0 then .bad 8 i
    else goTo n i now (follows x i) d ag
def fromV (n : Nat) : Nat → List InsD → List Int → Bool → Ver
  | _, [], d, ag => .go d ag
  | i, x :: r, d, ag => match oneV n i x d ag with
    | .bad c p => .bad c p
    | .go d' ag' => fromV n (i + 1) r d' ag'
def roundsV (l : List InsD) : Nat → List Int → Int × Int
  | 0, _ => (0, 0)
  | f + 1, d => match fromV l.length 0 l d false with
    | .bad c p => (c, p)
    | .go d' true => roundsV l f d'
    | .go _ false => (0, 0)
/-- The first instruction that is not as the table says. -/
def formAt (cells len result : Int) : Nat → List InsD → Option Nat
  | _, [] => none
  | i, x :: r => if insB x cells len result then formAt cells len result (i + 1) r else some i
def headB (x : CodeD) : Bool := decide (x.list.length ≠ 0) && decide (x.list.length ≤ 2000) && inB x.params 0 20 && inB x.cells x.params 2000 && inB x.result 0 1 && (emB x.name || ownB x.name) && (!(emB x.name) || (decide (x.cells = 0) && decide (x.result = 0)))
def verC (x : CodeD) : Int × Int :=
  if headB x then match formAt x.cells x.list.length x.result 0 x.list with
    | some i => (3, i)
    | none => roundsV x.list (x.list.length + 1) ((List.replicate x.list.length (-1)).set 0 0)
  else (1, 0)
end Go.Proofs.YtfbglokjehmgeaaGreatDoor

/- The rounds of verification, over plain data: they come to an end. No condition. -/
namespace Go.Proofs.YtfbglokjehmgeaaGreatDoor
open Go.RowKit

def negs (d : List Int) : Nat := d.countP fun y => decide (y < 0)
theorem negs_set {d : List Int} {t : Nat} {y : Int} (h : d.getD t 0 < 0) (hy : 0 ≤ y) : negs (d.set t y) < negs d := by
  have ht : t < d.length := by
    by_cases k : t < d.length
    · exact k
    · rw [List.getD_eq_getElem?_getD, List.getElem?_eq_none (by omega)] at h
      simp at h
  rw [List.getD_eq_getElem?_getD, List.getElem?_eq_getElem ht] at h
  simp only [Option.getD_some] at h
  have hpos : 0 < negs d := List.countP_pos_iff.2 ⟨d[t], List.getElem_mem ht, by simpa using h⟩
  unfold negs at *
  rw [List.countP_set ht, if_pos (by simpa using h), if_neg (by simp; omega)]
  omega
/-- From one state to another: as long, and a new one reached where that is told. -/
def Fwd (d : List Int) (ag : Bool) (d' : List Int) (ag' : Bool) : Prop := d'.length = d.length ∧ negs d' ≤ negs d ∧ (ag' = true → ag = true ∨ negs d' < negs d)
theorem Fwd.refl (d : List Int) (ag : Bool) : Fwd d ag d ag := ⟨rfl, Nat.le_refl _, fun h => .inl h⟩
theorem Fwd.trans {d d1 d2 : List Int} {a a1 a2 : Bool} (h : Fwd d a d1 a1) (k : Fwd d1 a1 d2 a2) : Fwd d a d2 a2 := by
  obtain ⟨h1, h2, h3⟩ := h
  obtain ⟨k1, k2, k3⟩ := k
  refine ⟨k1.trans h1, Nat.le_trans k2 h2, fun e => ?_⟩
  rcases k3 e with e1 | e1
  · rcases h3 e1 with e2 | e2
    · exact .inl e2
    · exact .inr (by omega)
  · exact .inr (by omega)
theorem Fwd.set {d : List Int} {ag : Bool} {t : Nat} {y : Int} (h : d.getD t 0 < 0) (hy : 0 ≤ y) : Fwd d ag (d.set t y) true := ⟨by simp, Nat.le_of_lt (negs_set h hy), fun _ => .inr (negs_set h hy)⟩
theorem goTo_fwd {n i : Nat} {now : Int} (hn : 0 ≤ now) : ∀ (ts : List Int) (d : List Int) (ag : Bool) (d' : List Int) (ag' : Bool), goTo n i now ts d ag = .go d' ag' → Fwd d ag d' ag'
  | [], d, ag, d', ag', h => by
    cases h
    exact Fwd.refl _ _
  | t :: r, d, ag, d', ag', h => by
    rw [goTo] at h
    split at h
    · cases h
    · split at h
      · rename_i h1
        exact (Fwd.set (ag := ag) h1 hn).trans (goTo_fwd hn r _ _ _ _ h)
      · split at h
        · cases h
        · exact goTo_fwd hn r _ _ _ _ h
theorem oneV_fwd {n i : Nat} {x : InsD} (hx : 0 ≤ leaves x) {d : List Int} {ag : Bool} {d' : List Int} {ag' : Bool} (h : oneV n i x d ag = .go d' ag') : Fwd d ag d' ag' := by
  unfold oneV at h
  simp only [] at h
  split at h
  · cases h
    exact Fwd.refl _ _
  · split at h
    · cases h
    · split at h
      · cases h
      · split at h
        · cases h
        · exact goTo_fwd (by omega) _ _ _ _ _ h
theorem fromV_fwd {n : Nat} : ∀ (l : List InsD) (i : Nat) (d : List Int) (ag : Bool) (d' : List Int) (ag' : Bool), (∀ x ∈ l, 0 ≤ leaves x) → fromV n i l d ag = .go d' ag' → Fwd d ag d' ag'
  | [], _, _, _, _, _, _, h => by
    cases h
    exact Fwd.refl _ _
  | x :: r, i, d, ag, d', ag', hx, h => by
    rw [fromV] at h
    split at h
    · cases h
    · rename_i d1 ag1 h1
      exact (oneV_fwd (hx x (by simp)) h1).trans (fromV_fwd r _ _ _ _ _ (fun y hy => hx y (by simp [hy])) h)
theorem negs_le (d : List Int) : negs d ≤ d.length := List.countP_le_length
/-- A round that has reached a new one leaves fewer. -/
theorem rounds_step {l : List InsD} {f : Nat} {d d' : List Int} (hx : ∀ x ∈ l, 0 ≤ leaves x) (hf : negs d < f) (h : fromV l.length 0 l d false = .go d' true) : ∃ f', negs d' < f' ∧ roundsV l f d = roundsV l f' d' := by
  have := (fromV_fwd l 0 d false d' true hx h).2.2 rfl
  obtain ⟨f', rfl⟩ : ∃ f', f = f' + 1 := ⟨f - 1, by omega⟩
  refine ⟨f', by simp at this; omega, ?_⟩
  rw [roundsV, h]
theorem rounds_end {l : List InsD} {f : Nat} {d d' : List Int} (hf : negs d < f) (h : fromV l.length 0 l d false = .go d' false) : roundsV l f d = (0, 0) := by
  obtain ⟨f', rfl⟩ : ∃ f', f = f' + 1 := ⟨f - 1, by omega⟩
  rw [roundsV, h]
theorem rounds_bad {l : List InsD} {f : Nat} {d : List Int} {c p : Int} (hf : negs d < f) (h : fromV l.length 0 l d false = .bad c p) : roundsV l f d = (c, p) := by
  obtain ⟨f', rfl⟩ : ∃ f', f = f' + 1 := ⟨f - 1, by omega⟩
  rw [roundsV, h]
/-- What the form has told of an instruction. -/
theorem form_all {cells len result : Int} : ∀ (l : List InsD) (i : Nat), formAt cells len result i l = none → ∀ x ∈ l, insB x cells len result = true
  | [], _, _, x, hx => by cases hx
  | y :: r, i, h, x, hx => by
    rw [formAt] at h
    split at h
    · rcases List.mem_cons.1 hx with rfl | hx
      · assumption
      · exact form_all r _ h x hx
    · cases h
theorem ins_leaves {x : InsD} {cells len result : Int} (h : insB x cells len result = true) : 0 ≤ leaves x := by
  unfold leaves
  by_cases h13 : x.op = 13
  · unfold insB argB at h
    simp [h13, inB] at h
    simp [h13]
    omega
  · repeat (first | omega | split)
theorem ins_jump {x : InsD} {cells len result : Int} (h : insB x cells len result = true) (hj : x.op = 11 ∨ x.op = 12) : 0 ≤ x.a ∧ x.a < len := by
  unfold insB argB at h
  rcases hj with e | e <;> simp [e, inB] at h <;> omega
end Go.Proofs.YtfbglokjehmgeaaGreatDoor

/- The program's look at an instruction, over plain data, beside the model's. No condition. -/
namespace Go.Proofs.YtfbglokjehmgeaaGreatDoor
open Go.RowKit

/-- Whether A is within its bounds, as the program's table asks it. -/
def fitB (op a cells len result : Int) : Bool :=
  if op = 1 then true
  else if op = 2 then decide (0 ≤ a) && decide (a < cells)
  else if op = 6 then decide (1 ≤ a) && decide (a ≤ 100)
  else if op = 7 then decide (0 ≤ a) && decide (a < 11)
  else if op = 11 ∨ op = 12 then decide (0 ≤ a) && decide (a < len)
  else if op = 13 then decide (0 ≤ a) && decide (a ≤ 20)
  else if op = 14 then decide (a = result)
  else if op = 15 then decide (1 ≤ a) && decide (a ≤ 3)
  else if op = 16 then decide (a = 1) || decide (a = 3)
  else if op = 17 then decide (1 ≤ a) && decide (a ≤ 5)
  else decide (a = 0)
/-- The program's look at an instruction. -/
def formB (x : InsD) (cells len result : Int) : Bool :=
  (decide (1 ≤ x.op) && decide (x.op ≤ 17) && fitB x.op x.a cells len result) && (decide (x.b = 0) || (decide (x.op = 13) && decide (x.b = 1))) && (if namedB x.op then ownB x.mod && ownB x.name else emB x.mod && emB x.name)
theorem em_size {s : ByteArray} (h : emB s = true) : s.size = 0 := by
  unfold emB at h
  have h' : s.data.toList = [] := by
    have := eq_of_beq h
    rwa [ByteArray.toList_eq] at this
  have : s.data.size = 0 := by rw [← Array.length_toList, h']; rfl
  exact this
theorem own_em (s : ByteArray) (h : emB s = true) : ownB s = false := by
  unfold ownB nameB
  rw [em_size h]
  rfl
theorem arg_fit {op a b cells len result : Int} (h0 : 0 ≤ cells) (h1 : cells ≤ 2000) (ho : 1 ≤ op) (ho2 : op ≤ 17) (hb : b = 0 ∨ op = 13 ∧ b = 1) : argB op a b cells len result = fitB op a cells len result := by
  have hw : wrap64 (cells - 1) = cells - 1 := by unfold wrap64; omega
  have : op = 1 ∨ op = 2 ∨ op = 3 ∨ op = 4 ∨ op = 5 ∨ op = 6 ∨ op = 7 ∨ op = 8 ∨ op = 9 ∨ op = 10 ∨ op = 11 ∨ op = 12 ∨ op = 13 ∨ op = 14 ∨ op = 15 ∨ op = 16 ∨ op = 17 := by omega
  rw [Bool.eq_iff_iff]
  rcases this with rfl | rfl | rfl | rfl | rfl | rfl | rfl | rfl | rfl | rfl | rfl | rfl | rfl | rfl | rfl | rfl | rfl <;> simp [argB, fitB, inB, hw] <;> omega
theorem arg_out {op a b cells len result : Int} (ho : ¬(1 ≤ op ∧ op ≤ 17)) : argB op a b cells len result = false := by
  unfold argB
  rw [if_neg (by omega), if_neg (by omega), if_neg (by omega), if_neg (by omega), if_neg (by omega), if_neg (by omega), if_neg (by omega), if_neg (by omega), if_neg (by omega)]
  have : inB op 3 10 = false := by unfold inB; simp; omega
  rw [this, Bool.and_false]
theorem ins_form {x : InsD} {cells len result : Int} (h0 : 0 ≤ cells) (h1 : cells ≤ 2000) : insB x cells len result = formB x cells len result := by
  unfold insB formB
  by_cases ho : 1 ≤ x.op ∧ x.op ≤ 17
  · rw [decide_eq_true ho.1, decide_eq_true ho.2]
    by_cases hb : x.b = 0 ∨ x.op = 13 ∧ x.b = 1
    · rw [arg_fit h0 h1 ho.1 ho.2 hb]
      have e1 : (decide (x.op = 13) || decide (x.b = 0)) = true := by
        rcases hb with e | e <;> simp [e]
      have e2 : (decide (x.b = 0) || (decide (x.op = 13) && decide (x.b = 1))) = true := by
        rcases hb with e | e <;> simp [e]
      rw [e1, e2]
      generalize fitB x.op x.a cells len result = f
      cases namedB x.op with
      | false => cases emB x.mod <;> cases emB x.name <;> cases f <;> rfl
      | true =>
        cases hm : emB x.mod <;> cases hn : emB x.name <;> cases f <;> simp
        rw [own_em _ hm]
        simp
    · have e2 : (decide (x.b = 0) || (decide (x.op = 13) && decide (x.b = 1))) = false := by
        have := not_or.1 hb
        simp [this.1]
        intro e q
        exact this.2 ⟨e, q⟩
      rw [e2]
      have : ((decide (x.op = 13) || decide (x.b = 0)) && argB x.op x.a x.b cells len result) = false := by
        by_cases h13 : x.op = 13
        · have hb1 : ¬ (0 ≤ x.b ∧ x.b ≤ 1) := by omega
          have : inB x.b 0 1 = false := by unfold inB; simp; omega
          simp [h13, argB, this]
        · have : x.b ≠ 0 := by omega
          simp [h13, this]
      rw [Bool.and_assoc, this]
      simp
  · rw [arg_out ho]
    have : (decide (1 ≤ x.op) && decide (x.op ≤ 17)) = false := by simp; omega
    rw [this]
    simp
end Go.Proofs.YtfbglokjehmgeaaGreatDoor

/- What verifies is small: names within their bound, a list of 1 to 2000. No condition. -/
namespace Go.Proofs.YtfbglokjehmgeaaGreatDoor
open Go.RowKit Go.PlainAid

theorem own_small {s : ByteArray} (h : ownB s = true) : s.size ≤ 40 := by
  unfold ownB nameB at h
  simp only [Bool.and_eq_true, decide_eq_true_eq] at h
  exact h.1.1.2
theorem em_own_small {s : ByteArray} (h : emB s = true ∨ ownB s = true) : s.size ≤ 40 := by
  rcases h with h | h
  · have := em_size h
    omega
  · exact own_small h
theorem ins_small {x : InsD} {cells len result : Int} (h : insB x cells len result = true) : x.mod.size ≤ 40 ∧ x.name.size ≤ 40 := by
  unfold insB at h
  simp only [Bool.and_eq_true, Bool.or_eq_true, beq_iff_eq, Bool.not_eq_true'] at h
  obtain ⟨⟨⟨h1, h2⟩, -⟩, -⟩ := h
  rcases h2 with h2 | h2
  · rw [h2] at h1
    have e1 : emB x.mod = true := by
      cases he : emB x.mod with
      | true => rfl
      | false => rw [he] at h1; cases h1
    have e2 : emB x.name = true := by
      cases he : emB x.name with
      | true => rfl
      | false => rw [he, e1] at h1; cases h1
    exact ⟨em_own_small (.inl e1), em_own_small (.inl e2)⟩
  · exact ⟨own_small h2.1, own_small h2.2⟩
theorem form_small {cells len result : Int} : ∀ {l : List InsD} {i : Nat}, formAt cells len result i l = none → ∀ y ∈ l, y.mod.size ≤ 40 ∧ y.name.size ≤ 40
  | [], _, _, y, hy => by cases hy
  | x :: r, i, h, y, hy => by
    unfold formAt at h
    by_cases hx : insB x cells len result = true
    · rw [if_pos hx] at h
      rcases List.mem_cons.1 hy with rfl | hy
      · exact ins_small hx
      · exact form_small h y hy
    · rw [if_neg hx] at h
      cases h
theorem verC_small {x : CodeD} (h : (verC x).1 = 0) : x.name.size ≤ 40 ∧ x.list.length ≤ 2000 ∧ (∀ y ∈ x.list, y.mod.size ≤ 40 ∧ y.name.size ≤ 40) ∧ 0 < x.list.length := by
  unfold verC at h
  by_cases hh : headB x = true
  · rw [if_pos hh] at h
    have hf : formAt x.cells x.list.length x.result 0 x.list = none := by
      cases hf : formAt x.cells x.list.length x.result 0 x.list with
      | none => rfl
      | some i => rw [hf] at h; cases h
    unfold headB at hh
    simp only [Bool.and_eq_true, Bool.or_eq_true, decide_eq_true_eq] at hh
    obtain ⟨⟨⟨⟨⟨⟨h1, h2⟩, -⟩, -⟩, -⟩, h3⟩, -⟩ := hh
    exact ⟨em_own_small h3, h2, form_small hf, by omega⟩
  · rw [if_neg hh] at h
    cases h
end Go.Proofs.YtfbglokjehmgeaaGreatDoor

namespace Go.Proofs.YtfbglokjehmgeaaGreatDoor
open Go.RowKit

inductive VerW where
  | bad (code at_ : Int)
  | go (d : List Int) (wt : List Bool)
inductive VerR where
  | bad (code at_ : Int)
  | go (d : List Int) (wt : List Bool) (more : Bool)
def goW (n i : Nat) (now : Int) : List Int → List Int → List Bool → VerW
  | [], d, wt => .go d wt
  | t :: r, d, wt => if t = n then .bad 10 i else if d.getD t.toNat 0 < 0 then goW n i now r (d.set t.toNat now) (wt.set t.toNat true) else if d.getD t.toNat 0 ≠ now then .bad 8 i else goW n i now r d wt
def stepW (n i : Nat) (x : InsD) (d : List Int) (wt : List Bool) : VerW :=
  let di := d.getD i 0
  if di < takes x then .bad 11 i
  else
    let now := di - takes x + leaves x
    if 60 < now then .bad 14 i
    else if x.op = 14 ∧ now ≠ 0 then .bad 8 i
    else goW n i now (follows x i) d wt
def fromW (n : Nat) : Nat → List InsD → List Int → List Bool → Bool → VerR
  | _, [], d, wt, m => .go d wt m
  | i, x :: r, d, wt, m =>
    if wt.getD i false then match stepW n i x d (wt.set i false) with
      | .bad c p => .bad c p
      | .go d' wt' => fromW n (i + 1) r d' wt' true
    else fromW n (i + 1) r d wt m
def throughW (l : List InsD) : Nat → List Int → List Bool → Int × Int
  | 0, _, _ => (0, 0)
  | f + 1, d, wt => match fromW l.length 0 l d wt false with
    | .bad c p => (c, p)
    | .go d' wt' true => throughW l f d' wt'
    | .go _ _ false => (0, 0)

theorem neg_in {d : List Int} {t : Nat} (h : d.getD t 0 < 0) : t < d.length := by
  by_cases k : t < d.length
  · exact k
  · rw [List.getD_eq_getElem?_getD, List.getElem?_eq_none (by omega)] at h
    simp at h
theorem getD_set {α : Type} (d : List α) (t j : Nat) (y z : α) : (d.set t y).getD j z = if t = j ∧ t < d.length then y else d.getD j z := by
  rw [List.getD_eq_getElem?_getD, List.getD_eq_getElem?_getD, List.getElem?_set]
  by_cases h : t = j
  · subst h
    by_cases k : t < d.length
    · simp [k]
    · simp [k]
  · simp [h]
/-- From one state of the depths to a later one: what was reached stays as it is. -/
def Dle (d d' : List Int) : Prop := d'.length = d.length ∧ ∀ j, 0 ≤ d.getD j 0 → d'.getD j 0 = d.getD j 0
theorem Dle.refl (d : List Int) : Dle d d := ⟨rfl, fun _ _ => rfl⟩
theorem Dle.trans {d e f : List Int} (h : Dle d e) (k : Dle e f) : Dle d f := ⟨k.1.trans h.1, fun j hj => by
  have h1 := h.2 j hj
  rw [k.2 j (by omega), h1]⟩
theorem Dle.set {d : List Int} {t : Nat} {y : Int} (h : d.getD t 0 < 0) : Dle d (d.set t y) := ⟨by simp, fun j hj => by
  rw [getD_set]
  by_cases k : t = j ∧ t < d.length
  · obtain ⟨rfl, -⟩ := k
    omega
  · rw [if_neg k]⟩
/-- What has been looked at: nothing is left to be found there. -/
def Done (l : List InsD) (d : List Int) (i : Nat) : Prop := ∀ x, l[i]? = some x → takes x ≤ d.getD i 0 ∧ d.getD i 0 - takes x + leaves x ≤ 60 ∧ ¬(x.op = 14 ∧ d.getD i 0 - takes x + leaves x ≠ 0) ∧ ∀ t ∈ follows x i, t ≠ l.length ∧ d.getD t.toNat 0 = d.getD i 0 - takes x + leaves x
def WInv (l : List InsD) (d : List Int) (wt : List Bool) : Prop := d.length = l.length ∧ wt.length = l.length ∧ (∀ x ∈ l, 0 ≤ leaves x) ∧ (∀ i, wt.getD i false = true → 0 ≤ d.getD i 0) ∧ ∀ i, i < l.length → wt.getD i false = false → 0 ≤ d.getD i 0 → Done l d i
theorem goTo_done {n i : Nat} {now : Int} (hn : 0 ≤ now) : ∀ (ts : List Int) (d : List Int) (ag : Bool), (∀ t ∈ ts, t ≠ (n : Int) ∧ d.getD t.toNat 0 = now) → goTo n i now ts d ag = .go d ag
  | [], _, _, _ => rfl
  | t :: r, d, ag, h => by
    have ht := h t (by simp)
    rw [goTo, if_neg ht.1, if_neg (by rw [ht.2]; omega), if_neg (by rw [ht.2]; simp)]
    exact goTo_done hn r d ag fun u hu => h u (by simp [hu])
theorem one_done {l : List InsD} {d : List Int} {i : Nat} {x : InsD} (hx : l[i]? = some x) (hl : 0 ≤ leaves x) (h : Done l d i) (ag : Bool) : oneV l.length i x d ag = .go d ag := by
  obtain ⟨h1, h2, h3, h4⟩ := h x hx
  unfold oneV
  simp only []
  split
  · rfl
  · rw [if_neg (by omega), if_neg (by omega)]
    first | rw [if_neg h3] | skip
    exact goTo_done (by omega) _ _ _ h4
theorem one_not {n i : Nat} {x : InsD} {d : List Int} (h : d.getD i 0 < 0) (ag : Bool) : oneV n i x d ag = .go d ag := by
  unfold oneV
  simp only []
  rw [if_pos h]
theorem Done.later {l : List InsD} {d d' : List Int} {i : Nat} (h : Done l d i) (k : Dle d d') (hi : 0 ≤ d.getD i 0) (hl : ∀ x ∈ l, 0 ≤ leaves x) : Done l d' i := by
  intro x hx
  obtain ⟨h1, h2, h3, h4⟩ := h x hx
  have hlx := hl x (List.mem_of_getElem? hx)
  rw [k.2 i hi]
  refine ⟨h1, h2, h3, fun t ht => ?_⟩
  obtain ⟨g1, g2⟩ := h4 t ht
  exact ⟨g1, by rw [k.2 _ (by omega), g2]⟩
/-- Both ways over what follows, side by side. -/
theorem goBoth {n i : Nat} {now : Int} (hn : 0 ≤ now) : ∀ (ts : List Int) (d : List Int) (ag : Bool) (wt : List Bool), wt.length = d.length →
    (∃ c p, goTo n i now ts d ag = .bad c p ∧ goW n i now ts d wt = .bad c p) ∨
    (∃ d' ag' wt', goTo n i now ts d ag = .go d' ag' ∧ goW n i now ts d wt = .go d' wt' ∧ Dle d d' ∧ wt'.length = wt.length ∧ (∀ t ∈ ts, t ≠ (n : Int) ∧ d'.getD t.toNat 0 = now) ∧ (ag' = false → ag = false ∧ wt' = wt ∧ d' = d) ∧ (∀ j, wt.getD j false = true → wt'.getD j false = true) ∧ (∀ j, wt'.getD j false = true → wt.getD j false = true ∨ 0 ≤ d'.getD j 0) ∧ (∀ j, wt'.getD j false = false → 0 ≤ d'.getD j 0 → 0 ≤ d.getD j 0) ∧ 2 * negs d' + wt'.countP id ≤ 2 * negs d + wt.countP id)
  | [], d, ag, wt, _ => .inr ⟨d, ag, wt, rfl, rfl, Dle.refl d, rfl, by simp, fun h => ⟨h, rfl, rfl⟩, fun _ h => h, fun _ h => .inl h, fun _ _ h => h, Nat.le_refl _⟩
  | t :: r, d, ag, wt, hw => by
    rw [goTo, goW]
    by_cases h1 : t = (n : Int)
    · rw [if_pos h1, if_pos h1]
      exact .inl ⟨_, _, rfl, rfl⟩
    · rw [if_neg h1, if_neg h1]
      by_cases h2 : d.getD t.toNat 0 < 0
      · rw [if_pos h2, if_pos h2]
        have ht := neg_in h2
        rcases goBoth hn r (d.set t.toNat now) true (wt.set t.toNat true) (by simp [hw]) with ⟨c, p, e1, e2⟩ | ⟨d', ag', wt', e1, e2, a1, a2, a3, a4, a5, a6, a7, a8⟩
        · exact .inl ⟨c, p, e1, e2⟩
        · have here : (d.set t.toNat now).getD t.toNat 0 = now := by rw [getD_set, if_pos ⟨rfl, ht⟩]
          refine .inr ⟨d', ag', wt', e1, e2, (Dle.set h2).trans a1, by rw [a2]; simp, ?_, ?_, ?_, ?_, ?_, ?_⟩
          · intro u hu
            rcases List.mem_cons.1 hu with rfl | hu
            · exact ⟨h1, by rw [a1.2 _ (by rw [here]; exact hn), here]⟩
            · exact a3 u hu
          · intro e
            have := (a4 e).1
            cases this
          · intro j hj
            refine a5 j ?_
            rw [getD_set]
            split
            · rfl
            · exact hj
          · intro j hj
            rcases a6 j hj with k | k
            · rw [getD_set] at k
              split at k
              · rename_i q
                obtain ⟨rfl, -⟩ := q
                exact .inr (by rw [a1.2 _ (by rw [here]; exact hn), here]; exact hn)
              · exact .inl k
            · exact .inr k
          · intro j hj hd
            have k := a7 j hj hd
            rw [getD_set] at k
            split at k
            · rename_i q
              obtain ⟨rfl, -⟩ := q
              have := a5 t.toNat (by rw [getD_set, if_pos ⟨rfl, by omega⟩])
              rw [this] at hj
              cases hj
            · exact k
          · have n1 := negs_set (y := now) h2 hn
            have n2 : (wt.set t.toNat true).countP id ≤ wt.countP id + 1 := by
              rw [List.countP_set (by omega)]
              first | omega | (simp; omega) | simp
            omega
      · rw [if_neg h2, if_neg h2]
        by_cases h3 : d.getD t.toNat 0 ≠ now
        · rw [if_pos h3, if_pos h3]
          exact .inl ⟨_, _, rfl, rfl⟩
        · rw [if_neg h3, if_neg h3]
          rcases goBoth hn r d ag wt hw with ⟨c, p, e1, e2⟩ | ⟨d', ag', wt', e1, e2, a1, a2, a3, a4, a5, a6, a7, a8⟩
          · exact .inl ⟨c, p, e1, e2⟩
          · refine .inr ⟨d', ag', wt', e1, e2, a1, a2, ?_, a4, a5, a6, a7, a8⟩
            intro u hu
            rcases List.mem_cons.1 hu with rfl | hu
            · exact ⟨h1, by rw [a1.2 _ (by omega)]; simpa using h3⟩
            · exact a3 u hu
def mu (d : List Int) (wt : List Bool) : Nat := 2 * negs d + wt.countP id
theorem wt_in {wt : List Bool} {i : Nat} (h : wt.getD i false = true) : i < wt.length := by
  by_cases k : i < wt.length
  · exact k
  · rw [List.getD_eq_getElem?_getD, List.getElem?_eq_none (by omega)] at h
    simp at h
theorem unwait {wt : List Bool} {i : Nat} (h : wt.getD i false = true) : (wt.set i false).countP id + 1 = wt.countP id := by
  have hi := wt_in h
  rw [List.getD_eq_getElem?_getD, List.getElem?_eq_getElem hi] at h
  simp only [Option.getD_some] at h
  have hpos : 0 < wt.countP id := List.countP_pos_iff.2 ⟨wt[i], List.getElem_mem hi, by simpa using h⟩
  rw [List.countP_set hi, if_pos (by simpa using h)]
  simp
  omega
/-- One look at an instruction that waits: as the model looks. -/
theorem stepBoth {l : List InsD} {i : Nat} {x : InsD} {d : List Int} {wt : List Bool} (hx : l[i]? = some x) (hI : WInv l d wt) (hw : wt.getD i false = true) (ag : Bool) :
    (∃ c p, oneV l.length i x d ag = .bad c p ∧ stepW l.length i x d (wt.set i false) = .bad c p) ∨
    (∃ d' ag' wt', oneV l.length i x d ag = .go d' ag' ∧ stepW l.length i x d (wt.set i false) = .go d' wt' ∧ WInv l d' wt' ∧ (ag' = false → ag = false ∧ wt' = wt.set i false) ∧ mu d' wt' < mu d wt) := by
  obtain ⟨i1, i2, i3, i4, i5⟩ := hI
  have hd := i4 i hw
  have hlx := i3 x (List.mem_of_getElem? hx)
  have hin := wt_in hw
  unfold oneV stepW
  simp only []
  rw [if_neg (by omega)]
  by_cases h1 : d.getD i 0 < takes x
  · rw [if_pos h1, if_pos h1]
    exact .inl ⟨_, _, rfl, rfl⟩
  · rw [if_neg h1, if_neg h1]
    by_cases h2 : 60 < d.getD i 0 - takes x + leaves x
    · rw [if_pos h2, if_pos h2]
      exact .inl ⟨_, _, rfl, rfl⟩
    · rw [if_neg h2, if_neg h2]
      by_cases h3 : x.op = 14 ∧ d.getD i 0 - takes x + leaves x ≠ 0
      · rw [if_pos h3, if_pos h3]
        exact .inl ⟨_, _, rfl, rfl⟩
      · rw [if_neg h3, if_neg h3]
        have hu := unwait hw
        rcases goBoth (n := l.length) (i := i) (now := d.getD i 0 - takes x + leaves x) (by omega) (follows x i) d ag (wt.set i false) (by simp; omega) with ⟨c, p, e1, e2⟩ | ⟨d', ag', wt', e1, e2, a1, a2, a3, a4, a5, a6, a7, a8⟩
        · exact .inl ⟨c, p, e1, e2⟩
        · refine .inr ⟨d', ag', wt', e1, e2, ⟨by rw [a1.1, i1], by rw [a2]; simp [i2], i3, ?_, ?_⟩, fun e => ⟨(a4 e).1, (a4 e).2.1⟩, by unfold mu; omega⟩
          · intro j hj
            rcases a6 j hj with k | k
            · rw [getD_set] at k
              split at k
              · cases k
              · have := i4 j k
                rw [a1.2 j this]
                exact this
            · exact k
          · intro j hj hjw hjd
            have back := a7 j hjw hjd
            by_cases hji : j = i
            · subst hji
              intro y hy
              rw [hx] at hy
              cases hy
              rw [a1.2 j hd]
              exact ⟨by omega, by omega, h3, a3⟩
            · refine (i5 j hj ?_ back).later a1 back i3
              cases hq : wt.getD j false with
              | false => rfl
              | true =>
                have := a5 j (by rw [getD_set, if_neg (by omega)]; exact hq)
                rw [this] at hjw
                cases hjw
/-- A round, side by side. -/
theorem fromBoth {l : List InsD} : ∀ (r : List InsD) (i : Nat) (d : List Int) (wt : List Bool) (ag m : Bool), (∀ k, r[k]? = l[i + k]?) → WInv l d wt → (ag = true → m = true) → (ag = false → ∀ j, j < i → wt.getD j false = false) →
    (∃ c p, fromV l.length i r d ag = .bad c p ∧ fromW l.length i r d wt m = .bad c p) ∨
    (∃ d' ag' wt' m', fromV l.length i r d ag = .go d' ag' ∧ fromW l.length i r d wt m = .go d' wt' m' ∧ WInv l d' wt' ∧ (ag' = true → m' = true) ∧ (ag' = false → ∀ j, wt'.getD j false = false) ∧ mu d' wt' ≤ mu d wt ∧ (m' = true → m = true ∨ mu d' wt' < mu d wt))
  | [], i, d, wt, ag, m, hr, hI, h1, h2 => by
    refine .inr ⟨d, ag, wt, m, rfl, rfl, hI, h1, fun e j => ?_, Nat.le_refl _, fun h => .inl h⟩
    by_cases hj : j < i
    · exact h2 e j hj
    · have hl : l.length ≤ i := by
        have := hr 0
        simp at this
        exact this
      cases hq : wt.getD j false with
      | false => rfl
      | true =>
        have := wt_in hq
        have := hI.2.1
        omega
  | x :: r, i, d, wt, ag, m, hr, hI, h1, h2 => by
    have hx : l[i]? = some x := by simpa using (hr 0).symm
    have hr' : ∀ k, r[k]? = l[i + 1 + k]? := fun k => by
      have := hr (k + 1)
      rw [List.getElem?_cons_succ] at this
      rw [this, Nat.add_right_comm, Nat.add_assoc]
    have hi : i < l.length := by
      by_cases q : i < l.length
      · exact q
      · rw [List.getElem?_eq_none (by omega)] at hx
        cases hx
    rw [fromV, fromW]
    cases hw : wt.getD i false with
    | true =>
      rw [if_pos rfl]
      rcases stepBoth hx hI hw ag with ⟨c, p, e1, e2⟩ | ⟨d', ag', wt', e1, e2, I', a1, a2⟩
      · rw [e1, e2]
        exact .inl ⟨c, p, rfl, rfl⟩
      · rw [e1, e2]
        have hq : ag' = false → ∀ j, j < i + 1 → wt'.getD j false = false := fun e j hj => by
          obtain ⟨e0, ew⟩ := a1 e
          rw [ew, getD_set]
          split
          · rfl
          · exact h2 e0 j (by have := wt_in hw; have := hI.2.1; omega)
        rcases fromBoth r (i + 1) d' wt' ag' true hr' I' (fun _ => rfl) hq with ⟨c, p, e1, e2⟩ | ⟨d2, ag2, wt2, m2, e1, e2, I2, b1, b2, b3, b4⟩
        · exact .inl ⟨c, p, e1, e2⟩
        · exact .inr ⟨d2, ag2, wt2, m2, e1, e2, I2, b1, b2, by omega, fun _ => .inr (by omega)⟩
    | false =>
      rw [if_neg (by simp)]
      have hone : oneV l.length i x d ag = .go d ag := by
        by_cases hd : d.getD i 0 < 0
        · exact one_not hd ag
        · exact one_done hx (hI.2.2.1 x (List.mem_of_getElem? hx)) (hI.2.2.2.2 i hi hw (by omega)) ag
      rw [hone]
      have hq : ag = false → ∀ j, j < i + 1 → wt.getD j false = false := fun e j hj => by
        by_cases q : j = i
        · subst q; exact hw
        · exact h2 e j (by omega)
      rcases fromBoth r (i + 1) d wt ag m hr' hI h1 hq with ⟨c, p, e1, e2⟩ | ⟨d2, ag2, wt2, m2, e1, e2, I2, b1, b2, b3, b4⟩
      · exact .inl ⟨c, p, e1, e2⟩
      · exact .inr ⟨d2, ag2, wt2, m2, e1, e2, I2, b1, b2, b3, b4⟩
theorem from_idle {n : Nat} {wt : List Bool} (h : ∀ j, wt.getD j false = false) : ∀ (r : List InsD) (i : Nat) (d : List Int) (m : Bool), fromW n i r d wt m = .go d wt m
  | [], _, _, _ => rfl
  | x :: r, i, d, m => by
    rw [fromW, h i, if_neg (by simp)]
    exact from_idle h r _ _ _
theorem through_eq {l : List InsD} : ∀ (f g : Nat) (d : List Int) (wt : List Bool), WInv l d wt → mu d wt < f → negs d < g → throughW l f d wt = roundsV l g d := by
  intro f
  induction f with
  | zero => intro g d wt _ h; omega
  | succ f ih =>
    intro g d wt hI hf hg
    obtain ⟨g, rfl⟩ : ∃ g', g = g' + 1 := ⟨g - 1, by omega⟩
    rw [throughW, roundsV]
    rcases fromBoth l 0 d wt false false (fun k => by simp) hI (by simp) (fun _ j hj => by omega) with ⟨c, p, e1, e2⟩ | ⟨d', ag', wt', m', e1, e2, I', b1, b2, b3, b4⟩
    · rw [e1, e2]
    · rw [e1, e2]
      have hlt : m' = true → mu d' wt' < mu d wt := fun e => (b4 e).resolve_left (by simp)
      cases ag' with
      | true =>
        have := b1 rfl
        subst this
        refine ih g d' wt' I' (by have := hlt rfl; omega) ?_
        have := ((fromV_fwd l 0 d false d' true hI.2.2.1 e1).2.2 rfl).resolve_left (by simp)
        omega
      | false =>
        cases m' with
        | false => rfl
        | true =>
          have := hlt rfl
          obtain ⟨f, rfl⟩ : ∃ f', f = f' + 1 := ⟨f - 1, by omega⟩
          show throughW l (f + 1) d' wt' = (0, 0)
          rw [throughW, from_idle (b2 rfl)]
theorem getD_rep {α : Type} (n j : Nat) (y z : α) : (List.replicate n y).getD j z = if j < n then y else z := by
  rw [List.getD_eq_getElem?_getD, List.getElem?_replicate]
  split <;> simp
theorem wk_start {l : List InsD} (h0 : 0 < l.length) (hl : ∀ x ∈ l, 0 ≤ leaves x) : WInv l ((List.replicate l.length (-1)).set 0 0) ((List.replicate l.length false).set 0 true) := by
  refine ⟨by simp, by simp, hl, fun i h => ?_, fun i hi hw hd => ?_⟩
  · rw [getD_set, getD_rep] at h
    rw [getD_set, getD_rep]
    split
    · omega
    · rename_i q
      rw [if_neg (by simpa using q)] at h
      split at h <;> cases h
  · rw [getD_set, getD_rep] at hw hd
    by_cases q : 0 = i
    · subst q
      simp [h0] at hw
    · rw [if_neg (fun k => q k.1), if_pos hi] at hd
      omega
theorem through_start {l : List InsD} (h0 : 0 < l.length) (hl : ∀ x ∈ l, 0 ≤ leaves x) : ∃ f, mu ((List.replicate l.length (-1)).set 0 0) ((List.replicate l.length false).set 0 true) < f ∧ throughW l f ((List.replicate l.length (-1)).set 0 0) ((List.replicate l.length false).set 0 true) = roundsV l (l.length + 1) ((List.replicate l.length (-1)).set 0 0) := by
  refine ⟨_, Nat.lt_succ_self _, through_eq _ _ _ _ (wk_start h0 hl) (Nat.lt_succ_self _) ?_⟩
  have := negs_le ((List.replicate l.length (-1 : Int)).set 0 0)
  simp at this
  omega
/-- A round of the program that has looked at one has less before it. -/
theorem through_step {l : List InsD} {f : Nat} {d d' : List Int} {wt wt' : List Bool} (hI : WInv l d wt) (hf : mu d wt < f) (h : fromW l.length 0 l d wt false = .go d' wt' true) : ∃ f', mu d' wt' < f' ∧ throughW l f d wt = throughW l f' d' wt' ∧ WInv l d' wt' ∧ mu d' wt' < mu d wt := by
  obtain ⟨f, rfl⟩ : ∃ f', f = f' + 1 := ⟨f - 1, by omega⟩
  rcases fromBoth l 0 d wt false false (fun k => by simp) hI (by simp) (fun _ j hj => by omega) with ⟨c, p, e1, e2⟩ | ⟨d2, ag2, wt2, m2, e1, e2, I', b1, b2, b3, b4⟩
  · rw [e2] at h
    cases h
  · rw [e2] at h
    cases h
    have := (b4 rfl).resolve_left (by simp)
    refine ⟨f, by omega, ?_, I', this⟩
    rw [throughW, e2]
theorem through_end {l : List InsD} {f : Nat} {d d' : List Int} {wt wt' : List Bool} (hf : mu d wt < f) (h : fromW l.length 0 l d wt false = .go d' wt' false) : throughW l f d wt = (0, 0) := by
  obtain ⟨f, rfl⟩ : ∃ f', f = f' + 1 := ⟨f - 1, by omega⟩
  rw [throughW, h]
theorem through_bad {l : List InsD} {f : Nat} {d : List Int} {wt : List Bool} {c p : Int} (hf : mu d wt < f) (h : fromW l.length 0 l d wt false = .bad c p) : throughW l f d wt = (c, p) := by
  obtain ⟨f, rfl⟩ : ∃ f', f = f' + 1 := ⟨f - 1, by omega⟩
  rw [throughW, h]
end Go.Proofs.YtfbglokjehmgeaaGreatDoor
