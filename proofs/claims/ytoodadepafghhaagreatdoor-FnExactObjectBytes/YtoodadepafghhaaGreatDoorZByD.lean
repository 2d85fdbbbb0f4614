/- An object's bytes, as plain data. No condition. -/
import Derived.Test.YtoodadepafghhaaGreatDoorZObjD
import Derived.Test.YtoodadepafghhaaGreatDoorZNames
import Derived.Test.YtoodadepafghhaaGreatDoorZBytS
/- How a code verifies, told once over plain data. No condition. -/
namespace Go.Proofs.YtoodadepafghhaaGreatDoor
open Go.RowKit

def emB (s : ByteArray) : Bool := s.toList == []
/-- What an instruction asks of its A, by its number. -/
def argB (op a : Int) (wr : Int) (cells len result : Int) : Bool :=
  if op = 1 then true
  else if op = 2 then inB a 0 (wrap64 (cells - 1))
  else if op = 6 then inB a 1 100
  else if op = 7 then inB a 0 10
  else if op = 11 ∨ op = 12 then inB a 0 (len - 1)
  else if op = 13 then inB a 0 20 && inB wr 0 1
  else if op = 14 then decide (a = result)
  else if op = 15 ∨ op = 16 then inB a 1 3 && (decide (op = 15) || decide (a ≠ 2))
  else if op = 17 then inB a 1 5
  else decide (a = 0) && inB op 3 10
def namedB (op : Int) : Bool := decide (op = 3) || decide (op = 13)
def insB (x : InsD) (cells len result : Int) : Bool :=
  (namedB x.op == (!(emB x.mod) || !(emB x.name))) && (!(namedB x.op) || (ownB x.mod && ownB x.name)) && (decide (x.op = 13) || decide (x.b = 0)) && argB x.op x.a x.b cells len result
/-- What it takes off the stack, what it leaves. -/
def takes (x : InsD) : Int := if x.op = 4 ∨ x.op = 8 ∨ x.op = 9 ∨ x.op = 10 then 1 else if x.op = 5 then 2 else if x.op = 6 ∨ x.op = 7 then 2 else if x.op = 12 ∨ x.op = 15 ∨ x.op = 16 then 1 else if x.op = 13 ∨ x.op = 14 then x.a else 0
def leaves (x : InsD) : Int := if x.op = 1 ∨ x.op = 2 ∨ x.op = 3 then 1 else if x.op = 4 ∨ x.op = 8 ∨ x.op = 9 ∨ x.op = 10 then 1 else if x.op = 6 ∨ x.op = 7 then 1 else if x.op = 13 then x.b else 0
/-- What follows an instruction: the place of its jump, then the next one. -/
def follows (x : InsD) (i : Nat) : List Int := (if x.op = 11 ∨ x.op = 12 then [x.a] else []) ++ (if x.op ≠ 11 ∧ x.op ≠ 14 ∧ x.op ≠ 17 then [(i : Int) + 1] else [])
/-- A fault, or the depths and whether a new one was reached. -/
inductive Ver where
  | bad (code at_ : Int)
  | go (d : List Int) (again : Bool)
def goTo (n i : Nat) (now : Int) : List Int → List Int → Bool → Ver
  | [], d, ag => .go d ag
  | t :: r, d, ag => if t = n then .bad 10 i else if d.getD t.toNat 0 < 0 then goTo n i now r (d.set t.toNat now) true else if d.getD t.toNat 0 ≠ now then .bad 8 i else goTo n i now r d ag
def oneV (n i : Nat) (x : InsD) (d : List Int) (ag : Bool) : Ver :=
  let di := d.getD i 0
  if di < 0 then .go d ag
  else if di < takes x then .bad 11 i
  else
    let now := di - takes x + leaves x
    if 60 < now then .bad 14 i
    else if x.op = 14 ∧ now ≠ 0 then .bad 8 i
    else goTo n i now (follows x i) d ag
def fromV (n : Nat) : Nat → List InsD → List Int → Bool → Ver
  | _, [], d, ag => .go d ag
  | i, x :: r, d, ag => match oneV n i x d ag with
    | .bad c p => .bad c p
    | .go d' ag' => fromV n (i + 1) r d' ag'
def roundsV (l : List InsD) : Nat → List Int → Int × Int
  | 0, _ => (0, 0)
  | f + 1, d => match fromV l.length 0 l d false with
    | .bad c p => (c, p)
    | .go d' true => roundsV l f d'
    | .go _ false => (0, 0)
/-- The first instruction that is not as the table says. -/
def formAt (cells len result : Int) : Nat → List InsD → Option Nat
  | _, [] => none
  | i, x :: r => if insB x cells len result then formAt cells len result (i + 1) r else some i
def headB (x : CodeD) : Bool := decide (x.list.length ≠ 0) && decide (x.list.length ≤ 2000) && inB x.params 0 20 && inB x.cells x.params 2000 && inB x.result 0 1 && (emB x.name || ownB x.name) && (!(emB x.name) || (decide (x.cells = 0) && decide (x.result = 0)))
def verC (x : CodeD) : Int × Int :=
  if headB x then match formAt x.cells x.list.length x.result 0 x.list with
    | some i => (3, i)
    | none => roundsV x.list (x.list.length + 1) ((List.replicate x.list.length (-1)).set 0 0)
  else (1, 0)
end Go.Proofs.YtoodadepafghhaaGreatDoor

namespace Go.Proofs.YtoodadepafghhaaGreatDoor
open Go.RowKit

def needBs (x : NeedD) : List Int := txtB x.module ++ numB x.print
def globBs (x : GlobalD) : List Int := txtB x.name ++ [x.length % 256]
def insBs (x : InsD) : List Int := ([x.op % 256] ++ numB x.a) ++ (if namedB x.op then (([x.b % 256] ++ txtB x.mod) ++ txtB x.name) else [])
def pairB (n : Int) : List Int := [n / 256 % 256, n % 256]
def inssBs : List InsD → List Int
  | [] => []
  | x :: r => insBs x ++ inssBs r
def codeHd (x : CodeD) : List Int := (((txtB x.name ++ [x.params % 256]) ++ pairB x.cells) ++ [x.result % 256]) ++ pairB x.list.length
def codeBs (x : CodeD) : List Int := codeHd x ++ inssBs x.list
theorem inss_app (a b : List InsD) : inssBs (a ++ b) = inssBs a ++ inssBs b := by
  induction a with
  | nil => rfl
  | cons x r ih => rw [List.cons_append, inssBs, inssBs, ih, List.append_assoc]
theorem inss_take {l : List InsD} {k : Nat} (h : k < l.length) : inssBs (l.take (k + 1)) = inssBs (l.take k) ++ insBs l[k] := by
  rw [List.take_succ_eq_append_getElem h, inss_app]
  congr 1
  simp [inssBs]
theorem txtB_len (s : ByteArray) : (txtB s).length = s.size + 1 := by unfold txtB; rw [List.length_cons, sb_len]
/-- What the bytes' bounds need of a code. -/
def SmallC (x : CodeD) : Prop := x.name.size ≤ 40 ∧ x.list.length ≤ 2000 ∧ ∀ y ∈ x.list, y.mod.size ≤ 40 ∧ y.name.size ≤ 40
theorem ins_blen (x : InsD) (h : x.mod.size ≤ 40 ∧ x.name.size ≤ 40) : (insBs x).length ≤ 100 := by
  unfold insBs
  split
  · simp only [List.length_append, txtB_len, numB_len, List.length_cons, List.length_nil]
    omega
  · simp only [List.length_append, numB_len, List.length_cons, List.length_nil]
    omega
theorem inss_blen : ∀ (l : List InsD), (∀ y ∈ l, y.mod.size ≤ 40 ∧ y.name.size ≤ 40) → (inssBs l).length ≤ 100 * l.length
  | [], _ => by simp [inssBs]
  | x :: r, h => by
    have h1 := ins_blen x (h x (by simp))
    have h2 := inss_blen r fun y hy => h y (by simp [hy])
    rw [inssBs, List.length_append, List.length_cons]
    omega
theorem code_blen (x : CodeD) (h : SmallC x) : (codeBs x).length ≤ 200100 := by
  obtain ⟨h1, h2, h3⟩ := h
  have := inss_blen x.list h3
  unfold codeBs codeHd pairB
  simp only [List.length_append, txtB_len, List.length_cons, List.length_nil]
  omega
theorem two_new (w : World) (x y : Int) (T : TypeId) : ∀ j u, (bc [x, y])[j]? = some u → (w.alloc (.cells #[.int .u8 x, .int .u8 y] T)).cell? ((⟨w.heap.size, 0, none⟩ : Addr).add j) = some u := by
  intro j u hu
  match j, hu with
  | 0, hu => simp [bc] at hu; subst hu; simp [Addr.add, go_sem]
  | 1, hu => simp [bc] at hu; subst hu; simp [Addr.add, go_sem]
  | j + 2, hu => simp [bc] at hu
set_option maxHeartbeats 1000000 in
theorem appendPair_any (B : Nat) (v : Value) (l : List Int) (n : Int) (w : World) (h : Own w B v l) (hB : B ≤ w.heap.size) (hl : l.length ≤ 1099511627776) :
    Calls Tryz.prog 109 #[v, .int .i64 n] w fun e w' => (∃ u, e = .returned u ∧ Own w' B u (l ++ pairB n)) ∧ Kp B w w' := by
  have H := hide h
  clear h
  go_enter Tryz.func109, Tryz.ntmps109
  go_wp2_with (at_builtin; refine wp_append_bytes rfl _ _ rfl B v l rfl (H.out.alloc _) ⟨w.heap.size, 0, none⟩ 2 2 [n / 256 % 256, n % 256] rfl rfl (two_new _ _ _ _) (by omega) (by simp; omega) ?_; intro v1 w1 h1 b1)
  go_ret
  exact ⟨⟨_, rfl, h1⟩, ((Kp.refl _ _).alloc hB _).trans b1⟩
theorem hasName_gw (x : InsD) (w : World) : Calls Tryz.prog 110 #[.agg #[.int .i64 x.op, .int .i64 x.a, .int .i64 x.b, .string x.mod, .string x.name]] w fun e w' => e = .returned (.bool (namedB x.op)) ∧ Below w.heap.size w w' := by
  obtain ⟨op, a, b, md, nm⟩ := x
  simp only []
  by_cases h3 : op = 3
  · subst h3
    go_enter Tryz.func110, Tryz.ntmps110
    go_wp2
    go_ret
    exact ⟨rfl, (Below.refl _ _).alloc (Nat.le_refl _) _⟩
  · by_cases h13 : op = 13
    · subst h13
      go_enter Tryz.func110, Tryz.ntmps110
      go_wp2
      go_ret
      exact ⟨rfl, (Below.refl _ _).alloc (Nat.le_refl _) _⟩
    · have e : namedB op = false := by unfold namedB; simp [h3, h13]
      go_enter Tryz.func110, Tryz.ntmps110
      go_wp2
      go_ret
      refine ⟨?_, (Below.refl _ _).alloc (Nat.le_refl _) _⟩
      show Ending.returned (.bool (op == 3 || op == 13)) = _
      rw [e]
      simp [h3, h13]
end Go.Proofs.YtoodadepafghhaaGreatDoor
