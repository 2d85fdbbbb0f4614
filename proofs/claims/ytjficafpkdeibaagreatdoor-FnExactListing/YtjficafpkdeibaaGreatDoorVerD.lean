/- How a code verifies, told once over plain data. No condition. -/
import Derived.Test.YtjficafpkdeibaaGreatDoorObjD
import Derived.Test.YtjficafpkdeibaaGreatDoorNames
namespace Go.Proofs.YtjficafpkdeibaaGreatDoor
open Go.RowKit

def emB (s : ByteArray) : Bool := s.toList == []
/-- What an instruction asks of its A, by its number. -/
def argB (op a : Int) (wr : Int) (cells len result : Int) : Bool :=
  if op = 1 then true
  else if op = 2 then inB a 0 (wrap64 (cells - 1))
  else if op = 6 then inB a 1 100
  else if op = 7 then inB a 0 10
  else if op = 11 ∨ op = 12 then inB a 0 (len - 1)
  else if op = 13 then inB a 0 20 && inB wr 0 1
  else if op = 14 then decide (a = result)
  else if op = 15 ∨ op = 16 then inB a 1 3 && (decide (op = 15) || decide (a ≠ 2))
  else if op = 17 then inB a 1 5
  else decide (a = 0) && inB op 3 10
def namedB (op : Int) : Bool := decide (op = 3) || decide (op = 13)
def insB (x : InsD) (cells len result : Int) : Bool :=
  (namedB x.op == (!(emB x.mod) || !(emB x.name))) && (!(namedB x.op) || (ownB x.mod && ownB x.name)) && (decide (x.op = 13) || decide (x.b = 0)) && argB x.op x.a x.b cells len result
/-- What it takes off the stack, what it leaves. -/
def takes (x : InsD) : Int := if x.op = 4 ∨ x.op = 8 ∨ x.op = 9 ∨ x.op = 10 then 1 else if x.op = 5 then 2 else if x.op = 6 ∨ x.op = 7 then 2 else if x.op = 12 ∨ x.op = 15 ∨ x.op = 16 then 1 else if x.op = 13 ∨ x.op = 14 then x.a else 0
def leaves (x : InsD) : Int := if x.op = 1 ∨ x.op = 2 ∨ x.op = 3 then 1 else if x.op = 4 ∨ x.op = 8 ∨ x.op = 9 ∨ x.op = 10 then 1 else if x.op = 6 ∨ x.op = 7 then 1 else if x.op = 13 then x.b else 0
/-- What follows an instruction: the place of its jump, then the next one. -/
def follows (x : InsD) (i : Nat) : List Int := (if x.op = 11 ∨ x.op = 12 then [x.a] else []) ++ (if x.op ≠ 11 ∧ x.op ≠ 14 ∧ x.op ≠ 17 then [(i : Int) + 1] else [])
/-- A fault, or the depths and whether a new one was reached. -/
inductive Ver where
  | bad (code at_ : Int)
  | go (d : List Int) (again : Bool)
def goTo (n i : Nat) (now : Int) : List Int → List Int → Bool → Ver
  | [], d, ag => .go d ag
  | t :: r, d, ag => if t = n then .bad 10 i else if d.getD t.toNat 0 < 0 then goTo n i now r (d.set t.toNat now) true else if d.getD t.toNat 0 ≠ now then .bad 8 i else goTo n i now r d ag
def oneV (n i : Nat) (x : InsD) (d : List Int) (ag : Bool) : Ver :=
  let di := d.getD i 0
  if di < 0 then .go d ag
  else if di < takes x then .bad 11 i
  else
    let now := di - takes x + leaves x
    if 60 < now then .bad 14 i
    else if x.op = 14 ∧ now ≠ 0 then .bad 8 i
    else goTo n i now (follows x i) d ag
def fromV (n : Nat) : Nat → List InsD → List Int → Bool → Ver
  | _, [], d, ag => .go d ag
  | i, x :: r, d, ag => match oneV n i x d ag with
    | .bad c p => .bad c p
    | .go d' ag' => fromV n (i + 1) r d' ag'
def roundsV (l : List InsD) : Nat → List Int → Int × Int
  | 0, _ => (0, 0)
  | f + 1, d => match fromV l.length 0 l d false with
    | .bad c p => (c, p)
    | .go d' true => roundsV l f d'
    | .go _ false => (0, 0)
/-- The first instruction that is not as the table says. -/
def formAt (cells len result : Int) : Nat → List InsD → Option Nat
  | _, [] => none
  | i, x :: r => if insB x cells len result then formAt cells len result (i + 1) r else some i
def headB (x : CodeD) : Bool := decide (x.list.length ≠ 0) && decide (x.list.length ≤ 2000) && inB x.params 0 20 && inB x.cells x.params 2000 && inB x.result 0 1 && (emB x.name || ownB x.name) && (!(emB x.name) || (decide (x.cells = 0) && decide (x.result = 0)))
def verC (x : CodeD) : Int × Int :=
  if headB x then match formAt x.cells x.list.length x.result 0 x.list with
    | some i => (3, i)
    | none => roundsV x.list (x.list.length + 1) ((List.replicate x.list.length (-1)).set 0 0)
  else (1, 0)
end Go.Proofs.YtjficafpkdeibaaGreatDoor
