/- An object's bytes, as plain data. No condition. -/
import Derived.Test.YtpaljmhoojpbdaaDoorZBase
import Derived.LaidMore
import Derived.Stop.Joined
import Derived.Test.YtpaljmhoojpbdaaDoorZImpl
import Derived.BigQuiet
import Derived.Shelf.SlSortCmp.QuietGrown
import Derived.Test.YtpaljmhoojpbdaaDoorZObjD
import Derived.Test.YtpaljmhoojpbdaaDoorZBytA
/- IsKey: the program's table and the model's list hold the same words; both find a text there or not. The listed table is tied to the program's text by the card. -/
namespace Go.Proofs.YtpaljmhoojpbdaaDoor
open Go.RowKit

def keys : List (List UInt8) := [[77, 79, 68, 85, 76, 69], [73, 77, 80, 79, 82, 84], [67, 79, 78, 83, 84], [86, 65, 82], [80, 82, 79, 67, 69, 68, 85, 82, 69], [66, 69, 71, 73, 78], [69, 78, 68], [73, 70], [84, 72, 69, 78], [69, 76, 83, 73, 70], [69, 76, 83, 69], [87, 72, 73, 76, 69], [68, 79], [82, 69, 84, 85, 82, 78], [79, 82], [68, 73, 86], [77, 79, 68], [84, 82, 85, 69], [70, 65, 76, 83, 69], [65, 82, 82, 65, 89], [79, 70], [73, 78, 84, 69, 71, 69, 82], [66, 79, 79, 76, 69, 65, 78], [67, 72, 65, 82], [87, 82, 73, 84, 69], [82, 69, 65, 68], [79, 82, 68], [67, 72, 82], [76, 69, 78]]
theorem keys_laid : (Rows.laid_loop_example_g00168_impl_keyWords (H := Unit)) = .agg (keys.map fun z => .lit (.string z)) := rfl
theorem keys_len : keys.length = 29 := rfl

def keyAt (k : Nat) : List UInt8 := keys.getD k []
/-- A text is one of the words. -/
def keyB (s : ByteArray) : Bool := keys.any fun k => k == s.toList
theorem keyB_yes {s : ByteArray} {k : Nat} (hk : k < 29) (h : (keyAt k == s.toList) = true) : keyB s = true := by
  unfold keyB
  rw [List.any_eq_true]
  have hk' : k < keys.length := by rw [keys_len]; exact hk
  have e : keyAt k = keys[k] := by unfold keyAt; simp [List.getD, List.getElem?_eq_getElem hk']
  exact ⟨keys[k], List.getElem_mem hk', by rw [← e]; exact h⟩
theorem keyB_no {s : ByteArray} (h : ∀ k, k < 29 → (keyAt k == s.toList) = false) : keyB s = false := by
  unfold keyB
  rw [List.any_eq_false]
  intro x hx
  obtain ⟨k, hk, rfl⟩ := List.getElem_of_mem hx
  have e : keyAt k = keys[k] := by unfold keyAt; simp [List.getD, List.getElem?_eq_getElem hk]
  have := h k (by rw [keys_len] at hk; exact hk)
  rw [e] at this
  simpa using this

def keyRow : Array Value := (keys.map txt).toArray
theorem keyRow_size : keyRow.size = 29 := rfl
theorem run_index_key (k : Nat) (w : World) (hk : k < 29) : (Instr.index 150 (.agg keyRow) (.int .i64 k)).run Tryd.prog w = .ok (txt (keyAt k)) w :=
  run_index_texts 150 9 29 keys .i64 k w Tryd.underlying150 Tryd.underlying9 (by kernel_rfl) hk keys_len

set_option maxHeartbeats 800000 in
theorem implIsKey_any (s : ByteArray) (w : World) (t : TypeId) (fr : Nat × Nat) (hg : w.heap[1]? = some (.cells keyRow t fr)) :
    Calls Tryd.prog 63 #[.string s] w fun e w' => e = .returned (.bool (keyB s)) ∧ w = w' := by
  go_enter Tryd.func63, Tryd.ntmps63
  go_wp2_with (refine wpList_load_row rfl 150 _ rfl 1 rfl t _ fr _ hg Tryd.underlying150 rfl (by kernel_rfl) ?_)
  go_loop [6] (fun i => ∃ k : Nat, k ≤ 29 ∧ i = .int .i64 k ∧ ∀ j, j < k → (keyAt j == s.toList) = false) (fun i => 29 - (intOf i).toNat)
  case atStart => exact ⟨0, by omega, rfl, fun j hj => by omega⟩
  case round =>
    obtain ⟨k, hk, rfl, hall⟩ := hrel
    have Hall : Hid (∀ j, j < k → (keyAt j == s.toList) = false) := hall
    clear hall
    by_cases hp : k < 29
    · have hx := fun w' => run_index_key k w' hp
      simp only [txt] at hx
      cases f : keyAt k == s.toList
      · go_wp2
        go_round
        case rel =>
          refine ⟨k + 1, by omega, by go_num, fun j hj => ?_⟩
          by_cases e : j < k
          · exact Hall.out j e
          · obtain rfl : j = k := by omega
            exact f
        case measure => simp [intOf]; omega
      · go_wp2
        go_ret
        have := keyB_yes hp f
        exact ⟨by rw [this]; rfl, rfl⟩
    · go_wp2
      go_ret
      have := keyB_no (s := s) (fun j hj => Hall.out j (by omega))
      exact ⟨by rw [this]; rfl, rfl⟩
end Go.Proofs.YtpaljmhoojpbdaaDoor

/- The models keys. -/
namespace Go.Proofs.YtpaljmhoojpbdaaDoor
open Go.RowKit

set_option maxHeartbeats 800000 in
theorem l01Place_keys (s : ByteArray) (b : Nat) (w : World) (hc : ∀ i, i < 29 → w.cell? ⟨b, i, none⟩ = some (txt (keyAt i))) :
    Calls Tryd.prog 31 #[.slice (some ⟨b, 0, none⟩) 29 29, .string s] w fun e w' => (∃ n : Int, e = .returned (.int .i64 n) ∧ decide (0 ≤ n) = keyB s) ∧ w = w' := by
  have Hc : Hid (∀ i, i < 29 → w.cell? ⟨b, i, none⟩ = some (txt (keyAt i))) := hc
  clear hc
  go_enter Tryd.func31, Tryd.ntmps31
  go_wp2
  go_loop [5] (fun i => ∃ k : Nat, k ≤ 29 ∧ i = .int .i64 k ∧ ∀ j, j < k → (keyAt j == s.toList) = false) (fun i => 29 - (intOf i).toNat)
  case atStart => exact ⟨0, by omega, rfl, fun j hj => by omega⟩
  case round =>
    obtain ⟨k, hk, rfl, hall⟩ := hrel
    have Hall : Hid (∀ j, j < k → (keyAt j == s.toList) = false) := hall
    clear hall
    by_cases hp : k < 29
    · have hx := Hc.out k hp
      simp only [txt] at hx
      cases f : keyAt k == s.toList
      · go_wp2
        go_round
        case rel =>
          refine ⟨k + 1, by omega, by go_num, fun j hj => ?_⟩
          by_cases e : j < k
          · exact Hall.out j e
          · obtain rfl : j = k := by omega
            exact f
        case measure => simp [intOf]; omega
      · go_wp2
        go_ret
        have := keyB_yes hp f
        exact ⟨⟨k, rfl, by rw [this]; simp⟩, rfl⟩
    · go_wp2
      go_ret
      have := keyB_no (s := s) (fun j hj => Hall.out j (by omega))
      exact ⟨⟨-1, rfl, by rw [this]; rfl⟩, rfl⟩

theorem l01Keys_any (w : World) : Calls Tryd.prog 97 #[] w fun e w' => e = .returned (.slice (some ⟨w.heap.size, 0, none⟩) 29 29) ∧ w' = w.alloc (.cells keyRow 9) := by
  go_enter Tryd.func97, Tryd.ntmps97
  go_wp2
  go_ret
  exact ⟨rfl, rfl⟩

theorem keyRow_at (i : Nat) (h : i < 29) : keyRow[i]? = some (txt (keyAt i)) := by
  have hk : i < keys.length := by rw [keys_len]; exact h
  simp [keyRow, keyAt, List.getD, List.getElem?_eq_getElem hk]

theorem specIsKey_any (s : ByteArray) (w : World) : Calls Tryd.prog 59 #[.string s] w fun e w' => e = .returned (.bool (keyB s)) ∧ w' = w.alloc (.cells keyRow 9) := by
  go_enter Tryd.func59, Tryd.ntmps59
  go_wp2_with fail
  refine (l01Keys_any _).mono ?_
  rintro e w' ⟨rfl, rfl⟩
  go_wp2_with fail
  refine (l01Place_keys s w.heap.size _ (fun i hi => by rw [World.cell?_alloc_new]; exact keyRow_at i hi)).mono ?_
  rintro e w' ⟨⟨n, rfl, hn⟩, rfl⟩
  go_wp2
  go_ret
  exact ⟨by rw [← hn]; rfl, rfl⟩
end Go.Proofs.YtpaljmhoojpbdaaDoor

/- Names and bounds, as the model and the program ask them (stage 4 on). No condition. -/
namespace Go.Proofs.YtpaljmhoojpbdaaDoor
open Go.RowKit Go.PlainAid

/-- A world behind draws and new blocks alone. -/
def Gw (w w' : World) : Prop := ∃ n os, w' = Sort.grow (w.drewN n) os
theorem Gw.refl (w : World) : Gw w w := ⟨0, #[], by rw [Sort.grow_empty]; rfl⟩
theorem Gw.grown {w w1 : World} (h : Gw w w1) (n : Nat) (os : Array Obj) : Gw w (Sort.grow (w1.drewN n) os) := by
  obtain ⟨m, os', rfl⟩ := h
  exact ⟨m + n, os' ++ os, by show Sort.grow (Sort.grow ((w.drewN m).drewN n) os') os = _; rw [Sort.grow_grow, World.drewN_drewN]⟩
theorem Gw.trans {w w1 w2 : World} (h : Gw w w1) (k : Gw w1 w2) : Gw w w2 := by
  obtain ⟨n, os, rfl⟩ := k
  exact h.grown n os
theorem Gw.one (w : World) (o : Obj) : Gw w (w.alloc o) := ⟨0, #[o], by rw [Sort.alloc_eq_grow]; rfl⟩
theorem Gw.below {w w' : World} (h : Gw w w') : Below w.heap.size w w' := by
  obtain ⟨n, os, rfl⟩ := h
  exact ⟨rfl, rfl, rfl, by simp, fun k hk => Sort.heap_grow_old (w.drewN n) os hk⟩
def ownB (s : ByteArray) : Bool := nameB s && !keyB s
theorem own_no1 {s : ByteArray} (h : nameB s = false) : ownB s = false := by unfold ownB; rw [h]; rfl
theorem own_no2 {s : ByteArray} (h : nameB s = true) (k : keyB s = true) : ownB s = false := by unfold ownB; rw [h, k]; rfl
theorem own_yes {s : ByteArray} (h : nameB s = true) (k : keyB s = false) : ownB s = true := by unfold ownB; rw [h, k]; rfl
theorem specNameOK_any (s : ByteArray) (w : World) (hs : s.size ≤ maxLen) : Calls Tryd.prog 58 #[.string s] w fun e w' => e = .returned (.bool (nameB s)) ∧ w = w' := by
  go_enter Tryd.func58, Tryd.ntmps58
  go_wp2_with (go_at_call 96; refine (l00Word_any s _ hs).mono ?_; rintro e w' ⟨rfl, rfl⟩)
  go_ret
  exact ⟨rfl, rfl⟩
theorem l02Name_gw (s : ByteArray) (w : World) (hs : s.size ≤ maxLen) : Calls Tryd.prog 29 #[.string s] w fun e w' => e = .returned (.bool (ownB s)) ∧ Gw w w' := by
  cases hn : nameB s with
  | false =>
    rw [own_no1 hn]
    go_enter Tryd.func29, Tryd.ntmps29
    go_wp2_with (go_at_call 58; refine (specNameOK_any s _ hs).mono ?_; rintro e w' ⟨rfl, rfl⟩; rw [hn])
    go_ret
    exact ⟨rfl, Gw.refl _⟩
  | true =>
    cases hk : keyB s with
    | true =>
      rw [own_no2 hn hk]
      go_enter Tryd.func29, Tryd.ntmps29
      go_wp2_with (first | (go_at_call 58; refine (specNameOK_any s _ hs).mono ?_; rintro e w' ⟨rfl, rfl⟩; rw [hn]) | (go_at_call 59; refine (specIsKey_any s _).mono ?_; rintro e w' ⟨rfl, rfl⟩; rw [hk]))
      go_ret
      exact ⟨rfl, Gw.one _ _⟩
    | false =>
      rw [own_yes hn hk]
      go_enter Tryd.func29, Tryd.ntmps29
      go_wp2_with (first | (go_at_call 58; refine (specNameOK_any s _ hs).mono ?_; rintro e w' ⟨rfl, rfl⟩; rw [hn]) | (go_at_call 59; refine (specIsKey_any s _).mono ?_; rintro e w' ⟨rfl, rfl⟩; rw [hk]))
      go_ret
      exact ⟨rfl, Gw.one _ _⟩
theorem ownName_any (s : ByteArray) (w : World) (hs : s.size ≤ maxLen) (t : TypeId) (fr : Nat × Nat) (hg : w.heap[1]? = some (.cells keyRow t fr)) : Calls Tryd.prog 35 #[.string s] w fun e w' => e = .returned (.bool (ownB s)) ∧ Below w.heap.size w w' := by
  have HK : Hid (∀ w1, Below w.heap.size w w1 → Calls Tryd.prog 63 #[.string s] w1 fun e w' => e = .returned (.bool (keyB s)) ∧ w1 = w') := fun w1 bel =>
    implIsKey_any s w1 t fr ((bel.block 1 (Array.getElem?_eq_some_iff.1 hg).1).trans hg)
  clear hg
  cases hn : nameB s with
  | false =>
    rw [own_no1 hn]
    go_enter Tryd.func35, Tryd.ntmps35
    go_wp2_with (go_at_call 62; refine (implNameOK_any s _ hs).mono ?_; rintro e w' ⟨rfl, bel⟩; rw [hn])
    go_ret
    exact ⟨rfl, bel⟩
  | true =>
    cases hk : keyB s with
    | true =>
      rw [own_no2 hn hk]
      go_enter Tryd.func35, Tryd.ntmps35
      go_wp2_with (first | (go_at_call 62; refine (implNameOK_any s _ hs).mono ?_; rintro e w' ⟨rfl, bel⟩; rw [hn]) | (go_at_call 63; refine (HK.out _ bel).mono ?_; rintro e w2 ⟨rfl, rfl⟩; rw [hk]))
      go_ret
      exact ⟨rfl, bel⟩
    | false =>
      rw [own_yes hn hk]
      go_enter Tryd.func35, Tryd.ntmps35
      go_wp2_with (first | (go_at_call 62; refine (implNameOK_any s _ hs).mono ?_; rintro e w' ⟨rfl, bel⟩; rw [hn]) | (go_at_call 63; refine (HK.out _ bel).mono ?_; rintro e w2 ⟨rfl, rfl⟩; rw [hk]))
      go_ret
      exact ⟨rfl, bel⟩
def inB (n a b : Int) : Bool := decide (a ≤ n) && decide (n ≤ b)
theorem l01In_any (n a b : Int) (w : World) : Calls Tryd.prog 30 #[.int .i64 n, .int .i64 a, .int .i64 b] w fun e w' => e = .returned (.bool (inB n a b)) ∧ w = w' := by
  unfold inB
  by_cases h : a ≤ n
  · by_cases k : n ≤ b
    · simp only [h, k, decide_true, Bool.and_true]
      go_enter Tryd.func30, Tryd.ntmps30
      go_wp2
      go_ret
      exact ⟨rfl, rfl⟩
    · simp only [h, k, decide_true, decide_false, Bool.and_false]
      go_enter Tryd.func30, Tryd.ntmps30
      go_wp2
      go_ret
      exact ⟨rfl, rfl⟩
  · simp only [h, decide_false, Bool.false_and]
    go_enter Tryd.func30, Tryd.ntmps30
    go_wp2
    go_ret
    exact ⟨rfl, rfl⟩
theorem in_yes {n a b : Int} (h : a ≤ n) (k : n ≤ b) : inB n a b = true := by unfold inB; simp [h, k]
theorem in_no {n a b : Int} (h : ¬ (a ≤ n ∧ n ≤ b)) : inB n a b = false := by unfold inB; simp; omega
end Go.Proofs.YtpaljmhoojpbdaaDoor

/- How a code verifies, told once over plain data. No condition. -/
namespace Go.Proofs.YtpaljmhoojpbdaaDoor
open Go.RowKit

def emB (s : ByteArray) : Bool := s.toList == []
/-- What an instruction asks of its A, by its number. -/
def argB (op a : Int) (wr : Int) (cells len result : Int) : Bool :=
  if op = 1 then true
  else if op = 2 then inB a 0 (wrap64 (cells - 1))
  else if op = 6 then inB a 1 100
  else if op = 7 then inB a 0 10
  else if op = 11 ∨ op = 12 then inB a 0 (len - 1)
  else if op = 13 then inB a 0 20 && inB wr 0 1
  else if op = 14 then decide (a = result)
  else if op = 15 ∨ op = 16 then inB a 1 3 && (decide (op = 15) || decide (a ≠ 2))
  else if op = 17 then inB a 1 5
  else decide (a = 0) && inB op 3 10
def namedB (op : Int) : Bool := decide (op = 3) || decide (op = 13)
def insB (x : InsD) (cells len result : Int) : Bool :=
  (namedB x.op == (!(emB x.mod) || !(emB x.name))) && (!(namedB x.op) || (ownB x.mod && ownB x.name)) && (decide (x.op = 13) || decide (x.b = 0)) && argB x.op x.a x.b cells len result
/-- What it takes off the stack, what it leaves. -/
def takes (x : InsD) : Int := if x.op = 4 ∨ x.op = 8 ∨ x.op = 9 ∨ x.op = 10 then 1 else if x.op = 5 then 2 else if x.op = 6 ∨ x.op = 7 then 2 else if x.op = 12 ∨ x.op = 15 ∨ x.op = 16 then 1 else if x.op = 13 ∨ x.op = 14 then x.a else 0
def leaves (x : InsD) : Int := if x.op = 1 ∨ x.op = 2 ∨ x.op = 3 then 1 else if x.op = 4 ∨ x.op = 8 ∨ x.op = 9 ∨ x.op = 10 then 1 else if x.op = 6 ∨ x.op = 7 then 1 else if x.op = 13 then x.b else 0
/-- What follows an instruction: the place of its jump, then the next one. -/
def follows (x : InsD) (i : Nat) : List Int := (if x.op = 11 ∨ x.op = 12 then [x.a] else []) ++ (if x.op ≠ 11 ∧ x.op ≠ 14 ∧ x.op ≠ 17 then [(i : Int) + 1] else [])
/-- A fault, or the depths and whether a new one was reached. -/
inductive Ver where
  | bad (code at_ : Int)
  | go (d : List Int) (again : Bool)
def goTo (n i : Nat) (now : Int) : List Int → List Int → Bool → Ver
  | [], d, ag => .go d ag
  | t :: r, d, ag => if t = n then .bad 10 i else if d.getD t.toNat 0 < 0 then goTo n i now r (d.set t.toNat now) true else if d.getD t.toNat 0 ≠ now then .bad 8 i else goTo n i now r d ag
def oneV (n i : Nat) (x : InsD) (d : List Int) (ag : Bool) : Ver :=
  let di := d.getD i 0
  if di < 0 then .go d ag
  else if di < takes x then .bad 11 i
  else
    let now := di - takes x + leaves x
    if 60 < now then .bad 14 i
    else if x.op = 14 ∧ now ≠ 0 then .bad 8 i
    else goTo n i now (follows x i) d ag
def fromV (n : Nat) : Nat → List InsD → List Int → Bool → Ver
  | _, [], d, ag => .go d ag
  | i, x :: r, d, ag => match oneV n i x d ag with
    | .bad c p => .bad c p
    | .go d' ag' => fromV n (i + 1) r d' ag'
def roundsV (l : List InsD) : Nat → List Int → Int × Int
  | 0, _ => (0, 0)
  | f + 1, d => match fromV l.length 0 l d false with
    | .bad c p => (c, p)
    | .go d' true => roundsV l f d'
    | .go _ false => (0, 0)
/-- The first instruction that is not as the table says. -/
def formAt (cells len result : Int) : Nat → List InsD → Option Nat
  | _, [] => none
  | i, x :: r => if insB x cells len result then formAt cells len result (i + 1) r else some i
def headB (x : CodeD) : Bool := decide (x.list.length ≠ 0) && decide (x.list.length ≤ 2000) && inB x.params 0 20 && inB x.cells x.params 2000 && inB x.result 0 1 && (emB x.name || ownB x.name) && (!(emB x.name) || (decide (x.cells = 0) && decide (x.result = 0)))
def verC (x : CodeD) : Int × Int :=
  if headB x then match formAt x.cells x.list.length x.result 0 x.list with
    | some i => (3, i)
    | none => roundsV x.list (x.list.length + 1) ((List.replicate x.list.length (-1)).set 0 0)
  else (1, 0)
end Go.Proofs.YtpaljmhoojpbdaaDoor

namespace Go.Proofs.YtpaljmhoojpbdaaDoor
open Go.RowKit

def needBs (x : NeedD) : List Int := txtB x.module ++ numB x.print
def globBs (x : GlobalD) : List Int := txtB x.name ++ [x.length % 256]
def insBs (x : InsD) : List Int := ([x.op % 256] ++ numB x.a) ++ (if namedB x.op then (([x.b % 256] ++ txtB x.mod) ++ txtB x.name) else [])
def pairB (n : Int) : List Int := [n / 256 % 256, n % 256]
def inssBs : List InsD → List Int
  | [] => []
  | x :: r => insBs x ++ inssBs r
def codeHd (x : CodeD) : List Int := (((txtB x.name ++ [x.params % 256]) ++ pairB x.cells) ++ [x.result % 256]) ++ pairB x.list.length
def codeBs (x : CodeD) : List Int := codeHd x ++ inssBs x.list
theorem inss_app (a b : List InsD) : inssBs (a ++ b) = inssBs a ++ inssBs b := by
  induction a with
  | nil => rfl
  | cons x r ih => rw [List.cons_append, inssBs, inssBs, ih, List.append_assoc]
theorem inss_take {l : List InsD} {k : Nat} (h : k < l.length) : inssBs (l.take (k + 1)) = inssBs (l.take k) ++ insBs l[k] := by
  rw [List.take_succ_eq_append_getElem h, inss_app]
  congr 1
  simp [inssBs]
theorem txtB_len (s : ByteArray) : (txtB s).length = s.size + 1 := by unfold txtB; rw [List.length_cons, sb_len]
/-- What the bytes' bounds need of a code. -/
def SmallC (x : CodeD) : Prop := x.name.size ≤ 40 ∧ x.list.length ≤ 2000 ∧ ∀ y ∈ x.list, y.mod.size ≤ 40 ∧ y.name.size ≤ 40
theorem ins_blen (x : InsD) (h : x.mod.size ≤ 40 ∧ x.name.size ≤ 40) : (insBs x).length ≤ 100 := by
  unfold insBs
  split
  · simp only [List.length_append, txtB_len, numB_len, List.length_cons, List.length_nil]
    omega
  · simp only [List.length_append, numB_len, List.length_cons, List.length_nil]
    omega
theorem inss_blen : ∀ (l : List InsD), (∀ y ∈ l, y.mod.size ≤ 40 ∧ y.name.size ≤ 40) → (inssBs l).length ≤ 100 * l.length
  | [], _ => by simp [inssBs]
  | x :: r, h => by
    have h1 := ins_blen x (h x (by simp))
    have h2 := inss_blen r fun y hy => h y (by simp [hy])
    rw [inssBs, List.length_append, List.length_cons]
    omega
theorem code_blen (x : CodeD) (h : SmallC x) : (codeBs x).length ≤ 200100 := by
  obtain ⟨h1, h2, h3⟩ := h
  have := inss_blen x.list h3
  unfold codeBs codeHd pairB
  simp only [List.length_append, txtB_len, List.length_cons, List.length_nil]
  omega
theorem two_new (w : World) (x y : Int) (T : TypeId) : ∀ j u, (bc [x, y])[j]? = some u → (w.alloc (.cells #[.int .u8 x, .int .u8 y] T)).cell? ((⟨w.heap.size, 0, none⟩ : Addr).add j) = some u := by
  intro j u hu
  match j, hu with
  | 0, hu => simp [bc] at hu; subst hu; simp [Addr.add, go_sem]
  | 1, hu => simp [bc] at hu; subst hu; simp [Addr.add, go_sem]
  | j + 2, hu => simp [bc] at hu
set_option maxHeartbeats 1000000 in
theorem appendPair_any (B : Nat) (v : Value) (l : List Int) (n : Int) (w : World) (h : Own w B v l) (hB : B ≤ w.heap.size) (hl : l.length ≤ 1099511627776) :
    Calls Tryd.prog 123 #[v, .int .i64 n] w fun e w' => (∃ u, e = .returned u ∧ Own w' B u (l ++ pairB n)) ∧ Kp B w w' := by
  have H := hide h
  clear h
  go_enter Tryd.func123, Tryd.ntmps123
  go_wp2_with (at_builtin; refine wp_append_bytes rfl _ _ rfl B v l rfl (H.out.alloc _) ⟨w.heap.size, 0, none⟩ 2 2 [n / 256 % 256, n % 256] rfl rfl (two_new _ _ _ _) (by omega) (by simp; omega) ?_; intro v1 w1 h1 b1)
  go_ret
  exact ⟨⟨_, rfl, h1⟩, ((Kp.refl _ _).alloc hB _).trans b1⟩
theorem hasName_gw (x : InsD) (w : World) : Calls Tryd.prog 94 #[.agg #[.int .i64 x.op, .int .i64 x.a, .int .i64 x.b, .string x.mod, .string x.name]] w fun e w' => e = .returned (.bool (namedB x.op)) ∧ Below w.heap.size w w' := by
  obtain ⟨op, a, b, md, nm⟩ := x
  simp only []
  by_cases h3 : op = 3
  · subst h3
    go_enter Tryd.func94, Tryd.ntmps94
    go_wp2
    go_ret
    exact ⟨rfl, (Below.refl _ _).alloc (Nat.le_refl _) _⟩
  · by_cases h13 : op = 13
    · subst h13
      go_enter Tryd.func94, Tryd.ntmps94
      go_wp2
      go_ret
      exact ⟨rfl, (Below.refl _ _).alloc (Nat.le_refl _) _⟩
    · have e : namedB op = false := by unfold namedB; simp [h3, h13]
      go_enter Tryd.func94, Tryd.ntmps94
      go_wp2
      go_ret
      refine ⟨?_, (Below.refl _ _).alloc (Nat.le_refl _) _⟩
      show Ending.returned (.bool (op == 3 || op == 13)) = _
      rw [e]
      simp [h3, h13]
end Go.Proofs.YtpaljmhoojpbdaaDoor
