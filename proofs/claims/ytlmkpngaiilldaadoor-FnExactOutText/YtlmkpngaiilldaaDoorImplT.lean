/- What the program takes for a right value, and its text. Listed: the library's tables. No other condition. -/
import Derived.Test.YtlmkpngaiilldaaDoorOutP
namespace Go.Proofs.YtlmkpngaiilldaaDoor
open Go.RowKit

theorem grown_below (w : World) (n : Nat) (os : Array Obj) : Below w.heap.size w (Sort.grow (w.drewN n) os) := ⟨rfl, rfl, rfl, by simp, fun k hk => Sort.heap_grow_old (w.drewN n) os hk⟩
theorem retB {a b : Bool} (h : a = b) : Ending.returned (.bool a) = .returned (.bool b) := by rw [h]
/-- The library's tables that numbers' and characters' texts read. -/
structure Tabs (w : World) : Prop where
  debr : w.cell? ⟨8, 15, none⟩ = some (.int .u8 4)
  pow : Lib.TabIs Tryd.prog w "internal/strconv.uint64pow10" .u64 Lib.pow10Tab
theorem tab_on {w w' : World} {name : String} {k : IntKind} {zs : List Int} {g : Nat} (hg : Tryd.prog.globalNamed name = some g) (h : Lib.TabIs Tryd.prog w name k zs) (bel : Below w.heap.size w w') : Lib.TabIs Tryd.prog w' name k zs := by
  unfold Lib.TabIs at h ⊢
  have e : w'.heap[g]? = w.heap[g]? := by
    rcases Nat.lt_or_ge g w.heap.size with h' | h'
    · exact bel.block g h'
    · simp [World.var?, hg, Array.getElem?_eq_none h'] at h
  rw [← h]
  simp [World.var?, hg, e]
theorem gPow : Tryd.prog.globalNamed "internal/strconv.uint64pow10" = some 3 := by kernel_rfl
theorem Tabs.on {w w' : World} (h : Tabs w) (bel : Below w.heap.size w w') : Tabs w' := ⟨(bel.cell (p := ⟨8, 15, none⟩) (block_lt h.debr)).trans h.debr, tab_on gPow h.pow bel⟩
theorem valueFits_any (x : OutD) (w : World) : Calls Tryd.prog 32 #[.int .i64 x.ty, .int .i64 x.value] w fun e w' => e = .returned (.bool (outB x)) ∧ w = w' := by
  obtain ⟨t, v⟩ := x
  unfold outB
  simp only []
  by_cases h1 : t = 1
  · subst h1
    go_enter Tryd.func32, Tryd.ntmps32
    go_wp2
    go_ret
    exact ⟨rfl, rfl⟩
  · have j1 : (t == 1) = false := by simpa using h1
    by_cases h2 : t = 2
    · subst h2
      by_cases v0 : v = 0
      · subst v0
        go_enter Tryd.func32, Tryd.ntmps32
        go_wp2
        go_ret
        exact ⟨rfl, rfl⟩
      · have k0 : (v == 0) = false := by simpa using v0
        cases k1 : (v == 1) with
        | true =>
          go_enter Tryd.func32, Tryd.ntmps32
          go_wp2
          go_ret
          exact ⟨retB (by simp), rfl⟩
        | false =>
          go_enter Tryd.func32, Tryd.ntmps32
          go_wp2
          go_ret
          exact ⟨retB (by simp [v0]), rfl⟩
    · have j2 : (t == 2) = false := by simpa using h2
      by_cases h3 : t = 3
      · subst h3
        go_enter Tryd.func32, Tryd.ntmps32
        go_wp2_with (go_at_call 46; refine (charOK_impl _ _).mono ?_; rintro e w' ⟨rfl, rfl⟩)
        go_ret
        exact ⟨retB (by simp), rfl⟩
      · have j3 : (t == 3) = false := by simpa using h3
        go_enter Tryd.func32, Tryd.ntmps32
        go_wp2
        go_ret
        exact ⟨retB (by simp [j1, j2, j3]), rfl⟩
/-- A node that bears a number alone. -/
def nodeN (v : Int) : Value := .agg #[.int .i64 0, .int .i64 v, .string ⟨#[]⟩, .string ⟨#[]⟩, .slice none 0 0]
set_option maxRecDepth 100000 in
theorem boolText_any (v : Int) (w : World) : Calls Tryd.prog 48 #[nodeN v] w fun e w' => e = .returned (.string (if v = 1 then ⟨#[84, 82, 85, 69]⟩ else ⟨#[70, 65, 76, 83, 69]⟩)) ∧ Below w.heap.size w w' := by
  unfold nodeN
  by_cases h : v = 1
  · subst h
    go_enter Tryd.func48, Tryd.ntmps48
    go_wp2
    go_ret
    exact ⟨rfl, (Below.refl _ _).alloc (Nat.le_refl _) _⟩
  · have j : (v == 1) = false := by simpa using h
    rw [if_neg h]
    go_enter Tryd.func48, Tryd.ntmps48
    go_wp2
    go_ret
    exact ⟨rfl, (Below.refl _ _).alloc (Nat.le_refl _) _⟩
set_option maxRecDepth 100000 in
theorem charFormText_any (v : Int) (hv : charB v = true) (w : World) (hT : Tabs w) : Calls Tryd.prog 49 #[nodeN v] w fun e w' => e = .returned (.string (charText v)) ∧ Below w.heap.size w w' := by
  unfold nodeN
  have HT := hide hT
  clear hT
  go_enter Tryd.func49, Tryd.ntmps49
  go_wp2_with (go_at_call 62; refine (implChar_any v _ hv (HT.out.on ((Below.refl _ _).alloc (Nat.le_refl _) _)).debr).mono ?_; rintro e w1 ⟨rfl, b1⟩)
  go_ret
  exact ⟨rfl, ((Below.refl _ _).alloc (Nat.le_refl _) _).trans (b1.mono (by simp))⟩
set_option maxRecDepth 100000 in
theorem intText_any (v : Int) (hv : I64 v) (w : World) (hT : Tabs w) : Calls Tryd.prog 50 #[nodeN v] w fun e w' => e = .returned (.string ⟨(Lib.itoa v).toArray⟩) ∧ Below w.heap.size w w' := by
  unfold nodeN
  have HT := hide hT
  clear hT
  go_enter Tryd.func50, Tryd.ntmps50
  go_wp2_with (go_at_call 63; refine (Tryd.strconv_Itoa v hv.1 hv.2 _ (HT.out.on ((Below.refl _ _).alloc (Nat.le_refl _) _)).pow).mono ?_; rintro e w1 ⟨rfl, kk, os, rfl⟩)
  go_ret
  exact ⟨rfl, ((Below.refl _ _).alloc (Nat.le_refl _) _).trans ((grown_below _ kk os).mono (by simp))⟩
end Go.Proofs.YtlmkpngaiilldaaDoor
