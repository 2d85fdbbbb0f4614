/- The drawn character: one of seventeen, whatever the code. -/
import Derived.Test.YtapcogecimmkbaaDoorMainI
namespace Go.Proofs.YtapcogecimmkbaaDoor
open Go.RowKit Go.PlainAid

/-- WHAT A WALK IS TOLD OF A SLICE OF BYTES THAT CAME IN. -/
def IsRow (k : IntKind) (w : World) (a : Option Addr) (len cap : Nat) (zs : List Int) : Prop :=
  (a = none ∧ len = 0 ∧ cap = 0 ∧ zs = []) ∨
  ∃ x, a = some x ∧ len ≤ cap ∧ cap ≤ maxLen ∧ zs.length = cap ∧ (∀ i, i < zs.length → w.cell? (x.add i) = some (.int k (zs.getD i 0))) ∧ ∀ n ∈ zs, (Lit.int k n).wf = true

/-- What a draw turns: the source's two numbers. -/
def Turned (sb : Nat) (w w' : World) : Prop := ∃ (p : Nat) (q : Value) (m : Nat), w' = (((w.setCell ⟨sb, 1, none⟩ (.int .i64 1)).drewN p).setCell ⟨sb, 2, none⟩ q).drewN m
def drawn : List Int := [97, 122, 32, 126, 233, 945, 8364, 128512, 0, 10, 34, 127, 2047, 2048, 65535, 65536, 1114111]

set_option maxRecDepth 100000 in
set_option maxHeartbeats 1600000 in
theorem byte_some (sb b off len cap : Nat) (z sd : Int) (w : World) (h1 : 1 ≤ len) (hm : len ≤ maxLen) (hc : w.cell? ⟨b, off, none⟩ = some (.int .u8 z)) (z0 : 0 ≤ z) (z1 : z ≤ 255) (s0 : 0 ≤ sd) (s1 : sd < 1000) (hne : b ≠ sb)
    (k0 : w.cell? ⟨sb, 0, none⟩ = some (.slice (some ⟨b, off, none⟩) len cap)) (k1 : w.cell? ⟨sb, 1, none⟩ = some (.int .i64 0)) (k2 : w.cell? ⟨sb, 2, none⟩ = some (.int .i64 sd)) (f1 : w.frozen? ⟨sb, 1, none⟩ = false) (f2 : w.frozen? ⟨sb, 2, none⟩ = false) :
    Calls Tryd.prog 68 #[.pointer (some ⟨sb, 0, none⟩)] w fun e w' => e = .returned (.int .i64 z) ∧ Turned sb w w' := by
  unfold maxLen at hm
  have i0 : (1 : Int) ≤ len := by omega
  have i1 : (0 : Int) < len := by omega
  go_enter Tryd.func68, Tryd.ntmps68
  go_wp2
  go_quiet (fail)
  go_wp2
  go_region
  all_goals go_wp2
  all_goals go_quiet (fail)
  all_goals go_wp2
  all_goals go_ret
  all_goals refine ⟨rfl, ?_⟩
  all_goals exact ⟨_, _, _, rfl⟩

set_option maxRecDepth 100000 in
set_option maxHeartbeats 1600000 in
theorem byte_none (sb cap : Nat) (a : Option Addr) (w : World)
    (k0 : w.cell? ⟨sb, 0, none⟩ = some (.slice a 0 cap)) (k1 : w.cell? ⟨sb, 1, none⟩ = some (.int .i64 0)) (k2 : w.cell? ⟨sb, 2, none⟩ = some (.int .i64 0)) (f1 : w.frozen? ⟨sb, 1, none⟩ = false) (f2 : w.frozen? ⟨sb, 2, none⟩ = false) :
    Calls Tryd.prog 68 #[.pointer (some ⟨sb, 0, none⟩)] w fun e w' => e = .returned (.int .i64 0) ∧ Turned sb w w' := by
  go_enter Tryd.func68, Tryd.ntmps68
  go_wp2
  go_quiet (fail)
  go_wp2
  go_ret
  exact ⟨rfl, _, _, 0, rfl⟩

set_option maxRecDepth 100000 in
set_option maxHeartbeats 1600000 in
theorem next_any (sb : Nat) (z : Int) (w : World) (z0 : 0 ≤ z) (z1 : z ≤ 255)
    (hb : Calls Tryd.prog 68 #[.pointer (some ⟨sb, 0, none⟩)] w fun e w' => e = .returned (.int .i64 z) ∧ Turned sb w w') :
    Calls Tryd.prog 32 #[.pointer (some ⟨sb, 0, none⟩), .int .i64 17] w fun e w' => e = .returned (.int .i64 (z % 17)) ∧ Turned sb w w' := by
  have HB : Hid (Calls Tryd.prog 68 #[.pointer (some ⟨sb, 0, none⟩)] w fun e w' => e = .returned (.int .i64 z) ∧ Turned sb w w') := hb
  clear hb
  go_enter Tryd.func32, Tryd.ntmps32
  go_wp2_with fail
  refine HB.out.mono ?_
  rintro e w' ⟨rfl, ht⟩
  go_wp2
  go_ret
  exact ⟨rfl, ht⟩

set_option maxRecDepth 100000 in
set_option maxHeartbeats 3200000 in
theorem char_any (sb : Nat) (k : Nat) (w : World) (hk : k < 17) (hlt : sb < w.heap.size)
    (hn : ∀ o, Calls Tryd.prog 32 #[.pointer (some ⟨sb, 0, none⟩), .int .i64 17] (w.alloc o) fun e w' => e = .returned (.int .i64 k) ∧ Turned sb (w.alloc o) w') :
    Calls Tryd.prog 16 #[.pointer (some ⟨sb, 0, none⟩)] w fun e w' => (∃ c, e = .returned (.int .i64 c) ∧ c ∈ drawn) ∧ Below sb w w' := by
  have HN : Hid (∀ o, Calls Tryd.prog 32 #[.pointer (some ⟨sb, 0, none⟩), .int .i64 17] (w.alloc o) fun e w' => e = .returned (.int .i64 k) ∧ Turned sb (w.alloc o) w') := hn
  clear hn
  have hsb : ¬ sb = w.heap.size := by omega
  have hsb2 : ¬ w.heap.size = sb := by omega
  go_enter Tryd.func16, Tryd.ntmps16
  go_wp2_with fail
  refine (HN.out _).mono ?_
  rintro e w' ⟨rfl, p, q, m, rfl⟩
  go_wp2
  go_ret
  have hkl : k < drawn.length := hk
  have b1 : Below sb w (w.setCell ⟨sb, 1, none⟩ (.int .i64 1)) := (Below.refl sb w).setCell (Nat.le_refl sb) _
  refine ⟨⟨drawn[k]'hkl, ?_, List.getElem_mem _⟩, ?_⟩
  · have e : (drawn.map (Value.int .i64))[k]'(by rw [List.length_map]; exact hkl) = .int .i64 (drawn[k]'hkl) := List.getElem_map ..
    exact congrArg Ending.returned e
  · exact below_drewN (Below.setCell (p := ⟨sb, 2, none⟩) (below_drewN (b1.alloc (by simp; omega) _) p) (Nat.le_refl sb) q) m

theorem l00Source_any (a : Option Addr) (len cap : Nat) (w : World) (hm : len ≤ maxLen) : Calls Tryd.prog 15 #[.slice a len cap] w fun e w' => e = .returned (.pointer (some ⟨w.heap.size, 0, none⟩)) ∧ w' = w.alloc (.cells #[.slice a len cap, .int .i64 0, .int .i64 ((len : Int) % 1000)] 58) := by
  unfold maxLen at hm
  go_enter Tryd.func15, Tryd.ntmps15
  go_wp2
  go_ret
  exact ⟨rfl, rfl⟩

theorem charOf_via (a : Option Addr) (len cap k : Nat) (w : World) (hm : len ≤ maxLen) (hk : k < 17)
    (hn : ∀ o, Calls Tryd.prog 32 #[.pointer (some ⟨w.heap.size, 0, none⟩), .int .i64 17] ((w.alloc (.cells #[.slice a len cap, .int .i64 0, .int .i64 ((len : Int) % 1000)] 58)).alloc o) fun e w' => e = .returned (.int .i64 k) ∧ Turned w.heap.size ((w.alloc (.cells #[.slice a len cap, .int .i64 0, .int .i64 ((len : Int) % 1000)] 58)).alloc o) w') :
    Calls Tryd.prog 5 #[.slice a len cap] w fun e w' => (∃ c, e = .returned (.int .i64 c) ∧ c ∈ drawn) ∧ Below w.heap.size w w' := by
  have hch := char_any w.heap.size k (w.alloc (.cells #[.slice a len cap, .int .i64 0, .int .i64 ((len : Int) % 1000)] 58)) hk (by simp) hn
  clear hn
  go_enter Tryd.func5, Tryd.ntmps5
  go_wp2_with fail
  refine (l00Source_any a len cap w hm).mono ?_
  rintro e w' ⟨rfl, rfl⟩
  go_wp2_with fail
  refine hch.mono ?_
  rintro e w' ⟨⟨c, rfl, hc⟩, bel⟩
  go_wp2
  go_ret
  exact ⟨⟨c, rfl, hc⟩, ((Below.refl _ _).alloc (Nat.le_refl _) _).trans bel⟩

theorem charOf_any (a : Option Addr) (len cap : Nat) (zs : List Int) (w : World) (hr : IsRow .u8 w a len cap zs) :
    Calls Tryd.prog 5 #[.slice a len cap] w fun e w' => (∃ c, e = .returned (.int .i64 c) ∧ c ∈ drawn) ∧ Below w.heap.size w w' := by
  have frz : ∀ (C : Array Value) (o : Obj) (j : Nat), ((w.alloc (.cells C 58)).alloc o).frozen? ⟨w.heap.size, j, none⟩ = false := fun C o j => by
    have hb : Below (w.alloc (.cells C 58)).heap.size (w.alloc (.cells C 58)) ((w.alloc (.cells C 58)).alloc o) := (Below.refl _ _).alloc (Nat.le_refl _) _
    exact (own_block hb).2.1 j
  have cll : ∀ (C : Array Value) (o : Obj) (j : Nat), ((w.alloc (.cells C 58)).alloc o).cell? ⟨w.heap.size, j, none⟩ = C[j]? := fun C o j => by
    have hb : Below (w.alloc (.cells C 58)).heap.size (w.alloc (.cells C 58)) ((w.alloc (.cells C 58)).alloc o) := (Below.refl _ _).alloc (Nat.le_refl _) _
    exact (own_block hb).1 j
  by_cases z : len = 0
  · subst z
    refine charOf_via a 0 cap 0 w (Nat.zero_le _) (by decide) (fun o => ?_)
    exact next_any w.heap.size 0 _ (by decide) (by decide) (byte_none w.heap.size cap a _ (cll _ o 0) (cll _ o 1) (cll _ o 2) (frz _ o 1) (frz _ o 2))
  · rcases hr with ⟨_, q, _⟩ | ⟨x, rfl, hl, hm, hz, hcell, hwz⟩
    · exact absurd q z
    obtain ⟨b, off, spot⟩ := x
    have hc := hcell 0 (by omega)
    have hspot : spot = none := by simpa [Addr.add] using World.cell?_spot hc
    subst hspot
    have hc0 : w.cell? ⟨b, off, none⟩ = some (.int .u8 (zs.getD 0 0)) := by simpa [Addr.add] using hc
    have hw : (Lit.int .u8 (zs.getD 0 0)).wf = true := hwz _ (by
      have : 0 < zs.length := by omega
      simp [List.getD, List.getElem?_eq_getElem this])
    have hx : 0 ≤ zs.getD 0 0 ∧ zs.getD 0 0 ≤ 255 := by simpa [Lit.wf, IntKind.min, IntKind.max, IntKind.signed, IntKind.bits] using hw
    generalize zs.getD 0 0 = y at *
    have hblt := block_lt hc0
    obtain ⟨k, hk⟩ : ∃ k : Nat, y % 17 = (k : Int) := ⟨(y % 17).toNat, by omega⟩
    refine charOf_via _ len cap k w (by omega) (by omega) (fun o => ?_)
    rw [← hk]
    have hbw : Below w.heap.size w ((w.alloc (.cells #[.slice (some ⟨b, off, none⟩) len cap, .int .i64 0, .int .i64 ((len : Int) % 1000)] 58)).alloc o) := ((Below.refl _ _).alloc (Nat.le_refl _) _).alloc (by simp) _
    exact next_any w.heap.size y _ hx.1 hx.2 (byte_some w.heap.size b off len cap y ((len : Int) % 1000) _ (by omega) (by omega) (cell_later hbw hc0) hx.1 hx.2 (by omega) (by omega) (by omega) (cll _ o 0) (cll _ o 1) (cll _ o 2) (frz _ o 1) (frz _ o 2))
end Go.Proofs.YtapcogecimmkbaaDoor
