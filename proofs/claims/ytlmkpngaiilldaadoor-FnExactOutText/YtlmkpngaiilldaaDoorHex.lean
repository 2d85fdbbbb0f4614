/- Small numbers in base 16, by the program's way. -/
import Derived.Test.YtlmkpngaiilldaaDoorUtf8
import Derived.PlainAid
namespace Go.Proofs.YtlmkpngaiilldaaDoor
open Go.RowKit Go.PlainAid

theorem bits1 : bits BinOp.and IntKind.u64 16 (IntKind.u64.wrap (-16)) = 16 := by kernel_rfl
theorem bits2 : IntKind.u64.wrap (16 * 285870213051353865) / 288230376151711744 = 15 := by kernel_rfl
theorem bits3 : bits BinOp.and IntKind.i64 16 15 = 0 := by kernel_rfl

set_option maxRecDepth 100000 in
set_option maxHeartbeats 800000 in
theorem tz16 (w : World) (hd : w.cell? ⟨8, 15, none⟩ = some (.int .u8 4)) : Calls Tryd.prog 128 #[.int .u64 16] w fun e w' => e = .returned (.int .i64 4) ∧ w = w' := by
  have k1 := bits1
  have k2 := bits2
  go_enter Tryd.func128, Tryd.ntmps128
  go_wp2
  go_ret
  exact ⟨rfl, rfl⟩

theorem pow16 (w : World) : Calls Tryd.prog 127 #[.int .i64 16] w fun e w' => e = .returned (.bool true) ∧ w = w' := by
  have k3 := bits3
  go_enter Tryd.func127, Tryd.ntmps127
  go_wp2
  go_ret
  exact ⟨rfl, rfl⟩

def digs : ByteArray := ⟨#[48, 49, 50, 51, 52, 53, 54, 55, 56, 57, 97, 98, 99, 100, 101, 102, 103, 104, 105, 106, 107, 108, 109, 110, 111, 112, 113, 114, 115, 116, 117, 118, 119, 120, 121, 122]⟩
theorem and15 : ∀ k : Fin 256, bits BinOp.and IntKind.u64 ((k.val : Nat) : Int) 15 = ((k.val % 16 : Nat) : Int) := by decide +kernel

theorem convOne (C : Array Value) (a : Int) (w : World) (hC : C.size = 65) : (convert 59 9 (.slice (some ⟨w.heap.size, 64, none⟩) 1 1)).run Tryd.prog (w.alloc (.cells (C.setIfInBounds 64 (.int .u8 a)) 160)) = .ok (.string ⟨#[UInt8.ofNat a.toNat]⟩) (w.alloc (.cells (C.setIfInBounds 64 (.int .u8 a)) 160)) :=
  run_convert_cells 59 9 5 Tryd.underlying59 Tryd.underlying5 Tryd.underlying9 w.heap.size 64 [a] 1 _ (fun j h => by
    obtain rfl : j = 0 := by simpa using h
    rw [World.cell?_alloc_new]
    simp [hC])
theorem convTwo (C : Array Value) (a b : Int) (w : World) (hC : C.size = 65) : (convert 59 9 (.slice (some ⟨w.heap.size, 63, none⟩) 2 2)).run Tryd.prog (w.alloc (.cells ((C.setIfInBounds 64 (.int .u8 b)).setIfInBounds 63 (.int .u8 a)) 160)) = .ok (.string ⟨#[UInt8.ofNat a.toNat, UInt8.ofNat b.toNat]⟩) (w.alloc (.cells ((C.setIfInBounds 64 (.int .u8 b)).setIfInBounds 63 (.int .u8 a)) 160)) :=
  run_convert_cells 59 9 5 Tryd.underlying59 Tryd.underlying5 Tryd.underlying9 w.heap.size 63 [a, b] 2 _ (fun j h => by
    have h' : j = 0 ∨ j = 1 := by simp at h; omega
    rcases h' with rfl | rfl <;> rw [World.cell?_alloc_new] <;> simp [hC])
theorem zc_size : Tryd.zeroCells160.size = 65 := by kernel_rfl

/-- The digits of a number below 256 in base 16, as the program's library lays them. -/
def hexL (k : Nat) : List UInt8 := if k < 16 then [UInt8.ofNat (bt digs k).toNat] else [UInt8.ofNat (bt digs (k / 16)).toNat, UInt8.ofNat (bt digs (k % 16)).toNat]

set_option maxRecDepth 100000 in
set_option maxHeartbeats 3200000 in
theorem bitsOne (k : Nat) (hk : k < 16) (w : World) (hd : w.cell? ⟨8, 15, none⟩ = some (.int .u8 4)) : Calls Tryd.prog 119 #[.slice none 0 0, .int .u64 k, .int .i64 16, .bool false, .bool false] w fun e w' => e = .returned (.tuple #[.slice none 0 0, txt (hexL k)]) ∧ Below w.heap.size w w' := by
  have hlt := block_lt hd
  have hb := get_bt digs
  unfold digs at hb
  have hd' : ∀ o, (w.alloc o).cell? ⟨8, 15, none⟩ = some (.int .u8 4) := fun o => by rw [World.cell?_alloc_past _ _ _ hlt]; exact hd
  have hand := and15 ⟨k, by omega⟩
  simp only [] at hand
  have cv := fun a => convOne Tryd.zeroCells160 a w zc_size
  go_enter Tryd.func119, Tryd.ntmps119
  go_wp2_with (first | (go_at_call 128; refine (tz16 _ (hd' _)).mono ?_; rintro e w' ⟨rfl, rfl⟩) | (go_at_call 127; refine (pow16 _).mono ?_; rintro e w' ⟨rfl, rfl⟩))
  refine wp_loop_rounds 1 ?_
  rw [rounds_succ]
  go_wp2
  go_ret2
  refine ⟨?_, (Below.refl _ _).alloc (Nat.le_refl _) _⟩
  simp [hexL, hk, txt, digs]

set_option maxRecDepth 100000 in
set_option maxHeartbeats 3200000 in
theorem bitsTwo (k : Nat) (hk1 : 16 ≤ k) (hk : k < 256) (w : World) (hd : w.cell? ⟨8, 15, none⟩ = some (.int .u8 4)) : Calls Tryd.prog 119 #[.slice none 0 0, .int .u64 k, .int .i64 16, .bool false, .bool false] w fun e w' => e = .returned (.tuple #[.slice none 0 0, txt (hexL k)]) ∧ Below w.heap.size w w' := by
  have hlt := block_lt hd
  have hb := get_bt digs
  unfold digs at hb
  have hd' : ∀ o, (w.alloc o).cell? ⟨8, 15, none⟩ = some (.int .u8 4) := fun o => by rw [World.cell?_alloc_past _ _ _ hlt]; exact hd
  have hand := and15 ⟨k, by omega⟩
  simp only [] at hand
  have cv := fun a b => convTwo Tryd.zeroCells160 a b w zc_size
  have h2 : k / 16 < 16 := by omega
  go_enter Tryd.func119, Tryd.ntmps119
  go_wp2_with (first | (go_at_call 128; refine (tz16 _ (hd' _)).mono ?_; rintro e w' ⟨rfl, rfl⟩) | (go_at_call 127; refine (pow16 _).mono ?_; rintro e w' ⟨rfl, rfl⟩))
  refine wp_loop_rounds 2 ?_
  rw [rounds_succ]
  go_wp2
  rw [rounds_succ]
  go_wp2
  go_ret2
  refine ⟨?_, (Below.refl _ _).alloc (Nat.le_refl _) _⟩
  have hn : ¬ k < 16 := by omega
  simp [hexL, hn, txt, digs]

theorem bitsAny (k : Nat) (hk : k < 256) (w : World) (hd : w.cell? ⟨8, 15, none⟩ = some (.int .u8 4)) : Calls Tryd.prog 119 #[.slice none 0 0, .int .u64 k, .int .i64 16, .bool false, .bool false] w fun e w' => e = .returned (.tuple #[.slice none 0 0, txt (hexL k)]) ∧ Below w.heap.size w w' := by
  by_cases h : k < 16
  · exact bitsOne k h w hd
  · exact bitsTwo k (by omega) hk w hd

set_option maxRecDepth 100000 in
set_option maxHeartbeats 800000 in
theorem fmtInner (k : Nat) (hk : k < 256) (w : World) (hd : w.cell? ⟨8, 15, none⟩ = some (.int .u8 4)) : Calls Tryd.prog 105 #[.int .i64 k, .int .i64 16] w fun e w' => e = .returned (txt (hexL k)) ∧ Below w.heap.size w w' := by
  have Hd : Hid (w.cell? ⟨8, 15, none⟩ = some (.int .u8 4)) := hd
  clear hd
  go_enter Tryd.func105, Tryd.ntmps105
  go_wp2_with (go_at_call 119; refine (bitsAny k hk _ Hd.out).mono ?_; rintro e w' ⟨rfl, bel⟩)
  go_ret
  exact ⟨rfl, bel⟩

theorem fmtOuter (k : Nat) (hk : k < 256) (w : World) (hd : w.cell? ⟨8, 15, none⟩ = some (.int .u8 4)) : Calls Tryd.prog 91 #[.int .i64 k, .int .i64 16] w fun e w' => e = .returned (txt (hexL k)) ∧ Below w.heap.size w w' := by
  have Hd : Hid (w.cell? ⟨8, 15, none⟩ = some (.int .u8 4)) := hd
  clear hd
  go_enter Tryd.func91, Tryd.ntmps91
  go_wp2_with (go_at_call 105; refine (fmtInner k hk _ Hd.out).mono ?_; rintro e w' ⟨rfl, bel⟩)
  go_ret
  exact ⟨rfl, bel⟩
end Go.Proofs.YtlmkpngaiilldaaDoor
