/- The program's copies of texts and of rows of instructions. No condition. -/
import Derived.Shelf.Strconv.Itoa0
import Derived.Shelf.LaysM
import Derived.Shelf.Strconv.Clone
import Derived.Test.YtfbglokjehmgeaaGreatDoorProg
import Derived.Test.YtfbglokjehmgeaaGreatDoorZLnF
import Derived.Test.YtfbglokjehmgeaaGreatDoorZLkRW
/- The library's functions by the kit's contracts, as its tools print them at this translation. -/
namespace Go.Proofs
open Go.Shelf
def Tryz.laysM316_ren : Go.Shelf.Ren := ⟨fun | 316 => 67 | n => n, fun | 9 => 9 | 3 => 3 | 4 => 4 | 37 => 127 | 0 => 0 | 127 => 165 | 5 => 5 | n => n, fun | n => n⟩
theorem Tryz.laysM316 : Go.Proofs.LaysM.n316 Tryz.prog Tryz.laysM316_ren := {
  mixed := by kernel_rfl
  f316 := Tryz.func67.trans (congrArg some (by kernel_rfl))
  t0 := Tryz.underlying0
  a0 := Tryz.isAgg0
  z0 := Tryz.sizeOf0
  v0 := Tryz.zeroValue0
  t3 := Tryz.underlying3
  a3 := Tryz.isAgg3
  z3 := Tryz.sizeOf3
  v3 := Tryz.zeroValue3
  t4 := Tryz.underlying4
  a4 := Tryz.isAgg4
  z4 := Tryz.sizeOf4
  v4 := Tryz.zeroValue4
  t9 := Tryz.underlying9
  a9 := Tryz.isAgg9
  z9 := Tryz.sizeOf9
  v9 := Tryz.zeroValue9
  t37 := Tryz.underlying127
  a37 := Tryz.isAgg127
  z37 := Tryz.sizeOf127
  v37 := Tryz.zeroValue127
  t127 := Tryz.underlying165
  a127 := Tryz.isAgg165
  z127 := Tryz.sizeOf165
  v127 := Tryz.zeroValue165
  t5 := Tryz.underlying5
  a5 := Tryz.isAgg5
  z5 := Tryz.sizeOf5
  v5 := Tryz.zeroValue5
  i0 := by kernel_rfl
  i3 := by kernel_rfl
  i4 := by kernel_rfl
  i5 := by kernel_rfl
  i9 := by kernel_rfl
  i37 := by kernel_rfl
  i127 := by kernel_rfl }
open Go.RowKit in
theorem Tryz.stringslite_Clone (s : ByteArray) (w : World) (hlim : s.size ≤ 281474976710656) :
    Calls Tryz.prog 67 #[.string s] w fun e w' => e = .returned (.string s) ∧ Below w.heap.size w w' := Any.stringslite_Clone Tryz.laysM316 s w hlim
end Go.Proofs

namespace Go.Proofs.YtfbglokjehmgeaaGreatDoor
open Go.ChangeShapes Go.WideShapes Go.ChangeAt Go.RowKit Go.Deep

theorem strClone_any (x : ByteArray) (w : World) (hx : x.size ≤ 1000000) : Calls Tryz.prog 24 #[.string x] w fun e w' => e = .returned (.string x) ∧ Below w.heap.size w w' := by
  have hc := fun w => Tryz.stringslite_Clone x w (by omega)
  clear hx
  go_enter Tryz.func24, Tryz.ntmps24
  go_wp2_with fail
  refine (hc _).mono ?_
  rintro e w' ⟨rfl, bel⟩
  go_wp2
  go_ret
  exact ⟨rfl, bel⟩
theorem ins_nil (a : Addr) (l c : Nat) (w : World) : (binOp .eql 84 (.slice (some a) l c) (.slice none 0 0)).run Tryz.prog w = .ok (.bool false) w := by
  have h := Tryz.underlying84
  have hd : ∀ d, (Op.equalIn (d + 1) 84 (.slice (some a) l c) (.slice none 0 0)).run Tryz.prog w = .ok false w := fun d => by
    simp [Op.equalIn, run_underlying h]
  have : (Op.equal 84 (.slice (some a) l c) (.slice none 0 0)).run Tryz.prog w = .ok false w := hd 9999
  simp only [binOp]
  simp [this]
set_option maxRecDepth 20000 in
set_option maxHeartbeats 4000000 in
theorem cloneIns_any (m : Md) (lb lo n lc : Nat) (cl : List InsD) (w : World) (hn : cl.length = n) (hl : n ≤ 1000000) (hs : SlAt InsAt 5 w m (.slice (some ⟨lb, lo, none⟩) n lc) cl) (h0 : 0 < n) :
    Calls Tryz.prog 94 #[.slice (some ⟨lb, lo, none⟩) n lc] w fun e w' => (∃ g c, e = .returned (.slice (some ⟨g, 0, none⟩) n c) ∧ Hid (FRow insK w' w.heap.size (.slice (some ⟨g, 0, none⟩) n c) cl)) ∧ Below w.heap.size w w' := by
  have hall := slat_all insOk (F := insK) (E := InsAt) (fun x cf w m h j hj => by
    obtain ⟨⟨d0, d1, d2, d3, d4⟩, -⟩ := h
    have hj5 : j < 5 := hj
    have : j = 0 ∨ j = 1 ∨ j = 2 ∨ j = 3 ∨ j = 4 := by omega
    rcases this with rfl | rfl | rfl | rfl | rfl
    · exact d0
    · exact d1
    · exact d2
    · exact d3
    · exact d4) hs
  obtain ⟨W, hW⟩ : ∃ W, w.alloc (.cells #[] 139) = W := ⟨_, rfl⟩
  have bW : Below w.heap.size w W := by rw [← hW]; exact (Below.refl _ _).alloc (Nat.le_refl _) _
  have hF0 := FRow.made insK w w.heap.size (Nat.le_refl _)
  change FRow insK (w.alloc (.cells #[] 139)) _ _ _ at hF0
  rw [hW] at hF0
  have HF0 := hide hF0
  have HAl : Hid (∀ j u, (insK.all cl)[j]? = some u → W.cell? ((⟨lb, lo, none⟩ : Addr).add j) = some u) := hide fun j u hu => by
    have h1 := hall j u hu
    rw [add_plain] at h1 ⊢
    exact (bW.cell (p := ⟨lb, _, none⟩) (block_lt h1)).trans h1
  have hsW : W.heap.size = w.heap.size + 1 := by rw [← hW]; simp
  have HsW := hide hsW
  have HN := hide hn
  have HBW := hide bW
  have HW := hide hW
  have hnil := fun w' => ins_nil ⟨lb, lo, none⟩ n lc w'
  clear hall bW hF0 hsW hn hW hs
  go_enter Tryz.func94, Tryz.ntmps94
  go_upto_region 3 with fail
  go_wp2_with (at_builtin; rw [HW.out]; refine wp_append_flats insOk rfl _ _ rfl w.heap.size (.slice (some ⟨w.heap.size, 0, none⟩) 0 0) [] rfl HF0.out ⟨lb, lo, none⟩ n lc cl rfl HN.out HAl.out (fun y _ => ins_one y) (by simp; omega) (by have := HsW.out; omega) ?_; intro v1 w1 hr1 gr1)
  obtain ⟨g, cap, rfl, hgB, hgl⟩ := World.ownsRow.form hr1 (by rw [List.nil_append, HN.out]; exact h0)
  have hln : ([] ++ cl : List InsD).length = n := by rw [List.nil_append, HN.out]
  rw [hln] at hr1 ⊢
  have bw : Below w.heap.size w w1 := HBW.out.grown gr1 HBW.out.size (fun k hk => by cases hk; exact Nat.le_refl _)
  have HB := hide bw
  have HR := hide hr1
  clear hr1 gr1 hln bw hnil
  go_wp2
  go_ret
  exact ⟨⟨g, cap, rfl, HR⟩, HB.out⟩
end Go.Proofs.YtfbglokjehmgeaaGreatDoor
