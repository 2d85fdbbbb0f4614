/- Writing to a strings.Builder that the call has made (the program's own Builder says of a copied one that it is not followed, so the library's contract does not fit; a builder that is at its place comes past it). Of whatever bytes. No condition but the bound on length. -/
import Derived.Test.YtjficafpkdeibaaGreatDoorByt
import Derived.Lib.Builder
import Derived.WalkKit
import Derived.ProofKit
namespace Go.Proofs.YtjficafpkdeibaaGreatDoor
open Go.RowKit

/-- A builder at block b (one of the call's own, from B on) that holds the bytes l. -/
def Bld (B b : Nat) (l : List Int) (w : World) : Prop := Lib.IsBuilder 73 5 B b (bc l) w
def BldUsed (B b : Nat) (l : List Int) (w : World) : Prop := Lib.BuilderAt 73 5 B b (.pointer (some ⟨b, 0, none⟩)) (bc l) w
theorem Bld.fresh (w : World) : Bld w.heap.size w.heap.size [] (w.alloc (.cells #[.pointer none, .slice none 0 0] 73)) := Lib.fresh_isBuilder _ _ _
theorem BldUsed.bld {B b : Nat} {l : List Int} {w : World} (h : BldUsed B b l w) : Bld B b l w := .inr h
theorem Bld.on {B b : Nat} {l : List Int} {w w' : World} (h : Bld B b l w) (bel : Below w.heap.size w w') : Bld B b l w' := by
  have key : ∀ p, Lib.BuilderAt 73 5 B b p (bc l) w → Lib.BuilderAt 73 5 B b p (bc l) w' := fun p ⟨hB, v, hb, hown, hne⟩ => by
    refine ⟨hB, v, (bel.block b (Array.getElem?_eq_some_iff.1 hb).1).trans hb, ⟨hown.1, ?_⟩, hne⟩
    rcases hown.2 with h2 | ⟨g, cap, cur, e, hg1, hg, r⟩
    · exact .inl h2
    · exact .inr ⟨g, cap, cur, e, hg1, (bel.block g (Array.getElem?_eq_some_iff.1 hg).1).trans hg, r⟩
  exact h.imp (key _) (key _)
theorem own_form {w : World} {B : Nat} {v : Value} {l : List Int} (h : Own w B v l) : ∃ a c, v = .slice a l.length c := by
  rcases h.2 with ⟨e, e2⟩ | ⟨g, cap, _, e, -⟩
  · exact ⟨none, 0, by rw [e, e2]⟩
  · exact ⟨_, _, e⟩
theorem bldInfo : (Tryz.prog.info? 73).map (fun i => i.size) = some 2 := by kernel_rfl
set_option maxHeartbeats 1000000 in
set_option maxRecDepth 100000 in
theorem copyCheck_used (b : Nat) (w : World) (h0 : w.cell? ⟨b, 0, none⟩ = some (.pointer (some ⟨b, 0, none⟩))) :
    Calls Tryz.prog 95 #[.pointer (some ⟨b, 0, none⟩)] w fun e w' => e = .returned (.tuple #[]) ∧ w' = w := by
  obtain ⟨j, hj, -⟩ := Option.map_eq_some_iff.1 bldInfo
  go_enter Tryz.func95, Tryz.ntmps95
  go_wp2
  rw [Lib.run_neq_ptr_same w _ Tryz.underlying71 hj]
  go_wp2
  go_end0
  exact ⟨rfl, rfl⟩
set_option maxHeartbeats 1000000 in
set_option maxRecDepth 100000 in
theorem copyCheck_fresh (b : Nat) (w : World) (h0 : w.cell? ⟨b, 0, none⟩ = some (.pointer none)) (hsh : w.shape? b = some (73, 2)) (hfz : w.frozen? ⟨b, 0, none⟩ = false) :
    Calls Tryz.prog 95 #[.pointer (some ⟨b, 0, none⟩)] w fun e w' => e = .returned (.tuple #[]) ∧ w' = w.setCell ⟨b, 0, none⟩ (.pointer (some ⟨b, 0, none⟩)) := by
  obtain ⟨j, hj, hjs⟩ := Option.map_eq_some_iff.1 bldInfo
  have k1 := Lib.run_to_unsafe w ⟨b, 0, none⟩ Tryz.underlying71 Tryz.underlying170 hj (by rw [hjs]; decide) hsh (Nat.zero_lt_succ 1)
  have k2 := Lib.run_from_unsafe w ⟨b, 0, none⟩ Tryz.underlying170 Tryz.underlying71 hj hsh (by kernel_rfl)
  have k3 : (callFunc 139 #[.pointer (some ⟨b, 0, none⟩)]).run Tryz.prog w = .ok (.value (.pointer (some ⟨b, 0, none⟩))) w := by
    rw [run_callFunc_extern Tryz.func139 (by kernel_rfl) (by kernel_rfl) (by kernel_rfl) (e := Extern.AbiNoEscape.same) (by kernel_rfl)]
    rw [Lib.run_noEscape]
    rfl
  go_enter Tryz.func95, Tryz.ntmps95
  go_wp2
  go_end0
  exact ⟨rfl, rfl⟩
theorem copyCheck_any (B b : Nat) (l : List Int) (w : World) (h : Bld B b l w) :
    Calls Tryz.prog 95 #[.pointer (some ⟨b, 0, none⟩)] w fun e w' => e = .returned (.tuple #[]) ∧ BldUsed B b l w' ∧ Below B w w' := by
  rcases h with h | h
  · refine (copyCheck_fresh b w h.cell0 h.shape h.frozen0).mono ?_
    rintro e w' ⟨rfl, rfl⟩
    exact ⟨rfl, h.used _, (Below.refl B w).setCell (p := ⟨b, 0, none⟩) h.1 _⟩
  · refine (copyCheck_used b w h.cell0).mono ?_
    rintro e w' ⟨rfl, rfl⟩
    exact ⟨rfl, h, Below.refl B _⟩
set_option maxHeartbeats 2000000 in
set_option maxRecDepth 100000 in
theorem writeString_any (B b : Nat) (l : List Int) (s : ByteArray) (w : World) (h : Bld B b l w) (hlen : l.length + s.size ≤ 140737488355328) (hBw : B ≤ w.heap.size) :
    Calls Tryz.prog 33 #[.pointer (some ⟨b, 0, none⟩), .string s] w fun e w' => e = .returned (.tuple #[.int .i64 s.size, .nilIface]) ∧ BldUsed B b (l ++ sb s) w' ∧ Below B w w' := by
  obtain ⟨i0, hi, hz0, hz1, hz2⟩ := info_parts u8Info
  have HC := hide (copyCheck_any B b l w h)
  go_enter Tryz.func33, Tryz.ntmps33
  go_wp2_with (first
    | (go_at_call 95; refine HC.out.mono ?_; rintro e w1 ⟨rfl, h1, hb1⟩; obtain ⟨hB, v, hbk, hown, hne⟩ := h1; have hown : Own w1 B v l := (by unfold Own; rw [← bc_len l]; exact hown); obtain ⟨va, vc, rfl⟩ := own_form hown; have c0 : w1.cell? ⟨b, 0, none⟩ = some (.pointer (some ⟨b, 0, none⟩)) := (heapCells hbk).1 0; have c1 : w1.cell? ⟨b, 1, none⟩ = some (.slice va l.length vc) := (heapCells hbk).1 1)
    | (at_builtin; refine wp_append_text rfl _ _ rfl B (.slice va l.length vc) l rfl hown s rfl hlen (Nat.le_trans hBw hb1.size) ?_; intro v' w2 hown2 hkp; have hb2 : w2.heap[b]? = some (.cells #[.pointer (some ⟨b, 0, none⟩), .slice va l.length vc] 73 (0, 0)) := hkp.row hbk (by decide); have d0 : w2.cell? ⟨b, 0, none⟩ = some (.pointer (some ⟨b, 0, none⟩)) := (heapCells hb2).1 0; have d1 : w2.cell? ⟨b, 1, none⟩ = some (.slice va l.length vc) := (heapCells hb2).1 1; have f1 : w2.frozen? ⟨b, 1, none⟩ = false := (heapCells hb2).2 1; obtain ⟨ao, cap, rfl⟩ := own_form hown2))
  go_ret2
  refine ⟨rfl, ?_, (hb1.trans hkp.bel).setCell (p := ⟨b, 1, none⟩) hB _⟩
  exact Lib.BuilderAt.put (T := 73) (e := 5) hB hb2 (bs' := bc (l ++ sb s)) (by unfold Own at hown2; rw [bc_len]; rw [List.length_append] at hown2 ⊢; exact hown2) (by decide)
end Go.Proofs.YtjficafpkdeibaaGreatDoor
