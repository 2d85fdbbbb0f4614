/- Writing to a strings.Builder that the call has made: and nothing else but rows of bytes turns. No condition but the bound on length. -/
import Derived.Test.YtjficafpkdeibaaGreatDoorBuild
namespace Go.Proofs.YtjficafpkdeibaaGreatDoor
open Go.RowKit

/-- .. and no block that is neither the builder's nor a row of bytes has turned. -/
def Far (b : Nat) (w w' : World) : Prop := ∀ g C T, g ≠ b → T ≠ 5 → w.heap[g]? = some (.cells C T (0, 0)) → w'.heap[g]? = some (.cells C T (0, 0))
theorem copyCheck_far (B b : Nat) (l : List Int) (w : World) (h : Bld B b l w) :
    Calls Tryz.prog 95 #[.pointer (some ⟨b, 0, none⟩)] w fun e w' => e = .returned (.tuple #[]) ∧ BldUsed B b l w' ∧ Below B w w' ∧ Far b w w' := by
  rcases h with h | h
  · refine (copyCheck_fresh b w h.cell0 h.shape h.frozen0).mono ?_
    rintro e w' ⟨rfl, rfl⟩
    exact ⟨rfl, h.used _, (Below.refl B w).setCell (p := ⟨b, 0, none⟩) h.1 _, fun g C T hg _ hC => (Below.heap_setCell _ _ _ _ (fun e => hg e)).trans hC⟩
  · refine (copyCheck_used b w h.cell0).mono ?_
    rintro e w' ⟨rfl, rfl⟩
    exact ⟨rfl, h, Below.refl B _, fun _ _ _ _ _ hC => hC⟩
set_option maxHeartbeats 2000000 in
set_option maxRecDepth 100000 in
theorem writeString_far (B b : Nat) (l : List Int) (s : ByteArray) (w : World) (h : Bld B b l w) (hlen : l.length + s.size ≤ 140737488355328) (hBw : B ≤ w.heap.size) :
    Calls Tryz.prog 33 #[.pointer (some ⟨b, 0, none⟩), .string s] w fun e w' => e = .returned (.tuple #[.int .i64 s.size, .nilIface]) ∧ BldUsed B b (l ++ sb s) w' ∧ Below B w w' ∧ Far b w w' := by
  have HC := hide (copyCheck_far B b l w h)
  go_enter Tryz.func33, Tryz.ntmps33
  go_wp2_with (first
    | (go_at_call 95; refine HC.out.mono ?_; rintro e w1 ⟨rfl, h1, hb1, hf1⟩; have HF1 := hide hf1; clear hf1; obtain ⟨hB, v, hbk, hown, hne⟩ := h1; have hown : Own w1 B v l := (by unfold Own; rw [← bc_len l]; exact hown); obtain ⟨va, vc, rfl⟩ := own_form hown; have c0 : w1.cell? ⟨b, 0, none⟩ = some (.pointer (some ⟨b, 0, none⟩)) := (heapCells hbk).1 0; have c1 : w1.cell? ⟨b, 1, none⟩ = some (.slice va l.length vc) := (heapCells hbk).1 1)
    | (at_builtin; refine wp_append_text rfl _ _ rfl B (.slice va l.length vc) l rfl hown s rfl hlen (Nat.le_trans hBw hb1.size) ?_; intro v' w2 hown2 hkp; have hb2 : w2.heap[b]? = some (.cells #[.pointer (some ⟨b, 0, none⟩), .slice va l.length vc] 73 (0, 0)) := hkp.row hbk (by decide); have d0 : w2.cell? ⟨b, 0, none⟩ = some (.pointer (some ⟨b, 0, none⟩)) := (heapCells hb2).1 0; have d1 : w2.cell? ⟨b, 1, none⟩ = some (.slice va l.length vc) := (heapCells hb2).1 1; have f1 : w2.frozen? ⟨b, 1, none⟩ = false := (heapCells hb2).2 1; obtain ⟨ao, cap, rfl⟩ := own_form hown2))
  go_ret2
  refine ⟨rfl, ?_, (hb1.trans hkp.bel).setCell (p := ⟨b, 1, none⟩) hB _, fun g C T hg hT hC => (Below.heap_setCell _ _ _ _ (fun e => hg e)).trans (hkp.row (HF1.out g C T hg hT hC) hT)⟩
  exact Lib.BuilderAt.put (T := 73) (e := 5) hB hb2 (bs' := bc (l ++ sb s)) (by unfold Own at hown2; rw [bc_len]; rw [List.length_append] at hown2 ⊢; exact hown2) (by decide)
end Go.Proofs.YtjficafpkdeibaaGreatDoor
