/- The program's words and signs as tokens. -/
import Derived.Test.YtoocnpkhgnbepadDoorImplB
import Derived.Test.YtoocnpkhgnbepadDoorKeys
namespace Go.Proofs.YtoocnpkhgnbepadDoor
open Go.RowKit Go.PlainAid

/-- A token and its length: kind, number, text, length (0 if there is none). -/
def tokVal (q : Int × Int × ByteArray × Nat) : Value := .tuple #[.agg #[.int .i64 q.1, .int .i64 q.2.1, .string q.2.2.1, .int .i64 0], .int .i64 q.2.2.2]
def noTok : Int × Int × ByteArray × Nat := (0, 0, ⟨#[]⟩, 0)
def wordTok (r : ByteArray) : Int × Int × ByteArray × Nat :=
  if 40 < wEnd r 0 then noTok else if keyB (r.extract 0 (wEnd r 0)) = true then (2, 0, r.extract 0 (wEnd r 0), wEnd r 0) else (1, 0, r.extract 0 (wEnd r 0), wEnd r 0)
theorem wEnd_le (r : ByteArray) : wEnd r 0 ≤ r.size := (wEnd_spec r r.size 0 (by omega) (by omega)).2.1
theorem head_size (r : ByteArray) (e : Nat) (h : e ≤ r.size) : (r.extract 0 e).size = e := by rw [ByteArray.size_extract]; omega

/-- A block that the call has made, behind a callee: its cells, free to be written; what was there ahead of it. -/
theorem own_block {w w' : World} {C : Array Value} {T : TypeId} (bel : Below (w.alloc (.cells C T)).heap.size (w.alloc (.cells C T)) w') :
    (∀ j, w'.cell? ⟨w.heap.size, j, none⟩ = C[j]?) ∧ (∀ j, w'.frozen? ⟨w.heap.size, j, none⟩ = false) ∧ w.heap.size < w'.heap.size ∧ Below w.heap.size w w' := by
  have hs : w.heap.size < (w.alloc (.cells C T)).heap.size := by simp
  refine ⟨fun j => ?_, fun j => ?_, Nat.lt_of_lt_of_le hs bel.size, ((Below.refl _ _).alloc (Nat.le_refl _) _).trans (bel.mono (by simp))⟩
  · rw [bel.cell (p := ⟨w.heap.size, j, none⟩) hs, World.cell?_alloc_new]
  · rw [bel.frozen (p := ⟨w.heap.size, j, none⟩) hs]
    simp [go_sem]

set_option maxHeartbeats 1600000 in
theorem wordToken_any (r : ByteArray) (w : World) (hs : r.size ≤ maxLen) (t : TypeId) (fr : Nat × Nat) (hg : w.heap[1]? = some (.cells keyRow t fr)) :
    Calls Tryd.prog 38 #[.string r] w fun e w' => e = .returned (tokVal (wordTok r)) ∧ Below w.heap.size w w' := by
  have hle := wEnd_le r
  have hhs := head_size r (wEnd r 0) hle
  have hm := hs
  unfold maxLen at hm
  have hlt : 1 < w.heap.size := (Array.getElem?_eq_some_iff.1 hg).1
  have Hg : Hid (w.heap[1]? = some (.cells keyRow t fr)) := hg
  clear hg
  unfold wordTok
  generalize he : wEnd r 0 = e at *
  have He : Hid (wEnd r 0 = e) := he
  clear he
  by_cases c1 : 40 < e
  · rw [if_pos c1]
    go_enter Tryd.func38, Tryd.ntmps38
    go_wp2_with (go_at_call 62; refine (wordLength_any r _ hs).mono ?_; rintro e w' ⟨he, bel⟩; rw [He.out] at he; subst he; obtain ⟨tc, tf, tz, tb⟩ := own_block bel; clear bel)
    exact bodyPost_ret (v := tokVal noTok) (by simp [results, Tryd.results38, go_sem, tokVal, noTok, tc]) rfl ⟨rfl, (((tb.setCell (Nat.le_refl _) _).setCell (Nat.le_refl _) _).setCell (Nat.le_refl _) _).setCell (Nat.le_refl _) _⟩
  · rw [if_neg c1]
    generalize hk : keyB (r.extract 0 e) = kb
    have Hk : Hid (keyB (r.extract 0 e) = kb) := hk
    clear hk
    cases kb
    · go_enter Tryd.func38, Tryd.ntmps38
      go_wp2_with (first
       | (go_at_call 62; refine (wordLength_any r _ hs).mono ?_; rintro e w' ⟨he, bel⟩; rw [He.out] at he; subst he; obtain ⟨tc, tf, tz, tb⟩ := own_block bel; clear bel)
       | (go_at_call 10; refine (implIsKey_any _ _ t fr ((tb.block _ hlt).trans Hg.out)).mono ?_; rintro e w' ⟨he, rfl⟩; rw [Hk.out] at he; subst he))
      exact bodyPost_ret (v := tokVal (1, 0, r.extract 0 e, e)) (by simp [results, Tryd.results38, go_sem, tokVal, tc]) rfl ⟨rfl, (((tb.setCell (Nat.le_refl _) _).setCell (Nat.le_refl _) _).setCell (Nat.le_refl _) _).setCell (Nat.le_refl _) _⟩
    · go_enter Tryd.func38, Tryd.ntmps38
      go_wp2_with (first
       | (go_at_call 62; refine (wordLength_any r _ hs).mono ?_; rintro e w' ⟨he, bel⟩; rw [He.out] at he; subst he; obtain ⟨tc, tf, tz, tb⟩ := own_block bel; clear bel)
       | (go_at_call 10; refine (implIsKey_any _ _ t fr ((tb.block _ hlt).trans Hg.out)).mono ?_; rintro e w' ⟨he, rfl⟩; rw [Hk.out] at he; subst he))
      exact bodyPost_ret (v := tokVal (2, 0, r.extract 0 e, e)) (by simp [results, Tryd.results38, go_sem, tokVal, tc]) rfl ⟨rfl, (((tb.setCell (Nat.le_refl _) _).setCell (Nat.le_refl _) _).setCell (Nat.le_refl _) _).setCell (Nat.le_refl _) _⟩
end Go.Proofs.YtoocnpkhgnbepadDoor
