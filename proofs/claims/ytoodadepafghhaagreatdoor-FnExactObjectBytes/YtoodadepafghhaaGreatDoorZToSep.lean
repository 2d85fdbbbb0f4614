/- The law's copy of an object: its rows lie apart, each list's behind the one ahead. No condition. -/
import Derived.Test.YtoodadepafghhaaGreatDoorZObjTo
namespace Go.Proofs.YtoodadepafghhaaGreatDoor
open Go.ChangeShapes Go.WideShapes Go.ChangeAt Go.RowKit Go.Deep

def ObjectSep (w : World) (lo hi : Nat) (v : Value) (x : ObjectD) : Prop := ∃ u2 u3 u4 l2 h2 l3 h3 l4 h4, v = .agg #[.string (x.module), .int .i64 (x.print), u2, u3, u4] ∧ (x.module.size ≤ maxLen ∧ I64 x.print ∧ x.needs.length ≤ maxLen ∧ x.globals.length ≤ maxLen ∧ x.procs.length ≤ maxLen) ∧ (lo ≤ l2 ∧ l2 ≤ h2 ∧ h2 ≤ l3 ∧ l3 ≤ h3 ∧ h3 ≤ l4 ∧ l4 ≤ h4 ∧ h4 ≤ hi) ∧ SlAt NeedAt 2 w ⟨l2, h2, true⟩ u2 x.needs ∧ SlAt GlobalAt 2 w ⟨l3, h3, true⟩ u3 x.globals ∧ SlAt CodeAt 5 w ⟨l4, h4, true⟩ u4 x.procs
theorem ObjectSep.val {w : World} {lo hi : Nat} {v : Value} {x : ObjectD} (h : ObjectSep w lo hi v x) : ObjectVal w ⟨lo, hi, true⟩ v x := by
  obtain ⟨u2, u3, u4, l2, h2, l3, h3, l4, h4, e, hb, ⟨q1, q2, q3, q4, q5, q6, q7⟩, s2, s3, s4⟩ := h
  exact ⟨u2, u3, u4, e, hb, s2.wid NeedAt.widens (by show lo ≤ l2; omega) (by show h2 ≤ hi; omega) rfl, s3.wid GlobalAt.widens (by show lo ≤ l3; omega) (by show h3 ≤ hi; omega) rfl, s4.wid CodeAt.widens (by show lo ≤ l4; omega) (by show h4 ≤ hi; omega) rfl⟩
theorem ObjectSep.on {w w' : World} {lo hi : Nat} {v : Value} {x : ObjectD} (h : ObjectSep w lo hi v x) (bel : Below hi w w') : ObjectSep w' lo hi v x := by
  obtain ⟨u2, u3, u4, l2, h2, l3, h3, l4, h4, e, hb, ⟨q1, q2, q3, q4, q5, q6, q7⟩, s2, s3, s4⟩ := h
  exact ⟨u2, u3, u4, l2, h2, l3, h3, l4, h4, e, hb, ⟨q1, q2, q3, q4, q5, q6, q7⟩, s2.on NeedAt.stays (bel.mono (by show h2 ≤ hi; omega)), s3.on GlobalAt.stays (bel.mono (by show h3 ≤ hi; omega)), s4.on CodeAt.stays (bel.mono (by show h4 ≤ hi; omega))⟩
set_option maxHeartbeats 4000000 in
theorem toObject_sep (v : Value) (m : Md) (x : ObjectD) (w : World) (hs : ObjectSm x) (h : ObjectVal w m v x) (hm : m.hi ≤ w.heap.size) :
    Calls Tryz.prog 14 #[v] w fun e w' => (∃ u, e = .returned u ∧ Hid (ObjectSep w' w.heap.size w'.heap.size u x)) ∧ Below w.heap.size w w' := by
  obtain ⟨u2, u3, u4, rfl, hb, s2, s3, s4⟩ := h
  have HS2 := hide s2
  obtain ⟨p2, c2, rfl, -⟩ := s2
  have HS3 := hide s3
  obtain ⟨p3, c3, rfl, -⟩ := s3
  have HS4 := hide s4
  obtain ⟨p4, c4, rfl, -⟩ := s4
  have HB := hide hb
  unfold ObjectSm at hs
  obtain ⟨sm2, sm3, sm4, sn4⟩ := hs
  clear hb
  go_enter Tryz.func14, Tryz.ntmps14
  go_wp2_with fail
  refine (toNeedS_any (.slice p2 x.needs.length c2) m x.needs _ sm2 (HS2.out.on NeedAt.stays (Below.mono ((((Below.refl _ _).alloc (Nat.le_refl _) _).alloc (by simp) _).alloc (by first | omega | (simp <;> omega)) _) hm)) (Nat.le_trans hm (Below.size ((((Below.refl _ _).alloc (Nat.le_refl _) _).alloc (by simp) _).alloc (by first | omega | (simp <;> omega)) _)))).mono ?_
  rintro e w2' ⟨⟨r2, rfl, hr2⟩, bel2⟩
  obtain ⟨q2, k2, rfl, -⟩ := id hr2.out
  have z2 : w.heap.size + 3 ≤ w2'.heap.size := Nat.le_trans (by simp) bel2.size
  obtain ⟨hc2, hf2⟩ := bcell bel2
  have m2_0 := fun o => hc2 (w.heap.size) o (by first | omega | (simp <;> omega))
  have n2_0 := fun o => hf2 (w.heap.size) o (by first | omega | (simp <;> omega))
  have m2_1 := fun o => hc2 (w.heap.size + 1) o (by first | omega | (simp <;> omega))
  have n2_1 := fun o => hf2 (w.heap.size + 1) o (by first | omega | (simp <;> omega))
  have m2_2 := fun o => hc2 (w.heap.size + 2) o (by first | omega | (simp <;> omega))
  have n2_2 := fun o => hf2 (w.heap.size + 2) o (by first | omega | (simp <;> omega))
  clear hc2 hf2
  go_wp2_with fail
  refine (toGlobalS_any (.slice p3 x.globals.length c3) m x.globals _ sm3 (HS3.out.on GlobalAt.stays (Below.mono (Below.setCell (Below.trans ((((Below.refl _ _).alloc (Nat.le_refl _) _).alloc (by simp) _).alloc (by first | omega | (simp <;> omega)) _) (Below.mono bel2 (by first | omega | (simp <;> omega)))) (p := ⟨w.heap.size + 2, 2, none⟩) (by first | omega | (simp <;> omega)) (.slice q2 x.needs.length k2)) hm)) (Nat.le_trans hm (Below.size (Below.setCell (Below.trans ((((Below.refl _ _).alloc (Nat.le_refl _) _).alloc (by simp) _).alloc (by first | omega | (simp <;> omega)) _) (Below.mono bel2 (by first | omega | (simp <;> omega)))) (p := ⟨w.heap.size + 2, 2, none⟩) (by first | omega | (simp <;> omega)) (.slice q2 x.needs.length k2))))).mono ?_
  rintro e w3' ⟨⟨r3, rfl, hr3⟩, bel3⟩
  obtain ⟨q3, k3, rfl, -⟩ := id hr3.out
  have z3 : w.heap.size + 3 ≤ w3'.heap.size := Nat.le_trans (by first | omega | (simp <;> omega)) bel3.size
  have y3 : w2'.heap.size ≤ w3'.heap.size := Nat.le_trans (by first | omega | (simp <;> omega)) bel3.size
  obtain ⟨hc3, hf3⟩ := bcell bel3
  have m3_0 := fun o => hc3 (w.heap.size) o (by first | omega | (simp <;> omega))
  have n3_0 := fun o => hf3 (w.heap.size) o (by first | omega | (simp <;> omega))
  have m3_1 := fun o => hc3 (w.heap.size + 1) o (by first | omega | (simp <;> omega))
  have n3_1 := fun o => hf3 (w.heap.size + 1) o (by first | omega | (simp <;> omega))
  have m3_2 := fun o => hc3 (w.heap.size + 2) o (by first | omega | (simp <;> omega))
  have n3_2 := fun o => hf3 (w.heap.size + 2) o (by first | omega | (simp <;> omega))
  clear hc3 hf3
  go_wp2_with fail
  refine (toCodeS_any (.slice p4 x.procs.length c4) m x.procs _ sm4 sn4 (HS4.out.on CodeAt.stays (Below.mono (Below.setCell (Below.trans (Below.setCell (Below.trans ((((Below.refl _ _).alloc (Nat.le_refl _) _).alloc (by simp) _).alloc (by first | omega | (simp <;> omega)) _) (Below.mono bel2 (by first | omega | (simp <;> omega)))) (p := ⟨w.heap.size + 2, 2, none⟩) (by first | omega | (simp <;> omega)) (.slice q2 x.needs.length k2)) (Below.mono bel3 (by first | omega | (simp <;> omega)))) (p := ⟨w.heap.size + 2, 3, none⟩) (by first | omega | (simp <;> omega)) (.slice q3 x.globals.length k3)) hm)) (Nat.le_trans hm (Below.size (Below.setCell (Below.trans (Below.setCell (Below.trans ((((Below.refl _ _).alloc (Nat.le_refl _) _).alloc (by simp) _).alloc (by first | omega | (simp <;> omega)) _) (Below.mono bel2 (by first | omega | (simp <;> omega)))) (p := ⟨w.heap.size + 2, 2, none⟩) (by first | omega | (simp <;> omega)) (.slice q2 x.needs.length k2)) (Below.mono bel3 (by first | omega | (simp <;> omega)))) (p := ⟨w.heap.size + 2, 3, none⟩) (by first | omega | (simp <;> omega)) (.slice q3 x.globals.length k3))))).mono ?_
  rintro e w4' ⟨⟨r4, rfl, hr4⟩, bel4⟩
  obtain ⟨q4, k4, rfl, -⟩ := id hr4.out
  have z4 : w.heap.size + 3 ≤ w4'.heap.size := Nat.le_trans (by first | omega | (simp <;> omega)) bel4.size
  have y4 : w3'.heap.size ≤ w4'.heap.size := Nat.le_trans (by first | omega | (simp <;> omega)) bel4.size
  obtain ⟨hc4, hf4⟩ := bcell bel4
  have m4_0 := fun o => hc4 (w.heap.size) o (by first | omega | (simp <;> omega))
  have n4_0 := fun o => hf4 (w.heap.size) o (by first | omega | (simp <;> omega))
  have m4_1 := fun o => hc4 (w.heap.size + 1) o (by first | omega | (simp <;> omega))
  have n4_1 := fun o => hf4 (w.heap.size + 1) o (by first | omega | (simp <;> omega))
  have m4_2 := fun o => hc4 (w.heap.size + 2) o (by first | omega | (simp <;> omega))
  have n4_2 := fun o => hf4 (w.heap.size + 2) o (by first | omega | (simp <;> omega))
  clear hc4 hf4
  go_wp2
  refine bodyPost_ret (v := .agg #[.string (x.module), .int .i64 (x.print), .slice q2 x.needs.length k2, .slice q3 x.globals.length k3, .slice q4 x.procs.length k4]) (by simp [results, Tryz.results14, go_sem, m2_1, m3_1, m4_1]) rfl ⟨⟨_, rfl, hide ⟨_, _, _, _, _, _, _, _, _, rfl, HB.out, ⟨(by first | omega | (simp <;> omega)), (by first | omega | (simp <;> omega)), (by first | omega | (simp <;> omega)), (by first | omega | (simp <;> omega)), (by first | omega | (simp <;> omega)), (by first | omega | (simp <;> omega)), (by first | omega | (simp <;> omega))⟩, hr2.out.same NeedAt.stays ?_, hr3.out.same GlobalAt.stays ?_, hr4.out.same CodeAt.stays ?_⟩⟩, ?_⟩
  · repeat (refine Same.setCell ?_ (by first | omega | (simp <;> omega)) _)
    refine Same.trans ?_ (Same.of_below bel4 (by first | omega | (simp <;> omega)))
    repeat (refine Same.setCell ?_ (by first | omega | (simp <;> omega)) _)
    refine Same.trans ?_ (Same.of_below bel3 (by first | omega | (simp <;> omega)))
    repeat (refine Same.setCell ?_ (by first | omega | (simp <;> omega)) _)
    exact Same.refl _ _ _
  · repeat (refine Same.setCell ?_ (by first | omega | (simp <;> omega)) _)
    refine Same.trans ?_ (Same.of_below bel4 (by first | omega | (simp <;> omega)))
    repeat (refine Same.setCell ?_ (by first | omega | (simp <;> omega)) _)
    exact Same.refl _ _ _
  · repeat (refine Same.setCell ?_ (by first | omega | (simp <;> omega)) _)
    exact Same.refl _ _ _
  · repeat (refine Below.setCell ?_ (by first | omega | (simp <;> omega)) _)
    refine Below.trans ?_ (bel4.mono (B' := w.heap.size) (by first | omega | (simp <;> omega)))
    repeat (refine Below.setCell ?_ (by first | omega | (simp <;> omega)) _)
    refine Below.trans ?_ (bel3.mono (B' := w.heap.size) (by first | omega | (simp <;> omega)))
    repeat (refine Below.setCell ?_ (by first | omega | (simp <;> omega)) _)
    refine Below.trans ?_ (bel2.mono (B' := w.heap.size) (by first | omega | (simp <;> omega)))
    repeat (refine Below.setCell ?_ (by first | omega | (simp <;> omega)) _)
    exact (((Below.refl _ _).alloc (Nat.le_refl _) _).alloc (by simp) _).alloc (by first | omega | (simp <;> omega)) _
end Go.Proofs.YtoodadepafghhaaGreatDoor
