/- The program's numbers and quoted characters as tokens. -/
import Derived.Test.YtoocnpkhgnbepadDoorImplF
namespace Go.Proofs.YtoocnpkhgnbepadDoor
open Go.RowKit Go.PlainAid

def digitTok (r : ByteArray) : Int × Int × ByteArray × Nat :=
  if numOK (r.extract 0 (wEnd r 0)) = true then (3, numF (r.extract 0 (wEnd r 0)) (wEnd r 0), ⟨#[]⟩, wEnd r 0)
  else if hexOK (r.extract 0 (wEnd r 0)) = true then (4, hexF (r.extract 0 (wEnd r 0)) (wEnd r 0 - 1), ⟨#[]⟩, wEnd r 0) else noTok

theorem bt_head (r : ByteArray) (e k : Nat) (he : e ≤ r.size) (hk : k < e) : bt (r.extract 0 e) k = bt r k := by
  have h1 : k < (r.extract 0 e).size := by rw [head_size r e he]; exact hk
  rw [← get_bt r k (by omega), ← get_bt _ k h1, ByteArray.getElem_extract]
  simp

/-- The same block behind a second callee. -/
theorem own_later {w w1 w2 : World} {C : Array Value} (tc : ∀ j, w1.cell? ⟨w.heap.size, j, none⟩ = C[j]?) (tf : ∀ j, w1.frozen? ⟨w.heap.size, j, none⟩ = false) (tz : w.heap.size < w1.heap.size) (tb : Below w.heap.size w w1) (bel : Below w1.heap.size w1 w2) :
    (∀ j, w2.cell? ⟨w.heap.size, j, none⟩ = C[j]?) ∧ (∀ j, w2.frozen? ⟨w.heap.size, j, none⟩ = false) ∧ w.heap.size < w2.heap.size ∧ Below w.heap.size w w2 :=
  ⟨fun j => by rw [bel.cell (p := ⟨w.heap.size, j, none⟩) tz]; exact tc j, fun j => by rw [bel.frozen (p := ⟨w.heap.size, j, none⟩) tz]; exact tf j, Nat.lt_of_lt_of_le tz bel.size, tb.trans (bel.mono (Nat.le_of_lt tz))⟩

set_option maxHeartbeats 1600000 in
theorem digitToken_any (r : ByteArray) (w : World) (hs : r.size ≤ maxLen) (h0 : digB (bt r 0) = true) :
    Calls Tryd.prog 40 #[.string r] w fun e w' => e = .returned (tokVal (digitTok r)) ∧ Below w.heap.size w w' := by
  have hle := wEnd_le r
  have hhs := head_size r (wEnd r 0) hle
  have hm := hs
  unfold maxLen at hm
  have hr : 0 < r.size := by
    by_cases q : 0 < r.size
    · exact q
    · rw [bt_end r (by omega)] at h0; exact absurd h0 (by decide)
  have he1 : 1 ≤ wEnd r 0 := by
    have hw : wordB (bt r 0) = true := by unfold wordB; rw [h0]; simp
    rw [wEnd_go hr hw]
    exact (wEnd_spec r (r.size - 1) 1 (by omega) (by omega)).1
  have hd0 : digB (bt (r.extract 0 (wEnd r 0)) 0) = true := by rw [bt_head r _ 0 hle (by omega)]; exact h0
  unfold digitTok
  generalize he : wEnd r 0 = e at *
  have He : Hid (wEnd r 0 = e) := he
  clear he
  generalize ht : r.extract 0 e = t at *
  have Ht : Hid (r.extract 0 e = t) := ht
  have hts : t.size ≤ maxLen := by unfold maxLen; omega
  have Hd0 : Hid (digB (bt t 0) = true) := hd0
  have Hhs : Hid (t.size = e) := hhs
  clear hd0
  by_cases c1 : numOK t = true
  · have hv : numV t = numF t e := by unfold numV; rw [if_pos c1, hhs]
    have Hv : Hid (numV t = numF t e) := hv
    have Hk : Hid (numOK t = true) := c1
    rw [if_pos c1]
    clear hv c1 ht hhs
    go_enter Tryd.func40, Tryd.ntmps40
    go_wp2_with (first
       | (go_at_call 62; refine (wordLength_any r _ hs).mono ?_; rintro e w' ⟨he, bel⟩; rw [He.out] at he; subst he; obtain ⟨tc, tf, tz, tb⟩ := own_block bel; clear bel)
       | (rw [Ht.out])
       | (go_at_call 63; refine (wholeNumber_any t _ hts).mono ?_; rintro e2 w2 ⟨he2, bel2⟩; rw [Hv.out, Hk.out] at he2; subst he2; obtain ⟨sc, sf, sz, sb⟩ := own_later tc tf tz tb bel2; clear bel2 tc tf tz tb))
    exact bodyPost_ret (v := tokVal (3, numF t e, ⟨#[]⟩, e)) (by simp [results, Tryd.results40, go_sem, tokVal, sc, show t.size = e from Hhs.out]) rfl ⟨rfl, (((sb.setCell (Nat.le_refl _) _).setCell (Nat.le_refl _) _).setCell (Nat.le_refl _) _).setCell (Nat.le_refl _) _⟩
  · have c1' : numOK t = false := by simpa using c1
    have hv : numV t = 0 := by unfold numV; rw [c1']; rfl
    have Hv : Hid (numV t = 0) := hv
    have Hk : Hid (numOK t = false) := c1'
    rw [if_neg c1]
    by_cases c2 : hexOK t = true
    · rw [if_pos c2]
      have Hx : Hid (hexOK t = true) := c2
      clear hv c1 c1' c2 ht hhs
      go_enter Tryd.func40, Tryd.ntmps40
      go_wp2_with (first
       | (go_at_call 62; refine (wordLength_any r _ hs).mono ?_; rintro e w' ⟨he, bel⟩; rw [He.out] at he; subst he; obtain ⟨tc, tf, tz, tb⟩ := own_block bel; clear bel)
       | (rw [Ht.out])
       | (go_at_call 63; refine (wholeNumber_any t _ hts).mono ?_; rintro e2 w2 ⟨he2, bel2⟩; rw [Hv.out, Hk.out] at he2; subst he2; obtain ⟨sc, sf, sz, sb⟩ := own_later tc tf tz tb bel2; clear bel2 tc tf tz tb)
       | (go_at_call 64; refine (numberedCharacter_any t _ hts Hd0.out).mono ?_; rintro e3 w3 ⟨⟨c, he3, hc3⟩, bel3⟩; rw [Hx.out] at he3; have hc4 := hc3 Hx.out; rw [Hhs.out] at hc4; clear hc3; subst hc4; subst he3; obtain ⟨uc, uf, uz, ub⟩ := own_later sc sf sz sb bel3; clear bel3 sc sf sz sb))
      exact bodyPost_ret (v := tokVal (4, hexF t (e - 1), ⟨#[]⟩, e)) (by simp [results, Tryd.results40, go_sem, tokVal, uc, show t.size = e from Hhs.out]) rfl ⟨rfl, (((ub.setCell (Nat.le_refl _) _).setCell (Nat.le_refl _) _).setCell (Nat.le_refl _) _).setCell (Nat.le_refl _) _⟩
    · rw [if_neg c2]
      have hx2 : hexOK t = false := by simpa using c2
      have Hx : Hid (hexOK t = false) := hx2
      clear hv c1 c1' c2 ht hhs hx2
      go_enter Tryd.func40, Tryd.ntmps40
      go_wp2_with (first
       | (go_at_call 62; refine (wordLength_any r _ hs).mono ?_; rintro e w' ⟨he, bel⟩; rw [He.out] at he; subst he; obtain ⟨tc, tf, tz, tb⟩ := own_block bel; clear bel)
       | (rw [Ht.out])
       | (go_at_call 63; refine (wholeNumber_any t _ hts).mono ?_; rintro e2 w2 ⟨he2, bel2⟩; rw [Hv.out, Hk.out] at he2; subst he2; obtain ⟨sc, sf, sz, sb⟩ := own_later tc tf tz tb bel2; clear bel2 tc tf tz tb)
       | (go_at_call 64; refine (numberedCharacter_any t _ hts Hd0.out).mono ?_; rintro e3 w3 ⟨⟨c, he3, hc3⟩, bel3⟩; rw [Hx.out] at he3; clear hc3; subst he3; obtain ⟨uc, uf, uz, ub⟩ := own_later sc sf sz sb bel3; clear bel3 sc sf sz sb))
      exact bodyPost_ret (v := tokVal noTok) (by simp [results, Tryd.results40, go_sem, tokVal, noTok, uc]) rfl ⟨rfl, (((ub.setCell (Nat.le_refl _) _).setCell (Nat.le_refl _) _).setCell (Nat.le_refl _) _).setCell (Nat.le_refl _) _⟩
end Go.Proofs.YtoocnpkhgnbepadDoor
