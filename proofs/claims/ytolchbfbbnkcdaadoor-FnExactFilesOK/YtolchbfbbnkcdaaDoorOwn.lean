/- A name of the language that is none of its words: the program's test and the model's answer alike. No condition. -/
import Derived.Test.YtolchbfbbnkcdaaDoorImpl
import Derived.Test.YtolchbfbbnkcdaaDoorKeysSpec
import Derived.PlainAid
import Derived.BigQuiet
import Derived.Shelf.SlSortCmp.QuietGrown
namespace Go.Proofs.YtolchbfbbnkcdaaDoor
open Go.RowKit Go.PlainAid

def ownB (s : ByteArray) : Bool := nameB s && !keyB s
theorem own_no1 {s : ByteArray} (h : nameB s = false) : ownB s = false := by unfold ownB; rw [h]; rfl
theorem own_no2 {s : ByteArray} (h : nameB s = true) (k : keyB s = true) : ownB s = false := by unfold ownB; rw [h, k]; rfl
theorem own_yes {s : ByteArray} (h : nameB s = true) (k : keyB s = false) : ownB s = true := by unfold ownB; rw [h, k]; rfl
theorem specNameOK_any (s : ByteArray) (w : World) (hs : s.size ≤ maxLen) : Calls Tryd.prog 14 #[.string s] w fun e w' => e = .returned (.bool (nameB s)) ∧ w = w' := by
  go_enter Tryd.func14, Tryd.ntmps14
  go_wp2_with (go_at_call 17; refine (l00Word_any s _ hs).mono ?_; rintro e w' ⟨rfl, rfl⟩)
  go_ret
  exact ⟨rfl, rfl⟩
theorem ownName_any (s : ByteArray) (w : World) (hs : s.size ≤ maxLen) (t : TypeId) (fr : Nat × Nat) (hg : w.heap[0]? = some (.cells keyRow t fr)) : Calls Tryd.prog 16 #[.string s] w fun e w' => e = .returned (.bool (ownB s)) ∧ Below w.heap.size w w' := by
  have HK : Hid (∀ w1, Below w.heap.size w w1 → Calls Tryd.prog 21 #[.string s] w1 fun e w' => e = .returned (.bool (keyB s)) ∧ w1 = w') := fun w1 bel =>
    implIsKey_any s w1 t fr ((bel.block 0 (Array.getElem?_eq_some_iff.1 hg).1).trans hg)
  clear hg
  cases hn : nameB s with
  | false =>
    rw [own_no1 hn]
    go_enter Tryd.func16, Tryd.ntmps16
    go_wp2_with (go_at_call 20; refine (implNameOK_any s _ hs).mono ?_; rintro e w' ⟨rfl, bel⟩; rw [hn])
    go_ret
    exact ⟨rfl, bel⟩
  | true =>
    cases hk : keyB s with
    | true =>
      rw [own_no2 hn hk]
      go_enter Tryd.func16, Tryd.ntmps16
      go_wp2_with (first | (go_at_call 20; refine (implNameOK_any s _ hs).mono ?_; rintro e w' ⟨rfl, bel⟩; rw [hn]) | (go_at_call 21; refine (HK.out _ bel).mono ?_; rintro e w2 ⟨rfl, rfl⟩; rw [hk]))
      go_ret
      exact ⟨rfl, bel⟩
    | false =>
      rw [own_yes hn hk]
      go_enter Tryd.func16, Tryd.ntmps16
      go_wp2_with (first | (go_at_call 20; refine (implNameOK_any s _ hs).mono ?_; rintro e w' ⟨rfl, bel⟩; rw [hn]) | (go_at_call 21; refine (HK.out _ bel).mono ?_; rintro e w2 ⟨rfl, rfl⟩; rw [hk]))
      go_ret
      exact ⟨rfl, bel⟩
/-- A world behind draws and new blocks alone. -/
def Gw (w w' : World) : Prop := ∃ n os, w' = Sort.grow (w.drewN n) os
theorem Gw.refl (w : World) : Gw w w := ⟨0, #[], by rw [Sort.grow_empty]; rfl⟩
theorem Gw.grown {w w1 : World} (h : Gw w w1) (n : Nat) (os : Array Obj) : Gw w (Sort.grow (w1.drewN n) os) := by
  obtain ⟨m, os', rfl⟩ := h
  exact ⟨m + n, os' ++ os, by show Sort.grow (Sort.grow ((w.drewN m).drewN n) os') os = _; rw [Sort.grow_grow, World.drewN_drewN]⟩
theorem Gw.trans {w w1 w2 : World} (h : Gw w w1) (k : Gw w1 w2) : Gw w w2 := by
  obtain ⟨n, os, rfl⟩ := k
  exact h.grown n os
theorem Gw.one (w : World) (o : Obj) : Gw w (w.alloc o) := ⟨0, #[o], by rw [Sort.alloc_eq_grow]; rfl⟩
theorem Gw.below {w w' : World} (h : Gw w w') : Below w.heap.size w w' := by
  obtain ⟨n, os, rfl⟩ := h
  exact ⟨rfl, rfl, rfl, by simp, fun k hk => Sort.heap_grow_old (w.drewN n) os hk⟩
theorem l02Name_gw (s : ByteArray) (w : World) (hs : s.size ≤ maxLen) : Calls Tryd.prog 10 #[.string s] w fun e w' => e = .returned (.bool (ownB s)) ∧ Gw w w' := by
  cases hn : nameB s with
  | false =>
    rw [own_no1 hn]
    go_enter Tryd.func10, Tryd.ntmps10
    go_wp2_with (go_at_call 14; refine (specNameOK_any s _ hs).mono ?_; rintro e w' ⟨rfl, rfl⟩; rw [hn])
    go_ret
    exact ⟨rfl, Gw.refl _⟩
  | true =>
    cases hk : keyB s with
    | true =>
      rw [own_no2 hn hk]
      go_enter Tryd.func10, Tryd.ntmps10
      go_wp2_with (first | (go_at_call 14; refine (specNameOK_any s _ hs).mono ?_; rintro e w' ⟨rfl, rfl⟩; rw [hn]) | (go_at_call 15; refine (specIsKey_any s _).mono ?_; rintro e w' ⟨rfl, rfl⟩; rw [hk]))
      go_ret
      exact ⟨rfl, Gw.one _ _⟩
    | false =>
      rw [own_yes hn hk]
      go_enter Tryd.func10, Tryd.ntmps10
      go_wp2_with (first | (go_at_call 14; refine (specNameOK_any s _ hs).mono ?_; rintro e w' ⟨rfl, rfl⟩; rw [hn]) | (go_at_call 15; refine (specIsKey_any s _).mono ?_; rintro e w' ⟨rfl, rfl⟩; rw [hk]))
      go_ret
      exact ⟨rfl, Gw.one _ _⟩
theorem l02Name_any (s : ByteArray) (w : World) (hs : s.size ≤ maxLen) : Calls Tryd.prog 10 #[.string s] w fun e w' => e = .returned (.bool (ownB s)) ∧ Below w.heap.size w w' := (l02Name_gw s w hs).mono fun _ _ ⟨a, b⟩ => ⟨a, b.below⟩
set_option maxHeartbeats 800000 in
theorem implNameOK_gw (s : ByteArray) (w : World) (hs : s.size ≤ maxLen) : Calls Tryd.prog 20 #[.string s] w fun e w' => e = .returned (.bool (nameB s)) ∧ Gw w w' := by
  unfold maxLen at hs
  by_cases z : s.size = 0
  · have z2 := empty_yes z
    go_enter Tryd.func20, Tryd.ntmps20
    go_wp2
    go_ret
    exact ⟨ret_bool (nameB_empty z).symm, Gw.refl _⟩
  have z2 := empty_no z
  by_cases l : 40 < s.size
  · go_enter Tryd.func20, Tryd.ntmps20
    go_wp2
    go_ret
    exact ⟨ret_bool (nameB_long l).symm, Gw.refl _⟩
  have hb := get_bt s
  go_enter Tryd.func20, Tryd.ntmps20
  go_wp2
  go_loopw [] (fun w' => ∃ pos : Nat, w' = w.iter s pos ∧ pos ≤ s.size ∧ ∀ j, j < pos → okB s j = true) (fun w' => s.size - w'.iterPos w.heap.size)
  case atStart => exact ⟨0, rfl, Nat.zero_le _, fun j hj => by omega⟩
  case round =>
    obtain ⟨pos, rfl, hpos, hall⟩ := hrel
    have Hall : Hid (∀ j, j < pos → okB s j = true) := hall
    clear hall
    by_cases hp : pos < s.size
    · by_cases hlow : bt s pos < 128
      · have hnx := next_low (P := Tryd.prog) w s pos hp hlow
        cases f1 : letB (bt s pos)
        · by_cases p0 : pos = 0
          · subst p0
            go_wp2_with (first | (go_at_call 24; refine (isLetter_any _ _).mono ?_; rintro e w' ⟨rfl, rfl⟩) | (go_at_call 25; refine (isDigit_any _ _).mono ?_; rintro e w' ⟨rfl, rfl⟩))
            go_ret
            exact ⟨ret_bool (nameB_bad hp (okB_first f1)).symm, Gw.one _ _⟩
          · cases f2 : digB (bt s pos)
            · go_wp2_with (first | (go_at_call 24; refine (isLetter_any _ _).mono ?_; rintro e w' ⟨rfl, rfl⟩) | (go_at_call 25; refine (isDigit_any _ _).mono ?_; rintro e w' ⟨rfl, rfl⟩))
              go_ret
              exact ⟨ret_bool (nameB_bad hp (okB_no f1 f2)).symm, Gw.one _ _⟩
            · go_wp2_with (first | (go_at_call 24; refine (isLetter_any _ _).mono ?_; rintro e w' ⟨rfl, rfl⟩) | (go_at_call 25; refine (isDigit_any _ _).mono ?_; rintro e w' ⟨rfl, rfl⟩))
              go_roundw
              case rel =>
                refine ⟨pos + 1, rfl, by omega, fun j hj => ?_⟩
                by_cases e : j < pos
                · exact Hall.out j e
                · obtain rfl : j = pos := by omega
                  exact okB_dig p0 f2
              case measure => simp; omega
        · go_wp2_with (first | (go_at_call 24; refine (isLetter_any _ _).mono ?_; rintro e w' ⟨rfl, rfl⟩) | (go_at_call 25; refine (isDigit_any _ _).mono ?_; rintro e w' ⟨rfl, rfl⟩))
          go_roundw
          case rel =>
            refine ⟨pos + 1, rfl, by omega, fun j hj => ?_⟩
            by_cases e : j < pos
            · exact Hall.out j e
            · obtain rfl : j = pos := by omega
              exact okB_let f1
          case measure => simp; omega
      · have hnx : ∀ ty, (Instr.next (.pointer (some ⟨w.heap.size, 0, none⟩)) true ty).run Tryd.prog (w.iter s pos) = _ := fun ty => run_next_any w s pos ty hp
        have hh := high_rune s pos hp hlow
        have f1 := letB_high hh
        have f2 := digB_high hh
        have hh2 : 128 ≤ bt s pos := by omega
        by_cases p0 : pos = 0
        · subst p0
          go_wp2_with (first | (go_at_call 24; refine (isLetter_any _ _).mono ?_; rintro e w' ⟨rfl, rfl⟩) | (go_at_call 25; refine (isDigit_any _ _).mono ?_; rintro e w' ⟨rfl, rfl⟩))
          go_ret
          exact ⟨ret_bool (nameB_bad hp (okB_no (letB_high hh2) (digB_high hh2))).symm, Gw.one _ _⟩
        · go_wp2_with (first | (go_at_call 24; refine (isLetter_any _ _).mono ?_; rintro e w' ⟨rfl, rfl⟩) | (go_at_call 25; refine (isDigit_any _ _).mono ?_; rintro e w' ⟨rfl, rfl⟩))
          go_ret
          exact ⟨ret_bool (nameB_bad hp (okB_no (letB_high hh2) (digB_high hh2))).symm, Gw.one _ _⟩
    · have hnx : ∀ ty, (Instr.next (.pointer (some ⟨w.heap.size, 0, none⟩)) true ty).run Tryd.prog (w.iter s pos) = _ := fun ty => run_next_end w s pos ty hp
      go_wp2
      go_ret
      exact ⟨ret_bool (nameB_yes (by omega) (by omega) (fun j hj => Hall.out j (by omega))).symm, Gw.one _ _⟩
theorem ownName_gw (s : ByteArray) (w : World) (hs : s.size ≤ maxLen) (t : TypeId) (fr : Nat × Nat) (hg : w.heap[0]? = some (.cells keyRow t fr)) : Calls Tryd.prog 16 #[.string s] w fun e w' => e = .returned (.bool (ownB s)) ∧ Gw w w' := by
  have HK : Hid (∀ w1, Below w.heap.size w w1 → Calls Tryd.prog 21 #[.string s] w1 fun e w' => e = .returned (.bool (keyB s)) ∧ w1 = w') := fun w1 bel =>
    implIsKey_any s w1 t fr ((bel.block 0 (Array.getElem?_eq_some_iff.1 hg).1).trans hg)
  clear hg
  cases hn : nameB s with
  | false =>
    rw [own_no1 hn]
    go_enter Tryd.func16, Tryd.ntmps16
    go_wp2_with (go_at_call 20; refine (implNameOK_gw s _ hs).mono ?_; rintro e w' ⟨rfl, bel⟩; rw [hn])
    go_ret
    exact ⟨rfl, bel⟩
  | true =>
    cases hk : keyB s with
    | true =>
      rw [own_no2 hn hk]
      go_enter Tryd.func16, Tryd.ntmps16
      go_wp2_with (first | (go_at_call 20; refine (implNameOK_gw s _ hs).mono ?_; rintro e w' ⟨rfl, bel⟩; rw [hn]) | (go_at_call 21; refine (HK.out _ bel.below).mono ?_; rintro e w2 ⟨rfl, rfl⟩; rw [hk]))
      go_ret
      exact ⟨rfl, bel⟩
    | false =>
      rw [own_yes hn hk]
      go_enter Tryd.func16, Tryd.ntmps16
      go_wp2_with (first | (go_at_call 20; refine (implNameOK_gw s _ hs).mono ?_; rintro e w' ⟨rfl, bel⟩; rw [hn]) | (go_at_call 21; refine (HK.out _ bel.below).mono ?_; rintro e w2 ⟨rfl, rfl⟩; rw [hk]))
      go_ret
      exact ⟨rfl, bel⟩
end Go.Proofs.YtolchbfbbnkcdaaDoor
