/- The program's OutText answers 'outA'. Listed: the library's tables. No other condition. -/
import Derived.Test.YtlmkpngaiilldaaDoorImplT
import Derived.Deep.LoopGhost
namespace Go.Proofs.YtlmkpngaiilldaaDoor
open Go.RowKit Go.Deep

set_option maxRecDepth 100000 in
set_option maxHeartbeats 2000000 in
theorem outText_any (x : OutD) (hv : I64 x.value) (hb : outB x = true) (w : World) (hT : Tabs w) : Calls Tryd.prog 34 #[.agg #[.int .i64 x.ty, .int .i64 x.value]] w fun e w' => e = .returned (.string (outT x)) ∧ Below w.heap.size w w' := by
  obtain ⟨t, v⟩ := x
  have HT := hide hT
  have one : ∀ o, Below w.heap.size w (w.alloc o) := fun o => (Below.refl _ _).alloc (Nat.le_refl _) _
  have H1 := hide one
  clear hT one
  by_cases h2 : t = 2
  · subst h2
    have e : outT ⟨2, v⟩ = (if v = 1 then ⟨#[84, 82, 85, 69]⟩ else ⟨#[70, 65, 76, 83, 69]⟩) := by simp [outT]
    rw [e]
    have HB : Hid (∀ w, Calls Tryd.prog 48 #[nodeN v] w fun e w' => e = .returned (.string (if v = 1 then ⟨#[84, 82, 85, 69]⟩ else ⟨#[70, 65, 76, 83, 69]⟩)) ∧ Below w.heap.size w w') := hide (boolText_any v)
    generalize (if v = 1 then (⟨#[84, 82, 85, 69]⟩ : ByteArray) else ⟨#[70, 65, 76, 83, 69]⟩) = tt at *
    unfold nodeN at HB
    clear e hb
    go_enter Tryd.func34, Tryd.ntmps34
    go_wp2_with (go_at_call 48; refine (HB.out _).mono ?_; rintro e w1 ⟨rfl, b1⟩)
    go_ret
    exact ⟨rfl, (H1.out _).trans (b1.mono (by simp))⟩
  · have j2 : (t == 2) = false := by simpa using h2
    by_cases h3 : t = 3
    · subst h3
      have e : outT ⟨3, v⟩ = charText v := by simp [outT]
      rw [e]
      have hc : charB v = true := by
        unfold outB at hb
        simpa using hb
      have HB : Hid (∀ o, Calls Tryd.prog 49 #[nodeN v] (w.alloc o) fun e w' => e = .returned (.string (charText v)) ∧ Below (w.alloc o).heap.size (w.alloc o) w') := hide (fun o => charFormText_any v hc _ (HT.out.on (H1.out o)))
      generalize charText v = tt at *
      unfold nodeN at HB
      clear e hb
      go_enter Tryd.func34, Tryd.ntmps34
      go_wp2_with (go_at_call 49; refine (HB.out _).mono ?_; rintro e w1 ⟨rfl, b1⟩)
      go_ret
      exact ⟨rfl, (H1.out _).trans (b1.mono (by simp))⟩
    · have j3 : (t == 3) = false := by simpa using h3
      have e : outT ⟨t, v⟩ = ⟨(Lib.itoa v).toArray⟩ := by simp [outT, h2, h3]
      rw [e]
      have HB : Hid (∀ o, Calls Tryd.prog 50 #[nodeN v] (w.alloc o) fun e w' => e = .returned (.string ⟨(Lib.itoa v).toArray⟩) ∧ Below (w.alloc o).heap.size (w.alloc o) w') := hide (fun o => intText_any v hv _ (HT.out.on (H1.out o)))
      generalize (⟨(Lib.itoa v).toArray⟩ : ByteArray) = tt at *
      unfold nodeN at HB
      clear e hb
      go_enter Tryd.func34, Tryd.ntmps34
      go_wp2_with (go_at_call 50; refine (HB.out _).mono ?_; rintro e w1 ⟨rfl, b1⟩)
      go_ret
      exact ⟨rfl, (H1.out _).trans (b1.mono (by simp))⟩
end Go.Proofs.YtlmkpngaiilldaaDoor
