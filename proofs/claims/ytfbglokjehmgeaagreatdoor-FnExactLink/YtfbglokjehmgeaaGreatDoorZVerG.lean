/- The model's look at an instruction with a name. No condition. -/
import Derived.Test.YtfbglokjehmgeaaGreatDoorZVerS0
namespace Go.Proofs.YtfbglokjehmgeaaGreatDoor
open Go.RowKit

set_option maxRecDepth 100000 in
set_option maxHeartbeats 4000000 in
theorem l04Ins_global (a b : Int) (mod name cn : ByteArray) (params cells result : Int) (pa : Option Addr) (n c : Nat) (w : World) (hm : mod.size ≤ maxLen) (hn : name.size ≤ maxLen) :
    Calls Tryz.prog 79 #[.agg #[.int .i64 3, .int .i64 a, .int .i64 b, .string mod, .string name], .agg #[.string cn, .int .i64 params, .int .i64 cells, .int .i64 result, .slice pa n c]] w fun e w' => (e = .returned (.bool (insB ⟨3, a, b, mod, name⟩ cells n result)) ∧ Gw w w') := by
  have hnm : namedB 3 = true := rfl
  have HN1 := hide hm
  have HN2 := hide hn
  have two := (Gw.one w (.cells #[.int .i64 3, .int .i64 a, .int .i64 b, .string mod, .string name] 139)).trans (Gw.one _ (.cells #[.string cn, .int .i64 params, .int .i64 cells, .int .i64 result, .slice pa n c] 86))
  have T2 := hide two
  clear two hm hn
  cases e1 : emB mod with
  | true =>
    cases e2 : emB name with
    | true =>
      rw [ins_bare (x := ⟨3, a, b, mod, name⟩) hnm e1 e2]
      unfold emB at e1 e2
      clear hnm
      go_enter Tryz.func79, Tryz.ntmps79
      go_wp2
      go_ret
      exact ⟨rfl, T2.out⟩
    | false =>
      have hi : (namedB (3 : Int)) = (!(emB mod) || !(emB name)) := by rw [hnm, e1, e2]; rfl
      cases o1 : ownB mod with
      | false =>
        rw [ins_alien (x := ⟨3, a, b, mod, name⟩) hnm (.inl o1)]
        clear hi hnm
        unfold emB at e1 e2
        go_enter Tryz.func79, Tryz.ntmps79
        go_wp2_with (go_at_call 42; refine (l02Name_gw mod _ HN1.out).mono ?_; rintro e w1 ⟨rfl, gr⟩; rw [o1]; obtain ⟨hc, hf⟩ := bcell gr.below)
        go_ret
        exact ⟨rfl, T2.out.trans gr⟩
      | true =>
        cases o2 : ownB name with
        | false =>
          rw [ins_alien (x := ⟨3, a, b, mod, name⟩) hnm (.inr o2)]
          clear hi hnm
          unfold emB at e1 e2
          go_enter Tryz.func79, Tryz.ntmps79
          go_wp2_with (first | (have hh := gr; clear hh; go_at_call 42; refine (l02Name_gw name _ HN2.out).mono ?_; rintro e w2 ⟨rfl, gr2⟩; rw [o2]; obtain ⟨hc2, hf2⟩ := bcell (gr.trans gr2).below) | (go_at_call 42; refine (l02Name_gw mod _ HN1.out).mono ?_; rintro e w1 ⟨rfl, gr⟩; rw [o1]; obtain ⟨hc, hf⟩ := bcell gr.below))
          go_ret
          exact ⟨rfl, (T2.out.trans gr).trans gr2⟩
        | true =>
          by_cases hb : b = 0
          · subst hb
            rw [ins_arg (x := ⟨3, a, 0, mod, name⟩) hi (fun _ => ⟨o1, o2⟩) (.inr rfl)]
            have ha : argB 3 a 0 cells n result = decide (a = 0) := by simp [argB, inB]
            show Calls _ _ _ _ fun e w' => e = .returned (.bool (argB 3 a 0 cells n result)) ∧ Gw w w'
            rw [ha]
            have q3 : inB 3 3 10 = true := rfl
            clear hi hnm ha
            unfold emB at e1 e2
            by_cases ha0 : a = 0
            · subst ha0
              go_enter Tryz.func79, Tryz.ntmps79
              go_wp2_with (first | (have hh := gr; clear hh; go_at_call 42; refine (l02Name_gw name _ HN2.out).mono ?_; rintro e w2 ⟨rfl, gr2⟩; rw [o2]; obtain ⟨hc2, hf2⟩ := bcell (gr.trans gr2).below) | (go_at_call 42; refine (l02Name_gw mod _ HN1.out).mono ?_; rintro e w1 ⟨rfl, gr⟩; rw [o1]; obtain ⟨hc, hf⟩ := bcell gr.below) | (go_at_call 43; refine (l01In_any _ _ _ _).mono ?_; rintro e w3 ⟨rfl, rfl⟩; rw [q3]))
              go_ret
              exact ⟨ret_bool (by first | rfl | simp), (T2.out.trans gr).trans gr2⟩
            · have ia : (a == 0) = false := by simpa using ha0
              go_enter Tryz.func79, Tryz.ntmps79
              go_wp2_with (first | (have hh := gr; clear hh; go_at_call 42; refine (l02Name_gw name _ HN2.out).mono ?_; rintro e w2 ⟨rfl, gr2⟩; rw [o2]; obtain ⟨hc2, hf2⟩ := bcell (gr.trans gr2).below) | (go_at_call 42; refine (l02Name_gw mod _ HN1.out).mono ?_; rintro e w1 ⟨rfl, gr⟩; rw [o1]; obtain ⟨hc, hf⟩ := bcell gr.below))
              go_ret
              exact ⟨ret_bool (by simp [ha0]), (T2.out.trans gr).trans gr2⟩
          · rw [ins_b (x := ⟨3, a, b, mod, name⟩) (by simp) hb]
            have ib : (b != 0) = true := by simpa using hb
            clear hi hnm hb
            unfold emB at e1 e2
            go_enter Tryz.func79, Tryz.ntmps79
            go_wp2_with (first | (have hh := gr; clear hh; go_at_call 42; refine (l02Name_gw name _ HN2.out).mono ?_; rintro e w2 ⟨rfl, gr2⟩; rw [o2]; obtain ⟨hc2, hf2⟩ := bcell (gr.trans gr2).below) | (go_at_call 42; refine (l02Name_gw mod _ HN1.out).mono ?_; rintro e w1 ⟨rfl, gr⟩; rw [o1]; obtain ⟨hc, hf⟩ := bcell gr.below))
            go_ret
            exact ⟨rfl, (T2.out.trans gr).trans gr2⟩
  | false =>
    have hi : (namedB (3 : Int)) = (!(emB mod) || !(emB name)) := by rw [hnm, e1]; rfl
    have e2 : True := trivial
    cases o1 : ownB mod with
    | false =>
      rw [ins_alien (x := ⟨3, a, b, mod, name⟩) hnm (.inl o1)]
      clear hi hnm
      unfold emB at e1
      clear e2
      go_enter Tryz.func79, Tryz.ntmps79
      go_wp2_with (go_at_call 42; refine (l02Name_gw mod _ HN1.out).mono ?_; rintro e w1 ⟨rfl, gr⟩; rw [o1]; obtain ⟨hc, hf⟩ := bcell gr.below)
      go_ret
      exact ⟨rfl, T2.out.trans gr⟩
    | true =>
      cases o2 : ownB name with
      | false =>
        rw [ins_alien (x := ⟨3, a, b, mod, name⟩) hnm (.inr o2)]
        clear hi hnm
        unfold emB at e1
        clear e2
        go_enter Tryz.func79, Tryz.ntmps79
        go_wp2_with (first | (have hh := gr; clear hh; go_at_call 42; refine (l02Name_gw name _ HN2.out).mono ?_; rintro e w2 ⟨rfl, gr2⟩; rw [o2]; obtain ⟨hc2, hf2⟩ := bcell (gr.trans gr2).below) | (go_at_call 42; refine (l02Name_gw mod _ HN1.out).mono ?_; rintro e w1 ⟨rfl, gr⟩; rw [o1]; obtain ⟨hc, hf⟩ := bcell gr.below))
        go_ret
        exact ⟨rfl, (T2.out.trans gr).trans gr2⟩
      | true =>
        by_cases hb : b = 0
        · subst hb
          rw [ins_arg (x := ⟨3, a, 0, mod, name⟩) hi (fun _ => ⟨o1, o2⟩) (.inr rfl)]
          have ha : argB 3 a 0 cells n result = decide (a = 0) := by simp [argB, inB]
          show Calls _ _ _ _ fun e w' => e = .returned (.bool (argB 3 a 0 cells n result)) ∧ Gw w w'
          rw [ha]
          have q3 : inB 3 3 10 = true := rfl
          clear hi hnm ha
          unfold emB at e1
          clear e2
          by_cases ha0 : a = 0
          · subst ha0
            go_enter Tryz.func79, Tryz.ntmps79
            go_wp2_with (first | (have hh := gr; clear hh; go_at_call 42; refine (l02Name_gw name _ HN2.out).mono ?_; rintro e w2 ⟨rfl, gr2⟩; rw [o2]; obtain ⟨hc2, hf2⟩ := bcell (gr.trans gr2).below) | (go_at_call 42; refine (l02Name_gw mod _ HN1.out).mono ?_; rintro e w1 ⟨rfl, gr⟩; rw [o1]; obtain ⟨hc, hf⟩ := bcell gr.below) | (go_at_call 43; refine (l01In_any _ _ _ _).mono ?_; rintro e w3 ⟨rfl, rfl⟩; rw [q3]))
            go_ret
            exact ⟨ret_bool (by first | rfl | simp), (T2.out.trans gr).trans gr2⟩
          · have ia : (a == 0) = false := by simpa using ha0
            go_enter Tryz.func79, Tryz.ntmps79
            go_wp2_with (first | (have hh := gr; clear hh; go_at_call 42; refine (l02Name_gw name _ HN2.out).mono ?_; rintro e w2 ⟨rfl, gr2⟩; rw [o2]; obtain ⟨hc2, hf2⟩ := bcell (gr.trans gr2).below) | (go_at_call 42; refine (l02Name_gw mod _ HN1.out).mono ?_; rintro e w1 ⟨rfl, gr⟩; rw [o1]; obtain ⟨hc, hf⟩ := bcell gr.below))
            go_ret
            exact ⟨ret_bool (by simp [ha0]), (T2.out.trans gr).trans gr2⟩
        · rw [ins_b (x := ⟨3, a, b, mod, name⟩) (by simp) hb]
          have ib : (b != 0) = true := by simpa using hb
          clear hi hnm hb
          unfold emB at e1
          clear e2
          go_enter Tryz.func79, Tryz.ntmps79
          go_wp2_with (first | (have hh := gr; clear hh; go_at_call 42; refine (l02Name_gw name _ HN2.out).mono ?_; rintro e w2 ⟨rfl, gr2⟩; rw [o2]; obtain ⟨hc2, hf2⟩ := bcell (gr.trans gr2).below) | (go_at_call 42; refine (l02Name_gw mod _ HN1.out).mono ?_; rintro e w1 ⟨rfl, gr⟩; rw [o1]; obtain ⟨hc, hf⟩ := bcell gr.below))
          go_ret
          exact ⟨rfl, (T2.out.trans gr).trans gr2⟩
end Go.Proofs.YtfbglokjehmgeaaGreatDoor
