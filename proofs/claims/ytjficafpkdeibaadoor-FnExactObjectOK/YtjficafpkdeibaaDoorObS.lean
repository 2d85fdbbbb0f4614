/- The model's search of a name among those that it has met. No condition. -/
import Derived.Test.YtjficafpkdeibaaDoorStrs
import Derived.PlainAid
namespace Go.Proofs.YtjficafpkdeibaaDoor
open Go.ChangeShapes Go.WideShapes Go.ChangeAt Go.RowKit Go.PlainAid Go.Deep

/-- Where a name stands among the list: below 0 just if nowhere. -/
def metAt (l : List ByteArray) (s : ByteArray) : Bool := l.any fun z => z.toList == s.toList
set_option maxHeartbeats 4000000 in
theorem l01Place_any (v : Value) (l : List ByteArray) (s : ByteArray) (B : Nat) (w : World) (h : SRow w B v l) (hl : l.length ≤ 100000) :
    Calls Tryd.prog 26 #[v, .string s] w fun e w' => (∃ k : Int, e = .returned (.int .i64 k) ∧ decide (0 ≤ k) = metAt l s) ∧ w' = w := by
  obtain ⟨a, c, rfl⟩ := srow_form h
  obtain ⟨n, hn⟩ : ∃ n, l.length = n := ⟨_, rfl⟩
  have HN := hide hn
  have H := hide h
  rw [hn]
  rw [hn] at hl
  have key : ∀ k : Int, decide (0 ≤ k) = metAt l s → (∃ k' : Int, Ending.returned (.int .i64 k) = .returned (.int .i64 k') ∧ decide (0 ≤ k') = metAt l s) := fun k e => ⟨k, rfl, e⟩
  have HKey := hide key
  clear h hn key
  go_enter Tryd.func26, Tryd.ntmps26
  go_wp2
  go_loop [5] (fun i => ∃ k : Nat, i = .int .i64 k ∧ k ≤ n ∧ Hid (∀ j (h : j < l.length), j < k → (l[j].toList == s.toList) = false)) (fun i => n - (intOf i).toNat)
  case atStart => exact ⟨0, rfl, by omega, hide (fun j _ h => absurd h (by omega))⟩
  case round =>
    obtain ⟨k, rfl, hk, Hk⟩ := hrel
    by_cases hp : k < n
    · have i1 : (k : Int) < n := by omega
      have hkl : k < l.length := by rw [HN.out]; exact hp
      obtain ⟨g, c', ev, -, -, hcell, -⟩ := H.out.at (by omega)
      rw [HN.out] at ev
      cases ev
      have c0 := hcell k hkl
      obtain ⟨t, ht⟩ : ∃ t, l[k] = t := ⟨_, rfl⟩
      rw [ht] at c0
      have HT := hide ht
      clear ht hcell
      cases hs : (t.toList == s.toList) with
      | true =>
        have HF := hide (HKey.out k (by
          rw [decide_eq_true (by omega)]
          exact (List.any_eq_true.2 ⟨l[k], List.getElem_mem hkl, by rw [HT.out]; exact hs⟩).symm))
        go_wp2
        go_ret
        exact ⟨HF.out, rfl⟩
      | false =>
        go_wp2
        go_round
        case rel =>
          refine ⟨k + 1, by go_num, by omega, hide fun j h hj => ?_⟩
          by_cases e : j < k
          · exact Hk.out j h e
          · obtain rfl : j = k := by omega
            rw [HT.out]
            exact hs
        case measure => simp [intOf]; omega
    · have i1 : ¬ (k : Int) < n := by omega
      obtain rfl : k = n := by omega
      have HF := hide (HKey.out (-1) (by
        rw [decide_eq_false (by omega)]
        refine Eq.symm (List.any_eq_false.2 fun z hz hq => ?_)
        obtain ⟨j, hj, rfl⟩ := List.getElem_of_mem hz
        rw [Hk.out j hj (by rw [← HN.out]; exact hj)] at hq
        cases hq))
      go_wp2
      go_ret
      exact ⟨HF.out, rfl⟩
end Go.Proofs.YtjficafpkdeibaaDoor
