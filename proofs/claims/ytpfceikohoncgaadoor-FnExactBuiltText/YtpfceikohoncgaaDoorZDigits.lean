/- A number's digits, by the model's way. No condition. -/
import Derived.Test.YtpfceikohoncgaaDoorZConv
import Derived.Test.YtpfceikohoncgaaDoorZRd
import Derived.Lib.ItoaNum
import Derived.Deep.RegionWith
import Derived.Deep.RegionLaw
import Derived.WalkSmall
import Derived.PlainAid
namespace Go.Proofs.YtpfceikohoncgaaDoor
open Go.RowKit Go.PlainAid Go.Deep

theorem ba_app (a b : List UInt8) : (⟨a.toArray⟩ : ByteArray) ++ ⟨b.toArray⟩ = ⟨(a ++ b).toArray⟩ := by
  apply ByteArray.ext
  simp
theorem dec_small {u : Nat} (h : u < 10) : Lib.decDigits u = [UInt8.ofNat (48 + u)] := by rw [Lib.decDigits, dif_pos h]
theorem dec_big {u : Nat} (h : ¬ u < 10) : Lib.decDigits u = Lib.decDigits (u / 10) ++ [UInt8.ofNat (48 + u % 10)] := by rw [Lib.decDigits, dif_neg h]
theorem dec_len : ∀ (k u : Nat), u < 10 ^ (k + 1) → (Lib.decDigits u).length ≤ k + 1
  | 0, u, h => by rw [dec_small (by simpa using h)]; simp
  | k + 1, u, h => by
    by_cases h1 : u < 10
    · rw [dec_small h1]; simp
    · rw [dec_big h1, List.length_append]
      have := dec_len k (u / 10) (by rw [Nat.pow_succ] at h; omega)
      simp
      omega
theorem itoa_len (n : Int) (h0 : -9223372036854775808 ≤ n) (h1 : n ≤ 9223372036854775807) : (Lib.itoa n).length ≤ 20 := by
  unfold Lib.itoa
  split
  · have := dec_len 18 n.natAbs (by omega)
    simp
    omega
  · have := dec_len 18 n.toNat (by omega)
    omega
theorem itoa_least : Lib.itoa (-9223372036854775808) = [45, 57, 50, 50, 51, 51, 55, 50, 48, 51, 54, 56, 53, 52, 55, 55, 53, 56, 48, 56] := by
  unfold Lib.itoa
  simp [Lib.decDigits]
set_option maxRecDepth 100000 in
set_option maxHeartbeats 4000000 in
theorem l00Digits_one (u : Nat) (h : u < 10) (w : World) : Calls Tryd.prog 25 #[.int .i64 u] w fun e w' => e = .returned (.string ⟨(Lib.decDigits u).toArray⟩) ∧ Below w.heap.size w w' := by
  have q0 : ((u : Int) == -9223372036854775808) = false := by simp
  have q1 : ¬ (u : Int) < 0 := by omega
  have q2 : (u : Int) < 10 := by omega
  have hc := conv1 (48 + u)
  rw [dec_small h]
  go_enter Tryd.func25, Tryd.ntmps25
  go_wp2
  go_ret
  exact ⟨by simp, (Below.refl _ _).alloc (Nat.le_refl _) _⟩
set_option maxRecDepth 100000 in
set_option maxHeartbeats 8000000 in
theorem l00Digits_more (u : Nat) (h : ¬ u < 10) (hu : u ≤ 9223372036854775807) (ih : ∀ w, Calls Tryd.prog 25 #[.int .i64 (u / 10 : Nat)] w fun e w' => e = .returned (.string ⟨(Lib.decDigits (u / 10)).toArray⟩) ∧ Below w.heap.size w w') (w : World) :
    Calls Tryd.prog 25 #[.int .i64 u] w fun e w' => e = .returned (.string ⟨(Lib.decDigits u).toArray⟩) ∧ Below w.heap.size w w' := by
  have q0 : ((u : Int) == -9223372036854775808) = false := by simp
  have q1 : ¬ (u : Int) < 0 := by omega
  have q2 : ¬ (u : Int) < 10 := by omega
  have hl : (Lib.decDigits (u / 10)).length ≤ 19 := dec_len 18 (u / 10) (by omega)
  have hl2 : (⟨(Lib.decDigits (u / 10)).toArray⟩ : ByteArray).size ≤ 19 := by simpa [ByteArray.size] using hl
  have hc := conv1 (48 + (u : Int) % 10)
  have hd : ∀ w1 : World, (convert 65 9 (.slice (some ⟨w1.heap.size, 0, none⟩) 1 1)).run Tryd.prog (w1.alloc (.cells #[.int .u8 (48 + (u : Int) % 10)] 5)).drew = .ok (.string ⟨#[UInt8.ofNat (48 + (u : Int) % 10).toNat]⟩) (w1.alloc (.cells #[.int .u8 (48 + (u : Int) % 10)] 5)).drew := fun w1 => run_convert_cells 65 9 5 Tryd.underlying65 Tryd.underlying5 Tryd.underlying9 w1.heap.size 0 [48 + (u : Int) % 10] 1 _ (fun j hj => by
    obtain rfl : j = 0 := by simp at hj; exact hj
    simp [go_sem])
  have hcc : Hid (∀ (w1 w2 : World) (b : Nat), w2.cell? ⟨b, 0, none⟩ = some (.int .u8 (48 + (u : Int) % 10)) → (convert 65 9 (.slice (some ⟨b, 0, none⟩) 1 1)).run Tryd.prog w2 = .ok (.string ⟨#[UInt8.ofNat (48 + (u : Int) % 10).toNat]⟩) w2) := hide fun w1 w2 b hb =>
    run_convert_cells 65 9 5 Tryd.underlying65 Tryd.underlying5 Tryd.underlying9 b 0 [48 + (u : Int) % 10] 1 w2 (fun j hj => by
      obtain rfl : j = 0 := by simp at hj; exact hj
      simpa using hb)
  have HB : Hid (∀ w5, Below ((w.alloc (.cells #[.int .u8 (48 + (u : Int) % 10)] 5)).drew).heap.size ((w.alloc (.cells #[.int .u8 (48 + (u : Int) % 10)] 5)).drew) w5 → (convert 65 9 (.slice (some ⟨w.heap.size, 0, none⟩) 1 1)).run Tryd.prog w5 = .ok (.string ⟨#[UInt8.ofNat (48 + (u : Int) % 10).toNat]⟩) w5) := hide fun w5 b5 => hcc.out w w5 w.heap.size ((b5.cell (p := ⟨w.heap.size, 0, none⟩) (by simp)).trans (by simp [go_sem]))
  obtain ⟨D, hD⟩ : ∃ D, Lib.decDigits (u / 10) = D := ⟨_, rfl⟩
  rw [dec_big h, hD]
  rw [hD] at ih hl2
  have e1 : ((u / 10 : Nat) : Int) = (u : Int) / 10 := by omega
  rw [e1] at ih
  have IH := hide ih
  clear e1
  have hw := IntWalk.i64_in ((u : Int) / 10) ⟨by omega, by omega⟩
  have hw2 : (u : Int).tmod 10 = (u : Int) % 10 := Int.tmod_eq_emod_of_nonneg (by omega)
  have hw3 : IntKind.i64.wrap (48 + (u : Int) % 10) = 48 + (u : Int) % 10 := IntWalk.i64_in _ ⟨by omega, by omega⟩
  have hw4 : IntKind.u8.wrap (48 + (u : Int) % 10) = 48 + (u : Int) % 10 := IntWalk.u8_in _ ⟨by omega, by omega⟩
  have HE : Hid (UInt8.ofNat (48 + (u : Int) % 10).toNat = UInt8.ofNat (48 + u % 10)) := hide (by congr 1)
  have hl3 : ¬ 9223372036854775807 < D.length + 1 := by
    rw [hD] at hl
    omega
  clear hD ih hl
  go_enter Tryd.func25, Tryd.ntmps25
  go_wp2
  go_region_law (first
    | (go_simp
       go_at_call 25
       refine (IH.out _).mono ?_
       rintro e w5 ⟨rfl, b5⟩
       first | (have h5 := HB.out _ b5) | skip)
    | fail)
  all_goals
    go_wp2
    go_ret
    refine ⟨ret_string (by rw [HE.out]; exact ba_app D [_]), ?_⟩
    first
      | exact ((Below.refl w.heap.size w).drew).trans (b5.alloc b5.size _)
      | exact (((Below.refl _ _).alloc (Nat.le_refl _) _).drew).trans (b5.mono (by simp))
theorem l00Digits_nat : ∀ (f u : Nat), u < f → u ≤ 9223372036854775807 → ∀ w, Calls Tryd.prog 25 #[.int .i64 u] w fun e w' => e = .returned (.string ⟨(Lib.decDigits u).toArray⟩) ∧ Below w.heap.size w w'
  | 0, u, h, _, _ => absurd h (by omega)
  | f + 1, u, h, hu, w => by
    by_cases h1 : u < 10
    · exact l00Digits_one u h1 w
    · exact l00Digits_more u h1 hu (fun w => l00Digits_nat f (u / 10) (by omega) (by omega) w) w
set_option maxRecDepth 100000 in
set_option maxHeartbeats 4000000 in
/-- The model's digits are the library's. -/
theorem l00Digits_any (n : Int) (h0 : -9223372036854775808 ≤ n) (h1 : n ≤ 9223372036854775807) (w : World) : Calls Tryd.prog 25 #[.int .i64 n] w fun e w' => e = .returned (.string ⟨(Lib.itoa n).toArray⟩) ∧ Below w.heap.size w w' := by
  by_cases hm : n = -9223372036854775808
  · subst hm
    rw [itoa_least]
    go_enter Tryd.func25, Tryd.ntmps25
    go_wp2
    go_ret
    exact ⟨rfl, Below.refl _ _⟩
  · by_cases hn : n < 0
    · have q0 : (n == -9223372036854775808) = false := by simpa using hm
      obtain ⟨u, hu⟩ : ∃ u : Nat, -n = u := ⟨(-n).toNat, by omega⟩
      have e1 : Lib.itoa n = 45 :: Lib.decDigits u := by
        unfold Lib.itoa
        rw [if_pos hn]
        congr 2
        omega
      have hD : Hid (∀ w, Calls Tryd.prog 25 #[.int .i64 (-n)] w fun e w' => e = .returned (.string ⟨(Lib.decDigits u).toArray⟩) ∧ Below w.heap.size w w') := hide fun w => by
        rw [hu]
        exact l00Digits_nat (u + 1) u (by omega) (by omega) w
      have hl : (Lib.decDigits u).length ≤ 19 := dec_len 18 u (by omega)
      have hw := IntWalk.i64_in (-n) ⟨by omega, by omega⟩
      rw [e1]
      generalize Lib.decDigits u = D at *
      have hl2 : (⟨D.toArray⟩ : ByteArray).size ≤ 19 := by simpa [ByteArray.size] using hl
      have hl3 : ¬ 9223372036854775807 < 1 + D.length := by omega
      clear hu e1 hm
      go_enter Tryd.func25, Tryd.ntmps25
      go_wp2_with (go_at_call 25; refine (hD.out _).mono ?_; rintro e w5 ⟨rfl, b5⟩)
      go_ret
      exact ⟨ret_string (ba_app [45] D), b5⟩
    · obtain ⟨u, rfl⟩ : ∃ u : Nat, n = u := ⟨n.toNat, by omega⟩
      have e1 : Lib.itoa u = Lib.decDigits u := by
        unfold Lib.itoa
        rw [if_neg hn]
        simp
      rw [e1]
      exact l00Digits_nat (u + 1) u (by omega) (by omega) w
end Go.Proofs.YtpfceikohoncgaaDoor
