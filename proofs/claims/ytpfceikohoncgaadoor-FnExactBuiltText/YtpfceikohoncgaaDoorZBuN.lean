/- The model's BuiltText answers 'buT' and 'buC'. No condition. -/
import Derived.Test.YtpfceikohoncgaaDoorZBuM
namespace Go.Proofs.YtpfceikohoncgaaDoor
open Go.ChangeShapes Go.WideShapes Go.ChangeAt Go.RowKit Go.PlainAid Go.Deep

theorem l08Built_any (c p gv : Int) (mo : ByteArray) (p4 : Option Addr) (n4 c4 : Nat) (u5 u6 u7 : Value) (m : Md) (made : List StringD) (w : World) (hp : I64 p) (hn : n4 ≤ 1048576) (hk : BuOK c mo made) (hu : SlAt StringAt 1 w m u7 made) (hm : m.hi ≤ w.heap.size) :
    Calls Tryd.prog 12 #[.agg #[.int .i64 c, .int .i64 p, .string mo, .int .i64 gv, .slice p4 n4 c4, u5, u6, u7]] w fun e w' => e = .returned (.string (lineB (buL c p mo n4 made))) ∧ Below w.heap.size w w' := by
  obtain ⟨⟨h0, h18⟩, h20, h40, hall⟩ := hk
  unfold buL
  by_cases hc : c = 0
  · subst hc
    rw [if_pos rfl]
    exact l08Made_any p gv mo p4 n4 c4 u5 u6 u7 m made w hn h20 hall hu hm
  · rw [if_neg hc]
    obtain ⟨n, rfl⟩ := Int.eq_ofNat_of_zero_le h0
    exact l08Fault_any n p gv mo (.slice p4 n4 c4) u5 u6 u7 w (by omega) (by omega) hp h40
set_option maxRecDepth 100000 in
set_option maxHeartbeats 4000000 in
theorem specBuiltText_any (c p gv : Int) (mo : ByteArray) (p4 : Option Addr) (n4 c4 : Nat) (u5 u6 u7 : Value) (m : Md) (made : List StringD) (w : World) (hp : I64 p) (hn : n4 ≤ 1048576) (hl : made.length ≤ 1048576) (hmo : mo.size ≤ maxLen) (hu : SlAt StringAt 1 w m u7 made) (hm : m.hi ≤ w.heap.size) :
    Calls Tryd.prog 5 #[.agg #[.int .i64 c, .int .i64 p, .string mo, .int .i64 gv, .slice p4 n4 c4, u5, u6, u7]] w fun e w' => e = .returned (.tuple #[.string (buT c p mo n4 made), .int .i64 (buC c mo made)]) ∧ Below w.heap.size w w' := by
  unfold maxLen at hmo
  have HU := hide hu
  have HM := hide hm
  obtain ⟨pa, pc, rfl, -⟩ := hu
  obtain ⟨nm, hnm⟩ : ∃ k, made.length = k := ⟨_, rfl⟩
  have HN := hide hnm
  rw [hnm] at hl HU ⊢
  have HB : Hid (Below w.heap.size w (w.alloc (.cells #[.int .i64 c, .int .i64 p, .string mo, .int .i64 gv, .slice p4 n4 c4, u5, u6, .slice pa nm pc] 36))) := hide ((Below.refl _ _).alloc (Nat.le_refl _) _)
  have HBu : Hid (BuOK c mo made → ∀ w', Below w.heap.size w w' → Calls Tryd.prog 12 #[.agg #[.int .i64 c, .int .i64 p, .string mo, .int .i64 gv, .slice p4 n4 c4, u5, u6, .slice pa nm pc]] w' fun e w2 => e = .returned (.string (lineB (buL c p mo n4 made))) ∧ Below w'.heap.size w' w2) := hide fun hk w' bel => l08Built_any c p gv mo p4 n4 c4 u5 u6 _ m made w' hp hn hk (HU.out.on StringAt.stays (bel.mono HM.out)) (Nat.le_trans HM.out bel.size)
  have HBad : Hid (¬ BuOK c mo made → buT c p mo n4 made = ⟨#[]⟩ ∧ buC c mo made = 1) := hide fun h => bu_bad h
  have HOk : Hid (BuOK c mo made → buT c p mo n4 made = lineB (buL c p mo n4 made) ∧ buC c mo made = 0) := hide fun h => bu_ok h
  clear hp hn hm
  by_cases hc : 0 ≤ c ∧ c ≤ 18
  · have g1 : inZ c 0 18 = true := by simp [inZ, hc]
    by_cases h20 : 20 < nm
    · have i1 : (20 : Int) < nm := by omega
      obtain ⟨a1, a2⟩ := HBad.out (fun h => by have := h.2.1; omega)
      rw [a1, a2]
      clear hc a1 a2 hnm h20
      go_enter Tryd.func5, Tryd.ntmps5
      go_wp2_with (go_at_call 11; refine (inZ_any _ _ _ _).mono ?_; rintro e w3 ⟨rfl, rfl⟩; rw [g1])
      go_ret2
      exact ⟨rfl, HB.out⟩
    · have i1 : ¬ (20 : Int) < nm := by omega
      by_cases h40 : 40 < mo.size
      · have i2 : (40 : Int) < mo.size := by omega
        obtain ⟨a1, a2⟩ := HBad.out (fun h => by have := h.2.2.1; omega)
        rw [a1, a2]
        clear hc a1 a2 hnm h20 h40
        go_enter Tryd.func5, Tryd.ntmps5
        go_wp2_with (go_at_call 11; refine (inZ_any _ _ _ _).mono ?_; rintro e w3 ⟨rfl, rfl⟩; rw [g1])
        go_ret2
        exact ⟨rfl, HB.out⟩
      · have i2 : ¬ (40 : Int) < mo.size := by omega
        have HK : Hid ((∀ s ∈ made, s.size ≤ 40) → BuOK c mo made) := hide fun h => ⟨hc, by omega, by omega, h⟩
        have HNo : Hid (∀ k (h : k < made.length), 40 < made[k].size → ¬ BuOK c mo made) := hide fun k h hs hk => by have := hk.2.2.2 _ (List.getElem_mem h); omega
        clear hc hnm
        go_enter Tryd.func5, Tryd.ntmps5
        go_wp2_with (go_at_call 11; refine (inZ_any _ _ _ _).mono ?_; rintro e w3 ⟨rfl, rfl⟩; rw [g1])
        go_loopw [4] (fun iv wr => ∃ k : Nat, iv = .int .i64 k ∧ k ≤ nm ∧ wr = (w.alloc (.cells #[.int .i64 c, .int .i64 p, .string mo, .int .i64 gv, .slice p4 n4 c4, u5, u6, .slice pa nm pc] 36)) ∧ Hid (∀ s ∈ made.take k, s.size ≤ 40)) (fun iv _ => nm - (intOf iv).toNat)
        case atStart => exact ⟨0, rfl, by omega, rfl, hide fun s hs => by simp at hs⟩
        case round =>
          obtain ⟨k, rfl, hk, rfl, Hs⟩ := hrel
          by_cases hp : k < nm
          · have i3 : (k : Int) < nm := by omega
            obtain ⟨x, hx⟩ : ∃ x, made[k]'(by rw [HN.out]; exact hp) = x := ⟨_, rfl⟩
            obtain ⟨a', c', e', hrows⟩ := HU.out.on StringAt.stays (HB.out.mono HM.out)
            cases e'
            obtain ⟨b, o, rfl, hb1, hb2, -, he⟩ := hrows k (by rw [HN.out]; exact hp)
            have hno := HNo.out k (by rw [HN.out]; exact hp)
            have htk : Hid (x.size ≤ 40 → ∀ s ∈ made.take (k + 1), s.size ≤ 40) := hide fun hxs s hs => by
              rw [List.take_succ_eq_append_getElem (by rw [HN.out]; exact hp), hx] at hs
              rcases List.mem_append.1 hs with e | e
              · exact Hs.out s e
              · obtain rfl := List.mem_singleton.1 e
                exact hxs
            rw [hx] at he hno
            clear hx hrows
            obtain ⟨d0, -⟩ := he
            simp only [Nat.mul_one, Nat.add_zero] at d0
            by_cases hq : 40 < x.size
            · have i4 : (40 : Int) < x.size := by omega
              obtain ⟨a1, a2⟩ := HBad.out (hno hq)
              have HA1 := hide a1
              have HA2 := hide a2
              clear hno a1 a2 hq
              go_wp2
              go_ret2
              exact ⟨by rw [HA1.out, HA2.out]; rfl, HB.out⟩
            · have i4 : ¬ (40 : Int) < x.size := by omega
              have Hs2 := hide (htk.out (by omega))
              clear hno hq
              go_wp2
              go_roundw
              case rel => exact ⟨k + 1, by go_num, by omega, by first | rfl | trivial, Hs2.out⟩
              case measure => simp [intOf]; omega
          · have i3 : ¬ (k : Int) < nm := by omega
            obtain rfl : k = nm := by omega
            have hok := HK.out (fun s hs => Hs.out s (by rw [List.take_of_length_le (by rw [HN.out]; exact Nat.le_refl _)]; exact hs))
            obtain ⟨a1, a2⟩ := HOk.out hok
            have HC := hide (HBu.out hok _ HB.out)
            have HA1 := hide a1
            have HA2 := hide a2
            clear hok a1 a2
            go_wp2_with (go_at_call 12; refine HC.out.mono ?_; rintro e w3 ⟨rfl, b3⟩)
            go_ret2
            exact ⟨by rw [HA1.out, HA2.out]; rfl, HB.out.trans (b3.mono HB.out.size)⟩
  · have g1 : inZ c 0 18 = false := by simp [inZ]; omega
    obtain ⟨a1, a2⟩ := HBad.out (fun h => hc h.1)
    rw [a1, a2]
    clear hc a1 a2 hnm
    go_enter Tryd.func5, Tryd.ntmps5
    go_wp2_with (go_at_call 11; refine (inZ_any _ _ _ _).mono ?_; rintro e w3 ⟨rfl, rfl⟩; rw [g1])
    go_ret2
    exact ⟨rfl, HB.out⟩
end Go.Proofs.YtpfceikohoncgaaDoor
