/- The program's characters by number. -/
import Derived.Test.YtoocnpkhgnbepadDoorImplE
namespace Go.Proofs.YtoocnpkhgnbepadDoor
open Go.RowKit Go.PlainAid

/-- What a character by number gives, behind its digits: d holds the digits, without the sign behind them. -/
def hexAll (d : ByteArray) : Bool := decide (d.size ≤ 7) && allHex d d.size
theorem hexAll_bad {d : ByteArray} {k : Nat} (hk : k < d.size) (h : hexB (bt d k) = false) : allHex d d.size = false := by
  cases e : allHex d d.size with
  | false => rfl
  | true => have := allHex_iff.1 e k hk; rw [h] at this; cases this
theorem hexB_high {n : Int} (h : 128 ≤ n) : hexB n = false := by
  unfold hexB; rw [digB_high h]; simp; omega
theorem hexB_dig {n : Int} (h : digB n = true) : hexB n = true := by unfold hexB; rw [h]; rfl
theorem hexV_dig {n : Int} (h : digB n = true) : hexV n = n - 48 := by unfold hexV; rw [if_pos h]
theorem hexV_let {n : Int} (h : digB n = false) : hexV n = n - 55 := by unfold hexV; rw [h]; rfl

theorem suffix_X (t : ByteArray) (hs : 1 ≤ t.size) : Lib.hasSuffix t.data.toList [88] = (bt t (t.size - 1) == 88) := by
  have hl : t.data.toList.length = t.size := by rw [Array.length_toList]; rfl
  rw [bt_list]
  obtain ⟨l, x, e⟩ : ∃ l x, t.data.toList = l ++ [x] := by
    have hne : t.data.toList ≠ [] := fun q => by rw [q] at hl; simp at hl; omega
    exact ⟨_, _, (List.dropLast_concat_getLast hne).symm⟩
  have hn : t.size - 1 = l.length := by rw [← hl, e]; simp
  rw [e, hn]
  have : (l ++ [x])[l.length]? = some x := by simp
  rw [this]
  unfold Lib.hasSuffix
  rw [Bool.eq_iff_iff]
  simp only [List.isSuffixOf_iff_suffix, beq_iff_eq]
  constructor
  · rintro ⟨a, ha⟩
    have := List.append_inj_right' ha rfl
    simp at this
    rw [← this]; rfl
  · intro q
    have : x = 88 := UInt8.toNat_inj.1 (by simpa using (by omega : x.toNat = 88))
    exact ⟨l, by rw [this]⟩
/-- A text without its last byte. -/
theorem bytes_size (l : List UInt8) : (⟨l.toArray⟩ : ByteArray).size = l.length := by simp [ByteArray.size]
def chop (t : ByteArray) : ByteArray := ⟨(t.data.toList.take (t.size - 1)).toArray⟩
theorem chop_size (t : ByteArray) : (chop t).size = t.size - 1 := by
  have hl : t.data.toList.length = t.size := by rw [Array.length_toList]; rfl
  unfold chop
  rw [bytes_size, List.length_take, hl]; omega
theorem bt_chop (t : ByteArray) (k : Nat) (h : k < t.size - 1) : bt (chop t) k = bt t k := by
  rw [bt_list, bt_list]
  have e : (chop t).data.toList = t.data.toList.take (t.size - 1) := by unfold chop; simp
  rw [e, List.getElem?_take, if_pos h]
theorem hexF_chop (t : ByteArray) : ∀ k, k ≤ t.size - 1 → hexF (chop t) k = hexF t k
  | 0, _ => rfl
  | k + 1, h => by simp only [hexF]; rw [hexF_chop t k (by omega), bt_chop t k (by omega)]
theorem trim_X (t : ByteArray) (h : 1 ≤ t.size) (hx : bt t (t.size - 1) = 88) : (⟨(Lib.trimSuffix t.data.toList [88]).toArray⟩ : ByteArray) = chop t := by
  have hl : t.data.toList.length = t.size := by rw [Array.length_toList]; rfl
  unfold Lib.trimSuffix chop
  rw [suffix_X t h, hx]
  simp [hl]

theorem hexOK_noX {t : ByteArray} (h : ¬ bt t (t.size - 1) = 88) : hexOK t = false := by
  unfold hexOK lastX; simp [h]
theorem hexOK_long {t : ByteArray} (h : 8 < t.size) : hexOK t = false := by
  unfold hexOK; have : ¬ t.size ≤ 8 := by omega
  simp [this]
theorem hexOK_bad {t : ByteArray} {k : Nat} (hk : k < t.size - 1) (h : hexB (bt t k) = false) : hexOK t = false := by
  have : allHex t (t.size - 1) = false := by
    cases e : allHex t (t.size - 1) with
    | false => rfl
    | true => have := allHex_iff.1 e k hk; rw [h] at this; cases this
  unfold hexOK; simp [this]
theorem hexOK_all {t : ByteArray} (h1 : 2 ≤ t.size) (h2 : t.size ≤ 8) (hx : bt t (t.size - 1) = 88) (h : ∀ j, j < t.size - 1 → hexB (bt t j) = true) : hexOK t = charB (hexF t (t.size - 1)) := by
  unfold hexOK lastX
  rw [allHex_iff.2 h]
  have : 1 ≤ t.size := by omega
  simp [h1, h2, hx, this]

set_option maxHeartbeats 1600000 in
theorem numberedCharacter_any (t : ByteArray) (w : World) (hs : t.size ≤ maxLen) (h0 : digB (bt t 0) = true) :
    Calls Tryd.prog 64 #[.string t] w fun e w' => (∃ c : Int, e = .returned (.tuple #[.int .i64 c, .bool (hexOK t)]) ∧ (hexOK t = true → c = hexF t (t.size - 1))) ∧ Below w.heap.size w w' := by
  have hm := hs
  unfold maxLen at hm
  have h1 : 1 ≤ t.size := by
    by_cases q : 1 ≤ t.size
    · exact q
    · rw [bt_end t (by omega)] at h0; exact absurd h0 (by decide)
  have hcut : ∀ w, Calls Tryd.prog 78 #[.string t, .string ⟨#[88]⟩] w fun e w' => e = .returned (.tuple #[.string (if bt t (t.size - 1) = 88 then chop t else t), .bool (bt t (t.size - 1) == 88)]) ∧ w = w' := fun w => by
    refine (Tryd.strings_CutSuffix t ⟨#[88]⟩ w (by omega)).mono ?_
    rintro e w' ⟨rfl, rfl⟩
    have e1 : Lib.hasSuffix t.data.toList (⟨#[88]⟩ : ByteArray).data.toList = (bt t (t.size - 1) == 88) := suffix_X t h1
    have e2 : (⟨(Lib.trimSuffix t.data.toList (⟨#[88]⟩ : ByteArray).data.toList).toArray⟩ : ByteArray) = if bt t (t.size - 1) = 88 then chop t else t := by
      by_cases q : bt t (t.size - 1) = 88
      · rw [if_pos q]; exact trim_X t h1 q
      · rw [if_neg q]
        have : Lib.trimSuffix t.data.toList (⟨#[88]⟩ : ByteArray).data.toList = t.data.toList := by
          unfold Lib.trimSuffix; rw [e1]; simp [q]
        rw [this]
    rw [e1, e2]
    exact ⟨rfl, rfl⟩
  by_cases x : bt t (t.size - 1) = 88
  · have hx2 : (bt t (t.size - 1) == 88) = true := by simp [x]
    have h2 : 2 ≤ t.size := by
      by_cases q : t.size = 1
      · rw [q] at x; rw [show (0 : Nat) = 1 - 1 from rfl, x] at h0; exact absurd h0 (by decide)
      · omega
    simp only [hx2, if_pos x] at hcut
    have X : Hid (bt t (t.size - 1) = 88) := x
    have hlast : hexF (chop t) (t.size - 1) = hexF t (t.size - 1) := hexF_chop t _ (Nat.le_refl _)
    have hchop : ∀ k, k < t.size - 1 → bt (chop t) k = bt t k := bt_chop t
    have hds := chop_size t
    generalize chop t = d at *
    have Hlast : Hid (hexF d (t.size - 1) = hexF t (t.size - 1)) := hlast
    have Hchop : Hid (∀ k, k < t.size - 1 → bt d k = bt t k) := hchop
    have Hds : Hid (d.size = t.size - 1) := hds
    have hb := get_bt d
    have hds1 : d.size + 1 ≤ t.size := by omega
    have hds2 : t.size ≤ d.size + 1 := by omega
    clear hx2 x h0 hlast hchop hds
    by_cases l : 7 < d.size
    · have e : hexOK t = false := hexOK_long (by omega)
      rw [e]
      clear e
      go_enter Tryd.func64, Tryd.ntmps64
      go_wp2_with (go_at_call 78; refine (hcut _).mono ?_; rintro e w' ⟨rfl, rfl⟩)
      go_ret2
      exact ⟨⟨0, rfl, fun q => by cases q⟩, Below.refl _ _⟩
    · go_enter Tryd.func64, Tryd.ntmps64
      go_wp2_with (go_at_call 78; refine (hcut _).mono ?_; rintro e w' ⟨rfl, rfl⟩)
      go_loopw [6] (fun c w' => ∃ pos : Nat, w' = w.iter d pos ∧ c = .int .i64 (hexF d pos) ∧ pos ≤ d.size ∧ Hid (∀ j, j < pos → hexB (bt d j) = true)) (fun _ w' => d.size - w'.iterPos w.heap.size)
      case atStart => exact ⟨0, rfl, rfl, Nat.zero_le _, fun j hj => absurd hj (by omega)⟩
      case round =>
        obtain ⟨pos, rfl, rfl, hpos, Hall⟩ := hrel
        by_cases hp : pos < d.size
        · have hnb := hexF_bound pos Hall.out
          have hpw := pw16_8 ⟨pos, by omega⟩
          simp only [] at hpw
          have hn0 : 0 ≤ hexF d pos := hnb.1
          have hn1 : hexF d pos < 4294967296 := by omega
          clear hnb hpw
          have Hbad : Hid (hexB (bt d pos) = false → hexOK t = false) := fun q => hexOK_bad (k := pos) (by omega) (by rw [← Hchop.out pos (by omega)]; exact q)
          by_cases hlow : bt d pos < 128
          · have hnx := next_low (P := Tryd.prog) w d pos hp hlow
            have hx0 := bt_nonneg d pos
            generalize hN : hexF d pos = N at *
            have HN : Hid (hexF d pos = N) := hN
            clear hN
            generalize hx : bt d pos = x at *
            have Hx : Hid (bt d pos = x) := hx
            clear hx
            cases f2 : digB x
            · by_cases f3 : 65 ≤ x ∧ x ≤ 70
              · have hok : hexB x = true := by unfold hexB; simp; exact .inr f3
                have hv := hexV_let f2
                have Hok : Hid (hexB x = true ∧ hexV x = x - 55) := ⟨hok, hv⟩
                obtain ⟨f4, f5⟩ := f3
                clear hok hv
                go_wp2_with (go_at_call 39; refine (isDigit_any _ _).mono ?_; rintro e w' ⟨rfl, rfl⟩)
                go_roundw
                case rel =>
                  refine ⟨pos + 1, rfl, by simp only [hexF]; rw [HN.out, Hx.out, Hok.out.2]; congr 1; omega, by omega, fun j hj => ?_⟩
                  by_cases q : j < pos
                  · exact Hall.out j q
                  · obtain rfl : j = pos := by omega
                    rw [Hx.out]; exact Hok.out.1
                case measure => simp; omega
              · have hbad : hexOK t = false := Hbad.out (by unfold hexB; rw [f2]; simp; omega)
                have E : Hid (hexOK t = false) := hbad
                clear hbad
                by_cases f4 : 65 ≤ x
                · have f5 : ¬ x ≤ 70 := fun q => f3 ⟨f4, q⟩
                  clear f3
                  go_wp2_with (go_at_call 39; refine (isDigit_any _ _).mono ?_; rintro e w' ⟨rfl, rfl⟩)
                  go_ret2
                  exact ⟨⟨0, ret_pair rfl E.out.symm, fun q => by rw [E.out] at q; cases q⟩, iter_below _ _ _⟩
                · clear f3
                  go_wp2_with (go_at_call 39; refine (isDigit_any _ _).mono ?_; rintro e w' ⟨rfl, rfl⟩)
                  go_ret2
                  exact ⟨⟨0, ret_pair rfl E.out.symm, fun q => by rw [E.out] at q; cases q⟩, iter_below _ _ _⟩
            · have Hok : Hid (hexB x = true ∧ hexV x = x - 48) := ⟨hexB_dig f2, hexV_dig f2⟩
              obtain ⟨d0, d1⟩ := digB_iff.1 f2
              go_wp2_with (go_at_call 39; refine (isDigit_any _ _).mono ?_; rintro e w' ⟨rfl, rfl⟩)
              go_roundw
              case rel =>
                refine ⟨pos + 1, rfl, by simp only [hexF]; rw [HN.out, Hx.out, Hok.out.2], by omega, fun j hj => ?_⟩
                by_cases q : j < pos
                · exact Hall.out j q
                · obtain rfl : j = pos := by omega
                  rw [Hx.out]; exact Hok.out.1
              case measure => simp; omega
          · have hnx : ∀ ty, (Instr.next (.pointer (some ⟨w.heap.size, 0, none⟩)) true ty).run Tryd.prog (w.iter d pos) = _ := fun ty => run_next_any w d pos ty hp
            have hh := high_rune d pos hp hlow
            have f2 := digB_high hh
            have E : Hid (hexOK t = false) := Hbad.out (hexB_high (show 128 ≤ bt d pos by omega))
            have f4 : 65 ≤ ((Utf8.decode d pos).1 : Int) := by omega
            have f5 : ¬ ((Utf8.decode d pos).1 : Int) ≤ 70 := by omega
            go_wp2_with (go_at_call 39; refine (isDigit_any _ _).mono ?_; rintro e w' ⟨rfl, rfl⟩)
            go_ret2
            exact ⟨⟨0, ret_pair rfl E.out.symm, fun q => by rw [E.out] at q; cases q⟩, iter_below _ _ _⟩
        · have hnx : ∀ ty, (Instr.next (.pointer (some ⟨w.heap.size, 0, none⟩)) true ty).run Tryd.prog (w.iter d pos) = _ := fun ty => run_next_end w d pos ty hp
          have hq : pos = t.size - 1 := by have := Hds.out; omega
          have E : Hid (hexOK t = charB (hexF d pos) ∧ hexF d pos = hexF t (t.size - 1)) := by
            have e1 : hexF d pos = hexF t (t.size - 1) := by rw [hq]; exact Hlast.out
            refine ⟨?_, e1⟩
            rw [e1]
            exact hexOK_all h2 (by omega) X.out (fun j hj => by rw [← Hchop.out j hj]; exact Hall.out j (by omega))
          clear hq
          go_wp2_with (go_at_call 31; refine (charOK_impl _ _).mono ?_; rintro e w' ⟨rfl, rfl⟩)
          go_ret2
          exact ⟨⟨_, ret_pair rfl E.out.1.symm, fun _ => E.out.2⟩, iter_below _ _ _⟩
  · have hx2 : (bt t (t.size - 1) == 88) = false := by simp [x]
    simp only [hx2, if_neg x] at hcut
    rw [hexOK_noX x]
    clear hx2 x h0
    go_enter Tryd.func64, Tryd.ntmps64
    go_wp2_with (go_at_call 78; refine (hcut _).mono ?_; rintro e w' ⟨rfl, rfl⟩)
    go_ret2
    exact ⟨⟨0, rfl, fun q => by cases q⟩, Below.refl _ _⟩
end Go.Proofs.YtoocnpkhgnbepadDoor
