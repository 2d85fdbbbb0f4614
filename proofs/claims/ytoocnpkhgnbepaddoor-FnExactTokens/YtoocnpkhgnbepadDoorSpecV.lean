/- The model's way to a character: it tries one, two, three and four bytes. -/
import Derived.Test.YtoocnpkhgnbepadDoorSpecR
import Derived.BigQuiet
import Derived.Shelf.SlSortCmp.QuietGrown
namespace Go.Proofs.YtoocnpkhgnbepadDoor
open Go.RowKit Go.PlainAid

/-- The character at a place and how many bytes it has; (0, 0) if there is none. -/
def runeAt (t : ByteArray) (p : Nat) : Int × Nat := if p < t.size ∧ brokenB (Utf8.decode t p) = false then (((Utf8.decode t p).1 : Int), (Utf8.decode t p).2) else (0, 0)
theorem runeAt_yes {t : ByteArray} {p n : Nat} (h1 : 1 ≤ n) (h4 : n ≤ 4) (h : p + n ≤ t.size) (hf : Fits t p n) : runeAt t p = (candL t p (n - 1), n) := by
  obtain ⟨a, b, d⟩ := fits_fwd t p n h1 h4 h hf
  unfold runeAt
  rw [if_pos ⟨by omega, a⟩, b, d]
theorem runeAt_no {t : ByteArray} {p n : Nat} (hn : n = 5 ∨ t.size < p + n) (h : ∀ m, 1 ≤ m → m < n → ¬ Fits t p m) : runeAt t p = (0, 0) := by
  unfold runeAt
  by_cases q : p < t.size ∧ brokenB (Utf8.decode t p) = false
  · exfalso
    obtain ⟨a, b, d, e⟩ := fits_bwd t p q.1 q.2
    exact h _ a (by omega) e
  · rw [if_neg q]
theorem lead_ways (x : Int) : (x < 128 ∧ lead x = x) ∨ (240 ≤ x ∧ lead x = x % 8) ∨ (224 ≤ x ∧ x < 240 ∧ lead x = x % 16) ∨ (128 ≤ x ∧ x < 224 ∧ lead x = x % 32) := by
  unfold lead
  by_cases a : x < 128
  · exact .inl ⟨a, by rw [if_pos a]⟩
  by_cases b : 240 ≤ x
  · exact .inr (.inl ⟨b, by rw [if_neg a, if_pos b]⟩)
  by_cases d : 224 ≤ x
  · exact .inr (.inr (.inl ⟨d, by omega, by rw [if_neg a, if_neg b, if_pos d]⟩))
  · exact .inr (.inr (.inr ⟨by omega, by omega, by rw [if_neg a, if_neg b, if_neg d]⟩))
theorem ret_two {a b a' b' : Int} (h : a = a') (h' : b = b') : Ending.returned (.tuple #[.int .i64 a, .int .i64 b]) = .returned (.tuple #[.int .i64 a', .int .i64 b']) := by rw [h, h']

set_option maxRecDepth 100000 in
set_option maxHeartbeats 1600000 in
theorem l01Utf8_grow (c : Int) (w : World) (h : charB c = true) : Calls Tryd.prog 46 #[.int .i64 c] w fun e w' => e = .returned (.string (Utf8.encode c)) ∧ ∃ o, w' = w.alloc o := by
  have hr := charB_iff.1 h
  have H : Hid (charB c = true) := h
  clear h
  have k1 := conv1
  have k2 := conv2
  have k3 := conv3
  have k4 := conv4
  have b0 : 0 ≤ c := by omega
  have b1 : c ≤ 1114111 := by omega
  clear hr
  by_cases h1 : c < 128
  · go_enter Tryd.func46, Tryd.ntmps46
    go_wp2
    go_ret
    exact ⟨ret_string (enc1 H.out b0 h1).symm, _, rfl⟩
  by_cases h2 : c < 2048
  · go_enter Tryd.func46, Tryd.ntmps46
    go_wp2
    go_ret
    exact ⟨ret_string (enc2 H.out (by omega) h2).symm, _, rfl⟩
  by_cases h3 : c < 65536
  · go_enter Tryd.func46, Tryd.ntmps46
    go_wp2
    go_ret
    exact ⟨ret_string (enc3 H.out (by omega) h3).symm, _, rfl⟩
  · go_enter Tryd.func46, Tryd.ntmps46
    go_wp2
    go_ret
    exact ⟨ret_string (enc4 H.out (by omega) b1).symm, _, rfl⟩
theorem below_grown (w : World) (n : Nat) (os : Array Obj) : Below w.heap.size w (Sort.grow (w.drewN n) os) :=
  ⟨rfl, rfl, rfl, by simp, fun k hk => Sort.heap_grow_old (w.drewN n) os hk⟩
/-- A world behind draws and new blocks alone. -/
def Gr (w w' : World) : Prop := ∃ p : GrownBy, w' = Sort.grow (w.drewN p.n) p.os
theorem Gr.refl (w : World) : Gr w w := ⟨⟨0, #[]⟩, by rw [Sort.grow_empty]; rfl⟩
theorem Gr.grown {w w1 : World} (h : Gr w w1) (n : Nat) (os : Array Obj) : Gr w (Sort.grow (w1.drewN n) os) := by
  obtain ⟨⟨m, os'⟩, rfl⟩ := h
  exact ⟨⟨m + n, os' ++ os⟩, by show Sort.grow (Sort.grow ((w.drewN m).drewN n) os') os = _; rw [Sort.grow_grow, World.drewN_drewN]⟩
theorem Gr.below {w w' : World} (h : Gr w w') : Below w.heap.size w w' := by obtain ⟨⟨m, os⟩, rfl⟩ := h; exact below_grown w m os
theorem charOK_grown (c : Int) (w : World) (n : Nat) (os : Array Obj) : Calls Tryd.prog 29 #[.int .i64 c] (Sort.grow (w.drewN n) os) fun e w' => e = .returned (.bool (charB c)) ∧ ∃ p : GrownBy, w' = Sort.grow (w.drewN p.n) p.os :=
  Calls.grown_of ((charOK_spec c _).mono fun _ _ ⟨he, hw⟩ => ⟨he, 0, #[], by rw [← hw, Sort.grow_empty]; rfl⟩)
theorem utf8_grown (c : Int) (w : World) (n : Nat) (os : Array Obj) (h : charB c = true) : Calls Tryd.prog 46 #[.int .i64 c] (Sort.grow (w.drewN n) os) fun e w' => e = .returned (.string (Utf8.encode c)) ∧ ∃ p : GrownBy, w' = Sort.grow (w.drewN p.n) p.os :=
  Calls.grown_of ((l01Utf8_grow c _ h).mono fun _ _ ⟨he, o, hw⟩ => ⟨he, 0, #[o], by rw [hw, Sort.alloc_eq_grow]; rfl⟩)

set_option maxRecDepth 100000 in
set_option maxHeartbeats 8000000 in
theorem l01Rune_gr (t : ByteArray) (p : Nat) (w : World) (hs : t.size ≤ 4000) (hps : p ≤ 4000) : Calls Tryd.prog 60 #[.string t, .int .i64 p] w fun e w' => e = .returned (.tuple #[.int .i64 (runeAt t p).1, .int .i64 (runeAt t p).2]) ∧ Gr w w' := by
  have hmix : Tryd.prog.follows .mixedOrders = true := by kernel_rfl
  have HB : Hid (∀ (n : Nat) (h : n < t.size), ((t[n]'h).toNat : Int) = bt t n) := get_bt t
  go_enter Tryd.func60, Tryd.ntmps60
  go_wp2
  go_loopw [6] (fun n wr => ∃ nn : Nat, n = .int .i64 nn ∧ 1 ≤ nn ∧ nn ≤ 5 ∧ Gr w wr ∧ Hid (∀ m, 1 ≤ m → m < nn → ¬ Fits t p m)) (fun n _ => 6 - (intOf n).toNat)
  case atStart => exact ⟨1, rfl, by omega, by omega, Gr.refl _, fun m h1 h2 => absurd h2 (by omega)⟩
  case round =>
    obtain ⟨nn, rfl, hn1, hn5, hbw, Hno⟩ := hrel
    by_cases hin : nn ≤ 4 ∧ p + nn ≤ t.size
    · obtain ⟨hn4, hpn⟩ := hin
      have i1 : (nn : Int) ≤ 4 := by omega
      have i2 : (p : Int) + nn ≤ t.size := by omega
      have hp0 : p < t.size := by omega
      have hbp := HB.out p hp0
      have hx0 := bt_nonneg t p
      have hx1 := bt_le t p
      have hl := lead_ways (bt t p)
      have HL : Hid (lead (bt t p) = candL t p 0) := rfl
      generalize bt t p = x at *
      rcases hl with ⟨hx, hv⟩ | ⟨hx, hv⟩ | ⟨hx, hx2, hv⟩ | ⟨hx, hx2, hv⟩
      all_goals
        rw [hv] at HL
        clear hv
        go_wp2
        go_loopw [7, 9] (fun c k w2 => ∃ kk : Nat, k = .int .i64 kk ∧ c = .int .i64 (candL t p (kk - 1)) ∧ 1 ≤ kk ∧ kk ≤ nn ∧ w2 = wr) (fun _ k _ => 6 - (intOf k).toNat)
        case atStart => exact ⟨1, rfl, by rw [HL.out], by omega, by omega, rfl⟩
        case round =>
          obtain ⟨kk, rfl, rfl, hk1, hkn, rfl⟩ := hrel
          by_cases hkl : kk < nn
          · have c0 := candL_lo t p (kk - 1)
            have c1 := candL_hi t p (kk - 1) (by omega)
            have hbk := HB.out (p + kk) (by omega)
            have y0 := bt_nonneg t (p + kk)
            have y1 := bt_le t (p + kk)
            have hnew : candL t p (kk + 1 - 1) = candL t p (kk - 1) * 64 + bt t (p + kk) % 64 := by
              obtain ⟨j, rfl⟩ : ∃ j, kk = j + 1 := ⟨kk - 1, by omega⟩
              rfl
            have Hnew : Hid (candL t p (kk + 1 - 1) = candL t p (kk - 1) * 64 + bt t (p + kk) % 64) := hnew
            clear hnew
            generalize candL t p (kk - 1) = C at *
            generalize bt t (p + kk) = y at *
            go_wp2
            go_roundw
            case rel => exact ⟨kk + 1, by go_num, by rw [Hnew.out], by omega, by omega, trivial⟩
            case measure => simp [intOf]; omega
          · obtain rfl : kk = nn := by omega
            have hwr : IntKind.i64.wrap ((p : Int) + (kk : Int)) = (p : Int) + kk := by rw [IntKind.wrap_i64]; omega
            have i3 : (p : Int) ≤ (p : Int) + kk := by omega
            have i4 : ((p : Int) + kk).toNat = p + kk := by omega
            have i5 : (0 : Int) ≤ (p : Int) + kk := by omega
            by_cases hc : charB (candL t p (kk - 1)) = true
            · cases he : ((Utf8.encode (candL t p (kk - 1))).toList == (t.extract p (p + kk)).toList)
              · have hnew : ∀ m, 1 ≤ m → m < kk + 1 → ¬ Fits t p m := fun m h1 h2 hf => by
                  by_cases e : m < kk
                  · exact Hno.out m h1 e hf
                  · obtain rfl : m = kk := by omega
                    rw [hf.2] at he
                    simp at he
                have Hnew : Hid (∀ m, 1 ≤ m → m < kk + 1 → ¬ Fits t p m) := hnew
                clear hnew
                generalize candL t p (kk - 1) = C at *
                go_wp2
                refine wp_region_quiet_grown (by assumption) (by kernel_rfl) ?_
                repeat (first | go_big_quiet_skip | quiet_step (first | (go_at_call 29; exact hc ▸ charOK_grown _ _ _ _) | (go_at_call 46; exact utf8_grown _ _ _ _ hc)))
                refine wpQuiet_nil ?_
                intro _ hw'
                obtain ⟨⟨nq, osq⟩, hw''⟩ := hw'
                subst hw''
                go_wp2
                go_roundw
                case rel => exact ⟨kk + 1, by go_num, by omega, by omega, hbw.grown _ _, Hnew⟩
                case measure => simp [intOf]; omega
              · have hf : Fits t p kk := ⟨hc, toList_inj (by simpa using he)⟩
                have hr := runeAt_yes hk1 hn4 hpn hf
                have Hr : Hid (runeAt t p = (candL t p (kk - 1), kk)) := hr
                clear hr hf
                generalize candL t p (kk - 1) = C at *
                go_wp2
                refine wp_region_quiet_grown (by assumption) (by kernel_rfl) ?_
                repeat (first | go_big_quiet_skip | quiet_step (first | (go_at_call 29; exact hc ▸ charOK_grown _ _ _ _) | (go_at_call 46; exact utf8_grown _ _ _ _ hc)))
                refine wpQuiet_nil ?_
                intro _ hw'
                obtain ⟨⟨nq, osq⟩, hw''⟩ := hw'
                subst hw''
                go_wp2
                go_ret2
                exact ⟨by rw [Hr.out]; rfl, hbw.grown _ _⟩
            · have hc' : charB (candL t p (kk - 1)) = false := by simpa using hc
              have hnew : ∀ m, 1 ≤ m → m < kk + 1 → ¬ Fits t p m := fun m h1 h2 hf => by
                by_cases e : m < kk
                · exact Hno.out m h1 e hf
                · obtain rfl : m = kk := by omega
                  exact hc hf.1
              have Hnew : Hid (∀ m, 1 ≤ m → m < kk + 1 → ¬ Fits t p m) := hnew
              clear hnew hc
              generalize candL t p (kk - 1) = C at *
              go_wp2
              refine wp_region_quiet_grown (by assumption) (by kernel_rfl) ?_
              repeat (first | go_big_quiet_skip | quiet_step (first | (go_at_call 29; exact hc' ▸ charOK_grown _ _ _ _)))
              refine wpQuiet_nil ?_
              intro _ hw'
              obtain ⟨⟨nq, osq⟩, hw''⟩ := hw'
              subst hw''
              go_wp2
              go_roundw
              case rel => exact ⟨kk + 1, by go_num, by omega, by omega, hbw.grown _ _, Hnew⟩
              case measure => simp [intOf]; omega
    · have hr := runeAt_no (t := t) (p := p) (n := nn) (by omega) Hno.out
      have Hr : Hid (runeAt t p = (0, 0)) := hr
      clear hr
      by_cases h4 : nn ≤ 4
      · have i1 : (nn : Int) ≤ 4 := by omega
        have i2 : ¬ (p : Int) + nn ≤ t.size := by omega
        clear hin
        go_wp2
        go_ret2
        exact ⟨by rw [Hr.out]; rfl, hbw⟩
      · have i1 : ¬ (nn : Int) ≤ 4 := by omega
        clear hin
        go_wp2
        go_ret2
        exact ⟨by rw [Hr.out]; rfl, hbw⟩
theorem l01Rune_any (t : ByteArray) (p : Nat) (w : World) (hs : t.size ≤ 4000) (hps : p ≤ 4000) : Calls Tryd.prog 60 #[.string t, .int .i64 p] w fun e w' => e = .returned (.tuple #[.int .i64 (runeAt t p).1, .int .i64 (runeAt t p).2]) ∧ Below w.heap.size w w' :=
  (l01Rune_gr t p w hs hps).mono fun _ _ ⟨a, b⟩ => ⟨a, b.below⟩
end Go.Proofs.YtoocnpkhgnbepadDoor
