/- One step of the model's scanner, at a quote; and any step. -/
import Derived.Test.YtoocnpkhgnbepadDoorOneB
import Derived.BigQuiet
import Derived.Shelf.SlSortCmp.QuietGrown
namespace Go.Proofs.YtoocnpkhgnbepadDoor
open Go.RowKit Go.PlainAid

variable {B : Nat} {w0 w : World} {s : ByteArray} {p : Nat} {l : List Tok} {c : Int} {q : Nat} {x : Tok}

theorem runeAt_in (t : ByteArray) (p : Nat) : (runeAt t p).2 ≤ 4 ∧ 0 ≤ (runeAt t p).1 ∧ (runeAt t p).1 ≤ 2147483647 := by
  unfold runeAt
  split
  · have a := decode_w t p
    have b := decode_le t p
    exact ⟨a, by simp only []; omega, by simp only []; omega⟩
  · exact ⟨by decide, by decide, by decide⟩
/-- The ways through the test on what stands behind a quote. -/
theorem quote_ways (s : ByteArray) (p : Nat) (R : Int) (N : Nat) :
    (((N : Int) == 0) = true ∧ ¬ Quoted s p R N) ∨ (((N : Int) == 0) = false ∧ R < 32 ∧ ¬ Quoted s p R N) ∨ (((N : Int) == 0) = false ∧ ¬ R < 32 ∧ (R == 34) = true ∧ ¬ Quoted s p R N) ∨
    (((N : Int) == 0) = false ∧ ¬ R < 32 ∧ (R == 34) = false ∧ (R == 127) = true ∧ ¬ Quoted s p R N) ∨
    (((N : Int) == 0) = false ∧ ¬ R < 32 ∧ (R == 34) = false ∧ (R == 127) = false ∧ (s.size : Int) ≤ (p : Int) + 1 + N ∧ ¬ Quoted s p R N) ∨
    (((N : Int) == 0) = false ∧ ¬ R < 32 ∧ (R == 34) = false ∧ (R == 127) = false ∧ (p : Int) + 1 + N < s.size ∧ (bt s (p + 1 + N) == 34) = false ∧ ¬ Quoted s p R N) ∨
    (((N : Int) == 0) = false ∧ ¬ R < 32 ∧ (R == 34) = false ∧ (R == 127) = false ∧ (p : Int) + 1 + N < s.size ∧ (bt s (p + 1 + N) == 34) = true ∧ Quoted s p R N) := by
  simp only [beq_iff_eq, beq_eq_false_iff_ne]
  unfold Quoted
  by_cases a : N = 0
  · exact .inl ⟨by omega, fun h => h.1 a⟩
  by_cases b : R < 32
  · exact .inr (.inl ⟨by omega, b, fun h => h.2.1 b⟩)
  by_cases c : R = 34
  · exact .inr (.inr (.inl ⟨by omega, b, c, fun h => h.2.2.1 c⟩))
  by_cases d : R = 127
  · exact .inr (.inr (.inr (.inl ⟨by omega, b, c, d, fun h => h.2.2.2.1 d⟩)))
  by_cases e : p + 1 + N < s.size
  · by_cases f : bt s (p + 1 + N) = 34
    · exact .inr (.inr (.inr (.inr (.inr (.inr ⟨by omega, b, c, d, by omega, f, a, b, c, d, e, f⟩)))))
    · exact .inr (.inr (.inr (.inr (.inr (.inl ⟨by omega, b, c, d, by omega, f, fun h => f h.2.2.2.2.2⟩)))))
  · exact .inr (.inr (.inr (.inr (.inl ⟨by omega, b, c, d, by omega, fun h => e h.2.2.2.2.1⟩))))

set_option maxRecDepth 100000 in
set_option maxHeartbeats 16000000 in
theorem one_quote (hs : s.size ≤ 4000) (h : Sc B w0 w s p l 0 q) (hl : l.length ≤ 1200) (hp : p < s.size) (hb : blankB (bt s p) = false) (hc : ¬ (bt s p = 40 ∧ bt s (p + 1) = 42)) (hq : bt s p = 34) :
    Calls Tryd.prog 35 #[.pointer (some ⟨B, 0, none⟩)] w fun e w' => e = .returned (.tuple #[]) ∧ Step B w0 w' s p l := by
  have H : Hid (Sc B w0 w s p l 0 q) := h
  have Hb : Hid (blankB (bt s p) = false) := hb
  have HC : Hid (¬ (bt s p = 40 ∧ bt s (p + 1) = 42)) := hc
  have Hq : Hid (bt s p = 34) := hq
  have HB : Hid (∀ (n : Nat) (h : n < s.size), ((s[n]'h).toNat : Int) = bt s n) := get_bt s
  have hmix : Tryd.prog.follows .mixedOrders = true := by kernel_rfl
  have hd0 : digB 34 = false := by decide
  have hl0 : letB 34 = false := by decide
  have k0 := h.k0
  have k1 := h.k1
  have i1 : (p : Int) < s.size := by omega
  have hbp := get_bt s p hp
  rw [hq] at hbp
  have hr := rem_ways hc
  obtain ⟨hN4, hR0, hR1⟩ := runeAt_in s (p + 1)
  have HR : Hid (∀ w1 n os, Calls Tryd.prog 60 #[.string s, .int .i64 ((p : Int) + 1)] (Sort.grow (World.drewN w1 n) os) fun e w' => e = .returned (.tuple #[.int .i64 (runeAt s (p + 1)).1, .int .i64 (runeAt s (p + 1)).2]) ∧ ∃ p : GrownBy, w' = Sort.grow (w1.drewN p.n) p.os) := fun w1 n os => by
    have := l01Rune_gr s (p + 1) (Sort.grow (World.drewN w1 n) os) hs (by omega)
    rw [show ((p + 1 : Nat) : Int) = (p : Int) + 1 by omega] at this
    exact Calls.grown_of (this.mono fun _ _ ⟨a, q, hq⟩ => ⟨a, q.n, q.os, hq⟩)
  have Hbad : Hid (∀ {w5 : World}, ¬ Quoted s p (runeAt s (p + 1)).1 (runeAt s (p + 1)).2 → Sc B w0 w5 s p l 4 p → Step B w0 w5 s p l) := fun a b => step_quote (q := q) hp hb hc hq (.inl ⟨a, b⟩)
  have Hok : Hid (∀ {w5 : World}, Quoted s p (runeAt s (p + 1)).1 (runeAt s (p + 1)).2 → Added B w0 w5 s (p + ((runeAt s (p + 1)).2 + 2)) l q (4, (runeAt s (p + 1)).1, ⟨#[]⟩, p) → Step B w0 w5 s p l) := fun a b => step_quote (q := q) hp hb hc hq (.inr ⟨a, b⟩)
  clear h hb hc hq
  generalize (runeAt s (p + 1)).2 = N at *
  generalize (runeAt s (p + 1)).1 = R at *
  have Hw := (show Hid _ from quote_ways s p R N)
  have v1 : IntKind.i64.wrap ((p : Int) + 1) = (p : Int) + 1 := by rw [IntKind.wrap_i64]; omega
  have v2 : IntKind.i64.wrap ((p : Int) + 1 + N) = (p : Int) + 1 + N := by rw [IntKind.wrap_i64]; omega
  have v3 : IntKind.i64.wrap ((N : Int) + 2) = (N : Int) + 2 := by rw [IntKind.wrap_i64]; omega
  have v4 : IntKind.i64.wrap ((p : Int) + ((N : Int) + 2)) = (p : Int) + ((N : Int) + 2) := by rw [IntKind.wrap_i64]; omega
  rcases hr with ⟨i2, e1⟩ | ⟨i2, e1⟩
  all_goals
    go_enter Tryd.func35, Tryd.ntmps35
    go_wp2
    go_quiet (fail)
    go_wp2
    go_quiet (fail)
    go_wp2_with (first
      | (go_at_call 55; refine (l00Digit_any _ _).mono ?_; rintro e w' ⟨rfl, rfl⟩)
      | (go_at_call 57; refine (l00Letter_any _ _).mono ?_; rintro e w' ⟨rfl, rfl⟩))
    generalize hW : World.drewN w _ = W
    have hsc : Sc B w0 W s p l 0 q := hW ▸ H.out.drewN _
    have Hsc : Hid (Sc B w0 W s p l 0 q) := hsc
    have g0 := fun n os => cell_grown (w := W) (a := ⟨B, 0, none⟩) hsc.lt hsc.k0 n os
    have g1 := fun n os => cell_grown (w := W) (a := ⟨B, 1, none⟩) hsc.lt hsc.k1 n os
    clear hsc hW
    refine wp_region_quiet_grown (by assumption) (by kernel_rfl) ?_
    repeat (first | go_big_quiet_skip | quiet_step (first | (go_at_call 60; exact HR.out _ _ _)))
    refine wpQuiet_nil ?_
    intro _ hw'
    obtain ⟨⟨nq, osq⟩, hw''⟩ := hw'
    subst hw''
    have hs2 := Hsc.out.on (below_grown W nq osq)
    generalize Sort.grow (W.drewN nq) osq = W2 at *
    have H2 : Hid (Sc B w0 W2 s p l 0 q) := hs2
    have c0 := hs2.k0
    have c1 := hs2.k1
    have c2 := hs2.fz 1
    clear hs2 g0 g1 hs hp i2 e1 k0 k1 i1 hbp hd0 hl0 hmix
    rcases Hw.out with A | A | A | A | A | A | A
    · obtain ⟨a, hQ⟩ := A
      have hQ := (show Hid _ from hQ)
      go_wp2
      go_quiet (fail)
      go_wp2_with (go_at_call 58; refine (fail_any 4 p (H2.out.drewN _)).mono ?_; rintro e w' ⟨rfl, h', _⟩)
      refine bodyPost_ret (results_none rfl _ _ _) rfl ?_
      exact ⟨rfl, Hbad.out hQ.out h'⟩
    · obtain ⟨a, b, hQ⟩ := A
      have hQ := (show Hid _ from hQ)
      go_wp2
      go_quiet (fail)
      go_wp2_with (go_at_call 58; refine (fail_any 4 p (H2.out.drewN _)).mono ?_; rintro e w' ⟨rfl, h', _⟩)
      refine bodyPost_ret (results_none rfl _ _ _) rfl ?_
      exact ⟨rfl, Hbad.out hQ.out h'⟩
    · obtain ⟨a, b, d, hQ⟩ := A
      have hQ := (show Hid _ from hQ)
      have b2 : decide (R < 32) = false := by simp; omega
      clear b
      go_wp2
      go_quiet (fail)
      go_wp2_with (go_at_call 58; refine (fail_any 4 p (H2.out.drewN _)).mono ?_; rintro e w' ⟨rfl, h', _⟩)
      refine bodyPost_ret (results_none rfl _ _ _) rfl ?_
      exact ⟨rfl, Hbad.out hQ.out h'⟩
    · obtain ⟨a, b, d, f, hQ⟩ := A
      have hQ := (show Hid _ from hQ)
      have b2 : decide (R < 32) = false := by simp; omega
      clear b
      go_wp2
      go_quiet (fail)
      go_wp2_with (go_at_call 58; refine (fail_any 4 p (H2.out.drewN _)).mono ?_; rintro e w' ⟨rfl, h', _⟩)
      refine bodyPost_ret (results_none rfl _ _ _) rfl ?_
      exact ⟨rfl, Hbad.out hQ.out h'⟩
    · obtain ⟨a, b, d, f, g, hQ⟩ := A
      have hQ := (show Hid _ from hQ)
      have b2 : decide (R < 32) = false := by simp; omega
      clear b
      go_wp2
      go_quiet (fail)
      go_wp2_with (go_at_call 58; refine (fail_any 4 p (H2.out.drewN _)).mono ?_; rintro e w' ⟨rfl, h', _⟩)
      refine bodyPost_ret (results_none rfl _ _ _) rfl ?_
      exact ⟨rfl, Hbad.out hQ.out h'⟩
    · obtain ⟨a, b, d, f, g, i, hQ⟩ := A
      have hQ := (show Hid _ from hQ)
      have b2 : decide (R < 32) = false := by simp; omega
      clear b
      have g2 : decide ((s.size : Int) ≤ (p : Int) + 1 + N) = false := by simp; omega
      have j1 : ((p : Int) + 1 + N).toNat = p + 1 + N := by omega
      have j2 : (0 : Int) ≤ (p : Int) + 1 + N := by omega
      have hby := HB.out (p + 1 + N) (by omega)
      generalize bt s (p + 1 + N) = y5 at *
      go_wp2
      go_quiet (fail)
      go_wp2_with (go_at_call 58; refine (fail_any 4 p (H2.out.drewN _)).mono ?_; rintro e w' ⟨rfl, h', _⟩)
      refine bodyPost_ret (results_none rfl _ _ _) rfl ?_
      exact ⟨rfl, Hbad.out hQ.out h'⟩
    · obtain ⟨a, b, d, f, g, i, hQ⟩ := A
      have HG : Hid (∀ {w5 : World}, Added B w0 w5 s (p + (N + 2)) l q (4, R, ⟨#[]⟩, p) → Step B w0 w5 s p l) := fun {w5} h => Hok.out hQ h
      clear hQ
      have b2 : decide (R < 32) = false := by simp; omega
      clear b
      have g2 : decide ((s.size : Int) ≤ (p : Int) + 1 + N) = false := by simp; omega
      have j1 : ((p : Int) + 1 + N).toNat = p + 1 + N := by omega
      have j2 : (0 : Int) ≤ (p : Int) + 1 + N := by omega
      have hby := HB.out (p + 1 + N) (by omega)
      generalize bt s (p + 1 + N) = y5 at *
      go_wp2
      go_quiet (fail)
      go_wp2_with (go_at_call 59; refine (add_either 4 R ⟨#[]⟩ p ((H2.out.drewN _).at1 _ (p + (N + 2)) (by omega)) hl).mono ?_; rintro e w' ⟨rfl, h', _⟩)
      go_end0
      exact ⟨rfl, HG.out h'⟩
end Go.Proofs.YtoocnpkhgnbepadDoor
