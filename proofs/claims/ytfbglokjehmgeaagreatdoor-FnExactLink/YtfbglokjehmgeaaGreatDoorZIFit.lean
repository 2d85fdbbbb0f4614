/- Each test of the program's table: whether A is within its bounds. No condition. -/
import Derived.Test.YtfbglokjehmgeaaGreatDoorZWkI3
import Derived.Test.YtfbglokjehmgeaaGreatDoorZOps
import Derived.Test.YtfbglokjehmgeaaGreatDoorZVerS0
/- The program's walk through a code, round by round. No condition. -/
namespace Go.Proofs.YtfbglokjehmgeaaGreatDoor
open Go.ChangeShapes Go.WideShapes Go.ChangeAt Go.RowKit Go.Deep

theorem from_mu {l : List InsD} {d d' : List Int} {wt wt' : List Bool} {m' : Bool} (hI : WInv l d wt) (h : fromW l.length 0 l d wt false = .go d' wt' m') : mu d' wt' ≤ mu d wt ∧ WInv l d' wt' ∧ (m' = true → mu d' wt' < mu d wt) := by
  rcases fromBoth l 0 d wt false false (fun k => by simp) hI (by simp) (fun _ j hj => by omega) with ⟨c, p, e1, e2⟩ | ⟨d2, ag2, wt2, m2, e1, e2, I', b1, b2, b3, b4⟩
  · rw [e2] at h
    cases h
  · rw [e2] at h
    cases h
    exact ⟨b3, I', fun e => (b4 e).resolve_left (by simp)⟩
theorem goW_le {n i : Nat} {now : Int} (hn : now ≤ 60) : ∀ (ts : List Int) (d : List Int) (wt : List Bool) (d' : List Int) (wt' : List Bool), (∀ j, d.getD j 0 ≤ 60) → goW n i now ts d wt = .go d' wt' → ∀ j, d'.getD j 0 ≤ 60
  | [], d, wt, d', wt', h, e => by
    cases e
    exact h
  | t :: r, d, wt, d', wt', h, e => by
    rw [goW] at e
    by_cases h1 : t = (n : Int)
    · rw [if_pos h1] at e
      cases e
    · rw [if_neg h1] at e
      by_cases h2 : d.getD t.toNat 0 < 0
      · rw [if_pos h2] at e
        refine goW_le hn r _ _ _ _ (fun j => ?_) e
        rw [getD_set]
        split
        · exact hn
        · exact h j
      · rw [if_neg h2] at e
        by_cases h3 : d.getD t.toNat 0 ≠ now
        · rw [if_pos h3] at e
          cases e
        · rw [if_neg h3] at e
          exact goW_le hn r _ _ _ _ h e
theorem stepW_le {n i : Nat} {x : InsD} {d d' : List Int} {wt wt' : List Bool} (h : ∀ j, d.getD j 0 ≤ 60) (e : stepW n i x d wt = .go d' wt') : ∀ j, d'.getD j 0 ≤ 60 := by
  unfold stepW at e
  simp only [] at e
  split at e
  · cases e
  · split at e
    · cases e
    · split at e
      · cases e
      · exact goW_le (by omega) _ _ _ _ _ h e
theorem goW_bad {n i : Nat} {now : Int} : ∀ (ts : List Int) (d : List Int) (wt : List Bool) (c p : Int), goW n i now ts d wt = .bad c p → c ≠ 0
  | [], d, wt, c, p, e => by cases e
  | t :: r, d, wt, c, p, e => by
    rw [goW] at e
    by_cases h1 : t = (n : Int)
    · rw [if_pos h1] at e
      cases e
      decide
    · rw [if_neg h1] at e
      by_cases h2 : d.getD t.toNat 0 < 0
      · rw [if_pos h2] at e
        exact goW_bad r _ _ _ _ e
      · rw [if_neg h2] at e
        by_cases h3 : d.getD t.toNat 0 ≠ now
        · rw [if_pos h3] at e
          cases e
          decide
        · rw [if_neg h3] at e
          exact goW_bad r _ _ _ _ e
theorem stepW_bad {n i : Nat} {x : InsD} {d : List Int} {wt : List Bool} {c p : Int} (e : stepW n i x d wt = .bad c p) : c ≠ 0 := by
  unfold stepW at e
  simp only [] at e
  split at e
  · cases e; decide
  · split at e
    · cases e; decide
    · split at e
      · cases e; decide
      · exact goW_bad _ _ _ _ _ e
def restW (n t : Nat) (r : List InsD) : VerW → VerR
  | .bad c p => .bad c p
  | .go d wt => fromW n (t + 1) r d wt true
theorem fromW_wait {n t : Nat} {l : List InsD} (h : t < l.length) {d : List Int} {wt : List Bool} (k : wt.getD t false = true) (m : Bool) : fromW n t (l.drop t) d wt m = restW n t (l.drop (t + 1)) (stepW n t l[t] d (wt.set t false)) := by
  rw [List.drop_eq_getElem_cons h, fromW, if_pos k]
  cases stepW n t l[t] d (wt.set t false) <;> rfl
theorem fromW_idle {n t : Nat} {l : List InsD} (h : t < l.length) {d : List Int} {wt : List Bool} (k : wt.getD t false = false) (m : Bool) : fromW n t (l.drop t) d wt m = fromW n (t + 1) (l.drop (t + 1)) d wt m := by
  rw [List.drop_eq_getElem_cons h, fromW, if_neg (by rw [k]; simp)]
/-- What the walk answers: nothing, or the fault. -/
def ErrR (T : Int × Int) (g : Nat) (w : World) (e : Ending) (w' : World) : Prop := Below g w w' ∧ e = .returned (if T.1 = 0 then .nilIface else fvI T.1 T.2)
theorem ErrR.bad {T : Int × Int} {c p : Int} {g : Nat} {w w' : World} (h : T = (c, p)) (hc : c ≠ 0) (hb : Below g w w') : ErrR T g w (.returned (.iface 178 (.agg #[.int .i64 c, .int .i64 p]))) w' := by
  subst h
  exact ⟨hb, by rw [if_neg hc]; rfl⟩
theorem ErrR.nil {T : Int × Int} {g : Nat} {w w' : World} (h : T = (0, 0)) (hb : Below g w w') : ErrR T g w (.returned .nilIface) w' := by
  subst h
  exact ⟨hb, rfl⟩
/-- The walk as it is made: nothing is reached. -/
def WkNew (C : Array Value) (sl : Value) (n : Nat) : Prop := C.size = 6091 ∧ C[0]? = some sl ∧ (∀ j, j < 90 → C[1 + j]? = opsCells[j]?) ∧ n ≤ 2000 ∧ ∀ j, j < 2000 → C[2091 + j]? = some (.bool false) ∧ C[91 + j]? = some (.int .i64 0) ∧ C[4091 + j]? = some (.bool false)
theorem WkNew.start {C : Array Value} {sl : Value} {n : Nat} (h : WkNew C sl n) (h0 : 0 < n) : WkC ((C.setIfInBounds 2091 (.bool true)).setIfInBounds 4091 (.bool true)) sl n ((List.replicate n (-1)).set 0 0) ((List.replicate n false).set 0 true) := by
  obtain ⟨h1, h2, h3, h4, h5⟩ := h
  refine ⟨by simpa using h1, ?_, fun j hj => ?_, ⟨by simp, by simp, h4⟩, fun j hj => ?_⟩
  · rw [Array.getElem?_setIfInBounds_ne (by omega), Array.getElem?_setIfInBounds_ne (by omega)]; exact h2
  · rw [Array.getElem?_setIfInBounds_ne (by omega), Array.getElem?_setIfInBounds_ne (by omega)]; exact h3 j hj
  · obtain ⟨a, b, c⟩ := h5 j (by omega)
    rw [getD_set, getD_set, getD_rep, getD_rep]
    by_cases e : 0 = j
    · subst e
      rw [if_pos ⟨rfl, by simpa using h0⟩, if_pos ⟨rfl, by simpa using h0⟩]
      refine ⟨?_, fun _ => ?_, ?_⟩
      · rw [Array.getElem?_setIfInBounds_ne (by omega), Nat.add_zero, Array.getElem?_setIfInBounds_self_of_lt (by omega)]; rfl
      · rw [Array.getElem?_setIfInBounds_ne (by omega), Array.getElem?_setIfInBounds_ne (by omega)]; exact b
      · rw [Nat.add_zero, Array.getElem?_setIfInBounds_self_of_lt (by simp; omega)]
    · rw [if_neg (fun q => e q.1), if_pos hj, if_neg (fun q => e q.1), if_pos hj]
      refine ⟨?_, fun q => by omega, ?_⟩
      · rw [Array.getElem?_setIfInBounds_ne (by omega), Array.getElem?_setIfInBounds_ne (by omega)]; exact a
      · rw [Array.getElem?_setIfInBounds_ne (by omega), Array.getElem?_setIfInBounds_ne (by omega)]; exact c
set_option maxRecDepth 100000 in
set_option maxHeartbeats 8000000 in
theorem through_any (g : Nat) (a : Option Addr) (c n : Nat) (l : List InsD) (m : Md) (cells result : Int) (C : Array Value) (w : World) (hC : w.heap[g]? = some (.cells C 189 (0, 0))) (hW : WkNew C (.slice a n c) n) (hn : l.length = n) (h0 : 0 < n)
    (H : SlAt InsAt 5 w m (.slice a n c) l) (hm : m.hi ≤ g) (hI : ∀ x ∈ l, insB x cells n result = true) (hr : inB result 0 1 = true) :
    Calls Tryz.prog 109 #[.pointer (some ⟨g, 0, none⟩)] w (ErrR (roundsV l (l.length + 1) ((List.replicate l.length (-1)).set 0 0)) g w) := by
  obtain ⟨f0, hf0, hT0⟩ := through_start (l := l) (by omega) (fun x hx => ins_leaves (hI x hx))
  have hI0 := wk_start (l := l) (by omega) (fun x hx => ins_leaves (hI x hx))
  have HIw := hide hI0
  obtain ⟨T, hT⟩ : ∃ T, roundsV l (l.length + 1) ((List.replicate l.length (-1)).set 0 0) = T := ⟨_, rfl⟩
  rw [hT] at hT0 ⊢
  rw [hn] at hf0 hT0 HIw
  have HF0 := hide (And.intro hf0 hT0)
  have HN := hide hn
  have HRs := hide hr
  have HI := hide hI
  have hrow : ∀ k (h : k < l.length), ∃ b o, a = some ⟨b, o, none⟩ ∧ (m.lo ≤ b ∧ l.length ≤ c) ∧ b < m.hi ∧ (m.made = true → ∀ j, w.frozen? ⟨b, j, none⟩ = false) ∧ InsAt (fun j => w.cell? ⟨b, o + k * 5 + j, none⟩) w (m.inner b) l[k] := by
    obtain ⟨a', c', ea, hrow⟩ := H
    injection ea with e1 e2 e3
    subst e1
    subst e3
    exact hrow
  have HSl := hide hrow
  have hgz : g < w.heap.size := (Array.getElem?_eq_some_iff.1 hC).1
  obtain ⟨s1, s2, s3, s4, s5⟩ := id hW
  have a0 := ((heapCells hC).1 2091).trans (s5 0 (by omega)).1
  have a1 := ((heapCells hC).1 4091).trans (s5 0 (by omega)).2.2
  have b0 := (heapCells hC).2 2091
  have b1 := (heapCells hC).2 4091
  have HWs := hide (And.intro hC (hW.start h0))
  have HU0 : Hid (∀ j, ((List.replicate n (-1 : Int)).set 0 0).getD j 0 ≤ 60) := hide fun j => by
    rw [getD_set, getD_rep]
    split
    · decide
    · split <;> decide
  clear hf0 hT0 hI0 hT hn hI H hrow hC hW s1 s2 s3 s5 hr
  generalize (List.replicate n (-1 : Int)).set 0 0 = d0 at *
  generalize (List.replicate n false).set 0 true = wt0 at *
  go_enter Tryz.func109, Tryz.ntmps109
  go_wp2
  go_region
  go_wp2_with fail
  have HP0 : Hid (WkAt ((w.setCell ⟨g, 2091, none⟩ (.bool true)).setCell ⟨g, 4091, none⟩ (.bool true)).drew g (.slice a n c) n d0 wt0) := hide ⟨_, block_set (block_set HWs.out.1 (.bool true)) (.bool true), HWs.out.2⟩
  have HB0 : Hid (Below g w ((w.setCell ⟨g, 2091, none⟩ (.bool true)).setCell ⟨g, 4091, none⟩ (.bool true)).drew) := hide (((Below.refl g w).setCell (p := ⟨g, 2091, none⟩) (Nat.le_refl _) (.bool true)).setCell (p := ⟨g, 4091, none⟩) (Nat.le_refl _) (.bool true)).drew
  clear a0 a1 b0 b1 HWs
  go_loopg [3] (mu d0 wt0 + 1) (fun q mv w3 => ∃ (d : List Int) (wt : List Bool) (b : Bool), mv = .bool b ∧ q = mu d wt + (if b then 1 else 0) ∧ Hid (WkAt w3 g (.slice a n c) n d wt) ∧ Hid (Below g w w3) ∧ Hid (∀ j, d.getD j 0 ≤ 60) ∧ Hid (WInv l d wt) ∧ Hid ((b = true ∧ ∃ f, mu d wt < f ∧ throughW l f d wt = T) ∨ (b = false ∧ T = (0, 0))))
  case atStart => exact ⟨d0, wt0, true, rfl, rfl, HP0, HB0, HU0, HIw, hide (.inl ⟨rfl, f0, HF0.out.1, HF0.out.2⟩)⟩
  case round =>
    obtain ⟨d, wt, b, rfl, hq, HK, HB, HU, HV, HT⟩ := hrel
    obtain ⟨gq, rfl⟩ : ∃ gq, gq = gk := ⟨_, rfl⟩
    have HQ := hide hq
    clear hq HP0 HB0 HU0 HIw HF0
    cases b with
    | false =>
      have HT2 : Hid (T = (0, 0)) := hide (by
        rcases HT.out with ⟨h, -⟩ | ⟨-, h⟩
        · cases h
        · exact h)
      go_wp2
      go_ret
      exact ErrR.nil HT2.out HB.out
    | true =>
      have HF : Hid (∃ f, mu d wt < f ∧ throughW l f d wt = T) := hide (by
        rcases HT.out with ⟨-, h⟩ | ⟨h, -⟩
        · exact h
        · cases h)
      obtain ⟨R, hR⟩ : ∃ R, fromW l.length 0 l d wt false = R := ⟨_, rfl⟩
      have HR := hide hR
      have HBad : Hid (∀ c p, R = .bad c p → T = (c, p)) := hide fun c p e => by
        obtain ⟨f, hf, hT⟩ := HF.out
        rw [← hT]
        exact through_bad hf (by rw [HR.out, e])
      clear hR HT
      have k0 : wr.cell? ⟨g, 0, none⟩ = some (.slice a n c) := by
        obtain ⟨C, h1, h2⟩ := HK.out
        exact ((heapCells h1).1 0).trans h2.2.1
      go_wp2_with fail
      go_loopg [3, 20] n (fun q mv iv w4 => ∃ (t : Nat) (d' : List Int) (wt' : List Bool) (b' : Bool), iv = .int .i64 t ∧ t ≤ n ∧ q = n - t ∧ mv = .bool b' ∧ Hid (WkAt w4 g (.slice a n c) n d' wt') ∧ Hid (Below g w w4) ∧ Hid (∀ j, d'.getD j 0 ≤ 60) ∧ Hid (WInv l d' wt') ∧ Hid (fromW l.length t (l.drop t) d' wt' b' = R))
      case atStart => exact ⟨0, d, wt, false, rfl, by omega, rfl, rfl, HK, HB, HU, HV, hide (by rw [List.drop_zero]; exact HR.out)⟩
      case round =>
        obtain ⟨t, d', wt', b', rfl, ht, hqt, rfl, HK', HB', HU', HV', HR'⟩ := hrel
        have HQT := hide hqt
        clear hqt
        by_cases hp : t < n
        · have i1 : (t : Int) < n := by omega
          have i2 : (t : Int) < 2000 := by omega
          have i3 : t < 2000 := by omega
          have htl : t < l.length := by rw [HN.out]; exact hp
          have q4 : ∃ C, wr.heap[g]? = some (.cells C 189 (0, 0)) ∧ WkC C (.slice a n c) n d' wt' := HK'.out
          obtain ⟨C4, hC4, hW4⟩ := q4
          have hgr : g < wr.heap.size := (Array.getElem?_eq_some_iff.1 hC4).1
          have c4 := ((heapCells hC4).1 (4091 + t)).trans (hW4.2.2.2.2 t hp).2.2
          have z4 := (heapCells hC4).2 (4091 + t)
          cases hw : wt'.getD t false with
          | false =>
            rw [hw] at c4
            have HR2 := hide ((fromW_idle htl hw b').symm.trans HR'.out)
            clear hW4 hC4 hw htl
            go_wp2
            go_roundg (n - (t + 1))
            case measure => rw [HQT.out]; omega
            case rel => exact ⟨t + 1, d', wt', b', by go_num, by omega, rfl, rfl, HK', HB', HU', HV', HR2⟩
          | true =>
            rw [hw] at c4
            have HR2 := hide ((fromW_wait htl hw b').symm.trans HR'.out)
            have hB2 : Below g w (wr.setCell ⟨g, 4091 + t, none⟩ (.bool false)) := HB'.out.setCell (p := ⟨g, 4091 + t, none⟩) (Nat.le_refl _) _
            have hd0 : 0 ≤ d'.getD t 0 := HV'.out.2.2.2.1 t hw
            have HSt := hide (step_any g a c n t l m cells result d' (wt'.set t false) (wr.setCell ⟨g, 4091 + t, none⟩ (.bool false)) ⟨_, block_set hC4 _, hW4.unwait hp⟩ HN.out (rows_on InsAt.stays HSl.out (hB2.mono hm)) hm htl (HI.out _ (List.getElem_mem htl)) HRs.out hd0 (HU'.out t))
            have HB2 := hide hB2
            have hsb := stepBoth (l := l) (i := t) (x := l[t]) (d := d') (wt := wt') (List.getElem?_eq_getElem htl) HV'.out hw false
            rw [HN.out] at hsb HR2
            cases hst : stepW n t l[t] d' (wt'.set t false) with
            | bad c9 p9 =>
              rw [hst] at HSt HR2
              have HT9 := hide (HBad.out c9 p9 HR2.out.symm)
              have HC9 := hide (stepW_bad hst)
              clear hW4 hC4 hw htl hsb hst hB2 hd0
              go_wp2_with (go_at_call 133; refine HSt.out.mono ?_; rintro e w9 ⟨b9, rfl⟩; unfold fvI)
              go_ret
              exact ErrR.bad HT9.out HC9.out (HB2.out.trans b9)
            | go d9 wt9 =>
              rw [hst] at HSt HR2 hsb
              have HV9 : Hid (WInv l d9 wt9) := hide (by
                rcases hsb with ⟨c, p, -, h⟩ | ⟨d2, ag2, wt2, -, h, I2, -, -⟩
                · cases h
                · cases h
                  exact I2)
              have HU9 := hide (stepW_le HU'.out hst)
              have HR9 : Hid (fromW n (t + 1) (l.drop (t + 1)) d9 wt9 true = R) := HR2
              clear hW4 hC4 hw htl hsb hst hB2 hd0 HR2
              go_wp2_with (go_at_call 133; refine HSt.out.mono ?_; rintro e w9 ⟨b9, rfl, hk9⟩; have HK9 := hide hk9; clear hk9)
              go_roundg (n - (t + 1))
              case measure => rw [HQT.out]; omega
              case rel => exact ⟨t + 1, d9, wt9, true, by go_num, by omega, rfl, rfl, HK9, hide (HB2.out.trans b9), HU9, HV9, hide (by rw [HN.out]; exact HR9.out)⟩
        · have i1 : ¬ (t : Int) < n := by omega
          have hR9 : fromW l.length t [] d' wt' b' = R := by
            have := HR'.out
            rwa [List.drop_of_length_le (by rw [HN.out]; omega)] at this
          have hR8 : fromW l.length 0 l d wt false = .go d' wt' b' := by rw [HR.out, ← hR9]; rfl
          obtain ⟨m1, m2, m3⟩ := from_mu HV.out hR8
          have HM2 : Hid (mu d' wt' + (if b' then 1 else 0) < gq) := hide (by
            rw [HQ.out]
            cases b' with
            | true => have := m3 rfl; simp; omega
            | false => simp; omega)
          have HE2 : Hid ((b' = true ∧ ∃ f, mu d' wt' < f ∧ throughW l f d' wt' = T) ∨ (b' = false ∧ T = (0, 0))) := hide (by
            obtain ⟨f, hf, hfT⟩ := HF.out
            cases b' with
            | true =>
              obtain ⟨f', h1, h2, -, -⟩ := through_step HV.out hf hR8
              exact .inl ⟨rfl, f', h1, by rw [← h2, hfT]⟩
            | false => exact .inr ⟨rfl, by rw [← hfT]; exact through_end hf hR8⟩)
          clear hR9 hR8 m1 m2 m3
          go_wp2
          go_roundg (mu d' wt' + (if b' then 1 else 0))
          case measure => exact HM2.out
          case rel => exact ⟨d', wt', b', rfl, rfl, HK', HB', HU', HV', HE2⟩
end Go.Proofs.YtfbglokjehmgeaaGreatDoor

namespace Go.Proofs.YtfbglokjehmgeaaGreatDoor
open Go.RowKit

theorem fit_anyNumber (op a b : Int) (mod name cn : ByteArray) (params cells result : Int) (pa : Option Addr) (n c : Nat) (w : World) : Calls Tryz.prog 117 #[.agg #[.int .i64 op, .int .i64 a, .int .i64 b, .string mod, .string name], .agg #[.string cn, .int .i64 params, .int .i64 cells, .int .i64 result, .slice pa n c]] w fun e w' => e = .returned (.bool (true)) ∧ Gw w w' := by
  go_enter Tryz.func117, Tryz.ntmps117
  go_wp2
  go_ret
  exact ⟨ret_bool (by rfl), by first | exact Gw.refl _ | exact Gw.one _ _ | exact (Gw.one _ _).trans (Gw.one _ _)⟩
theorem fit_noNumber (op a b : Int) (mod name cn : ByteArray) (params cells result : Int) (pa : Option Addr) (n c : Nat) (w : World) : Calls Tryz.prog 120 #[.agg #[.int .i64 op, .int .i64 a, .int .i64 b, .string mod, .string name], .agg #[.string cn, .int .i64 params, .int .i64 cells, .int .i64 result, .slice pa n c]] w fun e w' => e = .returned (.bool (decide (a = 0))) ∧ Gw w w' := by
  go_enter Tryz.func120, Tryz.ntmps120
  go_wp2
  go_ret
  exact ⟨ret_bool (by first | rfl | simp), by first | exact Gw.refl _ | exact Gw.one _ _ | exact (Gw.one _ _).trans (Gw.one _ _)⟩
theorem fit_cellNumber (op a b : Int) (mod name cn : ByteArray) (params cells result : Int) (pa : Option Addr) (n c : Nat) (w : World) : Calls Tryz.prog 118 #[.agg #[.int .i64 op, .int .i64 a, .int .i64 b, .string mod, .string name], .agg #[.string cn, .int .i64 params, .int .i64 cells, .int .i64 result, .slice pa n c]] w fun e w' => e = .returned (.bool (decide (0 ≤ a) && decide (a < cells))) ∧ Gw w w' := by
  by_cases h1 : 0 ≤ a
  · by_cases h2 : a < cells
    · skip
      go_enter Tryz.func118, Tryz.ntmps118
      go_wp2
      go_ret
      exact ⟨ret_bool (by simp [h1, h2]), by first | exact Gw.refl _ | exact Gw.one _ _ | exact (Gw.one _ _).trans (Gw.one _ _)⟩
    · skip
      go_enter Tryz.func118, Tryz.ntmps118
      go_wp2
      go_ret
      exact ⟨ret_bool (by simp; omega), by first | exact Gw.refl _ | exact Gw.one _ _ | exact (Gw.one _ _).trans (Gw.one _ _)⟩
  · skip
    go_enter Tryz.func118, Tryz.ntmps118
    go_wp2
    go_ret
    exact ⟨ret_bool (by simp; omega), by first | exact Gw.refl _ | exact Gw.one _ _ | exact (Gw.one _ _).trans (Gw.one _ _)⟩
theorem fit_arrayLength (op a b : Int) (mod name cn : ByteArray) (params cells result : Int) (pa : Option Addr) (n c : Nat) (w : World) : Calls Tryz.prog 122 #[.agg #[.int .i64 op, .int .i64 a, .int .i64 b, .string mod, .string name], .agg #[.string cn, .int .i64 params, .int .i64 cells, .int .i64 result, .slice pa n c]] w fun e w' => e = .returned (.bool (decide (1 ≤ a) && decide (a ≤ 100))) ∧ Gw w w' := by
  by_cases h1 : 1 ≤ a
  · by_cases h2 : a ≤ 100
    · skip
      go_enter Tryz.func122, Tryz.ntmps122
      go_wp2
      go_ret
      exact ⟨ret_bool (by simp [h1, h2]), by first | exact Gw.refl _ | exact Gw.one _ _ | exact (Gw.one _ _).trans (Gw.one _ _)⟩
    · skip
      go_enter Tryz.func122, Tryz.ntmps122
      go_wp2
      go_ret
      exact ⟨ret_bool (by simp; omega), by first | exact Gw.refl _ | exact Gw.one _ _ | exact (Gw.one _ _).trans (Gw.one _ _)⟩
  · skip
    go_enter Tryz.func122, Tryz.ntmps122
    go_wp2
    go_ret
    exact ⟨ret_bool (by simp; omega), by first | exact Gw.refl _ | exact Gw.one _ _ | exact (Gw.one _ _).trans (Gw.one _ _)⟩
theorem fit_signNumber (op a b : Int) (mod name cn : ByteArray) (params cells result : Int) (pa : Option Addr) (n c : Nat) (w : World) : Calls Tryz.prog 124 #[.agg #[.int .i64 op, .int .i64 a, .int .i64 b, .string mod, .string name], .agg #[.string cn, .int .i64 params, .int .i64 cells, .int .i64 result, .slice pa n c]] w fun e w' => e = .returned (.bool (decide (0 ≤ a) && decide (a < 11))) ∧ Gw w w' := by
  by_cases h1 : 0 ≤ a
  · by_cases h2 : a < 11
    · skip
      go_enter Tryz.func124, Tryz.ntmps124
      go_wp2
      go_ret
      exact ⟨ret_bool (by simp [h1, h2]), by first | exact Gw.refl _ | exact Gw.one _ _ | exact (Gw.one _ _).trans (Gw.one _ _)⟩
    · skip
      go_enter Tryz.func124, Tryz.ntmps124
      go_wp2
      go_ret
      exact ⟨ret_bool (by simp; omega), by first | exact Gw.refl _ | exact Gw.one _ _ | exact (Gw.one _ _).trans (Gw.one _ _)⟩
  · skip
    go_enter Tryz.func124, Tryz.ntmps124
    go_wp2
    go_ret
    exact ⟨ret_bool (by simp; omega), by first | exact Gw.refl _ | exact Gw.one _ _ | exact (Gw.one _ _).trans (Gw.one _ _)⟩
theorem fit_target (op a b : Int) (mod name cn : ByteArray) (params cells result : Int) (pa : Option Addr) (n c : Nat) (w : World) : Calls Tryz.prog 125 #[.agg #[.int .i64 op, .int .i64 a, .int .i64 b, .string mod, .string name], .agg #[.string cn, .int .i64 params, .int .i64 cells, .int .i64 result, .slice pa n c]] w fun e w' => e = .returned (.bool (decide (0 ≤ a) && decide (a < (n : Int)))) ∧ Gw w w' := by
  by_cases h1 : 0 ≤ a
  · by_cases h2 : a < (n : Int)
    · skip
      go_enter Tryz.func125, Tryz.ntmps125
      go_wp2
      go_ret
      exact ⟨ret_bool (by simp [h1, h2]), by first | exact Gw.refl _ | exact Gw.one _ _ | exact (Gw.one _ _).trans (Gw.one _ _)⟩
    · skip
      go_enter Tryz.func125, Tryz.ntmps125
      go_wp2
      go_ret
      exact ⟨ret_bool (by simp; omega), by first | exact Gw.refl _ | exact Gw.one _ _ | exact (Gw.one _ _).trans (Gw.one _ _)⟩
  · skip
    go_enter Tryz.func125, Tryz.ntmps125
    go_wp2
    go_ret
    exact ⟨ret_bool (by simp; omega), by first | exact Gw.refl _ | exact Gw.one _ _ | exact (Gw.one _ _).trans (Gw.one _ _)⟩
theorem fit_argumentCount (op a b : Int) (mod name cn : ByteArray) (params cells result : Int) (pa : Option Addr) (n c : Nat) (w : World) : Calls Tryz.prog 127 #[.agg #[.int .i64 op, .int .i64 a, .int .i64 b, .string mod, .string name], .agg #[.string cn, .int .i64 params, .int .i64 cells, .int .i64 result, .slice pa n c]] w fun e w' => e = .returned (.bool (decide (0 ≤ a) && decide (a ≤ 20))) ∧ Gw w w' := by
  by_cases h1 : 0 ≤ a
  · by_cases h2 : a ≤ 20
    · skip
      go_enter Tryz.func127, Tryz.ntmps127
      go_wp2
      go_ret
      exact ⟨ret_bool (by simp [h1, h2]), by first | exact Gw.refl _ | exact Gw.one _ _ | exact (Gw.one _ _).trans (Gw.one _ _)⟩
    · skip
      go_enter Tryz.func127, Tryz.ntmps127
      go_wp2
      go_ret
      exact ⟨ret_bool (by simp; omega), by first | exact Gw.refl _ | exact Gw.one _ _ | exact (Gw.one _ _).trans (Gw.one _ _)⟩
  · skip
    go_enter Tryz.func127, Tryz.ntmps127
    go_wp2
    go_ret
    exact ⟨ret_bool (by simp; omega), by first | exact Gw.refl _ | exact Gw.one _ _ | exact (Gw.one _ _).trans (Gw.one _ _)⟩
theorem fit_dueResult (op a b : Int) (mod name cn : ByteArray) (params cells result : Int) (pa : Option Addr) (n c : Nat) (w : World) : Calls Tryz.prog 128 #[.agg #[.int .i64 op, .int .i64 a, .int .i64 b, .string mod, .string name], .agg #[.string cn, .int .i64 params, .int .i64 cells, .int .i64 result, .slice pa n c]] w fun e w' => e = .returned (.bool (decide (a = result))) ∧ Gw w w' := by
  go_enter Tryz.func128, Tryz.ntmps128
  go_wp2
  go_ret
  exact ⟨ret_bool (by first | rfl | simp), by first | exact Gw.refl _ | exact Gw.one _ _ | exact (Gw.one _ _).trans (Gw.one _ _)⟩
theorem fit_valueTyped (op a b : Int) (mod name cn : ByteArray) (params cells result : Int) (pa : Option Addr) (n c : Nat) (w : World) : Calls Tryz.prog 129 #[.agg #[.int .i64 op, .int .i64 a, .int .i64 b, .string mod, .string name], .agg #[.string cn, .int .i64 params, .int .i64 cells, .int .i64 result, .slice pa n c]] w fun e w' => e = .returned (.bool (decide (1 ≤ a) && decide (a ≤ 3))) ∧ Gw w w' := by
  by_cases h1 : 1 ≤ a
  · by_cases h2 : a ≤ 3
    · skip
      go_enter Tryz.func129, Tryz.ntmps129
      go_wp2
      go_ret
      exact ⟨ret_bool (by simp [h1, h2]), by first | exact Gw.refl _ | exact Gw.one _ _ | exact (Gw.one _ _).trans (Gw.one _ _)⟩
    · skip
      go_enter Tryz.func129, Tryz.ntmps129
      go_wp2
      go_ret
      exact ⟨ret_bool (by simp; omega), by first | exact Gw.refl _ | exact Gw.one _ _ | exact (Gw.one _ _).trans (Gw.one _ _)⟩
  · skip
    go_enter Tryz.func129, Tryz.ntmps129
    go_wp2
    go_ret
    exact ⟨ret_bool (by simp; omega), by first | exact Gw.refl _ | exact Gw.one _ _ | exact (Gw.one _ _).trans (Gw.one _ _)⟩
theorem fit_readTyped (op a b : Int) (mod name cn : ByteArray) (params cells result : Int) (pa : Option Addr) (n c : Nat) (w : World) : Calls Tryz.prog 130 #[.agg #[.int .i64 op, .int .i64 a, .int .i64 b, .string mod, .string name], .agg #[.string cn, .int .i64 params, .int .i64 cells, .int .i64 result, .slice pa n c]] w fun e w' => e = .returned (.bool (decide (a = 1) || decide (a = 3))) ∧ Gw w w' := by
  by_cases h1 : a = 1
  · subst h1
    go_enter Tryz.func130, Tryz.ntmps130
    go_wp2
    go_ret
    exact ⟨ret_bool (by simp), by first | exact Gw.refl _ | exact Gw.one _ _ | exact (Gw.one _ _).trans (Gw.one _ _)⟩
  · have h1b : (a == 1) = false := by simpa using h1
    go_enter Tryz.func130, Tryz.ntmps130
    go_wp2
    go_ret
    exact ⟨ret_bool (by rw [decide_eq_false h1, Bool.false_or]; rfl), by first | exact Gw.refl _ | exact Gw.one _ _ | exact (Gw.one _ _).trans (Gw.one _ _)⟩
theorem fit_trapNumber (op a b : Int) (mod name cn : ByteArray) (params cells result : Int) (pa : Option Addr) (n c : Nat) (w : World) : Calls Tryz.prog 131 #[.agg #[.int .i64 op, .int .i64 a, .int .i64 b, .string mod, .string name], .agg #[.string cn, .int .i64 params, .int .i64 cells, .int .i64 result, .slice pa n c]] w fun e w' => e = .returned (.bool (decide (1 ≤ a) && decide (a ≤ 5))) ∧ Gw w w' := by
  by_cases h1 : 1 ≤ a
  · by_cases h2 : a ≤ 5
    · skip
      go_enter Tryz.func131, Tryz.ntmps131
      go_wp2
      go_ret
      exact ⟨ret_bool (by simp [h1, h2]), by first | exact Gw.refl _ | exact Gw.one _ _ | exact (Gw.one _ _).trans (Gw.one _ _)⟩
    · skip
      go_enter Tryz.func131, Tryz.ntmps131
      go_wp2
      go_ret
      exact ⟨ret_bool (by simp; omega), by first | exact Gw.refl _ | exact Gw.one _ _ | exact (Gw.one _ _).trans (Gw.one _ _)⟩
  · skip
    go_enter Tryz.func131, Tryz.ntmps131
    go_wp2
    go_ret
    exact ⟨ret_bool (by simp; omega), by first | exact Gw.refl _ | exact Gw.one _ _ | exact (Gw.one _ _).trans (Gw.one _ _)⟩
end Go.Proofs.YtfbglokjehmgeaaGreatDoor
