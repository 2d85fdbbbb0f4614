/- The program's Tokens, at every text. -/
import Derived.Test.YtoocnpkhgnbepadDoorMain0
import Derived.Laws.OwnMore
import Derived.OwnWalk
import Derived.WalkMore
import Derived.WalkSmall
import Derived.Lib.OthersKept
import Derived.OneCell
namespace Go.Proofs.YtoocnpkhgnbepadDoor
open Go.RowKit Go.PlainAid

def tokCells (q : Tok) : List Value := [.int .i64 q.1, .int .i64 q.2.1, .string q.2.2.1, .int .i64 q.2.2.2]
def toksCells (l : List Tok) : List Value := l.flatMap tokCells
theorem toksCells_len (l : List Tok) : (toksCells l).length = l.length * 4 := by
  unfold toksCells
  induction l with
  | nil => rfl
  | cons x l ih => simp only [List.flatMap_cons, List.length_append, List.length_cons, ih]; simp [tokCells]; omega
theorem toksCells_snoc (l : List Tok) (x : Tok) : toksCells (l ++ [x]) = toksCells l ++ tokCells x := by simp [toksCells]

set_option maxRecDepth 100000 in
set_option maxHeartbeats 4000000 in
theorem tokensI_long (s : ByteArray) (w : World) (h : 65536 < s.size) (hs : s.size ≤ maxLen) : Calls Tryd.prog 12 #[.string s] w fun e w' => e = .returned (.tuple #[.slice none 0 0, .int .i64 2, .int .i64 0]) ∧ w = w' := by
  unfold maxLen at hs
  go_enter Tryd.func12, Tryd.ntmps12
  go_wp2
  go_step3
  go_wp2
  rw [Exit.noGoto_ret]
  go_ret3
  exact ⟨rfl, rfl⟩
set_option maxRecDepth 100000 in
set_option maxHeartbeats 4000000 in
theorem tokensI_size (s : ByteArray) (w : World) (h : 4000 < s.size) (h' : s.size ≤ 65536) : Calls Tryd.prog 12 #[.string s] w fun e w' => e = .returned (.tuple #[.slice none 0 0, .int .i64 15, .int .i64 0]) ∧ w = w' := by
  go_enter Tryd.func12, Tryd.ntmps12
  go_wp2
  go_step3
  go_wp2
  rw [Exit.noGoto_ret]
  go_ret3
  exact ⟨rfl, rfl⟩
/-- The rune that stands at a place, and its width. -/
theorem rune_at (s : ByteArray) (pos : Nat) (h : pos < s.size) : 1 ≤ (Utf8.decode s pos).2 ∧ pos + (Utf8.decode s pos).2 ≤ s.size ∧
    ((bt s pos < 128 ∧ ((Utf8.decode s pos).1 : Int) = bt s pos ∧ (Utf8.decode s pos).2 = 1) ∨ (128 ≤ bt s pos ∧ 128 ≤ ((Utf8.decode s pos).1 : Int) ∧ ∀ j, pos ≤ j → j < pos + (Utf8.decode s pos).2 → 128 ≤ bt s j)) := by
  by_cases hl : bt s pos < 128
  · have hg := get_bt s pos h
    have e := decode_ascii s pos h (by rw [← hg] at hl; omega)
    rw [e]
    exact ⟨by omega, by omega, .inl ⟨hl, hg, rfl⟩⟩
  · obtain ⟨a, b, c⟩ := decode_run s pos h hl
    exact ⟨a, b, .inr ⟨by omega, high_rune s pos h hl, c⟩⟩
/-- Where a scan stands: the rune at pos; what ends at bh has been taken. -/
def ScanAt (s : ByteArray) (pos bh : Nat) (l : List Tok) : Prop := pos ≤ s.size ∧ bh ≤ s.size ∧ l.length ≤ 1200 ∧ scan s 0 [] = scan s (max pos bh) l ∧ (pos < bh → bt s (bh - 1) < 128)
theorem scanAt_skip {s : ByteArray} {pos bh : Nat} {l : List Tok} (h : ScanAt s pos bh l) (hp : pos < s.size) (hb : pos < bh) : ScanAt s (pos + (Utf8.decode s pos).2) bh l := by
  obtain ⟨a, b, c, d, e⟩ := h
  obtain ⟨r1, r2, r3⟩ := rune_at s pos hp
  have he := e hb
  have hle : pos + (Utf8.decode s pos).2 ≤ bh := by
    rcases r3 with ⟨_, _, r5⟩ | ⟨_, _, r5⟩
    · omega
    · by_cases q : pos + (Utf8.decode s pos).2 ≤ bh
      · exact q
      · have := r5 (bh - 1) (by omega) (by omega); omega
  refine ⟨r2, b, c, ?_, fun _ => he⟩
  rw [d, show max pos bh = bh by omega, show max (pos + (Utf8.decode s pos).2) bh = bh by omega]
theorem blank_rune {s : ByteArray} {pos : Nat} (hp : pos < s.size) : blankB ((Utf8.decode s pos).1 : Int) = blankB (bt s pos) := by
  obtain ⟨r1, r2, r3⟩ := rune_at s pos hp
  rcases r3 with ⟨_, r4, _⟩ | ⟨r4, r5, _⟩
  · rw [r4]
  · unfold blankB; rw [Bool.eq_iff_iff]; simp; omega
theorem scanAt_blank {s : ByteArray} {pos bh : Nat} {l : List Tok} (h : ScanAt s pos bh l) (hp : pos < s.size) (hb : ¬ pos < bh) (hbl : blankB (bt s pos) = true) : ScanAt s (pos + (Utf8.decode s pos).2) bh l := by
  obtain ⟨a, b, c, d, e⟩ := h
  obtain ⟨r1, r2, r3⟩ := rune_at s pos hp
  have h1 : (Utf8.decode s pos).2 = 1 := by
    rcases r3 with ⟨_, _, r5⟩ | ⟨r4, _, _⟩
    · exact r5
    · unfold blankB at hbl; simp at hbl; omega
  refine ⟨r2, b, c, ?_, fun q => by omega⟩
  rw [d, show max pos bh = pos by omega, scan_step hp, if_pos hbl, h1, show max (pos + 1) bh = pos + 1 by omega]

theorem firstTok_low (r : ByteArray) (hl : ¬ (firstTok r).2.2.2 = 0) : bt r 0 < 128 := by
  by_cases q : bt r 0 < 128
  · exact q
  · exfalso
    apply hl
    unfold firstTok
    have f1 := letB_high (show 128 ≤ bt r 0 by omega)
    have f2 := digB_high (show 128 ≤ bt r 0 by omega)
    have f3 : (bt r 0 == 34) = false := by simp; omega
    have t2 : twoB (bt r 0) = false := by unfold twoB; simp; omega
    have o1 : oneB (bt r 0) = false := by unfold oneB; simp; omega
    rw [f1, f2, f3]
    simp [sgnLen, t2, o1]
theorem rest_zero (s : ByteArray) (p : Nat) (hp : p ≤ s.size) : bt (rest s p) 0 = bt s p := bt_rest s p 0 hp
theorem rem_rest (s : ByteArray) (p : Nat) (hp : p ≤ s.size) : remB s p 0 0 = shiftN p (remB (rest s p) 0 0 0) := remB_rest s p 0 0 0 hp (by omega)
theorem scanAt_remBad {s : ByteArray} {pos bh : Nat} {l : List Tok} (h : ScanAt s pos bh l) (hp : pos < s.size) (hb : ¬ pos < bh) (hbl : blankB (bt s pos) = false) (hc : bt s pos = 40 ∧ bt s (pos + 1) = 42) (hr : remB (rest s pos) 0 0 0 = 0) : scan s 0 [] = ([], 4, pos) := by
  obtain ⟨a, b, c, d, e⟩ := h
  have hz : remB s pos 0 0 = 0 := by rw [rem_rest s pos a, hr]; rfl
  rw [d, show max pos bh = pos by omega, scan_step hp, if_neg (by rw [hbl]; decide), if_pos hc, if_pos hz]
theorem scanAt_rem {s : ByteArray} {pos bh : Nat} {l : List Tok} (h : ScanAt s pos bh l) (hp : pos < s.size) (hb : ¬ pos < bh) (hbl : blankB (bt s pos) = false) (hc : bt s pos = 40 ∧ bt s (pos + 1) = 42) (hr : ¬ remB (rest s pos) 0 0 0 = 0) : ScanAt s (pos + (Utf8.decode s pos).2) (pos + remB (rest s pos) 0 0 0) l := by
  obtain ⟨a, b, c, d, e⟩ := h
  obtain ⟨r1, r2, r3⟩ := rune_at s pos hp
  have h1 : (Utf8.decode s pos).2 = 1 := by
    rcases r3 with ⟨_, _, r5⟩ | ⟨r4, _, _⟩
    · exact r5
    · omega
  have hz : remB s pos 0 0 = pos + remB (rest s pos) 0 0 0 := by rw [rem_rest s pos a]; unfold shiftN; rw [if_neg hr]
  have hn : ¬ remB s pos 0 0 = 0 := by omega
  obtain ⟨f1, f2, f3⟩ := rem_fwd hn
  rw [hz] at f1 f2 f3
  refine ⟨r2, f2, c, ?_, fun _ => by rw [f3]; decide⟩
  rw [d, show max pos bh = pos by omega, scan_step hp, if_neg (by rw [hbl]; decide), if_pos hc, if_neg hn, hz, h1, show max (pos + 1) (pos + remB (rest s pos) 0 0 0) = pos + remB (rest s pos) 0 0 0 by omega]
theorem scanAt_bad {s : ByteArray} {pos bh : Nat} {l : List Tok} (h : ScanAt s pos bh l) (hp : pos < s.size) (hb : ¬ pos < bh) (hbl : blankB (bt s pos) = false) (hc : ¬ (bt s pos = 40 ∧ bt s (pos + 1) = 42)) (hl : (firstTok (rest s pos)).2.2.2 = 0) : scan s 0 [] = ([], 4, pos) := by
  obtain ⟨a, b, c, d, e⟩ := h
  rw [d, show max pos bh = pos by omega, scan_step hp, if_neg (by rw [hbl]; decide), if_neg hc, if_pos hl]
theorem scanAt_many {s : ByteArray} {pos bh : Nat} {l : List Tok} (h : ScanAt s pos bh l) (hp : pos < s.size) (hb : ¬ pos < bh) (hbl : blankB (bt s pos) = false) (hc : ¬ (bt s pos = 40 ∧ bt s (pos + 1) = 42)) (hl : ¬ (firstTok (rest s pos)).2.2.2 = 0) (hm : l.length = 1200) : scan s 0 [] = ([], 13, pos) := by
  obtain ⟨a, b, c, d, e⟩ := h
  rw [d, show max pos bh = pos by omega, scan_step hp, if_neg (by rw [hbl]; decide), if_neg hc, if_neg hl, if_pos hm]
theorem scanAt_tok {s : ByteArray} {pos bh : Nat} {l : List Tok} (h : ScanAt s pos bh l) (hp : pos < s.size) (hb : ¬ pos < bh) (hbl : blankB (bt s pos) = false) (hc : ¬ (bt s pos = 40 ∧ bt s (pos + 1) = 42)) (hl : ¬ (firstTok (rest s pos)).2.2.2 = 0) (hm : ¬ l.length = 1200) :
    ScanAt s (pos + (Utf8.decode s pos).2) (pos + (firstTok (rest s pos)).2.2.2) (l ++ [((firstTok (rest s pos)).1, (firstTok (rest s pos)).2.1, (firstTok (rest s pos)).2.2.1, pos)]) := by
  obtain ⟨a, b, c, d, e⟩ := h
  obtain ⟨r1, r2, r3⟩ := rune_at s pos hp
  have hlow := firstTok_low _ hl
  rw [rest_zero s pos a] at hlow
  have h1 : (Utf8.decode s pos).2 = 1 := by
    rcases r3 with ⟨_, _, r5⟩ | ⟨r4, _, _⟩
    · exact r5
    · omega
  have hrs : (rest s pos).size = s.size - pos := rest_size s pos a
  obtain ⟨g1, g2⟩ := firstTok_in (rest s pos) (by omega) hl
  have g3 : bt (rest s pos) ((firstTok (rest s pos)).2.2.2 - 1) = bt s (pos + (firstTok (rest s pos)).2.2.2 - 1) := by
    unfold rest
    rw [bt_rest s pos _ a]
    congr 1
    unfold rest at hl
    omega
  refine ⟨r2, by omega, by simp; omega, ?_, fun _ => by rw [← g3]; exact g2⟩
  rw [d, show max pos bh = pos by omega, scan_step hp, if_neg (by rw [hbl]; decide), if_neg hc, if_neg hl, if_neg hm, h1, show max (pos + 1) (pos + (firstTok (rest s pos)).2.2.2) = pos + (firstTok (rest s pos)).2.2.2 by omega]
theorem firstTok_text (r : ByteArray) : (firstTok r).2.2.1.size ≤ r.size := by
  have hw : (r.extract 0 (wEnd r 0)).size ≤ r.size := by rw [ByteArray.size_extract]; omega
  unfold firstTok
  by_cases f1 : letB (bt r 0) = true
  · rw [if_pos f1]; unfold wordTok
    by_cases c : 40 < wEnd r 0
    · rw [if_pos c]; exact Nat.zero_le _
    · rw [if_neg c]
      by_cases k : keyB (r.extract 0 (wEnd r 0)) = true
      · rw [if_pos k]; exact hw
      · rw [if_neg k]; exact hw
  rw [if_neg f1]
  by_cases f2 : digB (bt r 0) = true
  · rw [if_pos f2]; unfold digitTok
    by_cases c : numOK (r.extract 0 (wEnd r 0)) = true
    · rw [if_pos c]; exact Nat.zero_le _
    · rw [if_neg c]
      by_cases k : hexOK (r.extract 0 (wEnd r 0)) = true
      · rw [if_pos k]; exact Nat.zero_le _
      · rw [if_neg k]; exact Nat.zero_le _
  rw [if_neg f2]
  by_cases f3 : (bt r 0 == 34) = true
  · rw [if_pos f3]; unfold quotedTok
    by_cases c : (brokenB (qd r) || numB ((qd r).1 : Int) || !(bt r (1 + (qd r).2) == 34)) = true
    · rw [if_pos c]; exact Nat.zero_le _
    · rw [if_neg c]; exact Nat.zero_le _
  rw [if_neg f3]
  show (r.extract 0 _).size ≤ r.size
  rw [ByteArray.size_extract]; omega
theorem tokInfo : (Tryd.prog.info? 41).map (fun i => (i.zero, i.size, i.bytes)) = some (some (.agg #[.int .i64 0, .int .i64 0, .string ⟨#[]⟩, .int .i64 0]), 4, 40) := by kernel_rfl
theorem cell_four_new (w : World) (a b c d : Value) (t : TypeId) : ∀ j u, [a, b, c, d][j]? = some u → (w.alloc (.cells #[a, b, c, d] t)).cell? ((⟨w.heap.size, 0, none⟩ : Addr).add j) = some u := by
  intro j u hj
  match j, hj with
  | 0, hj => simp at hj; subst hj; simp [Addr.add]
  | 1, hj => simp at hj; subst hj; simp [Addr.add]
  | 2, hj => simp at hj; subst hj; simp [Addr.add]
  | 3, hj => simp at hj; subst hj; simp [Addr.add]
  | j + 4, hj => simp at hj
theorem clone_any (x : ByteArray) (w : World) (hx : x.size ≤ 4000) : Calls Tryd.prog 26 #[.string x] w fun e w' => e = .returned (.string x) ∧ Below w.heap.size w w' := by
  have hc := fun w => Tryd.stringslite_Clone x w (by omega)
  clear hx
  go_enter Tryd.func26, Tryd.ntmps26
  go_wp2_with fail
  refine (hc _).mono ?_
  rintro e w' ⟨rfl, bel⟩
  go_wp2
  go_ret
  exact ⟨rfl, bel⟩
/-- An owned row behind a callee. -/
theorem own_below {w w' : World} {B e size n : Nat} {v : Value} {xs : List Value} (h : w.ownsRow B e size v n xs) (bel : Below w.heap.size w w') : w'.ownsRow B e size v n xs := by
  obtain ⟨h1, h2⟩ := h
  refine ⟨h1, ?_⟩
  rcases h2 with h2 | ⟨g, cap, cur, a, b, c, d⟩
  · exact .inl h2
  · exact .inr ⟨g, cap, cur, a, b, by rw [bel.block g (Array.getElem?_eq_some_iff.1 c).1]; exact c, d⟩
theorem heap_below {w w' : World} {g : Nat} {o : Obj} (h : w.heap[g]? = some o) (bel : Below w.heap.size w w') : w'.heap[g]? = some o := by
  rw [bel.block g (Array.getElem?_eq_some_iff.1 h).1]; exact h

set_option maxRecDepth 100000 in
set_option maxHeartbeats 4000000 in
theorem tokensI_in (s : ByteArray) (w : World) (h : s.size ≤ 4000) (hT : Lib.Utf8Tabs 4 5 w) (t : TypeId) (fr : Nat × Nat) (hg : w.heap[1]? = some (.cells keyRow t fr)) :
    Calls Tryd.prog 12 #[.string s] w fun e w' => (∃ v, e = .returned (.tuple #[v, .int .i64 (scan s 0 []).2.1, .int .i64 (scan s 0 []).2.2]) ∧ w'.ownsRow (w.heap.size + 1) 41 4 v (scan s 0 []).1.length (toksCells (scan s 0 []).1)) ∧ Below w.heap.size w w' := by
  have hm : s.size ≤ maxLen := by unfold maxLen; omega
  have hlt : 1 < w.heap.size := (Array.getElem?_eq_some_iff.1 hg).1
  have HT : Hid (Lib.Utf8Tabs 4 5 w) := hT
  have Hg : Hid (w.heap[1]? = some (.cells keyRow t fr)) := hg
  clear hT hg
  obtain ⟨i0, hi, hz0, hz1, hz2⟩ := info_parts tokInfo
  go_enter Tryd.func12, Tryd.ntmps12
  go_wp2
  go_step3
  go_wp2
  go_step3
  go_wp2
  go_loopw [5, 6] (fun v b wr => ∃ (pos bh : Nat) (l : List Tok), wr.heap[w.heap.size]? = some (.stringIter s pos) ∧ wr.ownsRow (w.heap.size + 1) 41 4 v l.length (toksCells l) ∧ Below w.heap.size w wr ∧ b = .int .i64 bh ∧ Hid (ScanAt s pos bh l)) (fun _ _ wr => s.size - wr.iterPos w.heap.size)
  case atStart => exact ⟨0, 0, [], World.iter_heap w s 0, World.ownsRow_nil _ _ _ _, (Below.refl _ _).alloc (Nat.le_refl _) _, rfl, Nat.zero_le _, Nat.zero_le _, by decide, rfl, fun q => absurd q (by omega)⟩
  case round =>
    obtain ⟨pos, bh, l, hit, hown, hbw, rfl, Hat⟩ := hrel
    have hpos0 := iterPos_of hit
    have hbh : bh ≤ s.size := Hat.out.2.1
    by_cases hp : pos < s.size
    · have hnx : ∀ ty, (Instr.next (.pointer (some ⟨w.heap.size, 0, none⟩)) true ty).run Tryd.prog wr = _ := fun ty => Lib.run_next_any_at wr w.heap.size s pos ty hit hp
      obtain ⟨hwd, hle, hrune⟩ := rune_at s pos hp
      have hx0 : (0 : Int) ≤ ((Utf8.decode s pos).1 : Int) := by omega
      have hx1 : ((Utf8.decode s pos).1 : Int) ≤ 2147483647 := by have := decode_le s pos; omega
      have hblk : blankB ((Utf8.decode s pos).1 : Int) = blankB (bt s pos) := blank_rune hp
      have hit2 := Lib.iterAt_heap wr w.heap.size s pos (pos + (Utf8.decode s pos).2) hit
      have hbw2 := Lib.below_iterAt hbw (k := w.heap.size) (Nat.le_refl _) s (pos + (Utf8.decode s pos).2)
      have hown2 := ownsRow_iterAt hown (k := w.heap.size) (by omega) s (pos + (Utf8.decode s pos).2)
      obtain ⟨W1, hW1⟩ : ∃ W1, W1 = wr.iterAt w.heap.size s (pos + (Utf8.decode s pos).2) := ⟨_, rfl⟩
      rw [← hW1] at hnx hit2 hbw2 hown2
      have hBlt := lt_of_block hit2
      clear hW1 hit hown hbw hrune
      by_cases c1 : pos < bh
      · have hnew : ScanAt s (pos + (Utf8.decode s pos).2) bh l := scanAt_skip Hat.out hp c1
        have Hnew : Hid (ScanAt s (pos + (Utf8.decode s pos).2) bh l) := hnew
        clear hnew hblk
        go_wp2
        go_roundw
        case rel => exact ⟨_, bh, l, hit2, hown2, hbw2, rfl, Hnew⟩
        case measure => rw [iterPos_of hit2, hpos0]; omega
      · by_cases c2 : blankB (bt s pos) = true
        · have hnew : ScanAt s (pos + (Utf8.decode s pos).2) bh l := scanAt_blank Hat.out hp c1 c2
          have Hnew : Hid (ScanAt s (pos + (Utf8.decode s pos).2) bh l) := hnew
          rw [c2] at hblk
          clear hnew c2
          go_wp2_with (go_at_call 22; refine (isBlank_any _ _).mono ?_; rintro e w' ⟨rfl, rfl⟩)
          go_roundw
          case rel => exact ⟨_, bh, l, hit2, hown2, hbw2, rfl, Hnew⟩
          case measure => rw [iterPos_of hit2, hpos0]; omega
        · have hbl : blankB (bt s pos) = false := by simpa using c2
          rw [hbl] at hblk
          clear c2
          have hpre : Lib.hasPrefix (s.extract pos s.size).data.toList (⟨#[40, 42]⟩ : ByteArray).data.toList = (bt s pos == 40 && bt s (pos + 1) == 42) := by
            rw [show (⟨#[40, 42]⟩ : ByteArray).data.toList = [40, 42] from rfl, prefix_two _ _ _ (by decide) (by decide), bt_rest s pos 0 (by omega), bt_rest s pos 1 (by omega)]; rfl
          have Hpre : Hid (Lib.hasPrefix (s.extract pos s.size).data.toList (⟨#[40, 42]⟩ : ByteArray).data.toList = (bt s pos == 40 && bt s (pos + 1) == 42)) := hpre
          have Hbl : Hid (blankB (bt s pos) = false) := hbl
          clear hpre hbl
          have hrs : (s.extract pos s.size).size = s.size - pos := rest_size s pos (by omega)
          have Hrm : Hid ((s.extract pos s.size).size ≤ maxLen) := by show _ ≤ _; omega
          have Hrs : Hid ((s.extract pos s.size).size = s.size - pos) := hrs
          clear hrs
          by_cases c3 : bt s pos = 40 ∧ bt s (pos + 1) = 42
          · have e3 : (bt s pos == 40 && bt s (pos + 1) == 42) = true := by rw [c3.1, c3.2]; rfl
            rw [e3] at Hpre
            have Hrem : Hid (∀ w1, Calls Tryd.prog 24 #[.string (s.extract pos s.size)] w1 fun e w' => e = .returned (.int .i64 (remB (rest s pos) 0 0 0)) ∧ Below w1.heap.size w1 w') :=
              fun w1 => remarkLength_any _ w1 Hrm.out (by rw [bt_rest s pos 0 (by omega)]; exact c3.1) (by rw [bt_rest s pos 1 (by omega)]; exact c3.2)
            have C3 : Hid (bt s pos = 40 ∧ bt s (pos + 1) = 42) := c3
            clear e3 c3
            by_cases c4 : remB (rest s pos) 0 0 0 = 0
            · have hfin := scanAt_remBad Hat.out hp c1 Hbl.out C3.out c4
              have Hfin : Hid (scan s 0 [] = ([], 4, pos)) := hfin
              rw [c4] at Hrem
              clear hfin c4
              go_wp2_with (first
                | (go_at_call 22; refine (isBlank_any _ _).mono ?_; rintro e w' ⟨rfl, rfl⟩)
                | (go_at_call 23; refine (Tryd.strings_HasPrefix _ _ _).mono ?_; rintro e w' ⟨he, rfl⟩; rw [Hpre.out] at he; subst he)
                | (go_at_call 24; refine (Hrem.out _).mono ?_; rintro e w' ⟨rfl, bel⟩))
              rw [Exit.noGoto_ret]
              go_ret3
              exact ⟨⟨.slice none 0 0, by rw [Hfin.out]; rfl, by rw [Hfin.out]; exact World.ownsRow_nil _ _ _ _⟩, hbw2.trans (bel.mono hbw2.size)⟩
            · have hnew := scanAt_rem Hat.out hp c1 Hbl.out C3.out c4
              have hsz := hnew.2.1
              generalize remB (rest s pos) 0 0 0 = m at *
              have Hnew : Hid (ScanAt s (pos + (Utf8.decode s pos).2) (pos + m) l) := hnew
              have hm0 : ((m : Int) == 0) = false := by simp; omega
              clear hnew c4
              go_wp2_with (first
                | (go_at_call 22; refine (isBlank_any _ _).mono ?_; rintro e w' ⟨rfl, rfl⟩)
                | (go_at_call 23; refine (Tryd.strings_HasPrefix _ _ _).mono ?_; rintro e w' ⟨he, rfl⟩; rw [Hpre.out] at he; subst he)
                | (go_at_call 24; refine (Hrem.out _).mono ?_; rintro e w' ⟨rfl, bel⟩))
              have hit3 := heap_below hit2 bel
              have hown3 := own_below hown2 bel
              have hbw3 := hbw2.trans (bel.mono hbw2.size)
              go_roundw
              case rel => exact ⟨_, pos + m, l, hit3, hown3, hbw3, by go_num, Hnew⟩
              case measure => rw [iterPos_of hit3, hpos0]; omega
          · have e3 : (bt s pos == 40 && bt s (pos + 1) == 42) = false := by
              rw [Bool.and_eq_false_iff]; simp; omega
            rw [e3] at Hpre
            have Hft : Hid (∀ w1, Below w.heap.size w w1 → Calls Tryd.prog 25 #[.string (s.extract pos s.size)] w1 fun e w' => e = .returned (tokVal (firstTok (rest s pos))) ∧ Below w1.heap.size w1 w') :=
              fun w1 b1 => firstToken_any _ w1 Hrm.out (by have := Hrs.out; omega) (tabs_below HT.out b1) t fr ((b1.block _ hlt).trans Hg.out)
            have C3 : Hid (¬ (bt s pos = 40 ∧ bt s (pos + 1) = 42)) := c3
            clear e3 c3
            by_cases c4 : (firstTok (rest s pos)).2.2.2 = 0
            · have hfin := scanAt_bad Hat.out hp c1 Hbl.out C3.out c4
              have Hfin : Hid (scan s 0 [] = ([], 4, pos)) := hfin
              clear hfin
              generalize firstTok (rest s pos) = q at *
              obtain ⟨k, n, x, m⟩ := q
              simp only [] at c4
              subst c4
              go_wp2_with (first
                | (go_at_call 22; refine (isBlank_any _ _).mono ?_; rintro e w' ⟨rfl, rfl⟩)
                | (go_at_call 23; refine (Tryd.strings_HasPrefix _ _ _).mono ?_; rintro e w' ⟨he, rfl⟩; rw [Hpre.out] at he; subst he)
                | (go_at_call 25; refine (Hft.out _ hbw2).mono ?_; rintro e w' ⟨rfl, bel⟩; unfold tokVal))
              rw [Exit.noGoto_ret]
              go_ret3
              exact ⟨⟨.slice none 0 0, by rw [Hfin.out]; rfl, by rw [Hfin.out]; exact World.ownsRow_nil _ _ _ _⟩, (hbw2.trans (bel.mono hbw2.size)).alloc (by have := hbw2.size; have := bel.size; omega) _⟩
            · by_cases c5 : l.length = 1200
              · have hfin := scanAt_many Hat.out hp c1 Hbl.out C3.out c4 c5
                have Hfin : Hid (scan s 0 [] = ([], 13, pos)) := hfin
                clear hfin
                generalize firstTok (rest s pos) = q at *
                obtain ⟨k, n, x, m⟩ := q
                simp only [] at c4
                have m0 : ((m : Int) == 0) = false := by simp; omega
                rcases hown2.2 with ⟨rfl, hn0⟩ | ⟨g, cap, cur, rfl, _, _, hncap, hcapm, _, _⟩
                · omega
                have l0 : ((l.length : Int) == 1200) = true := by simp; omega
                clear c4
                go_wp2_with (first
                  | (go_at_call 22; refine (isBlank_any _ _).mono ?_; rintro e w' ⟨rfl, rfl⟩)
                  | (go_at_call 23; refine (Tryd.strings_HasPrefix _ _ _).mono ?_; rintro e w' ⟨he, rfl⟩; rw [Hpre.out] at he; subst he)
                  | (go_at_call 25; refine (Hft.out _ hbw2).mono ?_; rintro e w' ⟨rfl, bel⟩; unfold tokVal))
                rw [Exit.noGoto_ret]
                go_ret3
                exact ⟨⟨.slice none 0 0, by rw [Hfin.out]; rfl, by rw [Hfin.out]; exact World.ownsRow_nil _ _ _ _⟩, (hbw2.trans (bel.mono hbw2.size)).alloc (by have := hbw2.size; have := bel.size; omega) _⟩
              · have hnew := scanAt_tok Hat.out hp c1 Hbl.out C3.out c4 c5
                have hsz := hnew.2.1
                have hll : l.length ≤ 1200 := Hat.out.2.2.1
                have hxs : (firstTok (rest s pos)).2.2.1.size ≤ 4000 := by
                  have h1 := firstTok_text (rest s pos)
                  have h2 : (rest s pos).size = s.size - pos := Hrs.out
                  omega
                generalize firstTok (rest s pos) = q at *
                obtain ⟨k, n, x, m⟩ := q
                simp only [] at c4 hnew hsz hxs
                have Hnew : Hid (ScanAt s (pos + (Utf8.decode s pos).2) (pos + m) (l ++ [(k, n, x, pos)])) := hnew
                have m0 : ((m : Int) == 0) = false := by simp; omega
                have l0 : ((l.length : Int) == 1200) = false := by simp; omega
                clear c4 hnew
                rcases hown2.2 with ⟨rfl, hn0⟩ | ⟨g, cap, cur, rfl, _, _, hncap, hcapm, _, _⟩
                · have l00 : l.length = 0 := hn0
                  go_wp2_with (first
                    | (go_at_call 22; refine (isBlank_any _ _).mono ?_; rintro e w' ⟨rfl, rfl⟩)
                    | (go_at_call 23; refine (Tryd.strings_HasPrefix _ _ _).mono ?_; rintro e w' ⟨he, rfl⟩; rw [Hpre.out] at he; subst he)
                    | (go_at_call 25; refine (Hft.out _ hbw2).mono ?_; rintro e w3 ⟨rfl, bel⟩; unfold tokVal)
                    | (go_at_call 26; refine (clone_any x _ hxs).mono ?_; rintro e w4 ⟨rfl, bel4⟩; obtain ⟨tc, tf, tz, tb⟩ := own_block bel4; clear bel4)
                    | (at_builtin
                       go_must (have hbs := bel.size)
                       go_must (have hne : (Value.slice none 0 0).ownBlock ≠ some w3.heap.size := by simp [Value.ownBlock])
                       go_must (have hown4 := (ownsRow_setCell_other (a := ⟨w3.heap.size, 2, none⟩) (own_below (own_below hown2 bel) tb) hne (.string x)).alloc (.cells #[.int .i64 k, .int .i64 n, .string x, .int .i64 (pos : Int)] 41))
                       go_must (refine wpList_append_own _ rfl _ _ 24 rfl (w.heap.size + 1) 41 i0 (.agg #[.int .i64 0, .int .i64 0, .string ⟨#[]⟩, .int .i64 0]) 4 40 Tryd.underlying24 hi hz0 hz1 hz2 rfl (by decide) _ _ _ rfl hown4 ⟨w4.heap.size, 0, none⟩ 1 1 [.int .i64 k, .int .i64 n, .string x, .int .i64 (pos : Int)] rfl rfl (by have := cell_four_new (w4.setCell ⟨w3.heap.size, 2, none⟩ (.string x)) (.int .i64 k) (.int .i64 n) (.string x) (.int .i64 (pos : Int)) 41; simpa using this) (fun u hu => by simp at hu; rcases hu with rfl | rfl | rfl | rfl <;> rfl) (by unfold maxLen; omega) (by omega) (by simp; omega) ?_)
                       intro v' w5 hown5 hgrow hnil
                       have X : Hid (w5.ownsRow (w.heap.size + 1) 41 4 v' (l.length + 1) (toksCells l ++ [.int .i64 k, .int .i64 n, .string x, .int .i64 (pos : Int)]) ∧ World.grownBy ((w4.setCell ⟨w3.heap.size, 2, none⟩ (.string x)).alloc (.cells #[.int .i64 k, .int .i64 n, .string x, .int .i64 (pos : Int)] 41)) w5 (Value.slice none 0 0).ownBlock) := ⟨hown5, hgrow⟩
                       clear hown5 hgrow hnil hown4 hne))
                  obtain ⟨hown5, hgrow⟩ := X.out
                  have hgb : ∀ j, (Value.slice none 0 0).ownBlock = some j → w.heap.size + 1 ≤ j := fun j hj => (hown2.lt j hj).1
                  have hbw4 : Below w.heap.size w ((w4.setCell ⟨w3.heap.size, 2, none⟩ (.string x)).alloc (.cells #[.int .i64 k, .int .i64 n, .string x, .int .i64 (pos : Int)] 41)) :=
                    (((hbw2.trans (bel.mono hbw2.size)).trans (tb.mono (by have := hbw2.size; have := bel.size; omega))).setCell (by have := hbw2.size; have := bel.size; show w.heap.size ≤ w3.heap.size; omega) _).alloc (by have := hbw2.size; have := bel.size; simp; omega) _
                  have hbw5 : Below w.heap.size w w5 := Below.grown hbw4 hgrow (by have := hbw2.size; have := bel.size; simp; omega) (fun j hj => by have := hgb j hj; omega)
                  have hit5 : w5.heap[w.heap.size]? = some (.stringIter s (pos + (Utf8.decode s pos).2)) := by
                    rw [hgrow.block w.heap.size (by have := bel.size; simp; omega) (fun hh => by have := hgb _ hh.symm; omega), Below.heap_alloc _ _ _ (by have := bel.size; simp; omega), Below.heap_setCell _ _ _ _ (by have := bel.size; show w.heap.size ≠ w3.heap.size; omega)]
                    exact heap_below (heap_below hit2 bel) tb
                  have hfl : toksCells (l ++ [(k, n, x, pos)]) = toksCells l ++ [.int .i64 k, .int .i64 n, .string x, .int .i64 (pos : Int)] := toksCells_snoc l _
                  go_roundw
                  case rel => exact ⟨_, pos + m, l ++ [(k, n, x, pos)], hit5, by rw [hfl, List.length_append]; exact hown5, hbw5, by go_num, Hnew⟩
                  case measure => rw [iterPos_of hit5, hpos0]; omega
                · have hgl := (hown2.lt g rfl).2
                  go_wp2_with (first
                    | (go_at_call 22; refine (isBlank_any _ _).mono ?_; rintro e w' ⟨rfl, rfl⟩)
                    | (go_at_call 23; refine (Tryd.strings_HasPrefix _ _ _).mono ?_; rintro e w' ⟨he, rfl⟩; rw [Hpre.out] at he; subst he)
                    | (go_at_call 25; refine (Hft.out _ hbw2).mono ?_; rintro e w3 ⟨rfl, bel⟩; unfold tokVal)
                    | (go_at_call 26; refine (clone_any x _ hxs).mono ?_; rintro e w4 ⟨rfl, bel4⟩; obtain ⟨tc, tf, tz, tb⟩ := own_block bel4; clear bel4)
                    | (at_builtin
                       go_must (have hbs := bel.size)
                       go_must (have hne : (Value.slice (some ⟨g, 0, none⟩) l.length cap).ownBlock ≠ some w3.heap.size := by have := bel.size; simp [Value.ownBlock]; omega)
                       go_must (have hown4 := (ownsRow_setCell_other (a := ⟨w3.heap.size, 2, none⟩) (own_below (own_below hown2 bel) tb) hne (.string x)).alloc (.cells #[.int .i64 k, .int .i64 n, .string x, .int .i64 (pos : Int)] 41))
                       go_must (refine wpList_append_own _ rfl _ _ 24 rfl (w.heap.size + 1) 41 i0 (.agg #[.int .i64 0, .int .i64 0, .string ⟨#[]⟩, .int .i64 0]) 4 40 Tryd.underlying24 hi hz0 hz1 hz2 rfl (by decide) _ _ _ rfl hown4 ⟨w4.heap.size, 0, none⟩ 1 1 [.int .i64 k, .int .i64 n, .string x, .int .i64 (pos : Int)] rfl rfl (by have := cell_four_new (w4.setCell ⟨w3.heap.size, 2, none⟩ (.string x)) (.int .i64 k) (.int .i64 n) (.string x) (.int .i64 (pos : Int)) 41; simpa using this) (fun u hu => by simp at hu; rcases hu with rfl | rfl | rfl | rfl <;> rfl) (by unfold maxLen; omega) (by omega) (by simp; omega) ?_)
                       intro v' w5 hown5 hgrow hnil
                       have X : Hid (w5.ownsRow (w.heap.size + 1) 41 4 v' (l.length + 1) (toksCells l ++ [.int .i64 k, .int .i64 n, .string x, .int .i64 (pos : Int)]) ∧ World.grownBy ((w4.setCell ⟨w3.heap.size, 2, none⟩ (.string x)).alloc (.cells #[.int .i64 k, .int .i64 n, .string x, .int .i64 (pos : Int)] 41)) w5 (Value.slice (some ⟨g, 0, none⟩) l.length cap).ownBlock) := ⟨hown5, hgrow⟩
                       clear hown5 hgrow hnil hown4 hne))
                  obtain ⟨hown5, hgrow⟩ := X.out
                  have hgb : ∀ j, (Value.slice (some ⟨g, 0, none⟩) l.length cap).ownBlock = some j → w.heap.size + 1 ≤ j := fun j hj => (hown2.lt j hj).1
                  have hbw4 : Below w.heap.size w ((w4.setCell ⟨w3.heap.size, 2, none⟩ (.string x)).alloc (.cells #[.int .i64 k, .int .i64 n, .string x, .int .i64 (pos : Int)] 41)) :=
                    (((hbw2.trans (bel.mono hbw2.size)).trans (tb.mono (by have := hbw2.size; have := bel.size; omega))).setCell (by have := hbw2.size; have := bel.size; show w.heap.size ≤ w3.heap.size; omega) _).alloc (by have := hbw2.size; have := bel.size; simp; omega) _
                  have hbw5 : Below w.heap.size w w5 := Below.grown hbw4 hgrow (by have := hbw2.size; have := bel.size; simp; omega) (fun j hj => by have := hgb j hj; omega)
                  have hit5 : w5.heap[w.heap.size]? = some (.stringIter s (pos + (Utf8.decode s pos).2)) := by
                    rw [hgrow.block w.heap.size (by have := bel.size; simp; omega) (fun hh => by have := hgb _ hh.symm; omega), Below.heap_alloc _ _ _ (by have := bel.size; simp; omega), Below.heap_setCell _ _ _ _ (by have := bel.size; show w.heap.size ≠ w3.heap.size; omega)]
                    exact heap_below (heap_below hit2 bel) tb
                  have hfl : toksCells (l ++ [(k, n, x, pos)]) = toksCells l ++ [.int .i64 k, .int .i64 n, .string x, .int .i64 (pos : Int)] := toksCells_snoc l _
                  go_roundw
                  case rel => exact ⟨_, pos + m, l ++ [(k, n, x, pos)], hit5, by rw [hfl, List.length_append]; exact hown5, hbw5, by go_num, Hnew⟩
                  case measure => rw [iterPos_of hit5, hpos0]; omega
    · have hnx : ∀ ty, (Instr.next (.pointer (some ⟨w.heap.size, 0, none⟩)) true ty).run Tryd.prog wr = _ := fun ty => Lib.run_next_end_at wr w.heap.size s pos ty hit hp
      have hfin : scan s 0 [] = (l, 0, 0) := by rw [Hat.out.2.2.2.1]; exact scan_end (by have := Hat.out.1; omega)
      have Hfin : Hid (scan s 0 [] = (l, 0, 0)) := hfin
      clear hfin
      go_wp2
      rw [Exit.noGoto_ret]
      go_ret3
      exact ⟨⟨_, by rw [Hfin.out]; rfl, by rw [Hfin.out]; exact hown⟩, hbw⟩
end Go.Proofs.YtoocnpkhgnbepadDoor
