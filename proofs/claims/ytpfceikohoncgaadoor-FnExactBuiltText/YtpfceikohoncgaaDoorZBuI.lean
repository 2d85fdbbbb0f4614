/- The program's BuiltText: the words of codes, names that are too long, the faults' line. Listed: the program's table of words, the library's powers of ten. -/
import Derived.Test.YtpfceikohoncgaaDoorZBuP
import Derived.Deep.RegionHeld3
import Derived.BigQuiet
import Derived.Shelf.SlSortCmp.QuietGrown
namespace Go.Proofs.YtpfceikohoncgaaDoor
open Go.ChangeShapes Go.WideShapes Go.ChangeAt Go.RowKit Go.PlainAid Go.Deep

theorem grown_below (w : World) (n : Nat) (os : Array Obj) : Below w.heap.size w (Sort.grow (w.drewN n) os) := ⟨rfl, rfl, rfl, by simp, fun k hk => Sort.heap_grow_old (w.drewN n) os hk⟩
theorem tab_on {w w' : World} {name : String} {k : IntKind} {zs : List Int} {g : Nat} (hg : Tryd.prog.globalNamed name = some g) (h : Lib.TabIs Tryd.prog w name k zs) (bel : Below w.heap.size w w') : Lib.TabIs Tryd.prog w' name k zs := by
  unfold Lib.TabIs at h ⊢
  have e : w'.heap[g]? = w.heap[g]? := by
    rcases Nat.lt_or_ge g w.heap.size with h' | h'
    · exact bel.block g h'
    · simp [World.var?, hg, Array.getElem?_eq_none h'] at h
  rw [← h]
  simp [World.var?, hg, e]
theorem gPow : Tryd.prog.globalNamed "internal/strconv.uint64pow10" = some 1 := by kernel_rfl
/-- The tables that the road reads. -/
structure BuTabs (w : World) : Prop where
  word : ∀ i, i < 19 → w.cell? ⟨0, i, none⟩ = some (.string (wordB i))
  pow : Lib.TabIs Tryd.prog w "internal/strconv.uint64pow10" .u64 Lib.pow10Tab
theorem BuTabs.on {w w' : World} (h : BuTabs w) (bel : Below w.heap.size w w') : BuTabs w' := ⟨fun i hi => (bel.cell (p := ⟨0, i, none⟩) (block_lt (h.word i hi))).trans (h.word i hi), tab_on gPow h.pow bel⟩
theorem itoa_any (n : Int) (hn : I64 n) (w : World) (hT : BuTabs w) : Calls Tryd.prog 19 #[.int .i64 n] w fun e w' => e = .returned (.string (itoaB n)) ∧ Below w.heap.size w w' :=
  (Tryd.strconv_Itoa n hn.1 hn.2 w hT.pow).mono fun _ _ ⟨a, k, os, b⟩ => ⟨a, by rw [b]; exact grown_below w k os⟩
theorem implWord_in (n : Nat) (hn : n < 19) (w : World) (hT : BuTabs w) : Calls Tryd.prog 15 #[.int .i64 n] w fun e w' => e = .returned (.string (wordB n)) ∧ w' = w := by
  have h := hT.word n hn
  have i0 : ¬ (n : Int) < 0 := by omega
  have i1 : ¬ 19 ≤ (n : Int) := by omega
  clear hT
  generalize wordB n = W at *
  go_enter Tryd.func15, Tryd.ntmps15
  go_wp2
  go_ret
  exact ⟨rfl, rfl⟩
theorem implWord_off (n : Int) (hn : n < 0 ∨ 19 ≤ n) (w : World) : Calls Tryd.prog 15 #[.int .i64 n] w fun e w' => e = .returned (.string ⟨#[]⟩) ∧ w' = w := by
  rcases hn with h | h
  all_goals
    go_enter Tryd.func15, Tryd.ntmps15
    go_wp2
    go_ret
    exact ⟨rfl, rfl⟩
def longB (s : ByteArray) : Bool := decide ((40 : Int) < s.size)
theorem tooLong_any (s : ByteArray) (w : World) : Calls Tryd.prog 16 #[.string s] w fun e w' => e = .returned (.bool (longB s)) ∧ w' = w := by
  unfold longB
  go_enter Tryd.func16, Tryd.ntmps16
  go_wp2
  go_ret
  exact ⟨rfl, rfl⟩
set_option maxRecDepth 100000 in
set_option maxHeartbeats 4000000 in
theorem indexLong_any (v : Value) (m : Md) (l : List StringD) (w : World) (hl : l.length ≤ 1048576) (h : SlAt StringAt 1 w m v l) :
    Calls Tryd.prog 28 #[v, .func (.func 16) #[] #[]] w fun e w' => (∃ k : Int, e = .returned (.int .i64 k) ∧ decide (0 ≤ k) = l.any longB) ∧ w' = w := by
  have HS := hide h
  obtain ⟨a, c, rfl, -⟩ := h
  obtain ⟨n, hn⟩ : ∃ n, l.length = n := ⟨_, rfl⟩
  have HN := hide hn
  rw [hn] at hl HS ⊢
  have HYes : Hid (∀ k (h : k < l.length), longB l[k] = true → decide (0 ≤ (k : Int)) = l.any longB) := hide fun k h hb => by
    rw [decide_eq_true (by omega)]
    exact (List.any_eq_true.2 ⟨_, List.getElem_mem h, hb⟩).symm
  have HNo : Hid ((∀ s ∈ l, longB s = false) → decide (0 ≤ (-1 : Int)) = l.any longB) := hide fun h => by
    rw [decide_eq_false (by omega)]
    exact (List.any_eq_false.2 (fun s hs => by rw [h s hs]; decide)).symm
  clear hn
  go_enter Tryd.func28, Tryd.ntmps28
  go_wp2
  go_loopw [8] (fun iv wr => ∃ k : Nat, iv = .int .i64 k ∧ k ≤ n ∧ wr = w ∧ Hid (∀ s ∈ l.take k, longB s = false)) (fun iv _ => n - (intOf iv).toNat)
  case atStart => exact ⟨0, rfl, by omega, rfl, hide fun s hs => by simp at hs⟩
  case round =>
    obtain ⟨k, rfl, hk, rfl, Hs⟩ := hrel
    by_cases hp : k < n
    · have i1 : (k : Int) < n := by omega
      obtain ⟨x, hx⟩ : ∃ x, l[k]'(by rw [HN.out]; exact hp) = x := ⟨_, rfl⟩
      obtain ⟨a', c', e', hrows⟩ := HS.out
      cases e'
      obtain ⟨b, o, rfl, hb1, hb2, -, he⟩ := hrows k (by rw [HN.out]; exact hp)
      have hyes := HYes.out k (by rw [HN.out]; exact hp)
      have htk : Hid (longB x = false → ∀ s ∈ l.take (k + 1), longB s = false) := hide fun hxs s hs => by
        rw [List.take_succ_eq_append_getElem (by rw [HN.out]; exact hp), hx] at hs
        rcases List.mem_append.1 hs with e | e
        · exact Hs.out s e
        · obtain rfl := List.mem_singleton.1 e
          exact hxs
      rw [hx] at he hyes
      clear hx hrows
      obtain ⟨d0, -⟩ := he
      simp only [Nat.mul_one, Nat.add_zero] at d0
      have HL := hide fun w' => tooLong_any x w'
      cases hq : longB x with
      | true =>
        have HA := hide (hyes hq)
        rw [hq] at HL
        clear hyes hq htk hb1
        go_wp2_with (go_at_call 16; refine (HL.out _).mono ?_; rintro e w3 ⟨rfl, rfl⟩)
        go_ret
        exact ⟨⟨_, rfl, HA.out⟩, rfl⟩
      | false =>
        have Hs2 := hide (htk.out hq)
        rw [hq] at HL
        clear hyes hq htk hb1
        go_wp2_with (go_at_call 16; refine (HL.out _).mono ?_; rintro e w3 ⟨rfl, rfl⟩)
        go_roundw
        case rel => exact ⟨k + 1, by go_num, by omega, by first | rfl | trivial, Hs2.out⟩
        case measure => simp [intOf]; omega
    · have i1 : ¬ (k : Int) < n := by omega
      have HA := hide (HNo.out (fun s hs => Hs.out s (by rw [List.take_of_length_le (by rw [HN.out]; omega)]; exact hs)))
      go_wp2
      go_ret
      exact ⟨⟨_, rfl, HA.out⟩, rfl⟩
theorem containsLong_any (v : Value) (m : Md) (l : List StringD) (w : World) (hl : l.length ≤ 1048576) (h : SlAt StringAt 1 w m v l) :
    Calls Tryd.prog 17 #[v, .func (.func 16) #[] #[]] w fun e w' => e = .returned (.bool (l.any longB)) ∧ w' = w := by
  have HI := hide (indexLong_any v m l w hl h)
  clear hl h
  generalize l.any longB = T at *
  go_enter Tryd.func17, Tryd.ntmps17
  go_wp2_with (go_at_call 28; refine HI.out.mono ?_; rintro e w3 ⟨⟨k, rfl, hk⟩, rfl⟩)
  go_ret
  exact ⟨by rw [← hk]; rfl, rfl⟩
end Go.Proofs.YtpfceikohoncgaaDoor
