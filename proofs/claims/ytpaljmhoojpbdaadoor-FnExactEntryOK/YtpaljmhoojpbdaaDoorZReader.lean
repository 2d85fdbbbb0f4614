/- The program's reader of bytes: what it takes off, and what is left. No condition. -/
import Derived.Test.YtpaljmhoojpbdaaDoorZBytA
import Derived.Test.YtpaljmhoojpbdaaDoorZConv
namespace Go.Proofs.YtpaljmhoojpbdaaDoor
open Go.RowKit

def BAt : Elem Int := fun cf _ _ x => cf 0 = some (.int .u8 x) ∧ 0 ≤ x ∧ x ≤ 255
theorem BAt.stays : Stays BAt := fun _ _ _ _ _ h _ => h
theorem BAt.widens : Widens BAt := fun _ _ _ _ _ h _ _ _ => h
/-- One block alone has turned; none has been made. -/
structure Only (R : Nat) (w w' : World) : Prop where
  os : w'.os = w.os
  tape : w'.tape = w.tape
  output : w'.output = w.output
  size : w'.heap.size = w.heap.size
  block : ∀ k, k ≠ R → w'.heap[k]? = w.heap[k]?
theorem Only.refl (R : Nat) (w : World) : Only R w w := ⟨rfl, rfl, rfl, rfl, fun _ _ => rfl⟩
theorem Only.trans {R : Nat} {a b c : World} (h : Only R a b) (k : Only R b c) : Only R a c := ⟨k.os.trans h.os, k.tape.trans h.tape, k.output.trans h.output, k.size.trans h.size, fun i hi => (k.block i hi).trans (h.block i hi)⟩
theorem Only.set (R o : Nat) (w : World) (v : Value) : Only R w (w.setCell ⟨R, o, none⟩ v) := ⟨rfl, rfl, rfl, by simp [World.setCell], fun k hk => Below.heap_setCell _ _ _ _ hk⟩
theorem Only.same {R lo hi : Nat} {w w' : World} (h : Only R w w') (hR : hi ≤ R) : Same lo hi w w' := fun k _ hk => h.block k (by omega)
theorem Only.below {R B : Nat} {w w' : World} (h : Only R w w') (hR : B ≤ R) : Below B w w' := ⟨h.os, h.tape, h.output, by rw [h.size]; exact Nat.le_refl _, fun k hk => h.block k (by omega)⟩
/-- The reader in block R has the bytes r left. -/
def RS (w : World) (R : Nat) (m : Md) (r : List Int) : Prop := ∃ v, (∃ g o c, v = .slice (some ⟨g, o, none⟩) r.length c ∧ r.length ≤ c) ∧ w.cell? ⟨R, 0, none⟩ = some v ∧ w.frozen? ⟨R, 0, none⟩ = false ∧ SlAt BAt 1 w m v r ∧ m.hi ≤ R
theorem RS.on {w w' : World} {R : Nat} {m : Md} {r : List Int} (h : RS w R m r) (bel : Below w.heap.size w w') : RS w' R m r := by
  obtain ⟨v, h0, h1, h2, h3, h4⟩ := h
  have hl := block_lt h1
  exact ⟨v, h0, (bel.cell (p := ⟨R, 0, none⟩) hl).trans h1, (bel.frozen (p := ⟨R, 0, none⟩) hl).trans h2, h3.on BAt.stays (bel.mono (by omega)), h4⟩
theorem rs_set {w : World} {R : Nat} {m : Md} {r r' : List Int} {g o n c : Nat} (h : RS w R m r) (hc : n ≤ c) (hv : SlAt BAt 1 w m (.slice (some ⟨g, o, none⟩) n c) r') : RS (w.setCell ⟨R, 0, none⟩ (.slice (some ⟨g, o, none⟩) n c)) R m r' := by
  obtain ⟨v0, -, h1, h2, h3, h4⟩ := h
  have hn : n = r'.length := by obtain ⟨_, _, e, _⟩ := id hv; cases e; rfl
  exact ⟨_, ⟨g, o, c, by rw [hn], by omega⟩, World.cell?_setCell_same _ _ _ h1, by rw [World.frozen?_setCell]; exact h2, hv.same BAt.stays ((Only.set R 0 w _).same h4), h4⟩
/-- The slice behind its first k bytes. -/
theorem slat_drop {w : World} {m : Md} {g o n c c' : Nat} {r : List Int} (h : SlAt BAt 1 w m (.slice (some ⟨g, o, none⟩) n c) r) (k : Nat) (hc' : r.length - k ≤ c') :
    SlAt BAt 1 w m (.slice (some ⟨g, o + k, none⟩) (n - k) c') (r.drop k) := by
  obtain ⟨a, cc, e, hr⟩ := h
  cases e
  refine ⟨_, c', by rw [List.length_drop], fun i hi => ?_⟩
  have hi' : k + i < r.length := by rw [List.length_drop] at hi; omega
  obtain ⟨b, o', e, h1, h2, h3, h4⟩ := hr (k + i) hi'
  cases e
  refine ⟨g, o + k, rfl, ⟨h1.1, by rw [List.length_drop]; exact hc'⟩, h2, h3, ?_⟩
  have e1 : (fun j => w.cell? ⟨g, o + k + i * 1 + j, none⟩) = fun j => w.cell? ⟨g, o + (k + i) * 1 + j, none⟩ := funext fun j => by
    rw [show o + k + i * 1 + j = o + (k + i) * 1 + j by omega]
  rw [e1, List.getElem_drop]
  exact h4
/-- .. and those bytes themselves. -/
theorem slat_take {w : World} {m : Md} {g o n c c' : Nat} {r : List Int} (h : SlAt BAt 1 w m (.slice (some ⟨g, o, none⟩) n c) r) (k : Nat) (hk : k ≤ r.length) (hc' : k ≤ c') :
    SlAt BAt 1 w m (.slice (some ⟨g, o, none⟩) k c') (r.take k) := by
  obtain ⟨a, cc, e, hr⟩ := h
  cases e
  refine ⟨_, c', by rw [List.length_take, Nat.min_eq_left hk], fun i hi => ?_⟩
  have hi' : i < k := by rw [List.length_take] at hi; omega
  obtain ⟨b, o', e, h1, h2, h3, h4⟩ := hr i (by omega)
  cases e
  refine ⟨g, o, rfl, ⟨h1.1, by rw [List.length_take]; omega⟩, h2, h3, ?_⟩
  rw [List.getElem_take]
  exact h4
def hd (r : List Int) : Int := r.headD 0
set_option maxHeartbeats 2000000 in
theorem readByte_any (R : Nat) (m : Md) (r : List Int) (w : World) (hl : r.length ≤ 1099511627776) (h : RS w R m r) :
    Calls Tryd.prog 115 #[.pointer (some ⟨R, 0, none⟩)] w fun e w' => e = .returned (.int .i64 (hd r)) ∧ RS w' R m (r.drop 1) ∧ Only R w w' := by
  have HR := hide h
  obtain ⟨v, -, h1, h2, h3, h4⟩ := h
  match r, hl, HR, h3 with
  | [], _, HR, h3 =>
    obtain ⟨a, c, rfl, -⟩ := h3
    go_enter Tryd.func115, Tryd.ntmps115
    go_wp2
    go_ret
    exact ⟨rfl, HR.out, Only.refl _ _⟩
  | x :: rest, hl, HR, h3 =>
    have H3 := hide h3
    obtain ⟨a, c, rfl, hr⟩ := h3
    obtain ⟨g, o, rfl, hc, -, -, ⟨c0, x0, x1⟩⟩ := hr 0 (by simp)
    have hcl := hc.2
    simp only [Nat.zero_mul, Nat.add_zero, List.getElem_cons_zero] at c0 x0 x1
    simp only [List.length_cons] at hcl hl h1
    clear hr hc
    by_cases hc1 : c = 1
    · subst hc1
      go_enter Tryd.func115, Tryd.ntmps115
      go_wp2
      go_ret
      have hrest : rest = [] := List.length_eq_zero_iff.1 (by omega)
      subst hrest
      exact ⟨rfl, rs_set HR.out (Nat.le_refl _) SlAt.nil, Only.set _ _ _ _⟩
    · have hc2 : ¬ (c : Int) = 1 := by omega
      go_enter Tryd.func115, Tryd.ntmps115
      go_wp2
      go_ret
      exact ⟨rfl, rs_set HR.out (by omega) (slat_drop (n := rest.length + 1) H3.out 1 (by simp; omega)), Only.set _ _ _ _⟩
theorem ret_i64r {a b : Int} (h : a = b) : Ending.returned (.int .i64 a) = .returned (.int .i64 b) := by rw [h]
theorem hd_in {r : List Int} (h : ∀ y ∈ r, 0 ≤ y ∧ y ≤ 255) : 0 ≤ hd r ∧ hd r ≤ 255 := by
  cases r with
  | nil => exact ⟨by decide, by decide⟩
  | cons x r => exact h x (by simp)
theorem RS.in {w : World} {R : Nat} {m : Md} {r : List Int} (h : RS w R m r) : ∀ y ∈ r, 0 ≤ y ∧ y ≤ 255 := by
  obtain ⟨v, -, -, -, ⟨a, c, -, hr⟩, -⟩ := h
  intro y hy
  obtain ⟨i, hi, rfl⟩ := List.getElem_of_mem hy
  obtain ⟨b, o, -, -, -, -, h1⟩ := hr i hi
  exact h1.2
/-- A number's bytes put together, one by one; noughts behind the end. -/
def accN (n : Int) (r : List Int) : Nat → Int
  | 0 => n
  | k + 1 => accN (bits .or .i64 (wrap64 (n * 256)) (hd r)) (r.drop 1) k
set_option maxHeartbeats 2000000 in
theorem readNumber_any (R : Nat) (m : Md) (r : List Int) (w : World) (hl : r.length ≤ 1099511627776) (h : RS w R m r) :
    Calls Tryd.prog 116 #[.pointer (some ⟨R, 0, none⟩)] w fun e w' => e = .returned (.int .i64 (accN 0 r 8)) ∧ RS w' R m (r.drop 8) ∧ Only R w w' := by
  have HR := hide h
  clear h
  go_enter Tryd.func116, Tryd.ntmps116
  go_wp2
  go_loopw [3, 4] (fun q i wr => ∃ (k : Nat) (n : Int), i = .int .i64 k ∧ q = .int .i64 n ∧ k ≤ 8 ∧ Hid (accN n (r.drop k) (8 - k) = accN 0 r 8) ∧ Hid (RS wr R m (r.drop k)) ∧ Only R w wr) (fun _ i _ => 8 - (intOf i).toNat)
  case atStart => exact ⟨0, 0, rfl, rfl, by omega, rfl, HR.out, Only.refl _ _⟩
  case round =>
    obtain ⟨k, n, rfl, rfl, hk, Hn, Hr, ho⟩ := hrel
    by_cases hp : k < 8
    · have i1 : (k : Int) < 8 := by omega
      go_wp2_with (go_at_call 115; refine (readByte_any R m (r.drop k) _ (by simp; omega) Hr.out).mono ?_; rintro e w1 ⟨rfl, h1, o1⟩)
      go_roundw
      case rel =>
        refine ⟨k + 1, _, by go_num, rfl, by omega, ?_, ?_, ho.trans o1⟩
        · have e : 8 - k = (8 - (k + 1)) + 1 := by omega
          have := Hn.out
          rw [e, accN, List.drop_drop] at this
          exact this
        · have := h1
          rw [List.drop_drop] at this
          exact this
      case measure => simp [intOf]; omega
    · have i1 : ¬ (k : Int) < 8 := by omega
      obtain rfl : k = 8 := by omega
      go_wp2
      go_ret
      exact ⟨ret_i64r Hn.out, Hr.out, ho⟩
def bs (l : List Int) : ByteArray := ⟨(l.map fun n => UInt8.ofNat n.toNat).toArray⟩
theorem conv_text {w : World} {m : Md} {g o n c : Nat} {r : List Int} (h : SlAt BAt 1 w m (.slice (some ⟨g, o, none⟩) n c) r) : (convert 88 9 (.slice (some ⟨g, o, none⟩) n c)).run Tryd.prog w = .ok (.string (bs r)) w := by
  obtain ⟨a, cc, e, hr⟩ := h
  cases e
  refine run_convert_cells 88 9 5 Tryd.underlying88 Tryd.underlying5 Tryd.underlying9 g o r c w fun j hj => ?_
  obtain ⟨b, o', e, -, -, -, h1⟩ := hr j hj
  cases e
  have := h1.1
  simpa using this
set_option maxHeartbeats 4000000 in
theorem readText_any (R : Nat) (m : Md) (r : List Int) (n : Nat) (w : World) (hl : r.length ≤ 1099511627776) (hn : n ≤ 255) (h : RS w R m r) :
    Calls Tryd.prog 114 #[.pointer (some ⟨R, 0, none⟩), .int .i64 n] w fun e w' => e = .returned (.string (bs (r.take n))) ∧ RS w' R m (r.drop n) ∧ Only R w w' := by
  have HR := hide h
  obtain ⟨v, ⟨g, o, c, rfl, hc⟩, h1, h2, h3, h4⟩ := h
  have H3 := hide h3
  obtain ⟨q, hq⟩ : ∃ q, r.length = q := ⟨_, rfl⟩
  have HQ := hide hq
  rw [hq] at hc h1 hl
  clear h3 h4
  by_cases hnq : n ≤ q
  · have i1 : (n : Int) ≤ q := by omega
    have i2 : n ≤ c := by omega
    have hcv := conv_text (slat_take (c' := c) H3.out n (by omega) i2)
    have HD := hide (slat_drop (c' := c - n) H3.out n (by omega))
    rw [hq] at HD
    clear hq
    by_cases hcn : c = n
    · subst hcn
      obtain rfl : q = c := by omega
      go_enter Tryd.func114, Tryd.ntmps114
      go_wp2
      go_ret
      have e : r.drop q = [] := List.drop_of_length_le (by rw [HQ.out]; exact Nat.le_refl _)
      refine ⟨rfl, ?_, Only.set _ _ _ _⟩
      rw [e]
      exact rs_set HR.out (Nat.le_refl _) SlAt.nil
    · have hcn' : ¬ (c : Int) = n := by omega
      go_enter Tryd.func114, Tryd.ntmps114
      go_wp2
      go_ret
      exact ⟨rfl, rs_set HR.out (by omega) HD.out, Only.set _ _ _ _⟩
  · have i1 : ¬ (n : Int) ≤ q := by omega
    have hcv := conv_text (slat_take (c' := c) H3.out q (by omega) hc)
    have e : r.drop n = [] := List.drop_of_length_le (by omega)
    have e2 : r.take n = r := List.take_of_length_le (by omega)
    have e3 : r.take q = r := List.take_of_length_le (by omega)
    rw [e3] at hcv
    rw [e, e2]
    clear hq e e2 e3
    have hcq0 : q ≤ c := hc
    by_cases hcn : c = q
    · subst hcn
      go_enter Tryd.func114, Tryd.ntmps114
      go_wp2
      go_ret
      exact ⟨rfl, rs_set HR.out (Nat.le_refl _) SlAt.nil, Only.set _ _ _ _⟩
    · have hcn' : ¬ (c : Int) = q := by omega
      go_enter Tryd.func114, Tryd.ntmps114
      go_wp2
      go_ret
      exact ⟨rfl, rs_set HR.out (Nat.zero_le _) SlAt.nil, Only.set _ _ _ _⟩
end Go.Proofs.YtpaljmhoojpbdaaDoor
