/- The model's search of a name among those that it has met. No condition. -/
import Derived.Test.YtpaljmhoojpbdaaDoorZFlat
import Derived.Test.YtpaljmhoojpbdaaDoorZRdO6
import Derived.Test.YtpaljmhoojpbdaaDoorZRd
import Derived.Lib.AppendStr
import Derived.OwnWalk
import Derived.PlainAid
/- The model's reading of an object: what its steps come to. No condition. -/
namespace Go.Proofs.YtpaljmhoojpbdaaDoor
open Go.ChangeShapes Go.WideShapes Go.ChangeAt Go.RowKit Go.Deep

theorem Sim.many_end {α : Type} {f : List Int → Option (α × List Int)} {k : Nat} {s : Rs} {l : List α} (h : Sim (rMany f k) s none l) (d : Nat) (z : List α) : Sim (rMany f (k + d)) s none z := by
  induction d with
  | zero => exact h
  | succ d ih =>
    unfold Sim at *
    cases s with
    | none => rfl
    | some r =>
      have ih' : rMany f (k + d) r = Option.none := ih
      show rMany f (k + d + 1) r = Option.none
      rw [rMany]
      exact andT_none ih'
/-- A loop that has ended: all are read, or the reader is at fault. -/
theorem Sim.many_all {α : Type} {f : List Int → Option (α × List Int)} {l : List Int} {s : Rs} {q j N p : Nat} {b : Bool} {L : List α} (h : Sim (rMany f j) s (rp l p b) L) (hq : q + j = N) (he : (decide (0 < q) && !b) = false) : Sim (rMany f N) s (rp l p b) L := by
  by_cases hq0 : q = 0
  · have : j = N := by omega
    rw [← this]
    exact h
  · have hb : b = true := by
      cases b with
      | true => rfl
      | false => simp at he; omega
    subst hb
    have := Sim.many_end h (N - j) L
    rwa [show j + (N - j) = N by omega] at this
theorem Sim.push {α : Type} {f : List Int → Option (α × List Int)} {j : Nat} {s s1 s2 : Rs} {L : List α} {y : α} (h : Sim (rMany f j) s s1 L) (k : Sim f s1 s2 y) : Sim (rMany f (j + 1)) s s2 (L ++ [y]) := Sim.and h (Sim.and k (Sim.stay _ _))
theorem Sim.need {s s1 s2 : Rs} {a : ByteArray} {b : Int} (h : Sim rTxt s s1 a) (k : Sim (rNum 8) s1 s2 b) : Sim rNeed s s2 ⟨a, b⟩ := Sim.and h (Sim.and k (Sim.stay _ _))
theorem Sim.glob {s s1 s2 : Rs} {a : ByteArray} {b : Int} (h : Sim rTxt s s1 a) (k : Sim rOne s1 s2 b) : Sim rGlob s s2 ⟨a, b⟩ := Sim.and h (Sim.and k (Sim.stay _ _))
theorem Sim.pair {s s1 s2 : Rs} {a b : Int} (h : Sim rOne s s1 a) (k : Sim rOne s1 s2 b) : Sim rPair s s2 (a * 256 + b) := Sim.and h (Sim.and k (Sim.stay _ _))
theorem Sim.ins_yes {s s1 s2 s3 s4 s5 : Rs} {a b c : Int} {d e : ByteArray} (h1 : Sim rOne s s1 a) (h2 : Sim (rNum 8) s1 s2 b) (hn : namedB a = true) (h3 : Sim rOne s2 s3 c) (h4 : Sim rTxt s3 s4 d) (h5 : Sim rTxt s4 s5 e) : Sim rIns s s5 ⟨a, b, c, d, e⟩ :=
  Sim.and h1 (Sim.and h2 (by rw [if_pos hn]; exact Sim.and h3 (Sim.and h4 (Sim.and h5 (Sim.stay _ _)))))
theorem Sim.ins_no {s s1 s2 : Rs} {a b : Int} (h1 : Sim rOne s s1 a) (h2 : Sim (rNum 8) s1 s2 b) (hn : namedB a = false) : Sim rIns s s2 ⟨a, b, 0, ⟨#[]⟩, ⟨#[]⟩⟩ :=
  Sim.and h1 (Sim.and h2 (by rw [if_neg (by rw [hn]; decide)]; exact Sim.stay _ _))
theorem Sim.code {s s1 s2 s3 s4 s5 s6 : Rs} {nm : ByteArray} {p c q : Int} {K : Nat} {l : List InsD} (h1 : Sim rTxt s s1 nm) (h2 : Sim rOne s1 s2 p) (h3 : Sim rPair s2 s3 c) (h4 : Sim rOne s3 s4 q) (h5 : Sim rPair s4 s5 (K : Int)) (h6 : Sim (rMany rIns K) s5 s6 l) : Sim rCode s s6 ⟨nm, p, c, q, l⟩ := by
  have h6' : Sim (rMany rIns ((K : Int)).toNat) s5 s6 l := by rw [Int.toNat_natCast]; exact h6
  exact Sim.and h1 (Sim.and h2 (Sim.and h3 (Sim.and h4 (Sim.and h5 (Sim.and h6' (Sim.stay _ _))))))
theorem Sim.obj {s s1 s2 s3 s4 s5 s6 s7 s8 : Rs} {md : ByteArray} {pr : Int} {N2 N3 N4 : Nat} {ns : List NeedD} {gs : List GlobalD} {ps : List CodeD} (h1 : Sim rTxt s s1 md) (h2 : Sim (rNum 8) s1 s2 pr) (h3 : Sim rOne s2 s3 (N2 : Int)) (h4 : Sim (rMany rNeed N2) s3 s4 ns)
    (h5 : Sim rOne s4 s5 (N3 : Int)) (h6 : Sim (rMany rGlob N3) s5 s6 gs) (h7 : Sim rOne s6 s7 (N4 : Int)) (h8 : Sim (rMany rCode N4) s7 s8 ps) : Sim rObj s s8 ⟨md, pr, ns, gs, ps⟩ := by
  have h4' : Sim (rMany rNeed ((N2 : Int)).toNat) s3 s4 ns := by rw [Int.toNat_natCast]; exact h4
  have h6' : Sim (rMany rGlob ((N3 : Int)).toNat) s5 s6 gs := by rw [Int.toNat_natCast]; exact h6
  have h8' : Sim (rMany rCode ((N4 : Int)).toNat) s7 s8 ps := by rw [Int.toNat_natCast]; exact h8
  exact Sim.and h1 (Sim.and h2 (Sim.and h3 (Sim.and h4' (Sim.and h5 (Sim.and h6' (Sim.and h7 (Sim.and h8' (Sim.stay _ _))))))))
theorem oo_take {l : List Int} (h : AllB l) : (bs (l.take 3) = ⟨#[79, 79, 49]⟩) ↔ l.take 3 = [79, 79, 49] := by
  have e : (⟨#[79, 79, 49]⟩ : ByteArray) = bs [79, 79, 49] := by decide
  rw [e]
  exact bs_inj (fun y hy => h y (List.mem_of_mem_take hy)) (by decide)
theorem no_oo {l : List Int} (h : l.take 3 ≠ [79, 79, 49]) : mdOkO l = false := by unfold mdOkO; simp [h]
theorem short_oo {l : List Int} (h : l.length < 3) : l.take 3 ≠ [79, 79, 49] := by
  intro e
  have := congrArg List.length e
  rw [List.length_take] at this
  simp at this
  omega
theorem mo_bad {l : List Int} {x : ObjectD} (h : Sim rObj (some (l.drop 3)) none x) : mdOkO l = false := by
  have h' : rObj (l.drop 3) = none := h
  unfold mdOkO
  rw [h']
  simp
theorem mo_more {l : List Int} {x : ObjectD} {p : Nat} (h : Sim rObj (some (l.drop 3)) (some (l.drop p)) x) (hp : p ≤ l.length) (hn : p ≠ l.length) : mdOkO l = false := by
  have h' : rObj (l.drop 3) = some (x, l.drop p) := h
  unfold mdOkO
  rw [h']
  have : l.drop p ≠ [] := by
    intro e
    have := congrArg List.length e
    rw [List.length_drop] at this
    simp at this
    omega
  match hd : l.drop p, this with
  | _ :: _, _ => simp
theorem mo_all {l : List Int} {x : ObjectD} (h : Sim rObj (some (l.drop 3)) (some (l.drop l.length)) x) (h3 : l.take 3 = [79, 79, 49]) : mdOkO l = objB x ∧ x = rdObj l := by
  have h' : rObj (l.drop 3) = some (x, []) := by
    have : rObj (l.drop 3) = some (x, l.drop l.length) := h
    rw [this, List.drop_of_length_le (Nat.le_refl _)]
  exact ⟨mdOkO_obj h' h3, obj_rd h'⟩
def LrPost (l : List Int) (w : World) (e : Ending) (w' : World) : Prop := ∃ s p a2 n2 c2 a3 n3 c3 a4 n4 c4, e = .returned (.tuple #[.agg #[.string s, .int .i64 p, .slice a2 n2 c2, .slice a3 n3 c3, .slice a4 n4 c4], .bool (mdOkO l)]) ∧
  (mdOkO l = true → ∃ L, s = (rdObj l).module ∧ p = (rdObj l).print ∧ ObRow w' w.heap.size (.slice a2 n2 c2) (.slice a3 n3 c3) (.slice a4 n4 c4) (rdObj l) L) ∧ Below w.heap.size w w'
theorem MR.bad {w : World} {R : Nat} {m : Md} {l : List Int} {p : Nat} {b : Bool} (h : MR w R m l p b) : w.cell? ⟨R, 2, none⟩ = some (.bool b) := by obtain ⟨g', o', c', -, -, ⟨-, -, k2⟩, -⟩ := h; exact k2
end Go.Proofs.YtpaljmhoojpbdaaDoor

/- A row of texts that the call has made: appending to it, reading one. No condition. -/
namespace Go.Proofs.YtpaljmhoojpbdaaDoor
open Go.ChangeShapes Go.WideShapes Go.ChangeAt Go.RowKit Go.Deep

def sc (l : List ByteArray) : List Value := l.map fun n => Value.string n
theorem sc_len (l : List ByteArray) : (sc l).length = l.length := by unfold sc; simp
theorem sc_app (l r : List ByteArray) : sc (l ++ r) = sc l ++ sc r := by unfold sc; simp
theorem sc_one (l : List ByteArray) : ∀ u ∈ sc l, u.oneCell' = true := by
  intro u hu
  unfold sc at hu
  obtain ⟨n, _, rfl⟩ := List.mem_map.1 hu
  rfl
/-- The value is a slice of the numbers l, in a row of the call's own from 'B' on. -/
def SRow (w : World) (B : Nat) (v : Value) (l : List ByteArray) : Prop := w.ownsRow B 9 1 v l.length (sc l)
theorem SRow.of_heap {w w' : World} {B : Nat} {v : Value} {l : List ByteArray} (h : SRow w B v l) (hk : ∀ k, B ≤ k → k < w.heap.size → w'.heap[k]? = w.heap[k]?) : SRow w' B v l := by
  refine ⟨h.1, ?_⟩
  rcases h.2 with h2 | ⟨g, cap, cur, e, hb, hg, r⟩
  · exact .inl h2
  · exact .inr ⟨g, cap, cur, e, hb, (hk g hb (Array.getElem?_eq_some_iff.1 hg).1).trans hg, r⟩
theorem SRow.on {w w' : World} {B : Nat} {v : Value} {l : List ByteArray} (h : SRow w B v l) (bel : Below w.heap.size w w') : SRow w' B v l := h.of_heap fun k _ hk => bel.block k hk
theorem SRow.le {w : World} {B C : Nat} {v : Value} {l : List ByteArray} (h : SRow w B v l) (hc : C ≤ B) : SRow w C v l := ⟨h.1, h.2.imp id fun ⟨g, cap, cur, e, hb, r⟩ => ⟨g, cap, cur, e, by omega, r⟩⟩
theorem SRow.nil (w : World) (B : Nat) : SRow w B (.slice none 0 0) [] := World.ownsRow_nil _ _ _ _
theorem srow_form {w : World} {B : Nat} {v : Value} {l : List ByteArray} (h : SRow w B v l) : ∃ a c, v = .slice a l.length c := by
  rcases h.2 with ⟨e, e2⟩ | ⟨g, cap, _, e, -⟩
  · exact ⟨none, 0, by rw [e, e2]⟩
  · exact ⟨_, _, e⟩
theorem SRow.at {w : World} {B : Nat} {v : Value} {l : List ByteArray} (h : SRow w B v l) (hl : 0 < l.length) : ∃ g c, v = .slice (some ⟨g, 0, none⟩) l.length c ∧ B ≤ g ∧ g < w.heap.size ∧ (∀ k (hk : k < l.length), w.cell? ⟨g, k, none⟩ = some (.string l[k])) ∧ ∀ k, w.frozen? ⟨g, k, none⟩ = false := by
  rcases h.2 with ⟨-, e2⟩ | ⟨g, cap, cur, rfl, hb, hg, -⟩
  · omega
  · refine ⟨g, cap, rfl, hb, (Array.getElem?_eq_some_iff.1 hg).1, fun k hk => ?_, (heapCells hg).2⟩
    have := World.ownsRow.cells (g := g) h rfl k (.string l[k]) (by unfold sc; simp [hk])
    rwa [add_plain, Nat.zero_add] at this
theorem SRow.set {w : World} {B g n c : Nat} {l : List ByteArray} (h : SRow w B (.slice (some ⟨g, 0, none⟩) n c) l) (k : Nat) (y : ByteArray) : SRow (w.setCell ⟨g, k, none⟩ (.string y)) B (.slice (some ⟨g, 0, none⟩) n c) (l.set k y) := by
  have hn : n = l.length := by
    rcases h.2 with ⟨e, -⟩ | ⟨_, _, _, e, -⟩
    · cases e
    · cases e; rfl
  subst hn
  have := (World.ownsRow.stored h k (.string y)).1
  unfold SRow
  rw [List.length_set, show sc (l.set k y) = (sc l).set k (.string y) from by unfold sc; rw [List.map_set]]
  exact this
theorem strInfo : (Tryd.prog.info? 9).map (fun i => (i.zero, i.size, i.bytes)) = some (some (.string ⟨#[]⟩), 1, 16) := by kernel_rfl
theorem str_new (w : World) (y : ByteArray) {b : Nat} (hb : b = w.heap.size) : ∀ j c, (sc [y])[j]? = some c → (w.alloc (.cells #[.string y] 9)).cell? ((⟨b, 0, none⟩ : Addr).add j) = some c := by
  subst hb
  intro j c hj
  match j, hj with
  | 0, hj => simp [sc] at hj; subst hj; simp [Addr.add, go_sem]
  | j + 1, hj => simp [sc] at hj
theorem wp_append_str {w : World} {ops : Array Oper} {rest : List Oper} {o : Oper} {a : Act} {Q : Exit → Act → World → Prop} (hgd : o.guard = none) (s x : Operand)
    (ho : o.op = .call { callee := .builtin .append, args := #[s, x], argTypes := #[70, 70] }) (B : Nat) (v : Value) (l : List ByteArray) (hs : a.eval s = v) (hown : SRow w B v l)
    (b : Nat) (y : ByteArray) (hx : a.eval x = .slice (some ⟨b, 0, none⟩) 1 1) (hnews : ∀ j c, (sc [y])[j]? = some c → w.cell? ((⟨b, 0, none⟩ : Addr).add j) = some c) (hb : l.length ≤ 1000000) (hbase : B ≤ w.heap.size)
    (h : ∀ v' w', SRow w' B v' (l ++ [y]) → w.grownBy w' v.ownBlock → wpList Tryd.prog ops Q rest (a.put o.dst v') w') : wpList Tryd.prog ops Q (o :: rest) a w := by
  obtain ⟨i, hi, hz0, hz1, hz2⟩ := info_parts strInfo
  refine wpList_append_own w hgd s x _ ho B 9 i (.string ⟨#[]⟩) 1 16 Tryd.underlying70 hi hz0 hz1 hz2 rfl (by decide) v l.length (sc l) hs hown ⟨b, 0, none⟩ 1 1 (sc [y]) hx rfl hnews (sc_one _) (by unfold maxLen; omega) (by omega) hbase fun v' w' h2 h3 _ => ?_
  refine h v' w' ?_ h3
  unfold SRow
  rw [List.length_append, sc_app]
  exact h2
end Go.Proofs.YtpaljmhoojpbdaaDoor

namespace Go.Proofs.YtpaljmhoojpbdaaDoor
open Go.ChangeShapes Go.WideShapes Go.ChangeAt Go.RowKit Go.PlainAid Go.Deep

/-- Where a name stands among the list: below 0 just if nowhere. -/
def metAt (l : List ByteArray) (s : ByteArray) : Bool := l.any fun z => z.toList == s.toList
set_option maxHeartbeats 4000000 in
theorem l01Place_any (v : Value) (l : List ByteArray) (s : ByteArray) (B : Nat) (w : World) (h : SRow w B v l) (hl : l.length ≤ 100000) :
    Calls Tryd.prog 31 #[v, .string s] w fun e w' => (∃ k : Int, e = .returned (.int .i64 k) ∧ decide (0 ≤ k) = metAt l s) ∧ w' = w := by
  obtain ⟨a, c, rfl⟩ := srow_form h
  obtain ⟨n, hn⟩ : ∃ n, l.length = n := ⟨_, rfl⟩
  have HN := hide hn
  have H := hide h
  rw [hn]
  rw [hn] at hl
  have key : ∀ k : Int, decide (0 ≤ k) = metAt l s → (∃ k' : Int, Ending.returned (.int .i64 k) = .returned (.int .i64 k') ∧ decide (0 ≤ k') = metAt l s) := fun k e => ⟨k, rfl, e⟩
  have HKey := hide key
  clear h hn key
  go_enter Tryd.func31, Tryd.ntmps31
  go_wp2
  go_loop [5] (fun i => ∃ k : Nat, i = .int .i64 k ∧ k ≤ n ∧ Hid (∀ j (h : j < l.length), j < k → (l[j].toList == s.toList) = false)) (fun i => n - (intOf i).toNat)
  case atStart => exact ⟨0, rfl, by omega, hide (fun j _ h => absurd h (by omega))⟩
  case round =>
    obtain ⟨k, rfl, hk, Hk⟩ := hrel
    by_cases hp : k < n
    · have i1 : (k : Int) < n := by omega
      have hkl : k < l.length := by rw [HN.out]; exact hp
      obtain ⟨g, c', ev, -, -, hcell, -⟩ := H.out.at (by omega)
      rw [HN.out] at ev
      cases ev
      have c0 := hcell k hkl
      obtain ⟨t, ht⟩ : ∃ t, l[k] = t := ⟨_, rfl⟩
      rw [ht] at c0
      have HT := hide ht
      clear ht hcell
      cases hs : (t.toList == s.toList) with
      | true =>
        have HF := hide (HKey.out k (by
          rw [decide_eq_true (by omega)]
          exact (List.any_eq_true.2 ⟨l[k], List.getElem_mem hkl, by rw [HT.out]; exact hs⟩).symm))
        go_wp2
        go_ret
        exact ⟨HF.out, rfl⟩
      | false =>
        go_wp2
        go_round
        case rel =>
          refine ⟨k + 1, by go_num, by omega, hide fun j h hj => ?_⟩
          by_cases e : j < k
          · exact Hk.out j h e
          · obtain rfl : j = k := by omega
            rw [HT.out]
            exact hs
        case measure => simp [intOf]; omega
    · have i1 : ¬ (k : Int) < n := by omega
      obtain rfl : k = n := by omega
      have HF := hide (HKey.out (-1) (by
        rw [decide_eq_false (by omega)]
        refine Eq.symm (List.any_eq_false.2 fun z hz hq => ?_)
        obtain ⟨j, hj, rfl⟩ := List.getElem_of_mem hz
        rw [Hk.out j hj (by rw [← HN.out]; exact hj)] at hq
        cases hq))
      go_wp2
      go_ret
      exact ⟨HF.out, rfl⟩
end Go.Proofs.YtpaljmhoojpbdaaDoor
