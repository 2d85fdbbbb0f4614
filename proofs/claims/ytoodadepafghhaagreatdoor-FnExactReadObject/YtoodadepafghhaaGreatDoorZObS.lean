/- The model's search of a name among those that it has met. No condition. -/
import Derived.Test.YtoodadepafghhaaGreatDoorZWkI5
import Derived.Test.YtoodadepafghhaaGreatDoorZRd
import Derived.Lib.AppendStr
import Derived.OwnWalk
import Derived.PlainAid
/- When an object is right, told once over plain data; the program's look at its needs. Its table of words is a premise. -/
namespace Go.Proofs.YtoodadepafghhaaGreatDoor
open Go.ChangeShapes Go.WideShapes Go.ChangeAt Go.RowKit Go.PlainAid Go.Deep

def seenB (seen : List ByteArray) (s : ByteArray) : Bool := seen.any fun z => z.toList == s.toList
def needB (x : NeedD) : Bool := ownB x.module && inB x.print 0 4294967295
def globB (x : GlobalD) : Bool := ownB x.name && inB x.length 0 100
def globsB : List ByteArray → List GlobalD → Bool
  | _, [] => true
  | seen, x :: r => !(seenB seen x.name) && globB x && globsB (seen ++ [x.name]) r
def procB (x : CodeD) (last : Bool) : Bool := decide ((verC x).1 = 0) && (emB x.name == last)
def procsB : List ByteArray → List CodeD → Bool
  | _, [] => true
  | seen, x :: r => !(seenB seen x.name) && procB x r.isEmpty && procsB (seen ++ [x.name]) r
def objB (o : ObjectD) : Bool :=
  ownB o.module && inB o.print 0 4294967295 && (decide (o.needs.length ≤ 20) && o.needs.all needB) && (decide (o.globals.length ≤ 100) && globsB [] o.globals) && (decide (1 ≤ o.procs.length) && decide (o.procs.length ≤ 60) && procsB (o.globals.map fun x => x.name) o.procs)
theorem seen_snoc (seen : List ByteArray) (t s : ByteArray) : seenB (seen ++ [t]) s = (seenB seen s || (t.toList == s.toList)) := by unfold seenB; rw [List.any_append]; simp
theorem globs_at {l : List GlobalD} {k : Nat} (h : k < l.length) (seen : List ByteArray) : globsB seen (l.drop k) = (!(seenB seen l[k].name) && globB l[k] && globsB (seen ++ [l[k].name]) (l.drop (k + 1))) := by
  rw [List.drop_eq_getElem_cons h, globsB]
theorem procs_at {l : List CodeD} {k : Nat} (h : k < l.length) (seen : List ByteArray) : procsB seen (l.drop k) = (!(seenB seen l[k].name) && procB l[k] (decide (k + 1 = l.length)) && procsB (seen ++ [l[k].name]) (l.drop (k + 1))) := by
  rw [List.drop_eq_getElem_cons h, procsB]
  have : (l.drop (k + 1)).isEmpty = decide (k + 1 = l.length) := by
    rw [Bool.eq_iff_iff]
    simp
    omega
  rw [this]
theorem needs_at {l : List NeedD} {k : Nat} (h : k < l.length) : (l.drop k).all needB = (needB l[k] && (l.drop (k + 1)).all needB) := by
  rw [List.drop_eq_getElem_cons h, List.all_cons]
theorem printFits_any (p : Int) (w : World) : Calls Tryz.prog 105 #[.int .i64 p] w fun e w' => e = .returned (.bool (inB p 0 4294967295)) ∧ w' = w := by
  by_cases h : 0 ≤ p
  · by_cases k : p ≤ 4294967295
    · rw [in_yes h k]
      go_enter Tryz.func105, Tryz.ntmps105
      go_wp2
      go_ret
      exact ⟨rfl, rfl⟩
    · rw [in_no (fun q => k q.2)]
      go_enter Tryz.func105, Tryz.ntmps105
      go_wp2
      go_ret
      exact ⟨rfl, rfl⟩
  · rw [in_no (fun q => h q.1)]
    go_enter Tryz.func105, Tryz.ntmps105
    go_wp2
    go_ret
    exact ⟨rfl, rfl⟩
set_option maxRecDepth 100000 in
set_option maxHeartbeats 4000000 in
theorem needsOK_any (v : Value) (m : Md) (l : List NeedD) (w : World) (H : SlAt NeedAt 2 w m v l) (hm : m.hi ≤ w.heap.size) (t : TypeId) (fr : Nat × Nat) (hg : w.heap[2]? = some (.cells keyRow t fr)) :
    Calls Tryz.prog 106 #[v] w fun e w' => e = .returned (.bool (decide (l.length ≤ 20) && l.all needB)) ∧ Below w.heap.size w w' := by
  have HO : Hid (∀ s : ByteArray, s.size ≤ maxLen → ∀ w1, Below w.heap.size w w1 → Calls Tryz.prog 104 #[.string s] w1 fun e w' => e = .returned (.bool (ownB s)) ∧ Below w1.heap.size w1 w') := hide fun s hs w1 bel =>
    ownName_any s w1 hs t fr ((bel.block 2 (Array.getElem?_eq_some_iff.1 hg).1).trans hg)
  obtain ⟨a, c, rfl, hr⟩ := H
  have HR := hide hr
  have HM := hide hm
  obtain ⟨F, hF⟩ : ∃ F, l.all needB = F := ⟨_, rfl⟩
  have HF := hide hF
  obtain ⟨n, hn⟩ : ∃ n, l.length = n := ⟨_, rfl⟩
  have HN := hide hn
  rw [hF, hn]
  clear hr hm hF hn hg
  by_cases h20 : 20 < n
  · have i20 : (20 : Int) < n := by omega
    rw [decide_eq_false (show ¬ n ≤ 20 by omega)]
    go_enter Tryz.func106, Tryz.ntmps106
    go_wp2
    go_ret
    exact ⟨rfl, Below.refl _ _⟩
  · have i20 : ¬ (20 : Int) < n := by omega
    rw [decide_eq_true (show n ≤ 20 by omega)]
    go_enter Tryz.func106, Tryz.ntmps106
    go_wp2_with fail
    go_loopg [10] n (fun q iv wr => ∃ k : Nat, iv = .int .i64 k ∧ k ≤ n ∧ q = n - k ∧ Hid ((l.drop k).all needB = F) ∧ Hid (Below w.heap.size w wr))
    case atStart => exact ⟨0, rfl, by omega, rfl, hide (by rw [List.drop_zero]; exact HF.out), hide (Below.refl _ _)⟩
    case round =>
      obtain ⟨k, rfl, hk, hq, HK, HB⟩ := hrel
      have HQ := hide hq
      clear hq
      by_cases hp : k < n
      · have i1 : (k : Int) < n := by omega
        have hkl : k < l.length := by rw [HN.out]; exact hp
        have hk1 := HK.out
        rw [needs_at hkl] at hk1
        obtain ⟨b, o, rfl, hb1, hb2, -, he⟩ := rows_on NeedAt.stays HR.out (HB.out.mono HM.out) k hkl
        have hcap : k ≤ c := by have := hb1.2; omega
        obtain ⟨x, hx⟩ : ∃ x, l[k] = x := ⟨_, rfl⟩
        rw [hx] at he hk1
        clear hx hb1
        obtain ⟨s, p⟩ := x
        obtain ⟨⟨c0, c1⟩, ⟨r0, -⟩⟩ := he
        simp only [Nat.add_zero] at c0 c1 r0
        have HS := hide r0
        have HE : Hid (needB ⟨s, p⟩ = (ownB s && inB p 0 4294967295)) := hide rfl
        have HK1 := hide hk1
        have hbw : Below w.heap.size w (wr.alloc (.cells #[.string s, .int .i64 p] 93)) := HB.out.alloc HB.out.size _
        have HBW := hide hbw
        have hsz := HB.out.size
        clear hk1 r0 hbw
        cases ho : ownB s with
        | false =>
          go_wp2_with (go_at_call 104; refine (HO.out s HS.out _ HBW.out).mono ?_; rintro e w5 ⟨rfl, b5⟩; rw [ho]; obtain ⟨hcc, hff⟩ := bcell b5)
          go_ret
          exact ⟨ret_bool (by rw [← HK1.out, HE.out, ho]; rfl), HBW.out.trans (b5.mono HBW.out.size)⟩
        | true =>
          cases hp2 : inB p 0 4294967295 with
          | false =>
            go_wp2_with (first
              | (go_at_call 104; refine (HO.out s HS.out _ HBW.out).mono ?_; rintro e w5 ⟨rfl, b5⟩; rw [ho]; obtain ⟨hcc, hff⟩ := bcell b5)
              | (go_at_call 105; refine (printFits_any p _).mono ?_; rintro e w6 ⟨rfl, rfl⟩; rw [hp2]))
            go_ret
            exact ⟨ret_bool (by rw [← HK1.out, HE.out, ho, hp2]; rfl), HBW.out.trans (b5.mono HBW.out.size)⟩
          | true =>
            go_wp2_with (first
              | (go_at_call 104; refine (HO.out s HS.out _ HBW.out).mono ?_; rintro e w5 ⟨rfl, b5⟩; rw [ho]; obtain ⟨hcc, hff⟩ := bcell b5)
              | (go_at_call 105; refine (printFits_any p _).mono ?_; rintro e w6 ⟨rfl, rfl⟩; rw [hp2]))
            go_roundg (n - (k + 1))
            case measure => rw [HQ.out]; omega
            case rel => exact ⟨k + 1, by go_num, by omega, rfl, hide (by rw [← HK1.out, HE.out, ho, hp2]; simp), hide (HBW.out.trans (b5.mono HBW.out.size))⟩
      · have i1 : ¬ (k : Int) < n := by omega
        have HT : Hid (F = true) := hide (by
          rw [← HK.out, List.drop_of_length_le (by rw [HN.out]; omega)]
          simp)
        go_wp2
        go_ret
        exact ⟨ret_bool (by rw [HT.out]), HB.out⟩
end Go.Proofs.YtoodadepafghhaaGreatDoor

/- A row of texts that the call has made: appending to it, reading one. No condition. -/
namespace Go.Proofs.YtoodadepafghhaaGreatDoor
open Go.ChangeShapes Go.WideShapes Go.ChangeAt Go.RowKit Go.Deep

def sc (l : List ByteArray) : List Value := l.map fun n => Value.string n
theorem sc_len (l : List ByteArray) : (sc l).length = l.length := by unfold sc; simp
theorem sc_app (l r : List ByteArray) : sc (l ++ r) = sc l ++ sc r := by unfold sc; simp
theorem sc_one (l : List ByteArray) : ∀ u ∈ sc l, u.oneCell' = true := by
  intro u hu
  unfold sc at hu
  obtain ⟨n, _, rfl⟩ := List.mem_map.1 hu
  rfl
/-- The value is a slice of the numbers l, in a row of the call's own from 'B' on. -/
def SRow (w : World) (B : Nat) (v : Value) (l : List ByteArray) : Prop := w.ownsRow B 9 1 v l.length (sc l)
theorem SRow.of_heap {w w' : World} {B : Nat} {v : Value} {l : List ByteArray} (h : SRow w B v l) (hk : ∀ k, B ≤ k → k < w.heap.size → w'.heap[k]? = w.heap[k]?) : SRow w' B v l := by
  refine ⟨h.1, ?_⟩
  rcases h.2 with h2 | ⟨g, cap, cur, e, hb, hg, r⟩
  · exact .inl h2
  · exact .inr ⟨g, cap, cur, e, hb, (hk g hb (Array.getElem?_eq_some_iff.1 hg).1).trans hg, r⟩
theorem SRow.on {w w' : World} {B : Nat} {v : Value} {l : List ByteArray} (h : SRow w B v l) (bel : Below w.heap.size w w') : SRow w' B v l := h.of_heap fun k _ hk => bel.block k hk
theorem SRow.le {w : World} {B C : Nat} {v : Value} {l : List ByteArray} (h : SRow w B v l) (hc : C ≤ B) : SRow w C v l := ⟨h.1, h.2.imp id fun ⟨g, cap, cur, e, hb, r⟩ => ⟨g, cap, cur, e, by omega, r⟩⟩
theorem SRow.nil (w : World) (B : Nat) : SRow w B (.slice none 0 0) [] := World.ownsRow_nil _ _ _ _
theorem srow_form {w : World} {B : Nat} {v : Value} {l : List ByteArray} (h : SRow w B v l) : ∃ a c, v = .slice a l.length c := by
  rcases h.2 with ⟨e, e2⟩ | ⟨g, cap, _, e, -⟩
  · exact ⟨none, 0, by rw [e, e2]⟩
  · exact ⟨_, _, e⟩
theorem SRow.at {w : World} {B : Nat} {v : Value} {l : List ByteArray} (h : SRow w B v l) (hl : 0 < l.length) : ∃ g c, v = .slice (some ⟨g, 0, none⟩) l.length c ∧ B ≤ g ∧ g < w.heap.size ∧ (∀ k (hk : k < l.length), w.cell? ⟨g, k, none⟩ = some (.string l[k])) ∧ ∀ k, w.frozen? ⟨g, k, none⟩ = false := by
  rcases h.2 with ⟨-, e2⟩ | ⟨g, cap, cur, rfl, hb, hg, -⟩
  · omega
  · refine ⟨g, cap, rfl, hb, (Array.getElem?_eq_some_iff.1 hg).1, fun k hk => ?_, (heapCells hg).2⟩
    have := World.ownsRow.cells (g := g) h rfl k (.string l[k]) (by unfold sc; simp [hk])
    rwa [add_plain, Nat.zero_add] at this
theorem SRow.set {w : World} {B g n c : Nat} {l : List ByteArray} (h : SRow w B (.slice (some ⟨g, 0, none⟩) n c) l) (k : Nat) (y : ByteArray) : SRow (w.setCell ⟨g, k, none⟩ (.string y)) B (.slice (some ⟨g, 0, none⟩) n c) (l.set k y) := by
  have hn : n = l.length := by
    rcases h.2 with ⟨e, -⟩ | ⟨_, _, _, e, -⟩
    · cases e
    · cases e; rfl
  subst hn
  have := (World.ownsRow.stored h k (.string y)).1
  unfold SRow
  rw [List.length_set, show sc (l.set k y) = (sc l).set k (.string y) from by unfold sc; rw [List.map_set]]
  exact this
theorem strInfo : (Tryz.prog.info? 9).map (fun i => (i.zero, i.size, i.bytes)) = some (some (.string ⟨#[]⟩), 1, 16) := by kernel_rfl
theorem str_new (w : World) (y : ByteArray) {b : Nat} (hb : b = w.heap.size) : ∀ j c, (sc [y])[j]? = some c → (w.alloc (.cells #[.string y] 9)).cell? ((⟨b, 0, none⟩ : Addr).add j) = some c := by
  subst hb
  intro j c hj
  match j, hj with
  | 0, hj => simp [sc] at hj; subst hj; simp [Addr.add, go_sem]
  | j + 1, hj => simp [sc] at hj
theorem wp_append_str {w : World} {ops : Array Oper} {rest : List Oper} {o : Oper} {a : Act} {Q : Exit → Act → World → Prop} (hgd : o.guard = none) (s x : Operand)
    (ho : o.op = .call { callee := .builtin .append, args := #[s, x], argTypes := #[80, 80] }) (B : Nat) (v : Value) (l : List ByteArray) (hs : a.eval s = v) (hown : SRow w B v l)
    (b : Nat) (y : ByteArray) (hx : a.eval x = .slice (some ⟨b, 0, none⟩) 1 1) (hnews : ∀ j c, (sc [y])[j]? = some c → w.cell? ((⟨b, 0, none⟩ : Addr).add j) = some c) (hb : l.length ≤ 1000000) (hbase : B ≤ w.heap.size)
    (h : ∀ v' w', SRow w' B v' (l ++ [y]) → w.grownBy w' v.ownBlock → wpList Tryz.prog ops Q rest (a.put o.dst v') w') : wpList Tryz.prog ops Q (o :: rest) a w := by
  obtain ⟨i, hi, hz0, hz1, hz2⟩ := info_parts strInfo
  refine wpList_append_own w hgd s x _ ho B 9 i (.string ⟨#[]⟩) 1 16 Tryz.underlying80 hi hz0 hz1 hz2 rfl (by decide) v l.length (sc l) hs hown ⟨b, 0, none⟩ 1 1 (sc [y]) hx rfl hnews (sc_one _) (by unfold maxLen; omega) (by omega) hbase fun v' w' h2 h3 _ => ?_
  refine h v' w' ?_ h3
  unfold SRow
  rw [List.length_append, sc_app]
  exact h2
end Go.Proofs.YtoodadepafghhaaGreatDoor

namespace Go.Proofs.YtoodadepafghhaaGreatDoor
open Go.ChangeShapes Go.WideShapes Go.ChangeAt Go.RowKit Go.PlainAid Go.Deep

/-- Where a name stands among the list: below 0 just if nowhere. -/
def metAt (l : List ByteArray) (s : ByteArray) : Bool := l.any fun z => z.toList == s.toList
set_option maxHeartbeats 4000000 in
theorem l01Place_any (v : Value) (l : List ByteArray) (s : ByteArray) (B : Nat) (w : World) (h : SRow w B v l) (hl : l.length ≤ 100000) :
    Calls Tryz.prog 99 #[v, .string s] w fun e w' => (∃ k : Int, e = .returned (.int .i64 k) ∧ decide (0 ≤ k) = metAt l s) ∧ w' = w := by
  obtain ⟨a, c, rfl⟩ := srow_form h
  obtain ⟨n, hn⟩ : ∃ n, l.length = n := ⟨_, rfl⟩
  have HN := hide hn
  have H := hide h
  rw [hn]
  rw [hn] at hl
  have key : ∀ k : Int, decide (0 ≤ k) = metAt l s → (∃ k' : Int, Ending.returned (.int .i64 k) = .returned (.int .i64 k') ∧ decide (0 ≤ k') = metAt l s) := fun k e => ⟨k, rfl, e⟩
  have HKey := hide key
  clear h hn key
  go_enter Tryz.func99, Tryz.ntmps99
  go_wp2
  go_loop [5] (fun i => ∃ k : Nat, i = .int .i64 k ∧ k ≤ n ∧ Hid (∀ j (h : j < l.length), j < k → (l[j].toList == s.toList) = false)) (fun i => n - (intOf i).toNat)
  case atStart => exact ⟨0, rfl, by omega, hide (fun j _ h => absurd h (by omega))⟩
  case round =>
    obtain ⟨k, rfl, hk, Hk⟩ := hrel
    by_cases hp : k < n
    · have i1 : (k : Int) < n := by omega
      have hkl : k < l.length := by rw [HN.out]; exact hp
      obtain ⟨g, c', ev, -, -, hcell, -⟩ := H.out.at (by omega)
      rw [HN.out] at ev
      cases ev
      have c0 := hcell k hkl
      obtain ⟨t, ht⟩ : ∃ t, l[k] = t := ⟨_, rfl⟩
      rw [ht] at c0
      have HT := hide ht
      clear ht hcell
      cases hs : (t.toList == s.toList) with
      | true =>
        have HF := hide (HKey.out k (by
          rw [decide_eq_true (by omega)]
          exact (List.any_eq_true.2 ⟨l[k], List.getElem_mem hkl, by rw [HT.out]; exact hs⟩).symm))
        go_wp2
        go_ret
        exact ⟨HF.out, rfl⟩
      | false =>
        go_wp2
        go_round
        case rel =>
          refine ⟨k + 1, by go_num, by omega, hide fun j h hj => ?_⟩
          by_cases e : j < k
          · exact Hk.out j h e
          · obtain rfl : j = k := by omega
            rw [HT.out]
            exact hs
        case measure => simp [intOf]; omega
    · have i1 : ¬ (k : Int) < n := by omega
      obtain rfl : k = n := by omega
      have HF := hide (HKey.out (-1) (by
        rw [decide_eq_false (by omega)]
        refine Eq.symm (List.any_eq_false.2 fun z hz hq => ?_)
        obtain ⟨j, hj, rfl⟩ := List.getElem_of_mem hz
        rw [Hk.out j hj (by rw [← HN.out]; exact hj)] at hq
        cases hq))
      go_wp2
      go_ret
      exact ⟨HF.out, rfl⟩
end Go.Proofs.YtoodadepafghhaaGreatDoor
