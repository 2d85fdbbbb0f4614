/- When an object is right, told once over plain data; the program's look at its needs. Its table of words is a premise. -/
import Derived.Test.YtjficafpkdeibaaDoorWkI5
namespace Go.Proofs.YtjficafpkdeibaaDoor
open Go.ChangeShapes Go.WideShapes Go.ChangeAt Go.RowKit Go.PlainAid Go.Deep

def seenB (seen : List ByteArray) (s : ByteArray) : Bool := seen.any fun z => z.toList == s.toList
def needB (x : NeedD) : Bool := ownB x.module && inB x.print 0 4294967295
def globB (x : GlobalD) : Bool := ownB x.name && inB x.length 0 100
def globsB : List ByteArray → List GlobalD → Bool
  | _, [] => true
  | seen, x :: r => !(seenB seen x.name) && globB x && globsB (seen ++ [x.name]) r
def procB (x : CodeD) (last : Bool) : Bool := decide ((verC x).1 = 0) && (emB x.name == last)
def procsB : List ByteArray → List CodeD → Bool
  | _, [] => true
  | seen, x :: r => !(seenB seen x.name) && procB x r.isEmpty && procsB (seen ++ [x.name]) r
def objB (o : ObjectD) : Bool :=
  ownB o.module && inB o.print 0 4294967295 && (decide (o.needs.length ≤ 20) && o.needs.all needB) && (decide (o.globals.length ≤ 100) && globsB [] o.globals) && (decide (1 ≤ o.procs.length) && decide (o.procs.length ≤ 60) && procsB (o.globals.map fun x => x.name) o.procs)
theorem seen_snoc (seen : List ByteArray) (t s : ByteArray) : seenB (seen ++ [t]) s = (seenB seen s || (t.toList == s.toList)) := by unfold seenB; rw [List.any_append]; simp
theorem globs_at {l : List GlobalD} {k : Nat} (h : k < l.length) (seen : List ByteArray) : globsB seen (l.drop k) = (!(seenB seen l[k].name) && globB l[k] && globsB (seen ++ [l[k].name]) (l.drop (k + 1))) := by
  rw [List.drop_eq_getElem_cons h, globsB]
theorem procs_at {l : List CodeD} {k : Nat} (h : k < l.length) (seen : List ByteArray) : procsB seen (l.drop k) = (!(seenB seen l[k].name) && procB l[k] (decide (k + 1 = l.length)) && procsB (seen ++ [l[k].name]) (l.drop (k + 1))) := by
  rw [List.drop_eq_getElem_cons h, procsB]
  have : (l.drop (k + 1)).isEmpty = decide (k + 1 = l.length) := by
    rw [Bool.eq_iff_iff]
    simp
    omega
  rw [this]
theorem needs_at {l : List NeedD} {k : Nat} (h : k < l.length) : (l.drop k).all needB = (needB l[k] && (l.drop (k + 1)).all needB) := by
  rw [List.drop_eq_getElem_cons h, List.all_cons]
theorem printFits_any (p : Int) (w : World) : Calls Tryd.prog 31 #[.int .i64 p] w fun e w' => e = .returned (.bool (inB p 0 4294967295)) ∧ w' = w := by
  by_cases h : 0 ≤ p
  · by_cases k : p ≤ 4294967295
    · rw [in_yes h k]
      go_enter Tryd.func31, Tryd.ntmps31
      go_wp2
      go_ret
      exact ⟨rfl, rfl⟩
    · rw [in_no (fun q => k q.2)]
      go_enter Tryd.func31, Tryd.ntmps31
      go_wp2
      go_ret
      exact ⟨rfl, rfl⟩
  · rw [in_no (fun q => h q.1)]
    go_enter Tryd.func31, Tryd.ntmps31
    go_wp2
    go_ret
    exact ⟨rfl, rfl⟩
set_option maxRecDepth 100000 in
set_option maxHeartbeats 4000000 in
theorem needsOK_any (v : Value) (m : Md) (l : List NeedD) (w : World) (H : SlAt NeedAt 2 w m v l) (hm : m.hi ≤ w.heap.size) (t : TypeId) (fr : Nat × Nat) (hg : w.heap[1]? = some (.cells keyRow t fr)) :
    Calls Tryd.prog 32 #[v] w fun e w' => e = .returned (.bool (decide (l.length ≤ 20) && l.all needB)) ∧ Below w.heap.size w w' := by
  have HO : Hid (∀ s : ByteArray, s.size ≤ maxLen → ∀ w1, Below w.heap.size w w1 → Calls Tryd.prog 30 #[.string s] w1 fun e w' => e = .returned (.bool (ownB s)) ∧ Below w1.heap.size w1 w') := hide fun s hs w1 bel =>
    ownName_any s w1 hs t fr ((bel.block 1 (Array.getElem?_eq_some_iff.1 hg).1).trans hg)
  obtain ⟨a, c, rfl, hr⟩ := H
  have HR := hide hr
  have HM := hide hm
  obtain ⟨F, hF⟩ : ∃ F, l.all needB = F := ⟨_, rfl⟩
  have HF := hide hF
  obtain ⟨n, hn⟩ : ∃ n, l.length = n := ⟨_, rfl⟩
  have HN := hide hn
  rw [hF, hn]
  clear hr hm hF hn hg
  by_cases h20 : 20 < n
  · have i20 : (20 : Int) < n := by omega
    rw [decide_eq_false (show ¬ n ≤ 20 by omega)]
    go_enter Tryd.func32, Tryd.ntmps32
    go_wp2
    go_ret
    exact ⟨rfl, Below.refl _ _⟩
  · have i20 : ¬ (20 : Int) < n := by omega
    rw [decide_eq_true (show n ≤ 20 by omega)]
    go_enter Tryd.func32, Tryd.ntmps32
    go_wp2_with fail
    go_loopg [10] n (fun q iv wr => ∃ k : Nat, iv = .int .i64 k ∧ k ≤ n ∧ q = n - k ∧ Hid ((l.drop k).all needB = F) ∧ Hid (Below w.heap.size w wr))
    case atStart => exact ⟨0, rfl, by omega, rfl, hide (by rw [List.drop_zero]; exact HF.out), hide (Below.refl _ _)⟩
    case round =>
      obtain ⟨k, rfl, hk, hq, HK, HB⟩ := hrel
      have HQ := hide hq
      clear hq
      by_cases hp : k < n
      · have i1 : (k : Int) < n := by omega
        have hkl : k < l.length := by rw [HN.out]; exact hp
        have hk1 := HK.out
        rw [needs_at hkl] at hk1
        obtain ⟨b, o, rfl, hb1, hb2, -, he⟩ := rows_on NeedAt.stays HR.out (HB.out.mono HM.out) k hkl
        have hcap : k ≤ c := by have := hb1.2; omega
        obtain ⟨x, hx⟩ : ∃ x, l[k] = x := ⟨_, rfl⟩
        rw [hx] at he hk1
        clear hx hb1
        obtain ⟨s, p⟩ := x
        obtain ⟨⟨c0, c1⟩, ⟨r0, -⟩⟩ := he
        simp only [Nat.add_zero] at c0 c1 r0
        have HS := hide r0
        have HE : Hid (needB ⟨s, p⟩ = (ownB s && inB p 0 4294967295)) := hide rfl
        have HK1 := hide hk1
        have hbw : Below w.heap.size w (wr.alloc (.cells #[.string s, .int .i64 p] 62)) := HB.out.alloc HB.out.size _
        have HBW := hide hbw
        have hsz := HB.out.size
        clear hk1 r0 hbw
        cases ho : ownB s with
        | false =>
          go_wp2_with (go_at_call 30; refine (HO.out s HS.out _ HBW.out).mono ?_; rintro e w5 ⟨rfl, b5⟩; rw [ho]; obtain ⟨hcc, hff⟩ := bcell b5)
          go_ret
          exact ⟨ret_bool (by rw [← HK1.out, HE.out, ho]; rfl), HBW.out.trans (b5.mono HBW.out.size)⟩
        | true =>
          cases hp2 : inB p 0 4294967295 with
          | false =>
            go_wp2_with (first
              | (go_at_call 30; refine (HO.out s HS.out _ HBW.out).mono ?_; rintro e w5 ⟨rfl, b5⟩; rw [ho]; obtain ⟨hcc, hff⟩ := bcell b5)
              | (go_at_call 31; refine (printFits_any p _).mono ?_; rintro e w6 ⟨rfl, rfl⟩; rw [hp2]))
            go_ret
            exact ⟨ret_bool (by rw [← HK1.out, HE.out, ho, hp2]; rfl), HBW.out.trans (b5.mono HBW.out.size)⟩
          | true =>
            go_wp2_with (first
              | (go_at_call 30; refine (HO.out s HS.out _ HBW.out).mono ?_; rintro e w5 ⟨rfl, b5⟩; rw [ho]; obtain ⟨hcc, hff⟩ := bcell b5)
              | (go_at_call 31; refine (printFits_any p _).mono ?_; rintro e w6 ⟨rfl, rfl⟩; rw [hp2]))
            go_roundg (n - (k + 1))
            case measure => rw [HQ.out]; omega
            case rel => exact ⟨k + 1, by go_num, by omega, rfl, hide (by rw [← HK1.out, HE.out, ho, hp2]; simp), hide (HBW.out.trans (b5.mono HBW.out.size))⟩
      · have i1 : ¬ (k : Int) < n := by omega
        have HT : Hid (F = true) := hide (by
          rw [← HK.out, List.drop_of_length_le (by rw [HN.out]; omega)]
          simp)
        go_wp2
        go_ret
        exact ⟨ret_bool (by rw [HT.out]), HB.out⟩
end Go.Proofs.YtjficafpkdeibaaDoor
