/- ReadObject: the program's answer over its bytes. The table of words is a premise. -/
import Derived.Test.YtpaljmhoojpbdaaDoorZObP
import Derived.Test.YtpaljmhoojpbdaaDoorZVerL
import Derived.Test.YtpaljmhoojpbdaaDoorZRdO4
/- The program's ObjectOK answers 'objB'. Its table of words is a premise. -/
namespace Go.Proofs.YtpaljmhoojpbdaaDoor
open Go.ChangeShapes Go.WideShapes Go.ChangeAt Go.RowKit Go.PlainAid Go.Deep Go.Maps Go.WideMaps

set_option maxRecDepth 100000 in
set_option maxHeartbeats 8000000 in
theorem implObjectOK_any (v : Value) (m : Md) (x : ObjectD) (w : World) (hv : ObjectVal w m v x) (hm : m.hi ≤ w.heap.size) (t : TypeId) (fr : Nat × Nat) (hg : w.heap[1]? = some (.cells keyRow t fr)) :
    Calls Tryd.prog 14 #[v] w fun e w' => e = .returned (.bool (objB x)) ∧ Below w.heap.size w w' := by
  have hgz : 1 < w.heap.size := (Array.getElem?_eq_some_iff.1 hg).1
  have hgw : ∀ w', Below w.heap.size w w' → w'.heap[1]? = some (.cells keyRow t fr) := fun w' bel => (bel.block 1 hgz).trans hg
  obtain ⟨s, p, ns, gs, ps⟩ := x
  obtain ⟨u2, u3, u4, rfl, ⟨hs, -, hn2, hn3, hn4⟩, H2, H3, H4⟩ := hv
  simp only [] at hs hn2 hn3 hn4 H2 H3 H4
  obtain ⟨N, hN⟩ : ∃ N, (decide (ns.length ≤ 20) && ns.all needB) = N := ⟨_, rfl⟩
  obtain ⟨G, hG⟩ : ∃ G, (decide (gs.length ≤ 100) && globsB [] gs) = G := ⟨_, rfl⟩
  obtain ⟨P, hP⟩ : ∃ P, (decide (1 ≤ ps.length) && decide (ps.length ≤ 60) && procsB (gs.map fun x => x.name) ps) = P := ⟨_, rfl⟩
  have HX : Hid (objB ⟨s, p, ns, gs, ps⟩ = (ownB s && inB p 0 4294967295 && N && G && P)) := hide (by rw [← hN, ← hG, ← hP]; rfl)
  have HO : Hid (∀ w1, Below w.heap.size w w1 → Calls Tryd.prog 35 #[.string s] w1 fun e w' => e = .returned (.bool (ownB s)) ∧ Below w1.heap.size w1 w') := hide fun w1 bel => ownName_any s w1 hs t fr (hgw w1 bel)
  have HNe : Hid (∀ w1, Below w.heap.size w w1 → Calls Tryd.prog 37 #[u2] w1 fun e w' => e = .returned (.bool N) ∧ Below w1.heap.size w1 w') := hide fun w1 bel => by
    have := needsOK_any u2 m ns w1 (H2.on NeedAt.stays (bel.mono hm)) (Nat.le_trans hm bel.size) t fr (hgw w1 bel)
    rwa [hN] at this
  have HGl : Hid (∀ w1 b, Below w.heap.size w w1 → w.heap.size ≤ b → MapAt w1 b 0 (.map []) → Calls Tryd.prog 38 #[u3, .map (some b)] w1 (MetPost G b (0 + gs.length) ([] ++ gs.map fun x => x.name) w1)) := hide fun w1 b bel hb hmap => by
    have := globalsOK_any u3 m gs b 0 (.map []) [] w1 (H3.on GlobalAt.stays (bel.mono hm)) (Nat.le_trans hm hb) hmap keysB_start (by decide) (Nat.lt_of_lt_of_le hgz hb) t fr (hgw w1 bel)
    rwa [hG] at this
  have HPr : Hid (∀ w1 b n D, Below w.heap.size w w1 → w.heap.size ≤ b → n ≤ 100000 → MapAt w1 b n D → KeysB D (gs.map fun x => x.name) → Calls Tryd.prog 39 #[u4, .map (some b)] w1 fun e w' => e = .returned (.bool P) ∧ Below b w1 w') := hide fun w1 b n D bel hb hn hmap hk => by
    have := procsOK_any u4 m ps b n D (gs.map fun x => x.name) w1 (H4.on CodeAt.stays (bel.mono hm)) (Nat.le_trans hm hb) hmap hk hn (Nat.lt_of_lt_of_le hgz hb) t fr (hgw w1 bel)
    rw [hP] at this
    exact this.mono fun _ _ ⟨a, b, _⟩ => ⟨a, b⟩
  have HGb : Hid (G = true → gs.length ≤ 100) := hide fun e => by
    rw [← hG] at e
    simp only [Bool.and_eq_true, decide_eq_true_eq] at e
    exact e.1
  rw [HX.out]
  obtain ⟨a2, d2, rfl, -⟩ := H2
  obtain ⟨a3, d3, rfl, -⟩ := H3
  obtain ⟨a4, d4, rfl, -⟩ := H4
  generalize ns.length = n2 at *
  obtain ⟨n3, hn3'⟩ : ∃ n3, gs.length = n3 := ⟨_, rfl⟩
  generalize ps.length = n4 at *
  rw [hn3'] at HGl HGb ⊢
  have one : Below w.heap.size w (w.alloc (.cells #[.string s, .int .i64 p, .slice a2 n2 d2, .slice a3 n3 d3, .slice a4 n4 d4] 45)) := (Below.refl _ _).alloc (Nat.le_refl _) _
  have B1 := hide one
  have hmm := @run_makeMap Tryd.prog
  clear hs hn2 hn3 hn4 hN hG hP hg hgw one hn3' hm hgz
  cases ho : ownB s with
  | false =>
    go_enter Tryd.func14, Tryd.ntmps14
    go_wp2_with (go_at_call 35; refine (HO.out _ B1.out).mono ?_; rintro e w2 ⟨rfl, b2⟩; rw [ho]; obtain ⟨hcc, hff⟩ := bcell b2)
    go_ret
    exact ⟨ret_bool (by simp), B1.out.trans (b2.mono B1.out.size)⟩
  | true =>
    cases hp : inB p 0 4294967295 with
    | false =>
      go_enter Tryd.func14, Tryd.ntmps14
      go_wp2_with (first
        | (go_at_call 35; refine (HO.out _ B1.out).mono ?_; rintro e w2 ⟨rfl, b2⟩; rw [ho]; obtain ⟨hcc, hff⟩ := bcell b2)
        | (go_at_call 36; refine (printFits_any p _).mono ?_; rintro e w6 ⟨rfl, rfl⟩; rw [hp]))
      go_ret
      exact ⟨ret_bool (by simp), B1.out.trans (b2.mono B1.out.size)⟩
    | true =>
      cases N with
      | false =>
        go_enter Tryd.func14, Tryd.ntmps14
        go_wp2_with (first
          | (go_at_call 35; refine (HO.out _ B1.out).mono ?_; rintro e w2 ⟨rfl, b2⟩; rw [ho]; obtain ⟨hcc, hff⟩ := bcell b2; have HB2 := hide (B1.out.trans (b2.mono B1.out.size)))
          | (go_at_call 36; refine (printFits_any p _).mono ?_; rintro e w6 ⟨rfl, rfl⟩; rw [hp])
          | (go_at_call 37; refine (HNe.out _ HB2.out).mono ?_; rintro e w3 ⟨rfl, b3⟩))
        go_ret
        exact ⟨ret_bool (by simp), HB2.out.trans (b3.mono HB2.out.size)⟩
      | true =>
        have HBx : Hid (∀ w2 w3, Below (w.alloc (.cells #[.string s, .int .i64 p, .slice a2 n2 d2, .slice a3 n3 d3, .slice a4 n4 d4] 45)).heap.size (w.alloc (.cells #[.string s, .int .i64 p, .slice a2 n2 d2, .slice a3 n3 d3, .slice a4 n4 d4] 45)) w2 → Below w2.heap.size w2 w3 → Below w.heap.size w w3 ∧ w.heap.size < w3.heap.size ∧ w3.heap[w.heap.size]? = some (.cells #[.string s, .int .i64 p, .slice a2 n2 d2, .slice a3 n3 d3, .slice a4 n4 d4] 45 (0, 0))) := hide fun w2 w3 b2 b3 => by
          have hb := b2.trans (b3.mono b2.size)
          have hs := hb.size
          have hc := (hb.block w.heap.size (by simp)).trans (Deep.blk_alloc_new w (.cells #[.string s, .int .i64 p, .slice a2 n2 d2, .slice a3 n3 d3, .slice a4 n4 d4] 45))
          simp at hs
          exact ⟨B1.out.trans (hb.mono B1.out.size), by omega, hc⟩
        cases G with
        | false =>
          go_enter Tryd.func14, Tryd.ntmps14
          go_wp2_with (first
            | (go_at_call 35; refine (HO.out _ B1.out).mono ?_; rintro e w2 ⟨rfl, b2⟩; rw [ho]; obtain ⟨hcc, hff⟩ := bcell b2; have HB2 := hide (B1.out.trans (b2.mono B1.out.size)))
            | (go_at_call 36; refine (printFits_any p _).mono ?_; rintro e w6 ⟨rfl, rfl⟩; rw [hp])
            | (go_at_call 37; refine (HNe.out _ HB2.out).mono ?_; rintro e w3 ⟨rfl, b3⟩; obtain ⟨hB3, hz3, x3⟩ := HBx.out _ _ b2 b3; have q3 := (heapCells x3).1 3; have q4 := (heapCells x3).1 4; simp only [List.getElem?_toArray, List.getElem?_cons_zero, List.getElem?_cons_succ] at q3 q4)
            | (go_at_call 38; refine (HGl.out _ w3.heap.size (hB3.alloc hB3.size _) hB3.size (World.ownsMap_made _ _ _ _)).mono ?_; rintro e w4 ⟨rfl, b4, -⟩))
          go_ret
          exact ⟨ret_bool (by simp), (hB3.alloc hB3.size _).trans (b4.mono hB3.size)⟩
        | true =>
          go_enter Tryd.func14, Tryd.ntmps14
          go_wp2_with (first
            | (go_at_call 35; refine (HO.out _ B1.out).mono ?_; rintro e w2 ⟨rfl, b2⟩; rw [ho]; obtain ⟨hcc, hff⟩ := bcell b2; have HB2 := hide (B1.out.trans (b2.mono B1.out.size)))
            | (go_at_call 36; refine (printFits_any p _).mono ?_; rintro e w6 ⟨rfl, rfl⟩; rw [hp])
            | (go_at_call 37; refine (HNe.out _ HB2.out).mono ?_; rintro e w3 ⟨rfl, b3⟩; obtain ⟨hB3, hz3, x3⟩ := HBx.out _ _ b2 b3; have q3 := (heapCells x3).1 3; have q4 := (heapCells x3).1 4; simp only [List.getElem?_toArray, List.getElem?_cons_zero, List.getElem?_cons_succ] at q3 q4)
            | (go_at_call 38; refine (HGl.out _ w3.heap.size (hB3.alloc hB3.size _) hB3.size (World.ownsMap_made _ _ _ _)).mono ?_; rintro e w4 ⟨rfl, b4, hm4⟩; obtain ⟨cn4, D4, hM4, hc4, hk4⟩ := hm4 rfl; have hB4 := (hB3.alloc hB3.size _).trans (b4.mono hB3.size); have x4 := (b4.block w.heap.size hz3).trans ((Below.heap_alloc _ _ _ hz3).trans x3); have q5 := (heapCells x4).1 4; simp only [List.getElem?_toArray, List.getElem?_cons_zero, List.getElem?_cons_succ] at q5)
            | (go_at_call 39; refine (HPr.out _ w3.heap.size cn4 D4 hB4 hB3.size (by have := HGb.out trivial; omega) hM4 (by simpa using hk4)).mono ?_; rintro e w5 ⟨rfl, b5⟩))
          go_ret
          exact ⟨ret_bool (by simp), hB4.trans (b5.mono hB3.size)⟩
end Go.Proofs.YtpaljmhoojpbdaaDoor

/- A right object's bounds; the program's ObjectBytes at every object. The listed table of words is a premise. -/
namespace Go.Proofs.YtpaljmhoojpbdaaDoor
open Go.ChangeShapes Go.WideShapes Go.ChangeAt Go.RowKit Go.PlainAid Go.Deep

theorem ownB_size {s : ByteArray} (h : ownB s = true) : s.size ≤ 40 := by
  unfold ownB nameB at h
  simp only [Bool.and_eq_true, decide_eq_true_eq] at h
  omega
theorem inB_le {n a b : Int} (h : inB n a b = true) : a ≤ n ∧ n ≤ b := by
  unfold inB at h
  simpa using h
theorem forms_all {cells len result : Int} : ∀ (l : List InsD) (i : Nat), formAt cells len result i l = none → ∀ y ∈ l, insB y cells len result = true
  | [], _, _, y, hy => by cases hy
  | x :: r, i, h, y, hy => by
    unfold formAt at h
    by_cases c : insB x cells len result = true
    · rw [if_pos c] at h
      rcases List.mem_cons.1 hy with rfl | hy
      · exact c
      · exact forms_all r (i + 1) h y hy
    · rw [if_neg c] at h
      cases h
theorem ins_small {y : InsD} {cells len result : Int} (h : insB y cells len result = true) : y.mod.size ≤ 40 ∧ y.name.size ≤ 40 := by
  unfold insB at h
  simp only [Bool.and_eq_true] at h
  obtain ⟨⟨⟨h1, h2⟩, -⟩, -⟩ := h
  cases hn : namedB y.op with
  | true =>
    rw [hn] at h2
    simp only [Bool.not_true, Bool.false_or, Bool.and_eq_true] at h2
    exact ⟨ownB_size h2.1, ownB_size h2.2⟩
  | false =>
    rw [hn] at h1
    have h3 : (!(emB y.mod) || !(emB y.name)) = false := by
      cases e : (!(emB y.mod) || !(emB y.name)) with
      | false => rfl
      | true => rw [e] at h1; cases h1
    simp only [Bool.or_eq_false_iff, Bool.not_eq_false'] at h3
    have e1 := em_size h3.1
    have e2 := em_size h3.2
    omega
theorem ver_small {y : CodeD} (h : (verC y).1 = 0) : SmallC y ∧ 0 ≤ y.cells ∧ y.cells ≤ 65535 := by
  unfold verC at h
  by_cases c : headB y = true
  · rw [if_pos c] at h
    obtain ⟨-, h2, h3, h4, -, h6, -⟩ := head_all c
    have h3' := inB_le h3
    have h4' := inB_le h4
    cases hf : formAt y.cells y.list.length y.result 0 y.list with
    | some i => rw [hf] at h; simp at h
    | none =>
      refine ⟨⟨?_, h2, fun z hz => ins_small (forms_all _ _ hf z hz)⟩, by omega, by omega⟩
      rcases h6 with e | e
      · have := em_size e
        omega
      · exact ownB_size e
  · rw [if_neg c] at h
    exact absurd h (by decide)
theorem globs_all : ∀ (l : List GlobalD) (seen : List ByteArray), globsB seen l = true → ∀ y ∈ l, y.name.size ≤ 40
  | [], _, _, y, hy => by cases hy
  | x :: r, seen, h, y, hy => by
    unfold globsB at h
    simp only [Bool.and_eq_true] at h
    rcases List.mem_cons.1 hy with rfl | hy
    · have := h.1.2
      unfold globB at this
      simp only [Bool.and_eq_true] at this
      exact ownB_size this.1
    · exact globs_all r _ h.2 y hy
theorem procs_all : ∀ (l : List CodeD) (seen : List ByteArray), procsB seen l = true → ∀ y ∈ l, (verC y).1 = 0
  | [], _, _, y, hy => by cases hy
  | x :: r, seen, h, y, hy => by
    unfold procsB at h
    simp only [Bool.and_eq_true] at h
    rcases List.mem_cons.1 hy with rfl | hy
    · have := h.1.2
      unfold procB at this
      simp only [Bool.and_eq_true, decide_eq_true_eq] at this
      exact this.1
    · exact procs_all r _ h.2 y hy
theorem small_of {x : ObjectD} (h : objB x = true) : SmallO x ∧ ∀ y ∈ x.procs, 0 ≤ y.cells ∧ y.cells ≤ 65535 := by
  unfold objB at h
  simp only [Bool.and_eq_true, decide_eq_true_eq] at h
  obtain ⟨⟨⟨⟨h1, -⟩, h3, h3'⟩, h4, h4'⟩, ⟨-, h5⟩, h6⟩ := h
  have hv := procs_all _ _ h6
  refine ⟨⟨ownB_size h1, h3, h4, h5, fun y hy => ?_, globs_all _ _ h4', fun y hy => (ver_small (hv y hy)).1⟩, fun y hy => (ver_small (hv y hy)).2⟩
  have := List.all_eq_true.1 h3' y hy
  unfold needB at this
  simp only [Bool.and_eq_true] at this
  exact ownB_size this.1
def obF (x : ObjectD) : List Int := if objB x = true then (if (objBs x).length ≤ 65536 then objBs x else []) else []
def obC (x : ObjectD) : Int := if objB x = true then (if (objBs x).length ≤ 65536 then 0 else 15) else 1
theorem obF_len (x : ObjectD) : (obF x).length ≤ 65536 := by
  unfold obF
  split
  · split
    · assumption
    · exact Nat.zero_le _
  · exact Nat.zero_le _
theorem implObjectBytes_any (v : Value) (m : Md) (x : ObjectD) (w : World) (hv : ObjectVal w m v x) (hm : m.hi ≤ w.heap.size) (t : TypeId) (fr : Nat × Nat) (hg : w.heap[1]? = some (.cells keyRow t fr)) :
    Calls Tryd.prog 101 #[v] w fun e w' => (∃ u, e = .returned (.tuple #[u, .int .i64 (obC x)]) ∧ Own w' w.heap.size u (obF x)) ∧ Below w.heap.size w w' := by
  have hgz : 1 < w.heap.size := (Array.getElem?_eq_some_iff.1 hg).1
  have hV : ∀ w', Below w.heap.size w w' → Calls Tryd.prog 14 #[v] w' fun e w2 => e = .returned (.bool (objB x)) ∧ Below w'.heap.size w' w2 := fun w' bel =>
    implObjectOK_any v m x w' (hv.on (bel.mono hm)) (Nat.le_trans hm bel.size) t fr ((bel.block 1 hgz).trans hg)
  by_cases c : objB x = true
  · have e1 : obC x = if (objBs x).length ≤ 65536 then 0 else 15 := by unfold obC; rw [if_pos c]
    have e2 : obF x = if (objBs x).length ≤ 65536 then objBs x else [] := by unfold obF; rw [if_pos c]
    rw [e1, e2]
    exact implBytes_of v m x w hv hm (objB x) hV (fun h => (small_of h).1) c
  · have e1 : obC x = 1 := by unfold obC; rw [if_neg c]
    have e2 : obF x = [] := by unfold obF; rw [if_neg c]
    have c' : objB x = false := by simpa using c
    rw [c'] at hV
    rw [e1, e2]
    exact (implBytes_no v m x w hv hV).mono fun e w' ⟨a, b⟩ => ⟨⟨_, a, Own.nil _ _⟩, b⟩
end Go.Proofs.YtpaljmhoojpbdaaDoor

namespace Go.Proofs.YtpaljmhoojpbdaaDoor
open Go.ChangeShapes Go.WideShapes Go.ChangeAt Go.RowKit Go.PlainAid Go.Deep

def OB0 : ObjectD := ⟨⟨#[]⟩, 0, [], [], []⟩
def rdOkO (l : List Int) : Bool := decide (obC (rdObj l) = 0) && decide (obF (rdObj l) = l)
def rdVO (l : List Int) : ObjectD := if l.length ≤ 65536 ∧ rdOkO l = true then rdObj l else OB0
def rdCO (l : List Int) : Int := if l.length ≤ 65536 then (if rdOkO l = true then 0 else 3) else 2
theorem sb_in (s : ByteArray) : ∀ y ∈ sb s, 0 ≤ y ∧ y ≤ 255 := by
  intro y hy
  unfold sb at hy
  obtain ⟨b, -, rfl⟩ := List.mem_map.1 hy
  have := b.toNat_lt
  omega
theorem mod_in (n : Int) : 0 ≤ n % 256 ∧ n % 256 ≤ 255 := by omega
def AllB (l : List Int) : Prop := ∀ y ∈ l, 0 ≤ y ∧ y ≤ 255
theorem AllB.app {a b : List Int} (h : AllB a) (k : AllB b) : AllB (a ++ b) := fun y hy => by
  rcases List.mem_append.1 hy with hy | hy
  · exact h y hy
  · exact k y hy
theorem AllB.one (n : Int) : AllB [n % 256] := fun y hy => by
  rw [List.mem_singleton] at hy
  subst hy
  exact mod_in n
theorem AllB.nil : AllB [] := fun y hy => by cases hy
theorem AllB.flat {D : Type} {f : D → List Int} (h : ∀ x, AllB (f x)) : ∀ l : List D, AllB (l.flatMap f)
  | [] => AllB.nil
  | x :: r => by rw [List.flatMap_cons]; exact (h x).app (AllB.flat h r)
theorem txtB_in (s : ByteArray) : AllB (txtB s) := fun y hy => by
  unfold txtB at hy
  rcases List.mem_cons.1 hy with rfl | hy
  · exact mod_in _
  · exact sb_in s y hy
theorem numB_in (n : Int) : AllB (numB n) := fun y hy => by
  unfold numB at hy
  simp only [List.mem_cons, List.not_mem_nil, or_false] at hy
  rcases hy with rfl | rfl | rfl | rfl | rfl | rfl | rfl | rfl <;> exact mod_in _
theorem pairB_in (n : Int) : AllB (pairB n) := fun y hy => by
  unfold pairB at hy
  simp only [List.mem_cons, List.not_mem_nil, or_false] at hy
  rcases hy with rfl | rfl <;> exact mod_in _
theorem insBs_in (x : InsD) : AllB (insBs x) := by
  unfold insBs
  refine ((AllB.one _).app (numB_in _)).app ?_
  split
  · exact ((AllB.one _).app (txtB_in _)).app (txtB_in _)
  · exact AllB.nil
theorem inssBs_in : ∀ l : List InsD, AllB (inssBs l)
  | [] => AllB.nil
  | x :: r => by rw [inssBs]; exact (insBs_in x).app (inssBs_in r)
theorem codeBs_in (x : CodeD) : AllB (codeBs x) := by
  unfold codeBs codeHd
  exact (((((txtB_in _).app (AllB.one _)).app (pairB_in _)).app (AllB.one _)).app (pairB_in _)).app (inssBs_in _)
theorem objBs_in (x : ObjectD) : AllB (objBs x) := by
  unfold objBs objHead
  refine (((((AllB.app (AllB.app (AllB.app ?_ (txtB_in _)) (numB_in _)) (AllB.one _)).app (AllB.flat (fun y => ?_) _)).app (AllB.one _)).app (AllB.flat (fun y => ?_) _)).app (AllB.one _)).app (AllB.flat codeBs_in _)
  · intro y hy
    simp only [List.mem_cons, List.not_mem_nil, or_false] at hy
    rcases hy with rfl | rfl | rfl <;> omega
  · unfold needBs
    exact (txtB_in _).app (numB_in _)
  · unfold globBs
    exact (txtB_in _).app (AllB.one _)
theorem obF_in (x : ObjectD) : AllB (obF x) := by
  unfold obF
  split
  · split
    · exact objBs_in x
    · exact AllB.nil
  · exact AllB.nil
theorem need_at {w : World} {B : Nat} {v : Value} {l : List NeedD} (h : FRow needK w B v l) (hn : ∀ x ∈ l, NNum x) : SlAt NeedAt 2 w ⟨B, w.heap.size, false⟩ v l :=
  h.slat needOk fun x hx cf m hc => ⟨⟨hc 0 (by decide), hc 1 (by decide)⟩, by have := (hn x hx).1; unfold maxLen; omega, (hn x hx).2⟩
theorem glob_at {w : World} {B : Nat} {v : Value} {l : List GlobalD} (h : FRow globK w B v l) (hn : ∀ x ∈ l, GNum x) : SlAt GlobalAt 2 w ⟨B, w.heap.size, false⟩ v l :=
  h.slat globOk fun x hx cf m hc => ⟨⟨hc 0 (by decide), hc 1 (by decide)⟩, by have := (hn x hx).1; unfold maxLen; omega, (hn x hx).2⟩
theorem ins_at {w : World} {B : Nat} {v : Value} {l : List InsD} (h : FRow insK w B v l) (hn : ∀ x ∈ l, INum x) : SlAt InsAt 5 w ⟨B, w.heap.size, false⟩ v l :=
  h.slat insOk fun x hx cf m hc => ⟨⟨hc 0 (by decide), hc 1 (by decide), hc 2 (by decide), hc 3 (by decide), hc 4 (by decide)⟩, (hn x hx).1, (hn x hx).2.1, (hn x hx).2.2.1, by have := (hn x hx).2.2.2.1; unfold maxLen; omega, by have := (hn x hx).2.2.2.2; unfold maxLen; omega⟩
theorem code_at {w : World} {B : Nat} {v : Value} {L : List CV} (h : CRow w B v L) : SlAt CodeAt 5 w ⟨B, w.heap.size, false⟩ v (L.map Prod.fst) := by
  obtain ⟨a, c, rfl⟩ := h.1.form
  have hs : SlAt (fun cf w' m (p : CV) => w' = w ∧ m = ⟨B, w.heap.size, false⟩ ∧ p ∈ L ∧ ∀ j, j < 5 → cf j = (codeK.cs p)[j]?) 5 w ⟨B, w.heap.size, false⟩ (.slice a L.length c) L := by
    obtain ⟨a', c', e, hr⟩ := h.1.slat codeOk (E := fun cf _ _ (p : CV) => p ∈ L ∧ ∀ j, j < 5 → cf j = (codeK.cs p)[j]?) (fun x hx cf m hc => ⟨hx, hc⟩)
    cases e
    refine ⟨_, _, rfl, fun i hi => ?_⟩
    obtain ⟨b, o, e, g1, g2, g3, g4⟩ := hr i hi
    exact ⟨b, o, e, g1, g2, g3, rfl, rfl, g4⟩
  obtain ⟨a', c', e, hr⟩ := hs
  cases e
  refine ⟨a, c, by rw [List.length_map], fun i hi => ?_⟩
  have hi' : i < L.length := by rw [List.length_map] at hi; exact hi
  obtain ⟨b, o, e, g1, g2, g3, -, -, hp, hc⟩ := hr i hi'
  obtain ⟨hins, n0, n1, n2, n3, n4, n5⟩ := h.2.1 _ hp
  refine ⟨b, o, e, ⟨g1.1, by rw [List.length_map]; exact g1.2⟩, g2, g3, ?_⟩
  rw [List.getElem_map]
  exact ⟨⟨hc 0 (by decide), hc 1 (by decide), hc 2 (by decide), hc 3 (by decide)⟩, ⟨by unfold maxLen; omega, n1, n2, n3, by unfold maxLen; omega⟩, L[i].2, hc 4 (by decide), ins_at hins n5⟩
def ONum (x : ObjectD) : Prop := x.module.size ≤ 255 ∧ I64 x.print ∧ x.needs.length ≤ 255 ∧ x.globals.length ≤ 255 ∧ x.procs.length ≤ 255 ∧ (∀ y ∈ x.needs, NNum y) ∧ (∀ y ∈ x.globals, GNum y) ∧ ∀ y ∈ x.procs, CNum y
theorem objval_of_row {w : World} {B : Nat} {u2 u3 u4 : Value} {x : ObjectD} {L : List CV} (h : ObRow w B u2 u3 u4 x L) (hn : ONum x) : ObjectVal w ⟨B, w.heap.size, false⟩ (.agg #[.string x.module, .int .i64 x.print, u2, u3, u4]) x := by
  obtain ⟨n0, n1, n2, n3, n4, n5, n6, -⟩ := hn
  exact ⟨u2, u3, u4, rfl, ⟨by unfold maxLen; omega, n1, by unfold maxLen; omega, by unfold maxLen; omega, by unfold maxLen; omega⟩, need_at h.1 n5, glob_at h.2.1 n6, by rw [← h.2.2.2]; exact code_at h.2.2.1⟩
theorem rdObj_num {r : List Int} (h : ∀ y ∈ r, 0 ≤ y ∧ y ≤ 255) : ONum (rdObj r) := by
  have i0 := drop_in h 3
  have i1 : ∀ y ∈ ob1 r, 0 ≤ y ∧ y ≤ 255 := tR_in i0
  have i3 : ∀ y ∈ ob3 r, 0 ≤ y ∧ y ≤ 255 := drop_in (drop_in i1 _) _
  have i4 : ∀ y ∈ ob4 r, 0 ≤ y ∧ y ≤ 255 := itR_in neF_in _ i3
  have i5 : ∀ y ∈ ob5 r, 0 ≤ y ∧ y ≤ 255 := drop_in i4 _
  have i6 : ∀ y ∈ ob6 r, 0 ≤ y ∧ y ≤ 255 := itR_in glF_in _ i5
  have i7 : ∀ y ∈ ob7 r, 0 ≤ y ∧ y ≤ 255 := drop_in i6 _
  refine ⟨tT_size i0, accN_i64 8 0 _ (by unfold I64; omega), ?_, ?_, ?_, itL_all neF_in neG_num _ i3, itL_all glF_in glG_num _ i5, itL_all (fun _ h => coR_in h) rdCode_num _ i7⟩
  · show (itL _ _ _ _).length ≤ 255
    rw [itL_len]
    exact tN_le (drop_in i1 _)
  · show (itL _ _ _ _).length ≤ 255
    rw [itL_len]
    exact tN_le i4
  · show (itL _ _ _ _).length ≤ 255
    rw [itL_len]
    exact tN_le i6
theorem OB0_row (w : World) (B : Nat) : ObRow w B (.slice none 0 0) (.slice none 0 0) (.slice none 0 0) OB0 [] := ⟨FRow.nil _ _ _, FRow.nil _ _ _, CRow.nil _ _, rfl⟩
end Go.Proofs.YtpaljmhoojpbdaaDoor
