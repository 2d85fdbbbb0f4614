/- Linking over plain data: right objects; the program's faults beside the model's. No condition. -/
import Derived.Test.YtfbglokjehmgeaaGreatDoorZLkN
import Derived.Test.YtfbglokjehmgeaaGreatDoorZWkD
import Derived.Test.YtfbglokjehmgeaaGreatDoorZObSpec
import Derived.Test.YtfbglokjehmgeaaGreatDoorZLnI
import Derived.Test.YtfbglokjehmgeaaGreatDoorZLnN
/- Linking: the model's Link answers what 'linkAll' says of right objects. No condition. -/
namespace Go.Proofs.YtfbglokjehmgeaaGreatDoor
open Go.ChangeShapes Go.WideShapes Go.ChangeAt Go.RowKit Go.PlainAid Go.Deep

theorem globs_small : ∀ {l : List GlobalD} {seen : List ByteArray}, globsB seen l = true → ∀ g ∈ l, g.name.size ≤ 40 ∧ 0 ≤ g.length ∧ g.length ≤ 100
  | [], _, _, g, hg => by cases hg
  | x :: r, seen, h, g, hg => by
    unfold globsB at h
    simp only [Bool.and_eq_true] at h
    rcases List.mem_cons.1 hg with rfl | hg
    · have h2 := h.1.2
      unfold globB inB at h2
      simp only [Bool.and_eq_true, decide_eq_true_eq] at h2
      exact ⟨own_small h2.1, h2.2.1, h2.2.2⟩
    · exact globs_small h.2 g hg
theorem procs_small : ∀ {l : List CodeD} {seen : List ByteArray}, procsB seen l = true → ∀ p ∈ l, p.name.size ≤ 40 ∧ p.list.length ≤ 2000 ∧ (∀ y ∈ p.list, y.mod.size ≤ 40 ∧ y.name.size ≤ 40) ∧ 0 < p.list.length
  | [], _, _, p, hp => by cases hp
  | x :: r, seen, h, p, hp => by
    unfold procsB at h
    simp only [Bool.and_eq_true] at h
    rcases List.mem_cons.1 hp with rfl | hp
    · have h2 := h.1.2
      unfold procB at h2
      simp only [Bool.and_eq_true, decide_eq_true_eq] at h2
      exact verC_small h2.1
    · exact procs_small h.2 p hp
theorem objB_tiny {x : ObjectD} (h : objB x = true) : Tiny x ∧ 0 < x.procs.length := by
  unfold objB at h
  simp only [Bool.and_eq_true, decide_eq_true_eq] at h
  obtain ⟨⟨⟨⟨h1, -⟩, -⟩, h2, h3⟩, ⟨h4, h5⟩, h6⟩ := h
  exact ⟨⟨own_small h1, h2, globs_small h3, h5, procs_small h6⟩, by omega⟩
/-- What Link answers: the answer that 'linkAll' speaks of. -/
def linkR (L : List ObjectD) (main : ByteArray) : Res :=
  if 4096 < L.length ∨ 65536 < main.size then .inl (2, ⟨#[]⟩) else if 20 < L.length then .inl (13, ⟨#[]⟩) else
    if (List.range L.length).all (fun i => match L[i]? with | some x => objB x && (objAt (L.take i) x.module).isNone | none => true) = true then linkF L main else .inl (1, ⟨#[]⟩)
theorem linkR_all (L : List ObjectD) (main : ByteArray) : linkAll objB L main (linkR L main) := by
  have key : (List.range L.length).all (fun i => match L[i]? with | some x => objB x && (objAt (L.take i) x.module).isNone | none => true) = true ↔ allOk objB L L.length := by
    rw [List.all_eq_true]
    unfold allOk
    constructor
    · intro h i hi _
      have := h i (List.mem_range.2 hi)
      rw [List.getElem?_eq_getElem hi] at this
      simp only [Bool.and_eq_true, Option.isNone_iff_eq_none] at this
      exact this
    · intro h i hi
      have hi := List.mem_range.1 hi
      rw [List.getElem?_eq_getElem hi]
      simp only [Bool.and_eq_true, Option.isNone_iff_eq_none]
      exact h i hi hi
  unfold linkAll linkR
  refine ⟨fun h => if_pos h, fun h k => ?_, fun h k n => ?_, fun h k n => ?_⟩
  · rw [if_neg h, if_pos k]
  · rw [if_neg h, if_neg k, if_neg (fun e => n (key.1 e))]
  · rw [if_neg h, if_neg k, if_pos (key.2 n)]
theorem specLink_any (a : Option Addr) (cp : Nat) (m : Md) (L : List ObjectD) (main : ByteArray) (w : World) (h : SlAt ObjectAt 5 w m (.slice a L.length cp) L) (hm : m.hi ≤ w.heap.size) (hL : L.length ≤ 1048576) (hmn : main.size ≤ maxLen) :
    Calls Tryz.prog 5 #[.slice a L.length cp, .string main] w fun e w' => LinkPost L w (linkR L main) e w' :=
  specLink_of objB (fun v m x w hv hm => specObjectOK_any v m x w hv hm) (fun _ h => objB_tiny h) a cp m L main (linkR L main) w h hm hL hmn (linkR_all L main)
end Go.Proofs.YtfbglokjehmgeaaGreatDoor

namespace Go.Proofs.YtfbglokjehmgeaaGreatDoor
open Go.ChangeShapes Go.WideShapes Go.ChangeAt Go.RowKit Go.PlainAid Go.Deep

theorem name_nodot {s : ByteArray} (h : nameB s = true) : nodot s := by
  intro hm
  rw [ByteArray.toList_eq] at hm
  obtain ⟨k, hk, e⟩ := List.getElem_of_mem hm
  unfold nameB at h
  simp only [Bool.and_eq_true, decide_eq_true_eq, List.all_eq_true] at h
  have hk' : k < s.size := by simpa using hk
  have h2 := h.2 k (List.mem_range.2 hk')
  unfold okB at h2
  have hb : bt s k = 46 := by
    unfold bt
    rw [dif_pos hk']
    have e2 : s[k]'hk' = 46 := by
      rw [Array.getElem_toList] at e
      exact e
    rw [e2]
    rfl
  rw [hb] at h2
  revert h2
  simp [letB, digB]
theorem own_nodot {s : ByteArray} (h : ownB s = true) : nodot s := by
  unfold ownB at h
  simp only [Bool.and_eq_true] at h
  exact name_nodot h.1
theorem seen_mem {seen : List ByteArray} {s : ByteArray} : seenB seen s = false → s ∉ seen := by
  intro h hm
  unfold seenB at h
  have := List.any_eq_false.1 h s hm
  simp at this
theorem globs_nodup : ∀ {l : List GlobalD} {seen : List ByteArray}, globsB seen l = true → (l.map (·.name)).Nodup ∧ ∀ g ∈ l, g.name ∉ seen
  | [], _, _ => ⟨List.nodup_nil, fun g hg => by cases hg⟩
  | x :: r, seen, h => by
    unfold globsB at h
    simp only [Bool.and_eq_true, Bool.not_eq_true'] at h
    obtain ⟨h1, h2⟩ := globs_nodup h.2
    refine ⟨?_, fun g hg => ?_⟩
    · rw [List.map_cons, List.nodup_cons]
      refine ⟨fun hm => ?_, h1⟩
      obtain ⟨g, hg, e⟩ := List.mem_map.1 hm
      exact h2 g hg (by rw [e]; simp)
    · rcases List.mem_cons.1 hg with rfl | hg
      · exact seen_mem h.1.1
      · exact fun hm => h2 g hg (List.mem_append_left _ hm)
theorem procs_nodup : ∀ {l : List CodeD} {seen : List ByteArray}, procsB seen l = true → (l.map (·.name)).Nodup ∧ ∀ g ∈ l, g.name ∉ seen
  | [], _, _ => ⟨List.nodup_nil, fun g hg => by cases hg⟩
  | x :: r, seen, h => by
    unfold procsB at h
    simp only [Bool.and_eq_true, Bool.not_eq_true'] at h
    obtain ⟨h1, h2⟩ := procs_nodup h.2
    refine ⟨?_, fun g hg => ?_⟩
    · rw [List.map_cons, List.nodup_cons]
      refine ⟨fun hm => ?_, h1⟩
      obtain ⟨g, hg, e⟩ := List.mem_map.1 hm
      exact h2 g hg (by rw [e]; simp)
    · rcases List.mem_cons.1 hg with rfl | hg
      · exact seen_mem h.1.1
      · exact fun hm => h2 g hg (List.mem_append_left _ hm)
theorem form_names {cells len result : Int} : ∀ {l : List InsD} {i : Nat}, formAt cells len result i l = none → ∀ y ∈ l, namedB y.op = true → nodot y.mod
  | [], _, _, y, hy => by cases hy
  | x :: r, i, h, y, hy => by
    unfold formAt at h
    by_cases hx : insB x cells len result = true
    · rw [if_pos hx] at h
      rcases List.mem_cons.1 hy with rfl | hy
      · intro hn
        unfold insB at hx
        simp only [Bool.and_eq_true, Bool.or_eq_true, Bool.not_eq_true'] at hx
        rcases hx.1.1.2 with e | e
        · rw [hn] at e; cases e
        · exact own_nodot e.1
      · exact form_names h y hy
    · rw [if_neg hx] at h
      cases h
theorem verC_names {x : CodeD} (h : (verC x).1 = 0) : ∀ y ∈ x.list, y.op = 3 ∨ y.op = 13 → nodot y.mod := by
  unfold verC at h
  by_cases hh : headB x = true
  · rw [if_pos hh] at h
    have hf : formAt x.cells x.list.length x.result 0 x.list = none := by
      cases hf : formAt x.cells x.list.length x.result 0 x.list with
      | none => rfl
      | some i => rw [hf] at h; cases h
    intro y hy ho
    refine form_names hf y hy ?_
    unfold namedB
    rcases ho with e | e <;> simp [e]
  · rw [if_neg hh] at h
    cases h
theorem procs_names : ∀ {l : List CodeD} {seen : List ByteArray}, procsB seen l = true → ∀ p ∈ l, ∀ y ∈ p.list, y.op = 3 ∨ y.op = 13 → nodot y.mod
  | [], _, _, p, hp => by cases hp
  | x :: r, seen, h, p, hp => by
    unfold procsB at h
    simp only [Bool.and_eq_true] at h
    rcases List.mem_cons.1 hp with rfl | hp
    · have h2 := h.1.2
      unfold procB at h2
      simp only [Bool.and_eq_true, decide_eq_true_eq] at h2
      exact verC_names h2.1
    · exact procs_names h.2 p hp
/-- Right objects' own. -/
theorem objB_facts {x : ObjectD} (h : objB x = true) : nodot x.module ∧ 0 < x.module.size ∧ x.needs.length ≤ 20 ∧ (x.globals.map (·.name)).Nodup ∧ (x.procs.map (·.name)).Nodup ∧ ∀ p ∈ x.procs, ∀ y ∈ p.list, y.op = 3 ∨ y.op = 13 → nodot y.mod := by
  unfold objB at h
  simp only [Bool.and_eq_true, decide_eq_true_eq] at h
  obtain ⟨⟨⟨⟨h1, -⟩, h7, -⟩, h2, h3⟩, ⟨h4, h5⟩, h6⟩ := h
  have hn : 0 < x.module.size := by
    unfold ownB nameB at h1
    simp only [Bool.and_eq_true, decide_eq_true_eq] at h1
    omega
  exact ⟨own_nodot h1, hn, h7, (globs_nodup h3).1, (procs_nodup h6).1, procs_names h6⟩
theorem objAt_no : ∀ {L : List ObjectD} {s : ByteArray}, objAt L s = none → ∀ x ∈ L, x.module ≠ s
  | [], _, _, x, hx => by cases hx
  | y :: r, s, h, x, hx => by
    unfold objAt at h
    by_cases e : eqS y.module s = true
    · rw [if_pos e] at h
      cases h
    · rw [if_neg e] at h
      rcases List.mem_cons.1 hx with rfl | hx
      · exact eqS_no.1 (by simpa using e)
      · exact objAt_no (Option.map_eq_none_iff.1 h) x hx
theorem allOk.dist {L : List ObjectD} (h : allOk objB L L.length) : Dist L := by
  have key : ∀ i j (hi : i < L.length) (hj : j < L.length), i < j → L[i].module ≠ L[j].module := fun i j hi hj hij => by
    have h2 := objAt_no (h j hj hj).2
    refine h2 L[i] ?_
    rw [List.mem_iff_getElem]
    exact ⟨i, by rw [List.length_take]; omega, by simp⟩
  intro i j hi hj e
  rcases Nat.lt_trichotomy i j with c | c | c
  · exact absurd e (key i j hi hj c)
  · exact c
  · exact absurd e.symm (key j i hj hi c)
theorem objs_mem {L : List ObjectD} {o : List Nat} (hk : ∀ k ∈ o, k < L.length) : ∀ x ∈ objsOf L o, x ∈ L := by
  intro x hx
  unfold objsOf at hx
  obtain ⟨k, hk1, rfl⟩ := List.mem_map.1 hx
  have hkn := hk k hk1
  rw [show L.getD k OBn = L[k] by simp [List.getD, hkn]]
  exact List.getElem_mem hkn
theorem allOk.mem {L : List ObjectD} (h : allOk objB L L.length) : ∀ x ∈ L, objB x = true := by
  intro x hx
  obtain ⟨i, hi, rfl⟩ := List.getElem_of_mem hx
  exact (h i hi hi).1
theorem objs_apart {L : List ObjectD} {o : List Nat} (h : allOk objB L L.length) (hf : Fine L.length o) : Apart (objsOf L o) := by
  have hm := objs_mem hf.2
  have hr := fun x hx => objB_facts (h.mem x (hm x hx))
  refine ⟨?_, fun x hx => (hr x hx).1, fun x hx => (hr x hx).2.2.2.1, fun x hx => (hr x hx).2.2.2.2.1, fun x hx => (hr x hx).2.2.2.2.2⟩
  have hd := h.dist
  unfold objsOf
  rw [List.map_map, List.Nodup, List.pairwise_map]
  refine List.Pairwise.imp_of_mem ?_ hf.1
  intro a b ha hb hne e
  have ha' := hf.2 a ha
  have hb' := hf.2 b hb
  simp only [Function.comp_def] at e
  rw [show L.getD a OBn = L[a] by simp [List.getD, ha'], show L.getD b OBn = L[b] by simp [List.getD, hb']] at e
  exact hne (hd a b ha' hb' e)
/-- The first object of which g holds. -/
def firstX (g : ObjectD → Bool) : List ObjectD → Option ByteArray
  | [] => none
  | x :: r => if g x = true then some x.module else firstX g r
theorem firstX_congr {f g : ObjectD → Bool} : ∀ {l : List ObjectD}, (∀ x ∈ l, f x = g x) → firstX f l = firstX g l
  | [], _ => rfl
  | x :: r, h => by
    unfold firstX
    rw [h x (List.mem_cons_self ..), firstX_congr fun y hy => h y (List.mem_cons_of_mem _ hy)]
theorem firstX_none {g : ObjectD → Bool} : ∀ {l : List ObjectD}, firstX g l = none → ∀ x ∈ l, g x = false
  | [], _, x, h => by cases h
  | y :: r, n, x, h => by
    unfold firstX at n
    by_cases e : g y = true
    · rw [if_pos e] at n
      cases n
    · rw [if_neg e] at n
      rcases List.mem_cons.1 h with rfl | h
      · simpa using e
      · exact firstX_none n x h
theorem firstX_some {g : ObjectD → Bool} : ∀ {l : List ObjectD} {s : ByteArray}, firstX g l = some s → ∃ x ∈ l, x.module = s
  | [], _, h => by cases h
  | y :: r, s, n => by
    unfold firstX at n
    by_cases e : g y = true
    · rw [if_pos e] at n
      cases n
      exact ⟨y, List.mem_cons_self .., rfl⟩
    · rw [if_neg e] at n
      obtain ⟨x, hx, e⟩ := firstX_some n
      exact ⟨x, List.mem_cons_of_mem _ hx, e⟩
theorem firstD_X (f : InsD → Bool) : ∀ {vs : List OV}, (∀ p ∈ vs, p.cs.map Prod.fst = p.x.procs) → firstD f vs = firstX (fun x => x.procs.any fun c => c.list.any f) (vs.map (·.x))
  | [], _ => rfl
  | p :: r, h => by
    rw [firstD_cons, List.map_cons]
    unfold firstX
    rw [firstD_X f fun q hq => h q (List.mem_cons_of_mem _ hq)]
    have e : anyC f p.cs = p.x.procs.any fun c => c.list.any f := by
      unfold anyC
      rw [← h p (List.mem_cons_self ..), List.any_map]
      rfl
    rw [e]
theorem resF_stop (P : List ObjectD) (N : List ByteArray) (mo : ByteArray) : ∀ (l : List InsD) (c : Int) (s : ByteArray), ¬ c = 0 → resF P N mo l (c, s) = (c, s)
  | [], _, _, _ => rfl
  | x :: r, c, s, h => by
    unfold resF
    rw [if_neg (fun e => h e.2)]
    exact resF_stop P N mo r c s h
theorem resF_0 (P : List ObjectD) (N : List ByteArray) (mo s : ByteArray) : ∀ l : List InsD, resF P N mo l (0, s) = if l.any (unk P N) = true then (5, mo) else (0, s)
  | [] => rfl
  | x :: r => by
    unfold resF
    rw [List.any_cons]
    by_cases e : unk P N x = true
    · rw [if_pos ⟨e, rfl⟩, resF_stop _ _ _ _ _ _ (by decide), e, Bool.true_or, if_pos rfl]
    · rw [if_neg (fun k => e k.1), resF_0 P N mo s r]
      have e' : unk P N x = false := by simpa using e
      rw [e', Bool.false_or]
theorem resC_stop (P : List ObjectD) (N : List ByteArray) (mo : ByteArray) : ∀ (l : List CodeD) (c : Int) (s : ByteArray), ¬ c = 0 → resC P N mo l (c, s) = (c, s)
  | [], _, _, _ => rfl
  | x :: r, c, s, h => by
    rw [resC_cons, resF_stop _ _ _ _ _ _ h]
    exact resC_stop P N mo r c s h
theorem resC_0 (P : List ObjectD) (N : List ByteArray) (mo s : ByteArray) : ∀ l : List CodeD, resC P N mo l (0, s) = if (l.any fun c => c.list.any (unk P N)) = true then (5, mo) else (0, s)
  | [] => rfl
  | x :: r => by
    rw [resC_cons, resF_0, List.any_cons]
    by_cases e : x.list.any (unk P N) = true
    · rw [if_pos e, resC_stop _ _ _ _ _ _ (by decide), e, Bool.true_or, if_pos rfl]
    · rw [if_neg e, resC_0 P N mo s r]
      have e' : x.list.any (unk P N) = false := by simpa using e
      rw [e', Bool.false_or]
theorem resO_0 (P : List ObjectD) (N : List ByteArray) (s : ByteArray) : ∀ l : List ObjectD, resO P N l (0, s) = match firstX (fun x => x.procs.any fun c => c.list.any (unk P N)) l with | some m => (5, m) | none => (0, s)
  | [] => rfl
  | x :: r => by
    rw [resO_cons, resC_0]
    unfold firstX
    by_cases e : (x.procs.any fun c => c.list.any (unk P N)) = true
    · rw [if_pos e, if_pos e, resO_stop _ _ _ _ _ (by decide)]
    · rw [if_neg e, if_neg e]
      exact resO_0 P N s r
theorem fitP_0 (N : List ByteArray) (C : List CodeD) : ∀ l : List ObjectD, fitP N C l = (firstX (fun x => x.procs.any (badC N C)) l).getD ⟨#[]⟩
  | [] => rfl
  | x :: r => by
    rw [fitP_cons]
    unfold firstX
    by_cases e : x.procs.any (badC N C) = true
    · rw [if_pos e, if_pos e]
      rfl
    · rw [if_neg e, if_neg e]
      exact fitP_0 N C r
/-- The program's faults, where instructions' names are looked at; and counts. -/
theorem no_first {P : List ObjectD} {vs : List OV} (hA : Apart P) (hP : vs.map (·.x) = P) (hcs : ∀ p ∈ vs, p.cs.map Prod.fst = p.x.procs) : firstD (noB (cellsM P) (procsM P)) vs = firstX (fun x => x.procs.any fun c => c.list.any (unk P (namesP P))) P := by
  rw [firstD_X _ hcs, hP]
  refine firstX_congr fun x hx => ?_
  rw [Bool.eq_iff_iff, List.any_eq_true, List.any_eq_true]
  have key : ∀ c ∈ x.procs, c.list.any (noB (cellsM P) (procsM P)) = c.list.any (unk P (namesP P)) := fun c hc => by
    rw [Bool.eq_iff_iff, List.any_eq_true, List.any_eq_true]
    have k2 : ∀ y ∈ c.list, noB (cellsM P) (procsM P) y = unk P (namesP P) y := fun y hy => (names_nothing hA y (hA.ins x hx c hc y hy)).symm
    exact ⟨fun ⟨y, hy, e⟩ => ⟨y, hy, by rw [← k2 y hy]; exact e⟩, fun ⟨y, hy, e⟩ => ⟨y, hy, by rw [k2 y hy]; exact e⟩⟩
  exact ⟨fun ⟨c, hc, e⟩ => ⟨c, hc, by rw [← key c hc]; exact e⟩, fun ⟨c, hc, e⟩ => ⟨c, hc, by rw [key c hc]; exact e⟩⟩
theorem names_lt {P : List ObjectD} {y : InsD} {k : Nat} (h : nameAt (namesP P) y = some k) : k < (P.flatMap fun x => x.procs).length := by
  unfold nameAt at h
  obtain ⟨h1, -⟩ := firstAt_some h
  have e : (namesP P).length = (P.flatMap fun x => x.procs).length := by
    clear h h1
    unfold namesP pnames
    induction P with
    | nil => rfl
    | cons x r ih => rw [List.flatMap_cons, List.flatMap_cons, List.length_append, List.length_append, List.length_map, ih]
  omega
theorem vs_codes {P : List ObjectD} {vs : List OV} (hP : vs.map (·.x) = P) (hcs : ∀ p ∈ vs, p.cs.map Prod.fst = p.x.procs) : (vs.flatMap (·.cs)).map Prod.fst = P.flatMap fun x => x.procs := by
  subst hP
  induction vs with
  | nil => rfl
  | cons p r ih => rw [List.flatMap_cons, List.map_append, hcs p (List.mem_cons_self ..), ih fun q hq => hcs q (List.mem_cons_of_mem _ hq), List.map_cons, List.flatMap_cons]
/-- Where nothing is unknown a call's number is found. -/
theorem call_known {P : List ObjectD} {vs : List OV} (hA : Apart P) (hP : vs.map (·.x) = P) (hcs : ∀ p ∈ vs, p.cs.map Prod.fst = p.x.procs) {y : InsD} (hy : y.op = 3 ∨ y.op = 13 → nodot y.mod) (hu : unk P (namesP P) y = false) (ho : y.op = 13) : ∃ k : Nat, pM.get (procsM P) (y.mod, y.name) = some (k : Int) ∧ k < (vs.flatMap (·.cs)).length ∧ nameAt (namesP P) y = some k := by
  unfold unk at hu
  rw [if_neg (by omega), if_pos ho] at hu
  obtain ⟨k, hk⟩ : ∃ k, nameAt (namesP P) y = some k := by
    cases h : nameAt (namesP P) y with
    | none => rw [h] at hu; cases hu
    | some k => exact ⟨k, rfl⟩
  refine ⟨k, by rw [procsM_get hA y (hy (.inr ho)), hk]; rfl, ?_, hk⟩
  have := names_lt hk
  rwa [← vs_codes hP hcs, List.length_map] at this
theorem mis_first {P : List ObjectD} {vs : List OV} (hA : Apart P) (hP : vs.map (·.x) = P) (hcs : ∀ p ∈ vs, p.cs.map Prod.fst = p.x.procs) (hno : firstX (fun x => x.procs.any fun c => c.list.any (unk P (namesP P))) P = none) : firstD (misB (procsM P) (vs.flatMap (·.cs))) vs = firstX (fun x => x.procs.any (badC (namesP P) (P.flatMap fun x => x.procs))) P := by
  rw [firstD_X _ hcs, hP]
  refine firstX_congr fun x hx => ?_
  have hnx := firstX_none hno x hx
  rw [Bool.eq_iff_iff, List.any_eq_true, List.any_eq_true]
  have key : ∀ c ∈ x.procs, c.list.any (misB (procsM P) (vs.flatMap (·.cs))) = badC (namesP P) (P.flatMap fun x => x.procs) c := fun c hc => by
    unfold badC
    rw [Bool.eq_iff_iff, List.any_eq_true, List.any_eq_true]
    have hnc := List.any_eq_false.1 hnx c hc
    have k2 : ∀ y ∈ c.list, misB (procsM P) (vs.flatMap (·.cs)) y = badI (namesP P) (P.flatMap fun x => x.procs) y := fun y hy => by
      have hu : unk P (namesP P) y = false := by
        have := List.any_eq_false.1 (by simpa using hnc) y hy
        simpa using this
      unfold misB badI
      by_cases ho : y.op = 13
      · obtain ⟨k, h1, h2, h3⟩ := call_known hA hP hcs (hA.ins x hx c hc y hy) hu ho
        rw [h1, h3, ← vs_codes hP hcs]
        simp only [Option.getD_some, Int.toNat_natCast, List.getElem?_map, List.getElem?_eq_getElem h2, Option.map_some]
        obtain ⟨cd, hcd⟩ : ∃ cd : CodeD, ((vs.flatMap fun p : OV => p.cs)[k]'h2).1 = cd := ⟨_, rfl⟩
        rw [hcd]
        have s1 : decide (y.a ≠ cd.params) = decide (cd.params ≠ y.a) := decide_eq_decide.2 ⟨Ne.symm, Ne.symm⟩
        have s2 : decide (y.b ≠ cd.result) = decide (cd.result ≠ y.b) := decide_eq_decide.2 ⟨Ne.symm, Ne.symm⟩
        rw [s1, s2]
      · rw [decide_eq_false ho, Bool.false_and, Bool.false_and]
    exact ⟨fun ⟨y, hy, e⟩ => ⟨y, hy, by rw [← k2 y hy]; exact e⟩, fun ⟨y, hy, e⟩ => ⟨y, hy, by rw [k2 y hy]; exact e⟩⟩
  exact ⟨fun ⟨c, hc, e⟩ => ⟨c, hc, by rw [← key c hc]; exact e⟩, fun ⟨c, hc, e⟩ => ⟨c, hc, by rw [key c hc]; exact e⟩⟩
/-- What is linked, or the fault and whose, in the words of both. -/
theorem linkO_X (L : List ObjectD) (main : ByteArray) (o : List Nat) (hne : ∀ x ∈ objsOf L o, 0 < x.module.size) : linkO L main o = match firstX (fun x => x.procs.any fun c => c.list.any (unk (objsOf L o) (namesP (objsOf L o)))) (objsOf L o) with
    | some m => .inl (5, m)
    | none => match firstX (fun x => x.procs.any (badC (namesP (objsOf L o)) ((objsOf L o).flatMap fun x => x.procs))) (objsOf L o) with
      | some m => .inl (8, m)
      | none => if 3000 < gsumP (objsOf L o) 0 then .inl (15, main) else .inr o := by
  unfold linkO
  rw [resO_0, fitP_0]
  cases h : firstX (fun x => x.procs.any fun c => c.list.any (unk (objsOf L o) (namesP (objsOf L o)))) (objsOf L o) with
  | some m =>
    simp only []
    rw [if_pos (by decide)]
  | none =>
    simp only []
    rw [if_neg (by simp)]
    cases h2 : firstX (fun x => x.procs.any (badC (namesP (objsOf L o)) ((objsOf L o).flatMap fun x => x.procs))) (objsOf L o) with
    | some m =>
      simp only [Option.getD_some]
      obtain ⟨x, hx, rfl⟩ := firstX_some h2
      have hs := hne x hx
      rw [if_pos]
      cases hl : x.module.toList with
      | nil =>
        rw [ByteArray.toList_eq] at hl
        have : x.module.data.size = 0 := by rw [← Array.length_toList, hl]; rfl
        have h3 : x.module.size = x.module.data.size := rfl
        omega
      | cons a b => rfl
    | none =>
      simp only [Option.getD_none]
      rw [if_neg]
      rw [ByteArray.toList_eq]
      decide
end Go.Proofs.YtfbglokjehmgeaaGreatDoor
