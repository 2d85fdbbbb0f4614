/- The program's newLinker. No condition. -/
import Derived.Test.YtfbglokjehmgeaaGreatDoorZMapG
import Derived.Test.YtfbglokjehmgeaaGreatDoorZLkM
import Derived.Test.YtfbglokjehmgeaaGreatDoorZLawZ
import Derived.BigQuiet
import Derived.Deep.QuietTactic
import Derived.BigRegion
/- Linking over plain data: what the program's maps hold, beside what the model finds. No condition. -/
namespace Go.Proofs.YtfbglokjehmgeaaGreatDoor
open Go.ChangeShapes Go.WideShapes Go.ChangeAt Go.RowKit Go.Deep

theorem eqS_comm (a b : ByteArray) : eqS a b = eqS b a := by
  rw [Bool.eq_iff_iff, eqS_iff, eqS_iff]
  exact ⟨Eq.symm, Eq.symm⟩
def nodot (s : ByteArray) : Prop := (46 : UInt8) ∉ s.toList
theorem dotN_list (a b : ByteArray) : (dotN a b).toList = a.toList ++ 46 :: b.toList := by
  unfold dotN
  rw [ByteArray.toList_eq, ByteArray.toList_eq, ByteArray.toList_eq, ByteArray.data_append, ByteArray.data_append, Array.toList_append, Array.toList_append]
  simp
theorem split_dot : ∀ {a c : List UInt8} {b d : List UInt8}, (46 : UInt8) ∉ a → (46 : UInt8) ∉ c → a ++ 46 :: b = c ++ 46 :: d → a = c ∧ b = d
  | [], [], b, d, _, _, h => by simpa using h
  | [], y :: c, b, d, _, hc, h => by
    simp only [List.nil_append, List.cons_append, List.cons.injEq] at h
    exact absurd (by rw [← h.1]; exact List.mem_cons_self ..) hc
  | x :: a, [], b, d, ha, _, h => by
    simp only [List.nil_append, List.cons_append, List.cons.injEq] at h
    exact absurd (by rw [h.1]; exact List.mem_cons_self ..) ha
  | x :: a, y :: c, b, d, ha, hc, h => by
    simp only [List.cons_append, List.cons.injEq] at h
    obtain ⟨h1, h2⟩ := split_dot (a := a) (c := c) (fun e => ha (List.mem_cons_of_mem _ e)) (fun e => hc (List.mem_cons_of_mem _ e)) h.2
    exact ⟨by rw [h.1, h1], h2⟩
theorem dot_inj {a b c d : ByteArray} (ha : nodot a) (hc : nodot c) : eqS (dotN a b) (dotN c d) = (eqS a c && eqS b d) := by
  rw [Bool.eq_iff_iff, Bool.and_eq_true, eqS_iff, eqS_iff, eqS_iff]
  constructor
  · intro h
    have := congrArg ByteArray.toList h
    rw [dotN_list, dotN_list] at this
    obtain ⟨h1, h2⟩ := split_dot ha hc this
    exact ⟨toList_inj' h1, toList_inj' h2⟩
  · rintro ⟨rfl, rfl⟩
    rfl
section
variable {α : Type}
/-- Keys put one behind the other, each behind the widths ahead of it. -/
def MK.putW (K : MK α) : List (α × Int) → ML α → Int → ML α
  | [], M, _ => M
  | x :: r, M, n => K.putW r (K.put M x.1 n) (n + x.2)
def sumW : List (α × Int) → Int → Int
  | [], n => n
  | x :: r, n => sumW r (n + x.2)
def MK.findW (K : MK α) : List (α × Int) → Int → α → Option Int
  | [], _, _ => none
  | x :: r, n, k => if K.eq k x.1 = true then some n else K.findW r (n + x.2) k
variable {K : MK α}
theorem MK.putW_cons (K : MK α) (x : α × Int) (r : List (α × Int)) (M : ML α) (n : Int) : K.putW (x :: r) M n = K.putW r (K.put M x.1 n) (n + x.2) := rfl
theorem sumW_cons (x : α × Int) (r : List (α × Int)) (n : Int) : sumW (x :: r) n = sumW r (n + x.2) := rfl
theorem MK.findW_cons (K : MK α) (x : α × Int) (r : List (α × Int)) (n : Int) (k : α) : K.findW (x :: r) n k = if K.eq k x.1 = true then some n else K.findW r (n + x.2) k := rfl
theorem MK.findW_no : ∀ {l : List (α × Int)} {n : Int} {k : α}, (∀ x ∈ l, K.eq k x.1 = false) → K.findW l n k = none
  | [], _, _, _ => rfl
  | x :: r, n, k, h => by
    unfold MK.findW
    rw [if_neg (by rw [h x (List.mem_cons_self ..)]; decide)]
    exact MK.findW_no fun y hy => h y (List.mem_cons_of_mem _ hy)
theorem MK.get_putW (hK : K.Ok) : ∀ (l : List (α × Int)) (M : ML α) (n : Int) (k : α), (l.map Prod.fst).Nodup → K.get (K.putW l M n) k = match K.findW l n k with | some v => some v | none => K.get M k
  | [], M, n, k, _ => rfl
  | x :: r, M, n, k, h => by
    rw [List.map_cons, List.nodup_cons] at h
    unfold MK.putW MK.findW
    rw [MK.get_putW hK r _ _ k h.2, MK.get_put hK]
    by_cases e : K.eq k x.1 = true
    · have hx := (hK.same _ _).1 e
      rw [if_pos e, if_pos e, MK.findW_no fun y hy => by
        cases hq : K.eq k y.1 with
        | false => rfl
        | true => exact absurd (List.mem_map.2 ⟨y, hy, ((hK.same _ _).1 hq).symm.trans hx⟩) h.1]
    · rw [if_neg e, if_neg e]
theorem MK.putW_app (K : MK α) : ∀ (a b : List (α × Int)) (M : ML α) (n : Int), K.putW (a ++ b) M n = K.putW b (K.putW a M n) (sumW a n)
  | [], _, _, _ => rfl
  | x :: r, b, M, n => by
    rw [List.cons_append, MK.putW_cons, MK.putW_cons, sumW_cons, MK.putW_app K r b]
theorem sumW_app : ∀ (a b : List (α × Int)) (n : Int), sumW (a ++ b) n = sumW b (sumW a n)
  | [], _, _ => rfl
  | x :: r, b, n => by
    rw [List.cons_append, sumW_cons, sumW_cons, sumW_app r b]
theorem firstAt_map {β : Type} (f : β → Bool) (g : α → β) : ∀ l : List α, firstAt f (l.map g) = firstAt (fun a => f (g a)) l
  | [] => rfl
  | x :: r => by
    rw [List.map_cons]
    unfold firstAt
    rw [firstAt_map f g r]
theorem firstAt_congr {f g : α → Bool} : ∀ {l : List α}, (∀ x ∈ l, f x = g x) → firstAt f l = firstAt g l
  | [], _ => rfl
  | x :: r, h => by
    unfold firstAt
    rw [h x (List.mem_cons_self ..), firstAt_congr fun y hy => h y (List.mem_cons_of_mem _ hy)]
theorem findW_one : ∀ (l : List α) (n : Int) (k : α), K.findW (l.map fun z => (z, 1)) n k = (firstAt (fun z => K.eq k z) l).map fun i : Nat => n + (i : Int)
  | [], _, _ => rfl
  | x :: r, n, k => by
    rw [List.map_cons, MK.findW_cons]
    unfold firstAt
    by_cases e : K.eq k x = true
    · rw [if_pos e, if_pos e]
      simp
    · rw [if_neg e, if_neg e, findW_one r (n + 1) k]
      cases firstAt (fun z => K.eq k z) r with
      | none => rfl
      | some i =>
        show some (n + 1 + (i : Int)) = some (n + ((i + 1 : Nat) : Int))
        congr 1
        omega
theorem sumW_one : ∀ (l : List α) (n : Int), sumW (l.map fun z => (z, (1 : Int))) n = n + l.length
  | [], n => by simp [sumW]
  | x :: r, n => by
    rw [List.map_cons, sumW_cons, sumW_one r, List.length_cons]
    push_cast
    omega
end
abbrev PK := ByteArray × ByteArray
/-- Variables and procedures by what instructions name them with. -/
def gloX (x : ObjectD) : List (PK × Int) := x.globals.map fun g => ((x.module, g.name), glen g)
def glo (P : List ObjectD) : List (PK × Int) := P.flatMap gloX
def pairsX (x : ObjectD) : List PK := x.procs.map fun p => (x.module, p.name)
def pairs (P : List ObjectD) : List PK := P.flatMap pairsX
def pro (P : List ObjectD) : List (PK × Int) := (pairs P).map fun z => (z, 1)
theorem globIn_find (m mod name : ByteArray) (rest : List (PK × Int)) : ∀ (l : List GlobalD) (n : Int), pM.findW (l.map (fun g => ((m, g.name), glen g)) ++ rest) n (mod, name) = match globIn m mod name l n with | .inl k => some k | .inr n' => pM.findW rest n' (mod, name)
  | [], n => rfl
  | g :: r, n => by
    rw [List.map_cons, List.cons_append, MK.findW_cons]
    unfold globIn
    have e : pM.eq (mod, name) (m, g.name) = ((m.toList == mod.toList) && (g.name.toList == name.toList)) := by
      show (eqS mod m && eqS name g.name) = _
      rw [eqS_comm mod m, eqS_comm name g.name]
      rfl
    rw [e]
    by_cases c : ((m.toList == mod.toList) && (g.name.toList == name.toList)) = true
    · rw [if_pos c, if_pos c]
    · rw [if_neg c, if_neg c]
      exact globIn_find m mod name rest r _
theorem glo_find (mod name : ByteArray) : ∀ (P : List ObjectD) (n : Int), pM.findW (glo P) n (mod, name) = match globP mod name P n with | .inl k => some k | .inr _ => none
  | [], n => rfl
  | x :: r, n => by
    unfold glo globP
    rw [List.flatMap_cons]
    show pM.findW (x.globals.map (fun g => ((x.module, g.name), glen g)) ++ glo r) n (mod, name) = _
    rw [globIn_find]
    cases globIn x.module mod name x.globals n with
    | inl k => rfl
    | inr n' => exact glo_find mod name r n'
theorem gsum_W (m : ByteArray) : ∀ (l : List GlobalD) (n : Int), sumW (l.map fun g => (((m, g.name) : PK), glen g)) n = gsum l n
  | [], _ => rfl
  | g :: r, n => by
    rw [List.map_cons, gsum_cons, sumW_cons]
    exact gsum_W m r _
theorem glo_sum : ∀ (P : List ObjectD) (n : Int), sumW (glo P) n = gsumP P n
  | [], _ => rfl
  | x :: r, n => by
    unfold glo
    rw [List.flatMap_cons, sumW_app, gsumP_cons]
    show sumW (glo r) (sumW (x.globals.map fun g => (((x.module, g.name) : PK), glen g)) n) = _
    rw [gsum_W, glo_sum r]
theorem names_pairs (P : List ObjectD) : namesP P = (pairs P).map fun z => dotN z.1 z.2 := by
  unfold namesP pairs pnames pairsX
  induction P with
  | nil => rfl
  | cons x r ih =>
    rw [List.flatMap_cons, List.flatMap_cons, List.map_append, ← ih, List.map_map]
    rfl
theorem pairs_mod {P : List ObjectD} {z : PK} (h : z ∈ pairs P) : ∃ x ∈ P, z.1 = x.module := by
  unfold pairs at h
  obtain ⟨x, hx, hz⟩ := List.mem_flatMap.1 h
  unfold pairsX at hz
  obtain ⟨p, _, rfl⟩ := List.mem_map.1 hz
  exact ⟨x, hx, rfl⟩
theorem name_pair {P : List ObjectD} (hP : ∀ x ∈ P, nodot x.module) (y : InsD) (hy : nodot y.mod) : nameAt (namesP P) y = firstAt (fun z => pM.eq (y.mod, y.name) z) (pairs P) := by
  unfold nameAt
  rw [names_pairs, firstAt_map]
  refine firstAt_congr fun z hz => ?_
  obtain ⟨x, hx, e⟩ := pairs_mod hz
  rw [dot_inj (by rw [e]; exact hP x hx) hy, eqS_comm z.1, eqS_comm z.2]
  rfl
theorem pro_find {P : List ObjectD} (hP : ∀ x ∈ P, nodot x.module) (y : InsD) (hy : nodot y.mod) : pM.findW (pro P) 0 (y.mod, y.name) = (nameAt (namesP P) y).map fun i : Nat => (i : Int) := by
  unfold pro
  rw [findW_one, name_pair hP y hy]
  congr 1
  funext i
  omega
/-- Keys of modules that are apart, names apart within each: all are apart. -/
theorem keys_apart (f : ObjectD → List ByteArray) : ∀ {P : List ObjectD}, (P.map (·.module)).Nodup → (∀ x ∈ P, (f x).Nodup) → (P.flatMap fun x => (f x).map fun s => ((x.module, s) : PK)).Nodup
  | [], _, _ => List.nodup_nil
  | x :: r, h, hf => by
    rw [List.map_cons, List.nodup_cons] at h
    rw [List.flatMap_cons, List.nodup_append]
    refine ⟨?_, keys_apart f h.2 fun y hy => hf y (List.mem_cons_of_mem _ hy), ?_⟩
    · rw [List.Nodup, List.pairwise_map]
      exact (hf x (List.mem_cons_self ..)).imp fun hne e => hne (congrArg Prod.snd e)
    · intro a ha b hb e
      subst e
      obtain ⟨s, _, rfl⟩ := List.mem_map.1 ha
      obtain ⟨y, hy, hz⟩ := List.mem_flatMap.1 hb
      obtain ⟨t, _, e2⟩ := List.mem_map.1 hz
      exact h.1 (List.mem_map.2 ⟨y, hy, congrArg Prod.fst e2⟩)
/-- Objects whose names are apart and bear no dot. -/
structure Apart (P : List ObjectD) : Prop where
  mods : (P.map (·.module)).Nodup
  dots : ∀ x ∈ P, nodot x.module
  globs : ∀ x ∈ P, (x.globals.map (·.name)).Nodup
  procs : ∀ x ∈ P, (x.procs.map (·.name)).Nodup
  ins : ∀ x ∈ P, ∀ p ∈ x.procs, ∀ y ∈ p.list, y.op = 3 ∨ y.op = 13 → nodot y.mod
theorem Apart.glo {P : List ObjectD} (h : Apart P) : ((glo P).map Prod.fst).Nodup := by
  have := keys_apart (fun x => x.globals.map (·.name)) h.mods h.globs
  have e : (Go.Proofs.YtfbglokjehmgeaaGreatDoor.glo P).map Prod.fst = P.flatMap fun x => (x.globals.map (·.name)).map fun s => ((x.module, s) : PK) := by
    unfold Go.Proofs.YtfbglokjehmgeaaGreatDoor.glo
    rw [List.map_flatMap]
    congr 1
    funext x
    unfold gloX
    rw [List.map_map, List.map_map]
    rfl
  rw [e]
  exact this
theorem Apart.pairs {P : List ObjectD} (h : Apart P) : (pairs P).Nodup := by
  have := keys_apart (fun x => x.procs.map (·.name)) h.mods h.procs
  have e : Go.Proofs.YtfbglokjehmgeaaGreatDoor.pairs P = P.flatMap fun x => (x.procs.map (·.name)).map fun s => ((x.module, s) : PK) := by
    unfold Go.Proofs.YtfbglokjehmgeaaGreatDoor.pairs
    congr 1
    funext x
    unfold pairsX
    rw [List.map_map]
    rfl
  rw [e]
  exact this
theorem Apart.pro {P : List ObjectD} (h : Apart P) : ((pro P).map Prod.fst).Nodup := by
  unfold Go.Proofs.YtfbglokjehmgeaaGreatDoor.pro
  rw [List.map_map]
  have : (Prod.fst ∘ fun z : PK => (z, (1 : Int))) = id := rfl
  rw [this, List.map_id]
  exact h.pairs
/-- The two maps, when all is placed. -/
def cellsM (P : List ObjectD) : ML PK := pM.putW (glo P) [] 0
def procsM (P : List ObjectD) : ML PK := pM.putW (pro P) [] 0
theorem cellsM_get {P : List ObjectD} (h : Apart P) (mod name : ByteArray) : pM.get (cellsM P) (mod, name) = match globP mod name P 0 with | .inl k => some k | .inr _ => none := by
  unfold cellsM
  rw [MK.get_putW pM_ok _ _ _ _ h.glo, glo_find]
  cases globP mod name P 0 <;> rfl
theorem procsM_get {P : List ObjectD} (h : Apart P) (y : InsD) (hy : nodot y.mod) : pM.get (procsM P) (y.mod, y.name) = (nameAt (namesP P) y).map fun i : Nat => (i : Int) := by
  unfold procsM
  rw [MK.get_putW pM_ok _ _ _ _ h.pro, pro_find h.dots y hy]
  cases nameAt (namesP P) y <;> rfl
/-- What the program asks of an instruction, in the model's words. -/
theorem names_nothing {P : List ObjectD} (h : Apart P) (y : InsD) (hy : y.op = 3 ∨ y.op = 13 → nodot y.mod) : unk P (namesP P) y = (if y.op = 3 then !(pM.get (cellsM P) (y.mod, y.name)).isSome else if y.op = 13 then !(pM.get (procsM P) (y.mod, y.name)).isSome else false) := by
  unfold unk
  by_cases e : y.op = 3
  · rw [if_pos e, if_pos e, cellsM_get h]
    cases globP y.mod y.name P 0 <;> rfl
  · rw [if_neg e, if_neg e]
    by_cases e2 : y.op = 13
    · rw [if_pos e2, if_pos e2, procsM_get h y (hy (.inr e2))]
      cases nameAt (namesP P) y <;> rfl
    · rw [if_neg e2, if_neg e2]
theorem insR_maps {P : List ObjectD} (h : Apart P) (y : InsD) (hy : y.op = 3 ∨ y.op = 13 → nodot y.mod) (hk : unk P (namesP P) y = false) : insR P (namesP P) y = if y.op = 3 then ⟨1, (pM.get (cellsM P) (y.mod, y.name)).getD 0, 0, ⟨#[]⟩, ⟨#[]⟩⟩ else if y.op = 13 then ⟨13, (pM.get (procsM P) (y.mod, y.name)).getD 0, y.b, ⟨#[]⟩, ⟨#[]⟩⟩ else y := by
  unfold insR unk at *
  by_cases e : y.op = 3
  · rw [if_pos e] at hk
    rw [if_pos e, if_pos e, cellsM_get h]
    cases hg : globP y.mod y.name P 0 with
    | inl k => rfl
    | inr k => rw [hg] at hk; cases hk
  · rw [if_neg e] at hk
    rw [if_neg e, if_neg e]
    by_cases e2 : y.op = 13
    · rw [if_pos e2] at hk
      rw [if_pos e2, if_pos e2, procsM_get h y (hy (.inr e2))]
      cases hg : nameAt (namesP P) y with
      | some k => rfl
      | none => rw [hg] at hk; cases hk
    · rw [if_neg e2, if_neg e2]
end Go.Proofs.YtfbglokjehmgeaaGreatDoor

/- The program's linker in memory while it walks along needs; how it is made. No condition. -/
namespace Go.Proofs.YtfbglokjehmgeaaGreatDoor
open Go.ChangeShapes Go.WideShapes Go.ChangeAt Go.RowKit Go.Deep

/-- A row that is only read, below h. -/
def VRow {D : Type} (F : FlatK D) (w : World) (h : Nat) (v : Value) (l : List D) : Prop := ∃ a c, v = .slice a l.length c ∧ ∀ i (hi : i < l.length), ∃ gb of, a = some ⟨gb, of, none⟩ ∧ l.length ≤ c ∧ gb < h ∧ ∀ j, j < F.sz → w.cell? ⟨gb, of + i * F.sz + j, none⟩ = (F.cs l[i])[j]?
theorem VRow.on {D : Type} {F : FlatK D} {w w' : World} {h : Nat} {v : Value} {l : List D} (k : VRow F w h v l) (bel : Below h w w') : VRow F w' h v l := by
  obtain ⟨a, c, e, hr⟩ := k
  refine ⟨a, c, e, fun i hi => ?_⟩
  obtain ⟨gb, of, e, h1, h2, h3⟩ := hr i hi
  exact ⟨gb, of, e, h1, h2, fun j hj => (bel.cell (p := ⟨gb, _, none⟩) h2).trans (h3 j hj)⟩
/-- A code's value: its row holds its instructions. -/
def CVal (w : World) (h : Nat) (c : CV) : Prop := ∃ m : Md, m.hi ≤ h ∧ SlAt InsAt 5 w m c.2 c.1.list
theorem CVal.on {w w' : World} {h : Nat} {c : CV} (k : CVal w h c) (bel : Below h w w') : CVal w' h c := by
  obtain ⟨m, hm, k2⟩ := k
  exact ⟨m, hm, k2.on InsAt.stays (bel.mono hm)⟩
theorem code_vrow {w : World} {m : Md} {v : Value} {l : List CodeD} {h : Nat} (hs : SlAt CodeAt 5 w m v l) (hm : m.hi ≤ h) : ∃ cs : List CV, cs.map Prod.fst = l ∧ VRow codeK w h v cs ∧ ∀ c ∈ cs, CVal w h c := by
  obtain ⟨a, c, rfl, hr⟩ := hs
  have each : ∀ k, k < l.length → ∃ p : CV, l[k]? = some p.1 ∧ (∃ gb of, a = some ⟨gb, of, none⟩ ∧ l.length ≤ c ∧ gb < h ∧ ∀ j, j < 5 → w.cell? ⟨gb, of + k * 5 + j, none⟩ = (codeK.cs p)[j]?) ∧ CVal w h p := fun k hk => by
    obtain ⟨gb, of, e, g1, g2, -, ⟨d0, d1, d2, d3⟩, -, u, d4, s4⟩ := hr k hk
    refine ⟨⟨l[k], u⟩, List.getElem?_eq_getElem hk, ⟨gb, of, e, g1.2, by omega, fun j hj => ?_⟩, m.inner gb, by rw [Md.inner_hi]; exact hm, s4⟩
    have : j = 0 ∨ j = 1 ∨ j = 2 ∨ j = 3 ∨ j = 4 := by omega
    rcases this with rfl | rfl | rfl | rfl | rfl
    · exact d0
    · exact d1
    · exact d2
    · exact d3
    · exact d4
  have inh : Inhabited CV := ⟨⟨⟨⟨#[]⟩, 0, 0, 0, []⟩, undef⟩⟩
  obtain ⟨f, hf⟩ := choose_lt each
  have hlen : ((List.range l.length).map f).length = l.length := by simp
  refine ⟨(List.range l.length).map f, ?_, ⟨a, c, by rw [hlen], fun i hi => ?_⟩, fun p hp => ?_⟩
  · apply List.ext_getElem?
    intro i
    by_cases hi : i < l.length
    · rw [(hf i hi).1]
      simp [hi]
    · rw [List.getElem?_eq_none (by simp; omega), List.getElem?_eq_none (by omega)]
  · have hi' : i < l.length := by rw [hlen] at hi; exact hi
    obtain ⟨gb, of, e, h1, h2, h3⟩ := (hf i hi').2.1
    refine ⟨gb, of, e, by rw [hlen]; exact h1, h2, fun j hj => ?_⟩
    simp only [List.getElem_map, List.getElem_range]
    exact h3 j hj
  · obtain ⟨k, hk, rfl⟩ := List.mem_map.1 hp
    exact (hf k (List.mem_range.1 hk)).2.2
/-- An object's value: the data, where its rows lie, its codes' values. -/
structure OV where
  x : ObjectD
  u2 : Value
  u3 : Value
  u4 : Value
  cs : List CV
def objK : FlatK OV := ⟨48, 31, 5, 96, .agg #[.string ⟨#[]⟩, .int .i64 0, .slice none 0 0, .slice none 0 0, .slice none 0 0], fun p => [.string p.x.module, .int .i64 p.x.print, p.u2, p.u3, p.u4]⟩
theorem objOk : objK.Ok := ⟨by kernel_rfl, Tryz.underlying31, by decide, rfl, fun _ => rfl, by decide⟩
/-- Its rows hold the data, below h. -/
def OVal (w : World) (h : Nat) (p : OV) : Prop := ∃ m : Md, m.hi ≤ h ∧ SlAt NeedAt 2 w m p.u2 p.x.needs ∧ SlAt GlobalAt 2 w m p.u3 p.x.globals ∧ p.cs.map Prod.fst = p.x.procs ∧ VRow codeK w h p.u4 p.cs ∧ ∀ c ∈ p.cs, CVal w h c
theorem OVal.on {w w' : World} {h : Nat} {p : OV} (k : OVal w h p) (bel : Below h w w') : OVal w' h p := by
  obtain ⟨m, hm, k2, k3, k4, k5, k6⟩ := k
  exact ⟨m, hm, k2.on NeedAt.stays (bel.mono hm), k3.on GlobalAt.stays (bel.mono hm), k4, k5.on bel, fun c hc => (k6 c hc).on bel⟩
theorem OVal.len {w : World} {h : Nat} {p : OV} (k : OVal w h p) : p.cs.length = p.x.procs.length := by
  obtain ⟨-, -, -, -, k4, -⟩ := k
  rw [← k4, List.length_map]
theorem OVal.form {w : World} {h : Nat} {p : OV} (k : OVal w h p) : ∃ a2 c2 a3 c3 a4 c4, p.u2 = .slice a2 p.x.needs.length c2 ∧ p.u3 = .slice a3 p.x.globals.length c3 ∧ p.u4 = .slice a4 p.x.procs.length c4 := by
  have hl := k.len
  obtain ⟨m, -, ⟨a2, c2, e2, -⟩, ⟨a3, c3, e3, -⟩, -, ⟨a4, c4, e4, -⟩, -⟩ := k
  exact ⟨a2, c2, a3, c3, a4, c4, e2, e3, by rw [← hl]; exact e4⟩
/-- The list that came in: its values. -/
structure LV (w : World) (h : Nat) (a : Option Addr) (cp : Nat) (L : List ObjectD) (V : Nat → OV) : Prop where
  data : ∀ k (hk : k < L.length), (V k).x = L[k]
  row : ∀ k, k < L.length → ∃ gb of, a = some ⟨gb, of, none⟩ ∧ L.length ≤ cp ∧ gb < h ∧ (∀ j, j < 5 → w.cell? ⟨gb, of + k * 5 + j, none⟩ = (objK.cs (V k))[j]?)
  val : ∀ k, k < L.length → OVal w h (V k)
theorem LV.on {w w' : World} {h : Nat} {a : Option Addr} {cp : Nat} {L : List ObjectD} {V : Nat → OV} (k : LV w h a cp L V) (bel : Below h w w') : LV w' h a cp L V :=
  ⟨k.data, fun i hi => by
    obtain ⟨gb, of, e, h1, h2, h3⟩ := k.row i hi
    exact ⟨gb, of, e, h1, h2, fun j hj => (bel.cell (p := ⟨gb, _, none⟩) h2).trans (h3 j hj)⟩, fun i hi => (k.val i hi).on bel⟩
theorem LV.of_slat {w : World} {m : Md} {a : Option Addr} {cp : Nat} {L : List ObjectD} (h : SlAt ObjectAt 5 w m (.slice a L.length cp) L) : ∃ V, LV w m.hi a cp L V := by
  obtain ⟨a', c', e, hr⟩ := h
  cases e
  have each : ∀ k, k < L.length → ∃ p : OV, L[k]? = some p.x ∧ (∃ gb of, a = some ⟨gb, of, none⟩ ∧ L.length ≤ cp ∧ gb < m.hi ∧ (∀ j, j < 5 → w.cell? ⟨gb, of + k * 5 + j, none⟩ = (objK.cs p)[j]?)) ∧ OVal w m.hi p := fun k hk => by
    obtain ⟨gb, of, e, g1, g2, -, ⟨d0, d1⟩, -, u2, u3, u4, ⟨d2, d3, d4⟩, s2, s3, s4⟩ := hr k hk
    obtain ⟨cs, hcs, hrow, hval⟩ := code_vrow (h := m.hi) s4 (by rw [Md.inner_hi]; exact Nat.le_refl _)
    refine ⟨⟨L[k], u2, u3, u4, cs⟩, List.getElem?_eq_getElem hk, ⟨gb, of, e, g1.2, g2, fun j hj => ?_⟩, m.inner gb, by rw [Md.inner_hi]; exact Nat.le_refl _, s2, s3, hcs, hrow, hval⟩
    have : j = 0 ∨ j = 1 ∨ j = 2 ∨ j = 3 ∨ j = 4 := by omega
    rcases this with rfl | rfl | rfl | rfl | rfl
    · exact d0
    · exact d1
    · exact d2
    · exact d3
    · exact d4
  have inh : Inhabited OV := ⟨⟨OBn, undef, undef, undef, []⟩⟩
  obtain ⟨f, hf⟩ := choose_lt each
  exact ⟨f, fun k hk => by have := (hf k hk).1; rw [List.getElem?_eq_getElem hk] at this; exact (Option.some.inj this).symm, fun k hk => (hf k hk).2.1, fun k hk => (hf k hk).2.2⟩
/-- How far each object is: 0, open, done. -/
def stAt (L : List ObjectD) (o : List Nat) (opn : List ByteArray) (k : Nat) : Int := if o.contains k then 2 else if ((L[k]?).elim false fun x => (firstAt (fun z => eqS z x.module) opn).isSome) then 1 else 0
theorem stAt_in {L : List ObjectD} {o : List Nat} {opn : List ByteArray} {k : Nat} (h : k < L.length) : stAt L o opn k = if o.contains k = true then 2 else if (firstAt (fun z => eqS z L[k].module) opn).isSome = true then 1 else 0 := by
  unfold stAt
  rw [List.getElem?_eq_getElem h]
  rfl
def stOf (L : List ObjectD) (o : List Nat) (opn : List ByteArray) : List Int := (List.range L.length).map (stAt L o opn)
theorem stOf_len (L : List ObjectD) (o : List Nat) (opn : List ByteArray) : (stOf L o opn).length = L.length := by simp [stOf]
theorem stOf_at (L : List ObjectD) (o : List Nat) (opn : List ByteArray) (k : Nat) (h : k < (stOf L o opn).length) : (stOf L o opn)[k] = stAt L o opn k := by simp [stOf]
/-- No two are of one module. -/
def Dist (L : List ObjectD) : Prop := ∀ i j (hi : i < L.length) (hj : j < L.length), L[i].module = L[j].module → i = j
theorem firstAt_snoc (z y : ByteArray) : ∀ l : List ByteArray, (firstAt (fun t => eqS t z) (l ++ [y])).isSome = ((firstAt (fun t => eqS t z) l).isSome || eqS y z)
  | [] => by
    simp only [List.nil_append, firstAt]
    cases eqS y z <;> rfl
  | x :: r => by
    rw [List.cons_append]
    unfold firstAt
    by_cases e : eqS x z = true
    · rw [if_pos e, if_pos e]
      rfl
    · rw [if_neg e, if_neg e, Option.isSome_map, Option.isSome_map]
      exact firstAt_snoc z y r
theorem st_open {L : List ObjectD} {o : List Nat} {opn : List ByteArray} {k : Nat} (hD : Dist L) (hk : k < L.length) (hn : k ∉ o) : stOf L o (opn ++ [L[k].module]) = (stOf L o opn).set k 1 := by
  apply List.ext_getElem
  · rw [List.length_set, stOf_len, stOf_len]
  · intro i h1 h2
    rw [stOf_len] at h1
    rw [List.getElem_set, stOf_at, stOf_at, stAt_in h1, stAt_in h1, firstAt_snoc]
    by_cases e : k = i
    · subst e
      rw [if_pos rfl, if_neg (by simpa using hn), if_pos (by rw [eqS_iff.2 rfl, Bool.or_true])]
    · rw [if_neg e]
      have : eqS L[k].module L[i].module = false := eqS_no.2 fun h => e (hD k i hk h1 h)
      rw [this, Bool.or_false]
theorem st_done {L : List ObjectD} {o : List Nat} {opn : List ByteArray} {k : Nat} (hD : Dist L) (hk : k < L.length) : stOf L (o ++ [k]) opn = (stOf L o (opn ++ [L[k].module])).set k 2 := by
  apply List.ext_getElem
  · rw [List.length_set, stOf_len, stOf_len]
  · intro i h1 h2
    rw [stOf_len] at h1
    rw [List.getElem_set, stOf_at, stOf_at, stAt_in h1, stAt_in h1, firstAt_snoc]
    by_cases e : k = i
    · subst e
      rw [if_pos rfl, if_pos (by simp)]
    · rw [if_neg e]
      have e2 : (o ++ [k]).contains i = o.contains i := by
        rw [Bool.eq_iff_iff]
        simp [Ne.symm e]
      have : eqS L[k].module L[i].module = false := eqS_no.2 fun h => e (hD k i hk h1 h)
      rw [e2, this, Bool.or_false]
/-- The modules by their names. -/
def numL (L : List ObjectD) : List (ByteArray × Int) := L.map fun x => (x.module, 1)
def numM (L : List ObjectD) : ML ByteArray := sM.putW (numL L) [] 0
theorem firstAt_obj (s : ByteArray) : ∀ L : List ObjectD, firstAt (fun z => eqS s z) (L.map (·.module)) = objAt L s
  | [] => rfl
  | x :: r => by
    rw [List.map_cons]
    unfold firstAt objAt
    rw [eqS_comm s, firstAt_obj s r]
theorem Dist.nodup {L : List ObjectD} (h : Dist L) : (L.map (·.module)).Nodup := by
  rw [List.Nodup, List.pairwise_map, List.pairwise_iff_getElem]
  intro i j hi hj hij e
  exact absurd (h i j hi hj e) (by omega)
theorem numM_get {L : List ObjectD} (h : Dist L) (s : ByteArray) : sM.get (numM L) s = (objAt L s).map fun k : Nat => (k : Int) := by
  unfold numM
  rw [MK.get_putW sM_ok _ _ _ _ (by unfold numL; rw [List.map_map]; exact h.nodup)]
  have e : numL L = (L.map (·.module)).map fun z => (z, 1) := by unfold numL; rw [List.map_map]; rfl
  rw [e, findW_one]
  have := firstAt_obj s L
  show (match ((firstAt (fun z => eqS s z) (L.map (·.module))).map fun i : Nat => (0 : Int) + (i : Int)) with | some v => some v | none => none) = _
  rw [this]
  cases objAt L s with
  | none => rfl
  | some k => simp
theorem numM_step {L : List ObjectD} {k : Nat} (h : k < L.length) : sM.putW (numL (L.take (k + 1))) [] 0 = sM.put (sM.putW (numL (L.take k)) [] 0) L[k].module k := by
  unfold numL
  rw [List.take_succ_eq_append_getElem h, List.map_append, MK.putW_app]
  have : sumW ((L.take k).map fun x => ((x.module, 1) : ByteArray × Int)) 0 = (k : Int) := by
    have e : ((L.take k).map fun x => ((x.module, 1) : ByteArray × Int)) = ((L.take k).map (·.module)).map fun z => (z, 1) := by rw [List.map_map]; rfl
    rw [e, sumW_one, List.length_map, List.length_take]
    have : min k L.length = k := Nat.min_eq_left (by omega)
    rw [this]
    omega
  rw [this]
  rfl
/-- The program's linker in block b. -/
def NS (w : World) (b B b1 gs : Nat) (lv : Value) (ys : List Value) (L : List ObjectD) (V : Nat → OV) (o : List Nat) (opn : List ByteArray) : Prop :=
  ∃ kv x4 x5 x6 x7, ys = [x4, x5, x6, x7] ∧ w.heap[b]? = some (.cells #[lv, .map (some b1), .slice (some ⟨gs, 0, none⟩) L.length L.length, kv, x4, x5, x6, x7] 106 (0, 0)) ∧ GM sM w b1 (numM L) ∧ FRow zK w B (.slice (some ⟨gs, 0, none⟩) L.length L.length) (stOf L o opn) ∧ FRow objK w B kv (o.map V)
/-- Of what was there the linker's block has turned, its states, its row of objects. -/
def OffO (B : Nat) (w : World) (k : Nat) : Prop := k < B ∨ ∀ C fr, w.heap[k]? ≠ some (.cells C 48 fr)
structure Fn (b B gs : Nat) (w w' : World) : Prop where
  os : w'.os = w.os
  tape : w'.tape = w.tape
  output : w'.output = w.output
  size : w.heap.size ≤ w'.heap.size
  block : ∀ k, k < w.heap.size → k ≠ b → k ≠ gs → OffO B w k → w'.heap[k]? = w.heap[k]?
theorem Fn.refl (b B gs : Nat) (w : World) : Fn b B gs w w := ⟨rfl, rfl, rfl, Nat.le_refl _, fun _ _ _ _ _ => rfl⟩
theorem Fn.trans {b B gs : Nat} {x y z : World} (h : Fn b B gs x y) (k : Fn b B gs y z) : Fn b B gs x z := ⟨k.os.trans h.os, k.tape.trans h.tape, k.output.trans h.output, Nat.le_trans h.size k.size, fun i h1 h2 h3 h4 => by
  have e := h.block i h1 h2 h3 h4
  refine (k.block i (Nat.lt_of_lt_of_le h1 h.size) h2 h3 ?_).trans e
  rcases h4 with h4 | h4
  · exact .inl h4
  · exact .inr fun C fr => by rw [e]; exact h4 C fr⟩
theorem Fn.of_below {b B gs : Nat} {w w' : World} (h : Below w.heap.size w w') : Fn b B gs w w' := ⟨h.os, h.tape, h.output, h.size, fun k hk _ _ _ => h.block k hk⟩
theorem Fn.set (b B gs : Nat) (w : World) (o : Nat) (v : Value) : Fn b B gs w (w.setCell ⟨b, o, none⟩ v) := ⟨rfl, rfl, rfl, by simp [World.setCell], fun k _ hk _ _ => Below.heap_setCell _ _ _ _ hk⟩
theorem Fn.setS (b B gs : Nat) (w : World) (o : Nat) (v : Value) : Fn b B gs w (w.setCell ⟨gs, o, none⟩ v) := ⟨rfl, rfl, rfl, by simp [World.setCell], fun k _ _ hk _ => Below.heap_setCell _ _ _ _ hk⟩
theorem Fn.below {b B gs K : Nat} {w w' : World} (h : Fn b B gs w w') (hb : K ≤ b) (hg : K ≤ gs) (hB : K ≤ B) (hK : K ≤ w.heap.size) : Below K w w' := ⟨h.os, h.tape, h.output, h.size, fun k hk => h.block k (by omega) (by omega) (by omega) (.inl (by omega))⟩
theorem Fn.grown {b B gs : Nat} {w w' : World} {v : Value} {l : List OV} (hr : FRow objK w B v l) (g : w.grownBy w' v.ownBlock) : Fn b B gs w w' := ⟨g.os, g.tape, g.output, g.size, fun k hk _ _ h4 => g.block k hk fun e => by
  rcases h4 with h4 | h4
  · exact hr.far h4 e
  · obtain ⟨C, hC⟩ := hr.ty e.symm
    exact h4 C _ hC⟩
/-- The world when the linker is made, before its modules are numbered. -/
def linker0 (w : World) (lv : Value) (n : Nat) : World :=
  ((((w.alloc (.map #[] 0)).alloc (.cells (madeCells #[.int .i64 0] (n * 1)) 3)).alloc (.map #[] 0)).alloc (.map #[] 0)).alloc (.cells #[lv, .map (some w.heap.size), .slice (some ⟨w.heap.size + 1, 0, none⟩) n n, .slice none 0 0, .int .i64 0, .map (some (w.heap.size + 1 + 1)), .map (some (w.heap.size + 1 + 1 + 1)), .slice none 0 0] 106)
theorem linker0_facts (w : World) (lv : Value) (n : Nat) : Below w.heap.size w (linker0 w lv n) ∧ (linker0 w lv n).heap.size = w.heap.size + 1 + 1 + 1 + 1 + 1 ∧ (linker0 w lv n).heap[w.heap.size]? = some (.map #[] 0) ∧ (linker0 w lv n).heap[w.heap.size + 1]? = some (.cells (madeCells #[.int .i64 0] (n * 1)) 3 (0, 0)) ∧ (linker0 w lv n).heap[w.heap.size + 1 + 1]? = some (.map #[] 0) ∧ (linker0 w lv n).heap[w.heap.size + 1 + 1 + 1]? = some (.map #[] 0) ∧
    (linker0 w lv n).heap[w.heap.size + 1 + 1 + 1 + 1]? = some (.cells #[lv, .map (some w.heap.size), .slice (some ⟨w.heap.size + 1, 0, none⟩) n n, .slice none 0 0, .int .i64 0, .map (some (w.heap.size + 1 + 1)), .map (some (w.heap.size + 1 + 1 + 1)), .slice none 0 0] 106 (0, 0)) := by
  have key : ∀ (x : World) (o : Obj) (k : Nat), k < x.heap.size → (x.alloc o).heap[k]? = x.heap[k]? := fun x o k hk => Below.heap_alloc _ _ _ hk
  refine ⟨?_, by unfold linker0; simp, ?_, ?_, ?_, ?_, ?_⟩
  · unfold linker0
    exact (((((Below.refl _ _).alloc (Nat.le_refl _) _).alloc (by simp) _).alloc (by simp <;> omega) _).alloc (by simp <;> omega) _).alloc (by simp <;> omega) _
  · unfold linker0
    rw [key _ _ _ (by simp <;> omega), key _ _ _ (by simp <;> omega), key _ _ _ (by simp <;> omega), key _ _ _ (by simp)]
    exact Deep.blk_alloc_new w (.map #[] 0)
  · unfold linker0
    rw [key _ _ _ (by simp <;> omega), key _ _ _ (by simp <;> omega), key _ _ _ (by simp)]
    have := Deep.blk_alloc_new (w.alloc (.map #[] 0)) (.cells (madeCells #[.int .i64 0] (n * 1)) 3)
    rwa [World.size_alloc] at this
  · unfold linker0
    rw [key _ _ _ (by simp <;> omega), key _ _ _ (by simp)]
    have := Deep.blk_alloc_new ((w.alloc (.map #[] 0)).alloc (.cells (madeCells #[.int .i64 0] (n * 1)) 3)) (.map #[] 0)
    rwa [World.size_alloc, World.size_alloc] at this
  · unfold linker0
    rw [key _ _ _ (by simp)]
    have := Deep.blk_alloc_new (((w.alloc (.map #[] 0)).alloc (.cells (madeCells #[.int .i64 0] (n * 1)) 3)).alloc (.map #[] 0)) (.map #[] 0)
    rwa [World.size_alloc, World.size_alloc, World.size_alloc] at this
  · unfold linker0
    have := Deep.blk_alloc_new ((((w.alloc (.map #[] 0)).alloc (.cells (madeCells #[.int .i64 0] (n * 1)) 3)).alloc (.map #[] 0)).alloc (.map #[] 0)) (.cells #[lv, .map (some w.heap.size), .slice (some ⟨w.heap.size + 1, 0, none⟩) n n, .slice none 0 0, .int .i64 0, .map (some (w.heap.size + 1 + 1)), .map (some (w.heap.size + 1 + 1 + 1)), .slice none 0 0] 106)
    rwa [World.size_alloc, World.size_alloc, World.size_alloc, World.size_alloc] at this
end Go.Proofs.YtfbglokjehmgeaaGreatDoor

namespace Go.Proofs.YtfbglokjehmgeaaGreatDoor
open Go.ChangeShapes Go.WideShapes Go.ChangeAt Go.RowKit Go.Deep

theorem madeCells_int (n : Nat) : (madeCells #[.int .i64 0] (n * 1)).toList = List.replicate n (Value.int .i64 0) := by
  apply List.ext_getElem
  · simp [madeCells]
  · intro i h1 h2
    simp [madeCells, Nat.mod_one]
theorem all_zero (L : List ObjectD) : zK.all (stOf L [] []) = List.replicate L.length (Value.int .i64 0) := by
  unfold FlatK.all stOf
  rw [List.flatMap_map]
  apply List.ext_getElem?
  intro i
  have e : (List.range L.length).flatMap (fun a => zK.cs (stAt L [] [] a)) = List.replicate L.length (Value.int .i64 0) := by
    have : ∀ l : List Nat, (∀ k ∈ l, k < L.length) → l.flatMap (fun a => zK.cs (stAt L [] [] a)) = List.replicate l.length (Value.int .i64 0) := by
      intro l
      induction l with
      | nil => intro _; rfl
      | cons k r ih =>
        intro h
        rw [List.flatMap_cons, ih fun j hj => h j (List.mem_cons_of_mem _ hj), List.length_cons, List.replicate_succ, stAt_in (h k (List.mem_cons_self ..))]
        rfl
    have h := this (List.range L.length) fun k hk => List.mem_range.1 hk
    rwa [List.length_range] at h
  rw [e]
theorem states_made (w : World) (g B : Nat) (L : List ObjectD) (hB : B ≤ g) (hn : L.length ≤ maxLen) (h : w.heap[g]? = some (.cells (madeCells #[.int .i64 0] (L.length * 1)) 3 (0, 0))) : FRow zK w B (.slice (some ⟨g, 0, none⟩) L.length L.length) (stOf L [] []) := by
  refine ⟨by rw [all_zero, List.length_replicate, stOf_len]; exact (Nat.mul_one _).symm, .inr ⟨g, L.length, _, by rw [stOf_len], hB, h, by rw [stOf_len]; exact Nat.le_refl _, hn, by rw [size_madeCells]; rfl, ?_⟩⟩
  rw [all_zero, stOf_len, madeCells_int]
  show List.take (L.length * 1) _ = _
  rw [List.take_of_length_le (by simp)]
set_option maxRecDepth 20000 in
set_option maxHeartbeats 8000000 in
theorem newLinker_any (a : Option Addr) (cp h : Nat) (L : List ObjectD) (V : Nat → OV) (w : World) (hV : LV w h a cp L V) (hh : h ≤ w.heap.size) (hn : L.length ≤ 1000) :
    Calls Tryz.prog 21 #[.slice a L.length cp] w fun e w' => e = .returned (.pointer (some ⟨w.heap.size + 1 + 1 + 1 + 1, 0, none⟩)) ∧ NS w' (w.heap.size + 1 + 1 + 1 + 1) w.heap.size w.heap.size (w.heap.size + 1) (.slice a L.length cp) [.int .i64 0, .map (some (w.heap.size + 1 + 1)), .map (some (w.heap.size + 1 + 1 + 1)), .slice none 0 0] L V [] [] ∧
      GM pM w' (w.heap.size + 1 + 1) [] ∧ GM pM w' (w.heap.size + 1 + 1 + 1) [] ∧ Below w.heap.size w w' := by
  obtain ⟨n, hl⟩ : ∃ n, L.length = n := ⟨_, rfl⟩
  have HN := hide hl
  have HV := hide hV
  obtain ⟨q1, q2, q3, q4, q5, q6, q7⟩ := linker0_facts w (.slice a L.length cp) L.length
  obtain ⟨w0, hw0⟩ : ∃ w0, linker0 w (.slice a L.length cp) L.length = w0 := ⟨_, rfl⟩
  rw [hw0] at q1 q2 q3 q4 q5 q6 q7
  have HG4 := hide (states_made w0 (w.heap.size + 1) w.heap.size L (Nat.le_succ _) (by unfold maxLen; omega) q4)
  rw [hl] at q4 q7 hw0 hn ⊢
  have H1 := hide q1
  have H2 := hide q2
  have H7 := hide q7
  have HM0 : Hid (GM sM w0 w.heap.size (sM.putW (numL (L.take 0)) [] 0)) := hide ⟨#[], 0, q3, rfl⟩
  have HM5 : Hid (GM pM w0 (w.heap.size + 1 + 1) []) := hide ⟨#[], 0, q5, rfl⟩
  have HM6 : Hid (GM pM w0 (w.heap.size + 1 + 1 + 1) []) := hide ⟨#[], 0, q6, rfl⟩
  have hmk : ∀ w' : World, (Instr.makeMap 98 none).run Tryz.prog w' = .ok (.map (some w'.heap.size)) (w'.alloc (.map #[] 0)) := fun w' => by simp [Instr.makeMap, Result.andThen]
  have hmp : ∀ w' : World, (Instr.makeMap 104 none).run Tryz.prog w' = .ok (.map (some w'.heap.size)) (w'.alloc (.map #[] 0)) := fun w' => by simp [Instr.makeMap, Result.andThen]
  have hms := fun w' : World => run_make_many (P := Tryz.prog) 26 3 (.int .i64 0) 1 8 Tryz.underlying26 (by kernel_rfl) n (by omega) (by omega) w'
  have HW0 := hide hw0
  have hcell7 := (heapCells q7).1 1
  clear q1 q2 q3 q4 q5 q6 q7 hl hV
  unfold linker0 at hw0
  have hmc : (Value.int .i64 0).cells = #[Value.int .i64 0] := rfl
  rw [hmc] at hms
  go_enter Tryz.func21, Tryz.ntmps21
  go_upto_region 2 with fail
  simp only [Nat.mul_one] at hw0
  rw [hw0]
  clear hw0 hmk hmp hms hmc
  go_wp2_with fail
  go_loopw [17] (fun i wr => ∃ k : Nat, i = .int .i64 k ∧ k ≤ n ∧ Hid (GM sM wr w.heap.size (sM.putW (numL (L.take k)) [] 0)) ∧ Hid (w0.grownBy wr (some w.heap.size))) (fun i _ => n - (intOf i).toNat)
  case atStart => exact ⟨0, rfl, by omega, HM0, hide ⟨rfl, rfl, rfl, Nat.le_refl _, fun _ _ _ => rfl⟩⟩
  case round =>
    obtain ⟨k, rfl, hk, HM, HG⟩ := hrel
    have h05 : w.heap.size + 1 + 1 + 1 + 1 + 1 ≤ wr.heap.size := by have h1 := HG.out.size; have h2 := H2.out; omega
    have hbW : Below w.heap.size w wr := H1.out.trans ⟨HG.out.os, HG.out.tape, HG.out.output, HG.out.size, fun j hj => HG.out.block j (by have := H2.out; omega) (fun e => by cases e; omega)⟩
    have h7 := (HG.out.block (w.heap.size + 1 + 1 + 1 + 1) (by have := H2.out; omega) (fun e => by have := Option.some.inj e; omega)).trans H7.out
    have e1 : wr.cell? ⟨w.heap.size + 1 + 1 + 1 + 1, 1, none⟩ = some (.map (some w.heap.size)) := (heapCells h7).1 1
    by_cases hp : k < n
    · have i1 : (k : Int) < n := by omega
      have hkL : k < L.length := by rw [HN.out]; exact hp
      have hVr := HV.out.on (hbW.mono hh)
      obtain ⟨gb, of, rfl, g1, g2, g3⟩ := hVr.row k hkL
      rw [HN.out] at g1
      obtain ⟨a2, c2, a3, c3, a4, c4, p2, p3, p4⟩ := (hVr.val k hkL).form
      have d0 : wr.cell? ⟨gb, of + k * 5, none⟩ = some (.string (V k).x.module) := g3 0 (by decide)
      have d1 : wr.cell? ⟨gb, of + k * 5 + 1, none⟩ = some (.int .i64 (V k).x.print) := g3 1 (by decide)
      have d2 : wr.cell? ⟨gb, of + k * 5 + 2, none⟩ = some (V k).u2 := g3 2 (by decide)
      have d3 : wr.cell? ⟨gb, of + k * 5 + 3, none⟩ = some (V k).u3 := g3 3 (by decide)
      have d4 : wr.cell? ⟨gb, of + k * 5 + 4, none⟩ = some (V k).u4 := g3 4 (by decide)
      rw [p2] at d2
      rw [p3] at d3
      rw [p4] at d4
      have HX := hide (hVr.data k hkL)
      obtain ⟨mo, hmo⟩ : ∃ q, (V k).x.module = q := ⟨_, rfl⟩
      obtain ⟨pr, hpr⟩ : ∃ q, (V k).x.print = q := ⟨_, rfl⟩
      obtain ⟨n2, hn2⟩ : ∃ q, (V k).x.needs.length = q := ⟨_, rfl⟩
      obtain ⟨n3, hn3⟩ : ∃ q, (V k).x.globals.length = q := ⟨_, rfl⟩
      obtain ⟨n4, hn4⟩ : ∃ q, (V k).x.procs.length = q := ⟨_, rfl⟩
      rw [hmo] at d0
      rw [hpr] at d1
      rw [hn2] at d2
      rw [hn3] at d3
      rw [hn4] at d4
      have HMo := hide hmo
      clear hmo hpr hn2 hn3 hn4 p2 p3 p4 g3 hVr
      go_upto_region 5 with fail
      obtain ⟨W5, hW5⟩ : ∃ W5, wr.alloc (.cells #[.string mo, .int .i64 pr, .slice a2 n2 c2, .slice a3 n3 c3, .slice a4 n4 c4] 48) = W5 := ⟨_, rfl⟩
      have b5 : Below wr.heap.size wr W5 := by rw [← hW5]; exact (Below.refl _ _).alloc (Nat.le_refl _) _
      have x5 := Deep.blk_alloc_new wr (.cells #[.string mo, .int .i64 pr, .slice a2 n2 c2, .slice a3 n3 c3, .slice a4 n4 c4] 48)
      rw [hW5] at x5
      have k0 : W5.cell? ⟨wr.heap.size, 0, none⟩ = some (.string mo) := (heapCells x5).1 0
      have k1 := (b5.cell (p := ⟨w.heap.size + 1 + 1 + 1 + 1, 1, none⟩) (by show w.heap.size + 1 + 1 + 1 + 1 < wr.heap.size; omega)).trans e1
      obtain ⟨w9, hput, hM9, hg9, -⟩ := GM.put sM_ok (show GM sM W5.drew w.heap.size (sM.putW (numL (L.take k)) [] 0) from HM.out.on (b5.block _ (by omega))) mo (k : Int)
      rw [hW5]
      have hput' : (Instr.mapUpdate 98 (.map (some w.heap.size)) (.string mo) (.int .i64 (k : Int))).run Tryz.prog W5.drew = .ok () w9 := hput
      have HM9 : Hid (GM sM w9 w.heap.size (sM.putW (numL (L.take (k + 1))) [] 0)) := hide (by
        rw [numM_step hkL, ← HX.out, HMo.out]
        exact hM9)
      have HG9 : Hid (w0.grownBy w9 (some w.heap.size)) := hide ⟨hg9.os.trans (b5.os.trans HG.out.os), hg9.tape.trans (b5.tape.trans HG.out.tape), hg9.output.trans (b5.output.trans HG.out.output), Nat.le_trans HG.out.size (Nat.le_trans b5.size hg9.size), fun j hj hjb => (hg9.block j (by have h1 := HG.out.size; have h2 := b5.size; show j < W5.heap.size; omega) hjb).trans ((b5.block j (by have := HG.out.size; omega)).trans (HG.out.block j hj hjb))⟩
      clear hput hM9 hg9 b5 x5 hW5 d0 d1 d2 d3 d4 h7 e1
      go_region
      go_wp2
      go_roundw
      case rel => exact ⟨k + 1, by go_num, by omega, HM9, HG9⟩
      case measure => simp [intOf]; omega
    · have i1 : ¬ (k : Int) < n := by omega
      obtain rfl : k = n := by omega
      go_wp2
      go_ret
      have key : ∀ j, j ≠ w.heap.size → j < w.heap.size + 1 + 1 + 1 + 1 + 1 → wr.heap[j]? = w0.heap[j]? := fun j hj hj2 => HG.out.block j (by have := H2.out; omega) (fun e => hj (Option.some.inj e))
      refine ⟨rfl, ⟨_, _, _, _, _, rfl, ?_, ?_, ?_, FRow.nil _ _ _⟩, ?_, ?_, hbW⟩
      · rw [HN.out]; exact h7
      · have := HM.out
        rw [List.take_of_length_le (by rw [HN.out]; exact Nat.le_refl _)] at this
        exact this
      · refine HG4.out.of_heap fun j hj hjs ⟨C, hC⟩ => HG.out.block j hjs fun e => ?_
        obtain ⟨es, cl, hm, -⟩ := HM0.out
        rw [Option.some.inj e, hm] at hC
        cases hC
      · exact HM5.out.on (key _ (by omega) (by omega))
      · exact HM6.out.on (key _ (by omega) (by omega))
end Go.Proofs.YtfbglokjehmgeaaGreatDoor
