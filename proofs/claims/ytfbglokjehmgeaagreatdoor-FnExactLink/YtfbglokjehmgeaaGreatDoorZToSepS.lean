/- The law's copies of objects: their rows lie apart, each behind the one ahead. No condition. -/
import Derived.Test.YtfbglokjehmgeaaGreatDoorZMapG
import Derived.Test.YtfbglokjehmgeaaGreatDoorZLnL
import Derived.Test.YtfbglokjehmgeaaGreatDoorZObjEq
/- What Link answers, as an image's data; it is small. No condition. -/
namespace Go.Proofs.YtfbglokjehmgeaaGreatDoor
open Go.ChangeShapes Go.WideShapes Go.ChangeAt Go.RowKit Go.Deep

def imD (L : List ObjectD) (o : List Nat) : ImageD := ⟨gsumP (objsOf L o) 0, codesR (objsOf L o) (namesP (objsOf L o)) (objsOf L o), namesP (objsOf L o), starts (objsOf L o) 0⟩
def resD (L : List ObjectD) : Res → ImageD
  | .inl _ => ⟨0, [], [], []⟩
  | .inr o => imD L o
def resT : Res → ByteArray
  | .inl p => p.2
  | .inr _ => ⟨#[]⟩
def resN : Res → Int
  | .inl p => p.1
  | .inr _ => 0
theorem link_form {L : List ObjectD} {R : Res} {w w' : World} {e : Ending} (h : LinkPost L w R e w') : (∃ qa ql qc na nl nc sa sl sc, e = .returned (.tuple #[.agg #[.int .i64 (resD L R).globals, .slice qa ql qc, .slice na nl nc, .slice sa sl sc], .string (resT R), .int .i64 (resN R)]) ∧ Hid (IRows w' w.heap.size (.slice qa ql qc) (.slice na nl nc) (.slice sa sl sc) (resD L R).procs (resD L R).names (resD L R).start)) ∧ Below w.heap.size w w' := by
  obtain ⟨b, h⟩ := h
  refine ⟨?_, b⟩
  cases R with
  | inl p =>
    obtain ⟨c, t⟩ := p
    exact ⟨none, 0, 0, none, 0, 0, none, 0, 0, h, hide ⟨⟨[], rfl, KRow.nil _ _⟩, FRow.nil _ _ _, FRow.nil _ _ _⟩⟩
  | inr o =>
    obtain ⟨qa, ql, qc, na, nl, nc, sa, sl, sc, e, hr⟩ := h
    exact ⟨qa, ql, qc, na, nl, nc, sa, sl, sc, e, hide hr⟩
theorem linkF_inr {L : List ObjectD} {main : ByteArray} {o : List Nat} (e : linkF L main = .inr o) : Fine L.length o := by
  unfold linkF at e
  cases hv : visD L (L.length + 1) main [] [] with
  | inl ct => rw [hv] at e; cases e
  | inr o' =>
    rw [hv] at e
    have hfine : Fine L.length o' := (vis_good (g := L.length + 1) ⟨⟨List.nodup_nil, fun k hk => by cases hk⟩, fun z hz => by cases hz⟩ hv).1
    have e2 : linkO L main o' = .inr o := e
    unfold linkO at e2
    split at e2
    · cases e2
    · split at e2
      · cases e2
      · split at e2
        · cases e2
        · cases e2
          exact hfine
theorem linkR_inr {L : List ObjectD} {main : ByteArray} {o : List Nat} (e : linkR L main = .inr o) : L.length ≤ 20 ∧ allOk objB L L.length ∧ Fine L.length o := by
  obtain ⟨r1, r2, r3, r4⟩ := linkR_all L main
  by_cases h1 : 4096 < L.length ∨ 65536 < main.size
  · rw [r1 h1] at e; cases e
  · by_cases h2 : 20 < L.length
    · rw [r2 h1 h2] at e; cases e
    · by_cases h3 : allOk objB L L.length
      · rw [r4 h1 h2 h3] at e
        exact ⟨by omega, h3, linkF_inr e⟩
      · rw [r3 h1 h2 h3] at e; cases e
theorem globIn_le {m mod name : ByteArray} : ∀ {l : List GlobalD} {n k : Int}, 0 ≤ n → (∀ g ∈ l, 0 ≤ g.length ∧ g.length ≤ 100) → globIn m mod name l n = .inl k → 0 ≤ k ∧ k ≤ n + 100 * l.length
  | [], n, k, _, _, e => by unfold globIn at e; cases e
  | g :: r, n, k, h, hb, e => by
    unfold globIn at e
    have hg := hb g (List.mem_cons_self ..)
    have hl : 1 ≤ glen g ∧ glen g ≤ 100 := by unfold glen; split <;> omega
    simp only [List.length_cons]
    split at e
    · cases e; omega
    · have := globIn_le (by omega) (fun x hx => hb x (List.mem_cons_of_mem _ hx)) e
      omega
theorem foundI_le {mod name : ByteArray} : ∀ {P : List ObjectD} {n : Int}, 0 ≤ n → (∀ x ∈ P, Tiny x) → -1 ≤ foundI (globP mod name P n) ∧ foundI (globP mod name P n) ≤ n + 10000 * (P.length : Int)
  | [], n, h, _ => by
    show -1 ≤ (-1 : Int) ∧ (-1 : Int) ≤ _
    simp only [List.length_nil]
    omega
  | x :: r, n, h, ht => by
    unfold globP
    have hx := ht x (List.mem_cons_self ..)
    have hl := hx.globs
    have hb : ∀ g ∈ x.globals, 0 ≤ g.length ∧ g.length ≤ 100 := fun g hg => (hx.gnames g hg).2
    simp only [List.length_cons]
    cases hg : globIn x.module mod name x.globals n with
    | inl k =>
      have := globIn_le h hb hg
      show -1 ≤ k ∧ k ≤ _
      omega
    | inr n' =>
      have := globIn_bound x.module mod name x.globals n h hb n' hg
      have ih := foundI_le (mod := mod) (name := name) (P := r) (n := n') (by omega) fun y hy => ht y (List.mem_cons_of_mem _ hy)
      show -1 ≤ foundI (globP mod name r n') ∧ foundI (globP mod name r n') ≤ _
      omega
theorem idxI_le {P : List ObjectD} (ht : ∀ x ∈ P, Tiny x) (y : InsD) : -1 ≤ idxI (nameAt (namesP P) y) ∧ idxI (nameAt (namesP P) y) ≤ 60 * (P.length : Int) := by
  cases h : nameAt (namesP P) y with
  | none => show -1 ≤ (-1 : Int) ∧ (-1 : Int) ≤ _; omega
  | some k =>
    obtain ⟨hk, -⟩ := firstAt_some h
    have := namesP_len ht
    show -1 ≤ (k : Int) ∧ (k : Int) ≤ _
    omega
theorem starts_le : ∀ {Q : List ObjectD} {k : Nat}, (∀ x ∈ Q, Tiny x) → ∀ s ∈ starts Q k, -1 ≤ s ∧ s ≤ (k : Int) + 60 * (Q.length : Int)
  | [], k, _, s, hs => by cases hs
  | x :: r, k, ht, s, hs => by
    unfold starts at hs
    have hx := (ht x (List.mem_cons_self ..)).procs
    simp only [List.length_cons]
    rcases List.mem_cons.1 hs with e | e
    · subst e; omega
    · have := starts_le (fun y hy => ht y (List.mem_cons_of_mem _ hy)) s e
      omega
/-- The codes of objects that lie as arguments lie. -/
theorem codes_fit {w : World} {m : Md} {a : Option Addr} {cp : Nat} {L : List ObjectD} (hs : SlAt ObjectAt 5 w m (.slice a L.length cp) L) : ∀ x ∈ L, ∀ p ∈ x.procs, CFit p := by
  intro x hx p hp
  obtain ⟨a', c', e, hr⟩ := hs
  obtain ⟨i, hi, rfl⟩ := List.getElem_of_mem hx
  obtain ⟨b, o, e2, g1, g2, g3, ⟨-, -, u2, u3, u4, -, -, -, s4⟩⟩ := hr i hi
  obtain ⟨a4, c4, e4, hr4⟩ := s4
  obtain ⟨j, hj, rfl⟩ := List.getElem_of_mem hp
  obtain ⟨b', o', e5, k1, k2, k3, ⟨-, hb, u5, -, s5⟩⟩ := hr4 j hj
  refine ⟨hb, fun y hy => ?_⟩
  obtain ⟨a5, c5, e6, hr5⟩ := s5
  obtain ⟨q, hq, rfl⟩ := List.getElem_of_mem hy
  obtain ⟨b6, o6, e7, j1, j2, j3, ⟨-, hb6⟩⟩ := hr5 q hq
  exact hb6
theorem link_fit {w : World} {m : Md} {a : Option Addr} {cp : Nat} {L : List ObjectD} (main : ByteArray) (hs : SlAt ObjectAt 5 w m (.slice a L.length cp) L) : IFit (resD L (linkR L main)) := by
  cases hR : linkR L main with
  | inl p => exact ⟨by show I64 0; unfold I64; omega, Nat.zero_le _, Nat.zero_le _, Nat.zero_le _, (fun y hy => by cases hy), (fun y hy => by cases hy), fun y hy => by cases hy⟩
  | inr o =>
    obtain ⟨h20, hok, hfine⟩ := linkR_inr hR
    have hol := hfine.len
    have hin := objs_mem hfine.2
    have hT : ∀ x ∈ objsOf L o, Tiny x := fun x hx => (objB_tiny (hok.mem x (hin x hx))).1
    have hPl : (objsOf L o).length ≤ 20 := by rw [objsOf_len]; omega
    have hF := fun x hx => codes_fit hs x (hin x hx)
    show IFit ⟨gsumP (objsOf L o) 0, codesR (objsOf L o) (namesP (objsOf L o)) (objsOf L o), namesP (objsOf L o), starts (objsOf L o) 0⟩
    generalize objsOf L o = P at *
    have hg := gsumP_bound P 0 hT
    have hc := codesR_bound (P := P) (N := namesP P) hT
    have hn := namesP_len hT
    have hst := starts_len P 0
    refine ⟨by show I64 (gsumP P 0); unfold I64; omega, by show (codesR _ _ _).length ≤ 2000; omega, by show (namesP P).length ≤ 2000; omega, by show (starts P 0).length ≤ 2000; omega, fun y hy => ?_, fun s hs => ?_, fun s hs => ?_⟩
    · obtain ⟨x, hx, hy⟩ := List.mem_flatMap.1 hy
      obtain ⟨c, hc, rfl⟩ := List.mem_map.1 hy
      obtain ⟨⟨n1, n2, n3, n4, n5⟩, hi⟩ := hF x hx c hc
      have ht := ((hT x hx).codes c hc).2.1
      refine ⟨⟨⟨n1, n2, n3, n4, by show (c.list.map (insR P (namesP P))).length ≤ maxLen; rw [List.length_map]; exact n5⟩, fun y hy => ?_⟩, by show (c.list.map (insR P (namesP P))).length ≤ 65535; rw [List.length_map]; omega⟩
      obtain ⟨z, hz, rfl⟩ := List.mem_map.1 hy
      have hz5 := hi z hz
      unfold insR
      split
      · have := foundI_le (mod := z.mod) (name := z.name) (P := P) (n := 0) (by omega) hT
        exact ⟨by show I64 1; unfold I64; omega, by show I64 (foundI _); unfold I64; omega, by show I64 0; unfold I64; omega, Nat.zero_le _, Nat.zero_le _⟩
      · split
        · have := idxI_le hT z
          exact ⟨by show I64 13; unfold I64; omega, by show I64 (idxI _); unfold I64; omega, hz5.2.2.1, Nat.zero_le _, Nat.zero_le _⟩
        · exact hz5
    · obtain ⟨x, hx, hs⟩ := List.mem_flatMap.1 hs
      unfold pnames at hs
      obtain ⟨c, hc, rfl⟩ := List.mem_map.1 hs
      have h1 := (hT x hx).mod
      have h2 := ((hT x hx).codes c hc).1
      unfold dotN
      rw [ByteArray.size_append, ByteArray.size_append]
      show _ + 1 + _ ≤ maxLen
      unfold maxLen
      omega
    · have := starts_le hT s hs
      unfold I64
      omega
end Go.Proofs.YtfbglokjehmgeaaGreatDoor

/- Lists of objects: the law's measure, copy and comparison. No condition. -/
namespace Go.Proofs.YtfbglokjehmgeaaGreatDoor
open Go.ChangeShapes Go.WideShapes Go.ChangeAt Go.RowKit Go.Deep

set_option maxHeartbeats 4000000 in
theorem eqObjectS_same (v v' : Value) (m m' : Md) (l : List ObjectD) (w : World) (hn : l.length ≤ maxLen) (h : SlAt ObjectAt 5 w m v l) (h' : SlAt ObjectAt 5 w m' v' l) (hm : m.hi ≤ w.heap.size) (hm' : m'.hi ≤ w.heap.size) :
    Calls Tryz.prog 9 #[v, v'] w fun e w' => e = .returned (.bool true) ∧ Below w.heap.size w w' := by
  unfold maxLen at hn
  have HS := hide h
  have HS' := hide h'
  obtain ⟨a, c, rfl, -⟩ := h
  obtain ⟨a', c', rfl, -⟩ := h'
  obtain ⟨n, hl⟩ : ∃ n, l.length = n := ⟨_, rfl⟩
  have HN := hide hl
  rw [hl] at hn ⊢
  clear hl
  go_enter Tryz.func9, Tryz.ntmps9
  go_wp2
  go_loopw [5] (fun i wr => ∃ k : Nat, i = .int .i64 k ∧ k ≤ n ∧ Below w.heap.size w wr) (fun i _ => n - (intOf i).toNat)
  case atStart => exact ⟨0, rfl, by omega, Below.refl _ _⟩
  case round =>
    obtain ⟨k, rfl, hk, hbw⟩ := hrel
    by_cases hp : k < n
    · have i1 : (k : Int) < n := by omega
      obtain ⟨x, hx⟩ : ∃ x, l[k]'(by rw [HN.out]; exact hp) = x := ⟨_, rfl⟩
      obtain ⟨a1, c1', e1, hrows⟩ := HS.out.on ObjectAt.stays (hbw.mono hm)
      cases e1
      obtain ⟨b, o, rfl, hb1, hb2, -, he⟩ := hrows k (by rw [HN.out]; exact hp)
      obtain ⟨a2, c2', e2, hrows'⟩ := HS'.out.on ObjectAt.stays (hbw.mono hm')
      cases e2
      obtain ⟨b', o', rfl, hb1', hb2', -, heq⟩ := hrows' k (by rw [HN.out]; exact hp)
      rw [hx] at he heq
      clear hx hrows hrows'
      obtain ⟨⟨d0, d1⟩, hbd, u2, u3, u4, ⟨d2, d3, d4⟩, s2, s3, s4⟩ := he
      have HVal := hide (show ObjectVal _ _ (.agg #[.string (x.module), .int .i64 (x.print), u2, u3, u4]) x from ⟨u2, u3, u4, rfl, hbd, s2, s3, s4⟩)
      obtain ⟨p2, c2, rfl, -⟩ := s2
      obtain ⟨p3, c3, rfl, -⟩ := s3
      obtain ⟨p4, c4, rfl, -⟩ := s4
      simp only [Nat.add_zero] at d0 d1 d2 d3 d4
      clear hbd
      obtain ⟨⟨d0q, d1q⟩, hbdq, u2q, u3q, u4q, ⟨d2q, d3q, d4q⟩, s2q, s3q, s4q⟩ := heq
      have HValq := hide (show ObjectVal _ _ (.agg #[.string (x.module), .int .i64 (x.print), u2q, u3q, u4q]) x from ⟨u2q, u3q, u4q, rfl, hbdq, s2q, s3q, s4q⟩)
      obtain ⟨p2q, c2q, rfl, -⟩ := s2q
      obtain ⟨p3q, c3q, rfl, -⟩ := s3q
      obtain ⟨p4q, c4q, rfl, -⟩ := s4q
      simp only [Nat.add_zero] at d0q d1q d2q d3q d4q
      clear hbdq
      have HEQ : Hid (∀ w', Below wr.heap.size wr w' → Calls Tryz.prog 29 #[.agg #[.string (x.module), .int .i64 (x.print), .slice p2 x.needs.length c2, .slice p3 x.globals.length c3, .slice p4 x.procs.length c4], .agg #[.string (x.module), .int .i64 (x.print), .slice p2q x.needs.length c2q, .slice p3q x.globals.length c3q, .slice p4q x.procs.length c4q]] w' fun e w2 => e = .returned (.bool true) ∧ Below w'.heap.size w' w2) := hide fun w' bel =>
        eqObject_same _ _ (m.inner b) (m'.inner b') x w' (HVal.out.on (bel.mono (by rw [Md.inner_hi]; exact Nat.le_trans hm hbw.size))) (HValq.out.on (bel.mono (by rw [Md.inner_hi]; exact Nat.le_trans hm' hbw.size))) (by rw [Md.inner_hi]; exact Nat.le_trans hm (Nat.le_trans hbw.size bel.size)) (by rw [Md.inner_hi]; exact Nat.le_trans hm' (Nat.le_trans hbw.size bel.size))
      go_wp2
      go_region_with (go_at_call 29; refine (HEQ.out _ (Below.refl _ _).drew).mono ?_; rintro e w' ⟨rfl, bel⟩)
      all_goals go_wp2
      all_goals go_roundw
      all_goals first
        | exact ⟨k + 1, by go_num, by omega, hbw.drew.trans (bel.mono (show w.heap.size ≤ wr.drew.heap.size from hbw.size))⟩
        | (simp [intOf]; omega)
    · have i1 : ¬ (k : Int) < n := by omega
      go_wp2
      go_ret
      exact ⟨rfl, hbw⟩
end Go.Proofs.YtfbglokjehmgeaaGreatDoor

namespace Go.Proofs.YtfbglokjehmgeaaGreatDoor
open Go.ChangeShapes Go.WideShapes Go.ChangeAt Go.RowKit Go.Deep

def ObjectSep (w : World) (lo hi : Nat) (v : Value) (x : ObjectD) : Prop := ∃ u2 u3 u4 l2 h2 l3 h3 l4 h4, v = .agg #[.string (x.module), .int .i64 (x.print), u2, u3, u4] ∧ (x.module.size ≤ maxLen ∧ I64 x.print ∧ x.needs.length ≤ maxLen ∧ x.globals.length ≤ maxLen ∧ x.procs.length ≤ maxLen) ∧ (lo ≤ l2 ∧ l2 ≤ h2 ∧ h2 ≤ l3 ∧ l3 ≤ h3 ∧ h3 ≤ l4 ∧ l4 ≤ h4 ∧ h4 ≤ hi) ∧ SlAt NeedAt 2 w ⟨l2, h2, true⟩ u2 x.needs ∧ SlAt GlobalAt 2 w ⟨l3, h3, true⟩ u3 x.globals ∧ SlAt CodeAt 5 w ⟨l4, h4, true⟩ u4 x.procs
theorem ObjectSep.val {w : World} {lo hi : Nat} {v : Value} {x : ObjectD} (h : ObjectSep w lo hi v x) : ObjectVal w ⟨lo, hi, true⟩ v x := by
  obtain ⟨u2, u3, u4, l2, h2, l3, h3, l4, h4, e, hb, ⟨q1, q2, q3, q4, q5, q6, q7⟩, s2, s3, s4⟩ := h
  exact ⟨u2, u3, u4, e, hb, s2.wid NeedAt.widens (by show lo ≤ l2; omega) (by show h2 ≤ hi; omega) rfl, s3.wid GlobalAt.widens (by show lo ≤ l3; omega) (by show h3 ≤ hi; omega) rfl, s4.wid CodeAt.widens (by show lo ≤ l4; omega) (by show h4 ≤ hi; omega) rfl⟩
theorem ObjectSep.on {w w' : World} {lo hi : Nat} {v : Value} {x : ObjectD} (h : ObjectSep w lo hi v x) (bel : Below hi w w') : ObjectSep w' lo hi v x := by
  obtain ⟨u2, u3, u4, l2, h2, l3, h3, l4, h4, e, hb, ⟨q1, q2, q3, q4, q5, q6, q7⟩, s2, s3, s4⟩ := h
  exact ⟨u2, u3, u4, l2, h2, l3, h3, l4, h4, e, hb, ⟨q1, q2, q3, q4, q5, q6, q7⟩, s2.on NeedAt.stays (bel.mono (by show h2 ≤ hi; omega)), s3.on GlobalAt.stays (bel.mono (by show h3 ≤ hi; omega)), s4.on CodeAt.stays (bel.mono (by show h4 ≤ hi; omega))⟩
set_option maxHeartbeats 4000000 in
theorem toObject_sep (v : Value) (m : Md) (x : ObjectD) (w : World) (hs : ObjectSm x) (h : ObjectVal w m v x) (hm : m.hi ≤ w.heap.size) :
    Calls Tryz.prog 17 #[v] w fun e w' => (∃ u, e = .returned u ∧ Hid (ObjectSep w' w.heap.size w'.heap.size u x)) ∧ Below w.heap.size w w' := by
  obtain ⟨u2, u3, u4, rfl, hb, s2, s3, s4⟩ := h
  have HS2 := hide s2
  obtain ⟨p2, c2, rfl, -⟩ := s2
  have HS3 := hide s3
  obtain ⟨p3, c3, rfl, -⟩ := s3
  have HS4 := hide s4
  obtain ⟨p4, c4, rfl, -⟩ := s4
  have HB := hide hb
  unfold ObjectSm at hs
  obtain ⟨sm2, sm3, sm4, sn4⟩ := hs
  clear hb
  go_enter Tryz.func17, Tryz.ntmps17
  go_wp2_with fail
  refine (toNeedS_any (.slice p2 x.needs.length c2) m x.needs _ sm2 (HS2.out.on NeedAt.stays (Below.mono ((((Below.refl _ _).alloc (Nat.le_refl _) _).alloc (by simp) _).alloc (by first | omega | (simp <;> omega)) _) hm)) (Nat.le_trans hm (Below.size ((((Below.refl _ _).alloc (Nat.le_refl _) _).alloc (by simp) _).alloc (by first | omega | (simp <;> omega)) _)))).mono ?_
  rintro e w2' ⟨⟨r2, rfl, hr2⟩, bel2⟩
  obtain ⟨q2, k2, rfl, -⟩ := id hr2.out
  have z2 : w.heap.size + 3 ≤ w2'.heap.size := Nat.le_trans (by simp) bel2.size
  obtain ⟨hc2, hf2⟩ := bcell bel2
  have m2_0 := fun o => hc2 (w.heap.size) o (by first | omega | (simp <;> omega))
  have n2_0 := fun o => hf2 (w.heap.size) o (by first | omega | (simp <;> omega))
  have m2_1 := fun o => hc2 (w.heap.size + 1) o (by first | omega | (simp <;> omega))
  have n2_1 := fun o => hf2 (w.heap.size + 1) o (by first | omega | (simp <;> omega))
  have m2_2 := fun o => hc2 (w.heap.size + 2) o (by first | omega | (simp <;> omega))
  have n2_2 := fun o => hf2 (w.heap.size + 2) o (by first | omega | (simp <;> omega))
  clear hc2 hf2
  go_wp2_with fail
  refine (toGlobalS_any (.slice p3 x.globals.length c3) m x.globals _ sm3 (HS3.out.on GlobalAt.stays (Below.mono (Below.setCell (Below.trans ((((Below.refl _ _).alloc (Nat.le_refl _) _).alloc (by simp) _).alloc (by first | omega | (simp <;> omega)) _) (Below.mono bel2 (by first | omega | (simp <;> omega)))) (p := ⟨w.heap.size + 2, 2, none⟩) (by first | omega | (simp <;> omega)) (.slice q2 x.needs.length k2)) hm)) (Nat.le_trans hm (Below.size (Below.setCell (Below.trans ((((Below.refl _ _).alloc (Nat.le_refl _) _).alloc (by simp) _).alloc (by first | omega | (simp <;> omega)) _) (Below.mono bel2 (by first | omega | (simp <;> omega)))) (p := ⟨w.heap.size + 2, 2, none⟩) (by first | omega | (simp <;> omega)) (.slice q2 x.needs.length k2))))).mono ?_
  rintro e w3' ⟨⟨r3, rfl, hr3⟩, bel3⟩
  obtain ⟨q3, k3, rfl, -⟩ := id hr3.out
  have z3 : w.heap.size + 3 ≤ w3'.heap.size := Nat.le_trans (by first | omega | (simp <;> omega)) bel3.size
  have y3 : w2'.heap.size ≤ w3'.heap.size := Nat.le_trans (by first | omega | (simp <;> omega)) bel3.size
  obtain ⟨hc3, hf3⟩ := bcell bel3
  have m3_0 := fun o => hc3 (w.heap.size) o (by first | omega | (simp <;> omega))
  have n3_0 := fun o => hf3 (w.heap.size) o (by first | omega | (simp <;> omega))
  have m3_1 := fun o => hc3 (w.heap.size + 1) o (by first | omega | (simp <;> omega))
  have n3_1 := fun o => hf3 (w.heap.size + 1) o (by first | omega | (simp <;> omega))
  have m3_2 := fun o => hc3 (w.heap.size + 2) o (by first | omega | (simp <;> omega))
  have n3_2 := fun o => hf3 (w.heap.size + 2) o (by first | omega | (simp <;> omega))
  clear hc3 hf3
  go_wp2_with fail
  refine (toCodeS_any (.slice p4 x.procs.length c4) m x.procs _ sm4 sn4 (HS4.out.on CodeAt.stays (Below.mono (Below.setCell (Below.trans (Below.setCell (Below.trans ((((Below.refl _ _).alloc (Nat.le_refl _) _).alloc (by simp) _).alloc (by first | omega | (simp <;> omega)) _) (Below.mono bel2 (by first | omega | (simp <;> omega)))) (p := ⟨w.heap.size + 2, 2, none⟩) (by first | omega | (simp <;> omega)) (.slice q2 x.needs.length k2)) (Below.mono bel3 (by first | omega | (simp <;> omega)))) (p := ⟨w.heap.size + 2, 3, none⟩) (by first | omega | (simp <;> omega)) (.slice q3 x.globals.length k3)) hm)) (Nat.le_trans hm (Below.size (Below.setCell (Below.trans (Below.setCell (Below.trans ((((Below.refl _ _).alloc (Nat.le_refl _) _).alloc (by simp) _).alloc (by first | omega | (simp <;> omega)) _) (Below.mono bel2 (by first | omega | (simp <;> omega)))) (p := ⟨w.heap.size + 2, 2, none⟩) (by first | omega | (simp <;> omega)) (.slice q2 x.needs.length k2)) (Below.mono bel3 (by first | omega | (simp <;> omega)))) (p := ⟨w.heap.size + 2, 3, none⟩) (by first | omega | (simp <;> omega)) (.slice q3 x.globals.length k3))))).mono ?_
  rintro e w4' ⟨⟨r4, rfl, hr4⟩, bel4⟩
  obtain ⟨q4, k4, rfl, -⟩ := id hr4.out
  have z4 : w.heap.size + 3 ≤ w4'.heap.size := Nat.le_trans (by first | omega | (simp <;> omega)) bel4.size
  have y4 : w3'.heap.size ≤ w4'.heap.size := Nat.le_trans (by first | omega | (simp <;> omega)) bel4.size
  obtain ⟨hc4, hf4⟩ := bcell bel4
  have m4_0 := fun o => hc4 (w.heap.size) o (by first | omega | (simp <;> omega))
  have n4_0 := fun o => hf4 (w.heap.size) o (by first | omega | (simp <;> omega))
  have m4_1 := fun o => hc4 (w.heap.size + 1) o (by first | omega | (simp <;> omega))
  have n4_1 := fun o => hf4 (w.heap.size + 1) o (by first | omega | (simp <;> omega))
  have m4_2 := fun o => hc4 (w.heap.size + 2) o (by first | omega | (simp <;> omega))
  have n4_2 := fun o => hf4 (w.heap.size + 2) o (by first | omega | (simp <;> omega))
  clear hc4 hf4
  go_wp2
  refine bodyPost_ret (v := .agg #[.string (x.module), .int .i64 (x.print), .slice q2 x.needs.length k2, .slice q3 x.globals.length k3, .slice q4 x.procs.length k4]) (by simp [results, Tryz.results17, go_sem, m2_1, m3_1, m4_1]) rfl ⟨⟨_, rfl, hide ⟨_, _, _, _, _, _, _, _, _, rfl, HB.out, ⟨(by first | omega | (simp <;> omega)), (by first | omega | (simp <;> omega)), (by first | omega | (simp <;> omega)), (by first | omega | (simp <;> omega)), (by first | omega | (simp <;> omega)), (by first | omega | (simp <;> omega)), (by first | omega | (simp <;> omega))⟩, hr2.out.same NeedAt.stays ?_, hr3.out.same GlobalAt.stays ?_, hr4.out.same CodeAt.stays ?_⟩⟩, ?_⟩
  · repeat (refine Same.setCell ?_ (by first | omega | (simp <;> omega)) _)
    refine Same.trans ?_ (Same.of_below bel4 (by first | omega | (simp <;> omega)))
    repeat (refine Same.setCell ?_ (by first | omega | (simp <;> omega)) _)
    refine Same.trans ?_ (Same.of_below bel3 (by first | omega | (simp <;> omega)))
    repeat (refine Same.setCell ?_ (by first | omega | (simp <;> omega)) _)
    exact Same.refl _ _ _
  · repeat (refine Same.setCell ?_ (by first | omega | (simp <;> omega)) _)
    refine Same.trans ?_ (Same.of_below bel4 (by first | omega | (simp <;> omega)))
    repeat (refine Same.setCell ?_ (by first | omega | (simp <;> omega)) _)
    exact Same.refl _ _ _
  · repeat (refine Same.setCell ?_ (by first | omega | (simp <;> omega)) _)
    exact Same.refl _ _ _
  · repeat (refine Below.setCell ?_ (by first | omega | (simp <;> omega)) _)
    refine Below.trans ?_ (bel4.mono (B' := w.heap.size) (by first | omega | (simp <;> omega)))
    repeat (refine Below.setCell ?_ (by first | omega | (simp <;> omega)) _)
    refine Below.trans ?_ (bel3.mono (B' := w.heap.size) (by first | omega | (simp <;> omega)))
    repeat (refine Below.setCell ?_ (by first | omega | (simp <;> omega)) _)
    refine Below.trans ?_ (bel2.mono (B' := w.heap.size) (by first | omega | (simp <;> omega)))
    repeat (refine Below.setCell ?_ (by first | omega | (simp <;> omega)) _)
    exact (((Below.refl _ _).alloc (Nat.le_refl _) _).alloc (by simp) _).alloc (by first | omega | (simp <;> omega)) _
theorem ObjectSep.wid {w : World} {lo hi lo' hi' : Nat} {v : Value} {x : ObjectD} (h : ObjectSep w lo hi v x) (h1 : lo' ≤ lo) (h2 : hi ≤ hi') : ObjectSep w lo' hi' v x := by
  obtain ⟨u2, u3, u4, l2, h2, l3, h3, l4, h4, e, hb, ⟨q1, q2, q3, q4, q5, q6, q7⟩, s2, s3, s4⟩ := h
  exact ⟨u2, u3, u4, l2, h2, l3, h3, l4, h4, e, hb, ⟨by omega, q2, q3, q4, q5, q6, by omega⟩, s2, s3, s4⟩
theorem ObjectSep.same {w w' : World} {lo hi : Nat} {v : Value} {x : ObjectD} (h : ObjectSep w lo hi v x) (s : Same lo hi w w') : ObjectSep w' lo hi v x := by
  obtain ⟨u2, u3, u4, l2, h2, l3, h3, l4, h4, e, hb, ⟨q1, q2, q3, q4, q5, q6, q7⟩, s2, s3, s4⟩ := h
  exact ⟨u2, u3, u4, l2, h2, l3, h3, l4, h4, e, hb, ⟨q1, q2, q3, q4, q5, q6, q7⟩, s2.same NeedAt.stays (fun i a b => s i (by simp at a; omega) (by simp at b; omega)), s3.same GlobalAt.stays (fun i a b => s i (by simp at a; omega) (by simp at b; omega)), s4.same CodeAt.stays (fun i a b => s i (by simp at a; omega) (by simp at b; omega))⟩
/-- One object of a row that lies in block g. -/
def ORow (w : World) (C : Array Value) (i lo hi : Nat) (x : ObjectD) : Prop := ∃ u2 u3 u4, (C[i * 5]? = some (.string x.module) ∧ C[i * 5 + 1]? = some (.int .i64 x.print) ∧ C[i * 5 + 2]? = some u2 ∧ C[i * 5 + 3]? = some u3 ∧ C[i * 5 + 4]? = some u4) ∧ ObjectSep w lo hi (.agg #[.string x.module, .int .i64 x.print, u2, u3, u4]) x
def OSep (w : World) (g : Nat) (b : Nat → Nat) (l : List ObjectD) : Prop := ∃ C, w.heap[g]? = some (.cells C 48 (0, 0)) ∧ C.size = l.length * 5 ∧ g < b 0 ∧ (∀ i, i < l.length → b i ≤ b (i + 1)) ∧ b l.length ≤ w.heap.size ∧ ∀ i (h : i < l.length), ORow w C i (b i) (b (i + 1)) l[i]
theorem mono_of {b : Nat → Nat} {n : Nat} (h : ∀ i, i < n → b i ≤ b (i + 1)) : ∀ {i j : Nat}, i ≤ j → j ≤ n → b i ≤ b j := by
  intro i j hij
  induction j with
  | zero => intro _; obtain rfl : i = 0 := by omega
            exact Nat.le_refl _
  | succ j ih =>
    intro hj
    by_cases e : i = j + 1
    · subst e; exact Nat.le_refl _
    · exact Nat.le_trans (ih (by omega) (by omega)) (h j (by omega))
theorem OSep.on {w w' : World} {g : Nat} {b : Nat → Nat} {l : List ObjectD} (h : OSep w g b l) (bel : Below w.heap.size w w') : OSep w' g b l := by
  obtain ⟨C, h1, h2, h3, h4, h5, h6⟩ := h
  refine ⟨C, (bel.block g (Array.getElem?_eq_some_iff.1 h1).1).trans h1, h2, h3, h4, Nat.le_trans h5 bel.size, fun i hi => ?_⟩
  obtain ⟨u2, u3, u4, hc, hs⟩ := h6 i hi
  exact ⟨u2, u3, u4, hc, hs.on (bel.mono (Nat.le_trans (mono_of h4 (show i + 1 ≤ l.length by omega) (Nat.le_refl _)) h5))⟩
theorem OSep.slat {w : World} {g c : Nat} {b : Nat → Nat} {l : List ObjectD} (h : OSep w g b l) (hc : l.length ≤ c) : SlAt ObjectAt 5 w ⟨g, w.heap.size, true⟩ (.slice (some ⟨g, 0, none⟩) l.length c) l := by
  obtain ⟨C, h1, h2, h3, h4, h5, h6⟩ := h
  refine SlAt.of_row (E := ObjectAt) (m := ⟨g, w.heap.size, true⟩) (c := c) (l := l) h1 (Nat.le_refl _) (Array.getElem?_eq_some_iff.1 h1).1 hc fun i hi => ?_
  obtain ⟨u2, u3, u4, ⟨c0, c1, c2, c3, c4⟩, hs⟩ := h6 i hi
  obtain ⟨v2, v3, v4, e, hb, s2, s3, s4⟩ := hs.val
  cases e
  have hlo := mono_of h4 (Nat.zero_le i) (Nat.le_of_lt hi)
  have hhi := Nat.le_trans (mono_of h4 (show i + 1 ≤ l.length by omega) (Nat.le_refl _)) h5
  exact ⟨⟨c0, c1⟩, hb, u2, u3, u4, ⟨c2, c3, c4⟩, s2.wid NeedAt.widens (by show g + 1 ≤ b i; omega) hhi rfl, s3.wid GlobalAt.widens (by show g + 1 ≤ b i; omega) hhi rfl, s4.wid CodeAt.widens (by show g + 1 ≤ b i; omega) hhi rfl⟩
set_option maxHeartbeats 4000000 in
theorem toObjectS_sep (v : Value) (m : Md) (l : List ObjectD) (w : World) (hn : l.length ≤ 1048576) (hsn : ∀ x ∈ l, ObjectSm x) (h : SlAt ObjectAt 5 w m v l) (hm : m.hi ≤ w.heap.size) :
    Calls Tryz.prog 6 #[v] w fun e w' => (e = .returned (.slice (some ⟨w.heap.size, 0, none⟩) l.length l.length) ∧ ∃ b, Hid (OSep w' w.heap.size b l)) ∧ Below w.heap.size w w' := by
  have HS := hide h
  have HSN := hide hsn
  obtain ⟨a, c, rfl, -⟩ := h
  obtain ⟨n, hl⟩ : ∃ n, l.length = n := ⟨_, rfl⟩
  have HN := hide hl
  rw [hl] at hn ⊢
  clear hl hsn
  have hmk := run_make_many (P := Tryz.prog) 31 48 (.agg #[.string ⟨#[]⟩, .int .i64 0, .slice none 0 0, .slice none 0 0, .slice none 0 0]) 5 96 Tryz.underlying31 (by kernel_rfl) n (by omega) (by omega)
  go_enter Tryz.func6, Tryz.ntmps6
  go_wp2
  go_loopw [4] (fun i wr => ∃ (k : Nat) (C : Array Value) (b : Nat → Nat), i = .int .i64 k ∧ k ≤ n ∧ wr.heap[w.heap.size]? = some (.cells C 48 (0, 0)) ∧ C.size = n * 5 ∧ Hid (w.heap.size < b 0 ∧ (∀ i, i < k → b i ≤ b (i + 1)) ∧ b k ≤ wr.heap.size ∧ ∀ i (h : i < l.length), i < k → ORow wr C i (b i) (b (i + 1)) l[i]) ∧ Below w.heap.size w wr) (fun i _ => n - (intOf i).toNat)
  case atStart => exact ⟨0, _, fun _ => w.heap.size + 1, rfl, by omega, Deep.blk_alloc_new _ _, size_madeCells _ _, hide ⟨Nat.lt_succ_self _, (fun i hi => absurd hi (by omega)), by simp, (fun i _ hi => absurd hi (by omega))⟩, (Below.refl _ _).alloc (Nat.le_refl _) _⟩
  case round =>
    obtain ⟨k, C, b, rfl, hk, hC, hsz, Hs, hbw⟩ := hrel
    by_cases hp : k < n
    · have i1 : (k : Int) < n := by omega
      obtain ⟨x, hx⟩ : ∃ x, l[k]'(by rw [HN.out]; exact hp) = x := ⟨_, rfl⟩
      obtain ⟨a', c', e', hrows⟩ := HS.out.on ObjectAt.stays (hbw.mono hm)
      cases e'
      obtain ⟨b0, o, rfl, hb1, hb2, -, he⟩ := hrows k (by rw [HN.out]; exact hp)
      have HX := hide hx
      rw [hx] at he
      clear hx hrows
      obtain ⟨⟨d0, d1⟩, hbd, u2, u3, u4, ⟨d2, d3, d4⟩, s2, s3, s4⟩ := he
      have HVal := hide (show ObjectVal _ _ (.agg #[.string (x.module), .int .i64 (x.print), u2, u3, u4]) x from ⟨u2, u3, u4, rfl, hbd, s2, s3, s4⟩)
      obtain ⟨p2, c2, rfl, -⟩ := s2
      obtain ⟨p3, c3, rfl, -⟩ := s3
      obtain ⟨p4, c4, rfl, -⟩ := s4
      simp only [Nat.add_zero] at d0 d1 d2 d3 d4
      clear hbd
      have HC := hide hC
      clear hC
      go_wp2_with fail
      refine (toObject_sep _ (m.inner b0) x wr (HSN.out x (by rw [← HX.out]; exact List.getElem_mem _)) HVal.out (by rw [Md.inner_hi]; exact Nat.le_trans hm hbw.size)).mono ?_
      rintro e w1 ⟨⟨u, rfl, hu⟩, bel⟩
      have HUU := hide hu.out
      obtain ⟨u2r, u3r, u4r, z1, z2, z3, z4, z5, z6, rfl, hbr, zz, s2r, s3r, s4r⟩ := id hu.out
      clear zz
      have HSr2 := hide s2r
      obtain ⟨p2r, c2r, rfl, -⟩ := s2r
      have HSr3 := hide s3r
      obtain ⟨p3r, c3r, rfl, -⟩ := s3r
      have HSr4 := hide s4r
      obtain ⟨p4r, c4r, rfl, -⟩ := s4r
      have HBr := hide hbr
      have hC1 := (bel.block w.heap.size (Array.getElem?_eq_some_iff.1 HC.out).1).trans HC.out
      obtain ⟨s1, s2⟩ := heapCells hC1
      obtain ⟨y0, g0⟩ : ∃ y, w1.cell? ⟨w.heap.size, k * 5, none⟩ = some y := by rw [s1]; exact ⟨_, Array.getElem?_eq_getElem (by omega)⟩
      have f0 := s2 (k * 5)
      obtain ⟨y1, g1⟩ : ∃ y, w1.cell? ⟨w.heap.size, k * 5 + 1, none⟩ = some y := by rw [s1]; exact ⟨_, Array.getElem?_eq_getElem (by omega)⟩
      have f1 := s2 (k * 5 + 1)
      obtain ⟨y2, g2⟩ : ∃ y, w1.cell? ⟨w.heap.size, k * 5 + 2, none⟩ = some y := by rw [s1]; exact ⟨_, Array.getElem?_eq_getElem (by omega)⟩
      have f2 := s2 (k * 5 + 2)
      obtain ⟨y3, g3⟩ : ∃ y, w1.cell? ⟨w.heap.size, k * 5 + 3, none⟩ = some y := by rw [s1]; exact ⟨_, Array.getElem?_eq_getElem (by omega)⟩
      have f3 := s2 (k * 5 + 3)
      obtain ⟨y4, g4⟩ : ∃ y, w1.cell? ⟨w.heap.size, k * 5 + 4, none⟩ = some y := by rw [s1]; exact ⟨_, Array.getElem?_eq_getElem (by omega)⟩
      have f4 := s2 (k * 5 + 4)
      have HC1 := hide hC1
      clear s1 s2 hC1 hbr hu
      go_wp2
      go_roundw
      case rel =>
        have hbw1 := hbw.trans (bel.mono hbw.size)
        have hC9 := setRow_heap (o := k * 5) [.string (x.module), .int .i64 (x.print), .slice p2r x.needs.length c2r, .slice p3r x.globals.length c3r, .slice p4r x.procs.length c4r] HC1.out
        have hkn : k * 5 + 5 ≤ C.size := by omega
        have hsm : ∀ lo hi, w.heap.size < lo → Same lo hi w1 (setRow w1 w.heap.size (k * 5) [.string (x.module), .int .i64 (x.print), .slice p2r x.needs.length c2r, .slice p3r x.globals.length c3r, .slice p4r x.procs.length c4r]) := fun lo hi h j hj _ => setRow_other _ _ _ _ _ (by omega)
        refine ⟨k + 1, _, fun j => if j ≤ k then b j else w1.heap.size, by go_num, by omega, hC9, by rw [putRow_size]; exact hsz, hide ⟨by show w.heap.size < (if 0 ≤ k then b 0 else w1.heap.size); rw [if_pos (Nat.zero_le _)]; exact Hs.out.1, fun i hi => ?_, ?_, fun i hi hik => ?_⟩, setRow_below [.string (x.module), .int .i64 (x.print), .slice p2r x.needs.length c2r, .slice p3r x.globals.length c3r, .slice p4r x.procs.length c4r] hbw1 (Nat.le_refl _)⟩
        · show (if i ≤ k then b i else w1.heap.size) ≤ (if i + 1 ≤ k then b (i + 1) else w1.heap.size)
          rw [if_pos (by omega)]
          by_cases e : i + 1 ≤ k
          · rw [if_pos e]
            exact Hs.out.2.1 i (by omega)
          · rw [if_neg e]
            obtain rfl : i = k := by omega
            exact Nat.le_trans Hs.out.2.2.1 bel.size
        · show (if k + 1 ≤ k then b (k + 1) else w1.heap.size) ≤ _
          rw [if_neg (by omega)]
          simp [World.setCell]
        · show ORow _ _ i (if i ≤ k then b i else w1.heap.size) (if i + 1 ≤ k then b (i + 1) else w1.heap.size) _
          rw [if_pos (by omega)]
          have hb0 : w.heap.size < b i := Nat.lt_of_lt_of_le Hs.out.1 (mono_of Hs.out.2.1 (Nat.zero_le i) (by omega))
          by_cases e : i + 1 ≤ k
          · rw [if_pos e]
            obtain ⟨v2, v3, v4, ⟨e0, e1, e2, e3, e4⟩, hs⟩ := Hs.out.2.2.2 i hi (by omega)
            have hbi : b (i + 1) ≤ wr.heap.size := Nat.le_trans (mono_of Hs.out.2.1 e (Nat.le_refl _)) Hs.out.2.2.1
            exact ⟨v2, v3, v4, ⟨(putRow_out _ _ _ _ (by omega)).trans e0, (putRow_out _ _ _ _ (by omega)).trans e1, (putRow_out _ _ _ _ (by omega)).trans e2, (putRow_out _ _ _ _ (by omega)).trans e3, (putRow_out _ _ _ _ (by omega)).trans e4⟩, (hs.on (bel.mono hbi)).same (hsm _ _ hb0)⟩
          · rw [if_neg e]
            obtain rfl : i = k := by omega
            rw [HX.out]
            exact ⟨_, _, _, ⟨putRow_at _ C (i * 5) 0 (by simp) hkn, putRow_at _ C (i * 5) 1 (by simp) hkn, putRow_at _ C (i * 5) 2 (by simp) hkn, putRow_at _ C (i * 5) 3 (by simp) hkn, putRow_at _ C (i * 5) 4 (by simp) hkn⟩, (HUU.out.wid (lo' := b i) (hi' := w1.heap.size) Hs.out.2.2.1 (Nat.le_refl _)).same (hsm _ _ hb0)⟩
      case measure => simp [intOf]; omega
    · have i1 : ¬ (k : Int) < n := by omega
      go_wp2
      go_ret
      obtain rfl : k = n := by omega
      refine ⟨⟨rfl, b, hide ⟨C, hC, by rw [HN.out]; exact hsz, Hs.out.1, by rw [HN.out]; exact Hs.out.2.1, by rw [HN.out]; exact Hs.out.2.2.1, fun i hi => Hs.out.2.2.2 i hi (by rw [← HN.out]; exact hi)⟩⟩, hbw⟩
end Go.Proofs.YtfbglokjehmgeaaGreatDoor
