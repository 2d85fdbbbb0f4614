/- The model's scanner goes along a text: all of its tokens. -/
import Derived.Test.YtoocnpkhgnbepadDoorOneC
import Derived.Test.YtoocnpkhgnbepadDoorEqTok
import Derived.Deep.AppendSrc
import Derived.BigRegion
namespace Go.Proofs.YtoocnpkhgnbepadDoor
open Go.RowKit Go.PlainAid

variable {B : Nat} {w0 w : World} {s : ByteArray} {p : Nat} {l : List Tok} {c : Int} {q : Nat} {x : Tok}

theorem one_any (hs : s.size ≤ 4000) (h : Sc B w0 w s p l 0 q) (hl : l.length ≤ 1200) (hp : p < s.size) :
    Calls Tryd.prog 35 #[.pointer (some ⟨B, 0, none⟩)] w fun e w' => e = .returned (.tuple #[]) ∧ Step B w0 w' s p l := by
  cases hb : blankB (bt s p)
  · by_cases hc : bt s p = 40 ∧ bt s (p + 1) = 42
    · exact one_remark hs h hl hp hb hc
    · cases hd : digB (bt s p)
      · cases hlet : letB (bt s p)
        · by_cases hq : bt s p = 34
          · exact one_quote hs h hl hp hb hc hq
          · exact one_sign hs h hl hp hb hc hlet hd (by simpa using hq)
        · exact one_word hs h hl hp hb hc hlet
      · exact one_number hs h hl hp hb hc hd
  · exact one_blank hs h hl hp hb

def codeAt (B : Nat) (w : World) : Int := match w.cell? ⟨B, 3, none⟩ with | some v => intOf v | none => 0
theorem Sc.codeAt (h : Sc B w0 w s p l c q) : codeAt B w = c := by unfold Go.Proofs.YtoocnpkhgnbepadDoor.codeAt; rw [h.k3]; simp [intOf]
def leftAt (B n : Nat) (w : World) : Nat := if codeAt B w = 0 then n + 1 - posOf B w else 0
theorem Sc.leftAt (h : Sc B w0 w s p l c q) (n : Nat) : leftAt B n w = if c = 0 then n + 1 - p else 0 := by unfold Go.Proofs.YtoocnpkhgnbepadDoor.leftAt; rw [h.codeAt, h.posOf]
/-- What a round of the scanner's loop knows. -/
def Going (s : ByteArray) (p : Nat) (l : List Tok) (c : Int) (q : Nat) : Prop := (c = 0 ∧ p ≤ s.size ∧ l.length ≤ 1200 ∧ scan s 0 [] = scan s p l) ∨ (¬ c = 0 ∧ scan s 0 [] = ([], c, q))
theorem going_step (hg : scan s 0 [] = scan s p l) (h : Step B w0 w s p l) : ∃ p' l' c' q', Sc B w0 w s p' l' c' q' ∧ Going s p' l' c' q' ∧ (if c' = 0 then s.size + 1 - p' else 0) < s.size + 1 - p := by
  obtain ⟨p', l', c', q', h, ⟨rfl, a, b, d, e⟩ | ⟨a, e⟩⟩ := h
  · exact ⟨p', l', 0, q', h, .inl ⟨rfl, b, d, hg.trans e⟩, by rw [if_pos rfl]; omega⟩
  · refine ⟨p', l', c', q', h, .inr ⟨a, hg.trans e⟩, ?_⟩
    rw [if_neg a]
    by_cases hp : p < s.size
    · omega
    · rw [scan_end (by omega)] at e
      simp only [Prod.mk.injEq] at e
      exact absurd e.2.1.symm a

theorem toks_one (l : List Tok) : ∀ u ∈ toksCells l, u.oneCell' = true := by
  intro u hu
  obtain ⟨x, _, h⟩ := List.mem_flatMap.1 hu
  simp [tokCells] at h
  rcases h with rfl | rfl | rfl | rfl <;> rfl
/-- Nothing appended to a slice leaves it and the world as they were. -/
theorem wpList_append_none {P : Program} {w : World} {ops : Array Oper} {rest : List Oper} {o : Oper} {a : Act} {Q : Exit → Act → World → Prop} (hgd : o.guard = none) (s x : Operand) (t : TypeId)
    (ho : o.op = .call { callee := .builtin .append, args := #[s, x], argTypes := #[t, t] }) (e : TypeId) (i : TypeInfo) (ht : P.underlying t = some (.slice e)) (hi : P.info? e = some i) (b n c : Nat) (hn : n ≤ c)
    (hs : a.eval s = .slice (some ⟨b, 0, none⟩) n c) (hx : a.eval x = .slice none 0 0) (h : wpList P ops Q rest (a.put o.dst (.slice (some ⟨b, 0, none⟩) n c)) w) : wpList P ops Q (o :: rest) a w := by
  refine wpList_plain hgd fun _ hK => ?_
  have hr := run_append_room_src (P := P) w t t o.type e i ht hi b 0 n c (.slice none 0 0) 0 [] (Src.ofNil w ht 0) (by omega) (fun j hj => absurd hj (by simp)) (fun j hj => absurd hj (by simp))
  rw [show w.setCells b (0 + n * i.size) [] = w from rfl] at hr
  unfold Oper.wp execOp
  simp only [ho, resolve, invoke, builtin, Sem.run_bind, Sem.run_pure, Result.andThen_ok, List.map_toArray, List.map_cons, List.map_nil, hs, hx, hr]
  exact hK _ _ h

theorem heapNew (w : World) (o : Obj) : (w.alloc o).heap[w.heap.size]? = some o := by show (w.heap.push o)[w.heap.size]? = some o; simp
set_option maxRecDepth 100000 in
set_option maxHeartbeats 4000000 in
theorem l01Tokens_any (s : ByteArray) (w : World) (hs : s.size ≤ 4000) :
    Calls Tryd.prog 21 #[.string s] w fun e w' => (∃ v, e = .returned (.tuple #[v, .int .i64 (scan s 0 []).2.1, .int .i64 (scan s 0 []).2.2]) ∧ w'.ownsRow w.heap.size 41 4 v (scan s 0 []).1.length (toksCells (scan s 0 []).1)) ∧ Below w.heap.size w w' := by
  go_enter Tryd.func21, Tryd.ntmps21
  go_wp2
  go_loopw [] (fun wr => ∃ p l c q, Sc w.heap.size w wr s p l c q ∧ Hid (Going s p l c q)) (fun wr => leftAt w.heap.size s.size wr)
  case atStart => exact ⟨0, [], 0, 0, ⟨.slice none 0 0, _, heapNew _ _, World.ownsRow_nil _ _ _ _, (Below.refl _ _).alloc (Nat.le_refl _) _⟩, .inl ⟨rfl, Nat.zero_le _, by decide, rfl⟩⟩
  case round =>
    obtain ⟨p, l, c, q, hsc, Hg⟩ := hrel
    have Hsc : Hid (Sc w.heap.size w wr s p l c q) := hsc
    have k1 := hsc.k1
    have k3 := hsc.k3
    have hle := hsc.leftAt s.size
    rcases Hg.out with ⟨rfl, hp, hl, he⟩ | ⟨hc, he⟩
    · have He : Hid (scan s 0 [] = scan s p l) := he
      rw [if_pos rfl] at hle
      have Hle : Hid (leftAt w.heap.size s.size wr = s.size + 1 - p) := hle
      clear he hle
      by_cases hlt : p < s.size
      · have i1 : (p : Int) < s.size := by omega
        clear hsc
        go_wp2_with (go_at_call 35; refine (one_any hs Hsc.out hl hlt).mono ?_; rintro e w' ⟨rfl, h'⟩)
        obtain ⟨p', l', c', q', h1, h2, h3⟩ := going_step He.out h'
        go_roundw
        case rel => exact ⟨p', l', c', q', h1, h2⟩
        case measure => rw [h1.leftAt, Hle.out]; exact h3
      · have i1 : ¬ (p : Int) < s.size := by omega
        have hend : scan s 0 [] = (l, 0, 0) := by rw [He.out]; exact scan_end (by omega)
        have Hend : Hid (scan s 0 [] = (l, 0, 0)) := hend
        clear hend
        obtain ⟨v, T, ha, hown, hbel⟩ := hsc
        have k2 := (cells_of_heap ha).1 2
        have HA : Hid (wr.heap[w.heap.size]? = some (.cells #[.string s, .int .i64 p, v, .int .i64 0, .int .i64 q] T (0, 0))) := ha
        have hsz := lt_of_heap ha
        obtain ⟨i0, hi, hz0, hz1, hz2⟩ := info_parts tokInfo
        rcases nil_len hown with ⟨rfl, rfl⟩ | ⟨g, cap, rfl, hbg, hg, _⟩
        · have k2' : wr.cell? ⟨w.heap.size, 2, none⟩ = some (.slice none 0 0) := k2
          clear k2 ha
          go_wp2_with (at_builtin
                       go_must (refine wpList_append_none rfl _ _ 24 rfl 41 i0 Tryd.underlying24 hi wr.heap.size 0 0 (Nat.le_refl _) rfl rfl ?_))
          go_ret3
          refine ⟨⟨.slice (some ⟨wr.heap.size, 0, none⟩) 0 0, by rw [Hend.out]; rfl, ?_⟩, hbel.alloc hbel.size _⟩
          rw [Hend.out]
          exact ⟨rfl, .inr ⟨wr.heap.size, 0, #[], rfl, by omega, heapNew _ _, Nat.le_refl _, by decide, rfl, rfl⟩⟩
        · have k2' : wr.cell? ⟨w.heap.size, 2, none⟩ = some (.slice (some ⟨g, 0, none⟩) l.length cap) := k2
          clear k2 ha
          go_wp2_with (at_builtin
                       go_must (have hown1 : (wr.alloc (.cells #[] 41)).ownsRow w.heap.size 41 4 (.slice (some ⟨wr.heap.size, 0, none⟩) 0 0) 0 [] := ⟨rfl, .inr ⟨wr.heap.size, 0, #[], rfl, by omega, heapNew _ _, Nat.le_refl _, by decide, rfl, rfl⟩⟩)
                       go_must (have hown2 := hown.alloc (.cells #[] 41))
                       go_must (refine wpList_append_own _ rfl _ _ 24 rfl w.heap.size 41 i0 (.agg #[.int .i64 0, .int .i64 0, .string ⟨#[]⟩, .int .i64 0]) 4 40 Tryd.underlying24 hi hz0 hz1 hz2 rfl (by decide) _ _ _ rfl hown1 ⟨g, 0, none⟩ l.length cap (toksCells l) rfl (toksCells_len l) (hown2.cells (g := g) rfl) (toks_one l) (by unfold maxLen; omega) (by omega) (by simp; omega) ?_)
                       intro v' w5 hown5 hgrow0 hnil
                       clear hnil)
          go_ret3
          refine ⟨⟨v', by rw [Hend.out]; rfl, ?_⟩, Below.grown (row := some wr.heap.size) (hbel.alloc hbel.size _) hgrow0 (by simp; omega) (fun j hj => by have h2 := hbel.size; have h3 := Option.some.inj hj; omega)⟩
          rw [Hend.out]
          simpa using hown5
    · have c0 : (c == 0) = false := by simpa using hc
      have hlt := hsc.lt
      have k3' : ∀ o, (wr.alloc o).cell? ⟨w.heap.size, 3, none⟩ = some (.int .i64 c) := fun o => by rw [World.cell?_alloc_past _ _ _ hlt]; exact k3
      have k4' : ∀ o, (wr.alloc o).cell? ⟨w.heap.size, 4, none⟩ = some (.int .i64 q) := fun o => by rw [World.cell?_alloc_past _ _ _ hlt]; exact hsc.k4
      have k4 := hsc.k4
      have hbel := hsc.below
      have Hend : Hid (scan s 0 [] = ([], c, q)) := he
      clear hsc hle he
      go_wp2
      go_region
      all_goals go_wp2
      all_goals go_ret3
      all_goals refine ⟨⟨.slice (some ⟨wr.heap.size, 0, none⟩) 0 0, by rw [Hend.out]; rfl, ?_⟩, below_drewN (hbel.alloc hbel.size _) 1⟩
      all_goals rw [Hend.out]
      all_goals exact ⟨rfl, .inr ⟨wr.heap.size, 0, #[], rfl, hbel.size, heapNew _ _, Nat.le_refl _, by decide, rfl, rfl⟩⟩
end Go.Proofs.YtoocnpkhgnbepadDoor
