/- The law's marks in what a function answered: the steps, rows of flat structs, a row of bytes. No condition. -/
import Derived.Test.YtfbglokjehmgeaaGreatDoorRows
import Derived.WalkKit
import Derived.WalkSpells
import Derived.ProofKit
import Derived.OpenShut
import Derived.ShutString
import Derived.ChangeOld
import Derived.OpenVars
import Derived.Lib.LaidTab
import Derived.LaidSub
import Derived.Deep.Slices
import Derived.Deep.OwnRows
import Derived.Deep.Fields
/- For every law of the seat alike: what a listed table of texts holds; and what a law that answers true and turns nothing that was there owes its row. Of whatever program. No condition. -/
namespace Go.Proofs.YtfbglokjehmgeaaGreatDoor
open Go.ChangeShapes Go.WideShapes Go.ChangeAt Go.RowKit

/-- One listed variable, out of the condition on all of them. -/
theorem laid_var {P : Program} {W : World} {name : String} {d : DataW Unit} : ∀ {l : List (String × DataW Unit)} {ps : List MemPlace}, DataW.LaidVars P W l ps → (name, d) ∈ l →
    ∃ g t cs fuel p, P.globalNamed name = some g ∧ (P.globals[g]?).map (·.type) = some t ∧ W.var? P name = some cs ∧ DataW.trod (fun _ => ()) P W 0 (fun _ => true) false fuel t cs.toList = some (d, p)
  | [], _, _, hm => by cases hm
  | (n', d') :: r, ps, h, hm => by
    obtain ⟨g, t, cs, fuel, p, q, h1, h2, h3, h4, hr, _⟩ := h
    rcases List.mem_cons.1 hm with e | e
    · cases e; exact ⟨g, t, cs, fuel, p, h1, h2, h3, h4⟩
    · exact laid_var hr e

def txt (l : List UInt8) : Value := .string ⟨l.toArray⟩
/-- An array of texts that reads as the list holds the list's texts, cell for cell. -/
theorem cells_of_texts {H : Type} {enc : TypeId × Value → H} {P : Program} {w : World} {base : Nat} {sp : Nat → Bool} {held : Bool} {fuel : Nat} {t e : TypeId} {n : Nat} {cs : List Value} {zs : List (List UInt8)} {p : List MemPlace}
    (ht : P.underlying t = some (.array n e)) (he : P.underlying e = some .string) (hce : P.cellsOf e = 1) (hct : P.cellsOf t = n)
    (h : DataW.trod enc P w base sp held fuel t cs = some (.agg (zs.map fun z => .lit (.string z)), p)) : cs = zs.map txt := by
  cases fuel with
  | zero => simp [DataW.trod] at h
  | succ fuel =>
    simp only [DataW.trod, ht, hce, hct, Nat.mul_one] at h
    split at h
    · rename_i hl
      obtain ⟨xs, hm, hx⟩ := Option.map_eq_some_iff.1 h
      have hxs : xs.map (·.1) = zs.map fun z => (DataW.lit (.string z) : DataW H) := by
        have := congrArg Prod.fst hx
        simpa using this
      have hxl : xs.length = n := by simpa using Lib.mapM_length hm
      have hzl : zs.length = n := by
        have := congrArg List.length hxs
        simp at this
        omega
      apply List.ext_getElem?
      intro i
      by_cases hi : i < n
      · obtain ⟨b, hb, hf⟩ := Lib.mapM_at hm i i (by simp [hi])
        obtain ⟨z, hc, rfl, _⟩ := DataW.trod_string he hf
        have h1 : cs[i]? = some (.string z) := by
          have := congrArg (·[0]?) hc
          simpa [List.getElem?_take, List.getElem?_drop] using this
        have h2 : (xs.map (·.1))[i]? = some (DataW.lit (.string z.data.toList) : DataW H) := by simp [hb]
        rw [hxs] at h2
        simp only [List.getElem?_map, Option.map_eq_some_iff, DataW.lit.injEq, Lit.string.injEq] at h2
        obtain ⟨z', hz', rfl⟩ := h2
        simp [h1, hz', txt]
      · rw [List.getElem?_eq_none (by omega), List.getElem?_eq_none (by simp; omega)]
    · cases h

/-- An element of an array of texts, by its number. -/
theorem run_index_texts {P : Program} (t e : TypeId) (n : Nat) (zs : List (List UInt8)) (k : IntKind) (i : Nat) (w : World) (ht : P.underlying t = some (.array n e)) (he : P.underlying e = some .string) (hse : (sizeOf e).run P w = .ok 1 w)
    (hi : i < n) (hn : zs.length = n) : (Instr.index t (.agg (zs.map txt).toArray) (.int k i)).run P w = .ok (txt (zs.getD i [])) w := by
  have hl : i < zs.length := by omega
  simp [Instr.index, asIntOf, run_underlying ht, hi, part, isAgg, run_underlying he, hse, go_sem, List.getElem?_eq_getElem hl]

theorem block_lt {w : World} {g i : Nat} {v : Value} (h : w.cell? ⟨g, i, none⟩ = some v) : g < w.heap.size := by
  cases hh : w.heap[g]? with
  | none => simp [World.cell?, hh] at h
  | some o => exact (Array.getElem?_eq_some_iff.1 hh).1

/-- The parameters' types can be read, each a row of the table. -/
def paramsRowed (P : Program) (ts : List TypeId) : Bool := ts.all fun t => P.readableRec t && decide (t < P.types.size)

theorem trodAll_later {H : Type} {enc : TypeId × Value → H} {P : Program} (hl : laidOutB P = true) {W W' : World} (hb : Below W.heap.size W W') :
    ∀ {ts : List TypeId} {vs : List Value} {ds : List (DataW H)} {ps : List MemPlace}, paramsRowed P ts = true → DataW.TrodAll enc P W 0 (fun _ => true) true ts vs ds ps → (∀ x ∈ ps, x.block < W.heap.size) →
      DataW.TrodAll enc P W' 0 (fun b => decide (b < W.heap.size)) true ts vs ds ps
  | [], [], [], _, _, h, _ => h
  | [], [], _ :: _, _, _, h, _ => h.elim
  | [], _ :: _, _, _, _, h, _ => h.elim
  | _ :: _, [], _, _, _, h, _ => h.elim
  | _ :: _, _ :: _, [], _, _, h, _ => h.elim
  | t :: ts, v :: vs, d :: ds, ps, hr, h, hlt => by
    obtain ⟨p, q, h1, h2, e⟩ := h
    simp only [paramsRowed, List.all_cons, Bool.and_eq_true, decide_eq_true_eq] at hr
    exact ⟨p, q, Below.trod hl hr.1.1 hr.1.2 h1 hb (fun x hx => hlt x (by rw [e]; simp [hx])), trodAll_later hl hb (by simpa [paramsRowed] using hr.2) h2 (fun x hx => hlt x (by rw [e]; simp [hx])), e⟩

theorem vars_len {H : Type} {enc : TypeId × Value → H} {P : Program} {w : World} {sp : Nat → Bool} : ∀ {ns : List String} {gs : List (DataW H)} {ps : List MemPlace}, DataW.TrodVars enc P w sp ns gs ps → gs.length = ns.length
  | [], [], _, _ => rfl
  | [], _ :: _, _, h => h.elim
  | _ :: _, [], _, h => h.elim
  | _ :: _, _ :: _, _, h => by
    obtain ⟨_, _, _, _, _, _, _, _, _, _, hr, _⟩ := h
    simp [vars_len hr]

/-- WHAT A LAW OWES ITS ROW: it answered true, and below the heap's old size nothing has turned. -/
theorem law_post {H : Type} {enc : TypeId × Value → H} {P : Program} {f : Func} {s : ChangeSpec} {W W' : World} {args : Array Value} {ds gs : List (DataW H)} {before : List MemPlace} {tb : TypeId}
    (hl : laidOutB P = true) (hp : paramsRowed P f.params.toList = true) (hv : varsRowed P s.vars = true) (hr : f.resultTypes = #[tb]) (htb : P.underlying tb = some .bool)
    (hW : DataW.Whole enc P f.params.toList s.vars false W args.toList ds gs before)
    (hs : s.fn H (ds ++ gs) = { results := [.lit (.bool true)], args := ds, vars := gs }) (bel : Below W.heap.size W W') :
    s.post enc P f false true false false W args (.bool true) W' := by
  have hlt : ∀ x ∈ before, x.block < W.heap.size := fun x hx => by simpa using hW.lt x hx
  obtain ⟨p, q, hA, hV, e, _, _⟩ := id hW
  refine ⟨ds, gs, before, [], p, q, hW, ?_, ?_, ?_, bel.frame _, fun h => by cases h⟩
  · rw [hs, hr]
    exact trodAll_mk1 (shut_bool htb _)
  · rw [hs]
    exact trodAll_later hl bel hp hA (fun x hx => hlt x (by rw [e]; simp [hx]))
  · rw [hs]
    exact Below.trodVars hl bel hv hV
end Go.Proofs.YtfbglokjehmgeaaGreatDoor

/- A row of bytes that the call has made, as a text. -/
namespace Go.Proofs.YtfbglokjehmgeaaGreatDoor
open Go.RowKit

theorem foldl_push (ns : List Int) : ∀ r : ByteArray, ns.foldl (fun r n => r.push (UInt8.ofNat n.toNat)) r = ⟨r.data ++ (ns.map fun n => UInt8.ofNat n.toNat).toArray⟩ := by
  induction ns with
  | nil => intro r; simp
  | cons n ns ih =>
    intro r
    simp only [List.foldl_cons, ih, List.map_cons]
    simp [ByteArray.push]

/-- The bytes of a new row, as a text. -/
theorem run_convert_new {P : Program} (src dst e : TypeId) (hs : P.underlying src = some (.slice e)) (he : P.underlying e = some (.int .u8)) (hd : P.underlying dst = some .string) (ns : List Int) (cap : Nat) (w : World) (t : TypeId) :
    (convert src dst (.slice (some ⟨w.heap.size, 0, none⟩) ns.length cap)).run P (w.alloc (.cells (ns.map (Value.int .u8)).toArray t)) = .ok (.string ⟨(ns.map fun n => UInt8.ofNat n.toNat).toArray⟩) (w.alloc (.cells (ns.map (Value.int .u8)).toArray t)) := by
  rw [run_convert_bytes_string _ src dst e _ _ _ hs he hd]
  have h := run_loadCells_list (P := P) (w := w.alloc (.cells (ns.map (Value.int .u8)).toArray t)) ⟨w.heap.size, 0, none⟩ (ns.map (Value.int .u8)) (fun j v hj => by
    have : (Addr.add ⟨w.heap.size, 0, none⟩ j) = (⟨w.heap.size, j, none⟩ : Addr) := by simp [Addr.add]; omega
    rw [this, World.cell?_alloc_new]
    simpa using hj)
  rw [List.length_map] at h
  rw [run_bytesToString _ _ _ _ ns h, foldl_push]
  simp

theorem conv1 (a : Int) (w : World) : (convert 127 9 (.slice (some ⟨w.heap.size, 0, none⟩) 1 1)).run Tryz.prog (w.alloc (.cells #[.int .u8 a] 5)) = .ok (.string ⟨#[UInt8.ofNat a.toNat]⟩) (w.alloc (.cells #[.int .u8 a] 5)) :=
  run_convert_new 127 9 5 Tryz.underlying127 Tryz.underlying5 Tryz.underlying9 [a] 1 w 5
theorem ret_string {a b : ByteArray} (h : a = b) : Ending.returned (.string a) = .returned (.string b) := by rw [h]
end Go.Proofs.YtfbglokjehmgeaaGreatDoor

/- The text that a law writes into an answer to see who else holds it: a function of its number alone. -/
namespace Go.Proofs.YtfbglokjehmgeaaGreatDoor
open Go.RowKit

def mtAux : Nat → Int → ByteArray → ByteArray
  | 0, _, out => out
  | f + 1, k, out => if 0 < k then mtAux f (k / 10) (⟨#[UInt8.ofNat (48 + k % 10).toNat]⟩ ++ out) else out
/-- The text of mark k. -/
def mt (k : Int) : ByteArray := if k ≤ 0 then ⟨#[109, 48]⟩ else ⟨#[109]⟩ ++ mtAux (k.toNat + 1) k ⟨#[]⟩
theorem mtAux_enough : ∀ (f g : Nat) (k : Int) (out : ByteArray), 0 ≤ k → k < f → k < g → mtAux f k out = mtAux g k out
  | 0, _, k, _, h0, h, _ => by omega
  | _ + 1, 0, k, _, h0, _, h => by omega
  | f + 1, g + 1, k, out, h0, hf, hg => by
    simp only [mtAux]
    by_cases c : 0 < k
    · rw [if_pos c, if_pos c]
      exact mtAux_enough f g (k / 10) _ (by omega) (by omega) (by omega)
    · rw [if_neg c, if_neg c]
theorem mtAux_step {k : Int} (out : ByteArray) (h : 0 < k) : mtAux (k.toNat + 1) k out = mtAux ((k / 10).toNat + 1) (k / 10) (⟨#[UInt8.ofNat (48 + k % 10).toNat]⟩ ++ out) := by
  simp only [mtAux]
  rw [if_pos h]
  exact mtAux_enough k.toNat ((k / 10).toNat + 1) (k / 10) _ (by omega) (by omega) (by omega)
theorem mtAux_stop {k : Int} (out : ByteArray) (h : k ≤ 0) : mtAux (k.toNat + 1) k out = out := by
  simp only [mtAux]
  rw [if_neg (by omega)]

theorem one_size (a : UInt8) (o : ByteArray) : ((⟨#[a]⟩ : ByteArray) ++ o).size = 1 + o.size := by rw [ByteArray.size_append]; rfl
set_option maxHeartbeats 1600000 in
theorem markText_any (k : Int) (w : World) (h1 : k ≤ 4000000000000000000) : Calls Tryz.prog 30 #[.int .i64 k] w fun e w' => e = .returned (.string (mt k)) ∧ Below w.heap.size w w' := by
  by_cases h : k ≤ 0
  · have e : mt k = ⟨#[109, 48]⟩ := by unfold mt; rw [if_pos h]
    rw [e]
    clear e
    go_enter Tryz.func30, Tryz.ntmps30
    go_wp2
    go_ret
    exact ⟨rfl, Below.refl _ _⟩
  · have e : mt k = ⟨#[109]⟩ ++ mtAux (k.toNat + 1) k ⟨#[]⟩ := by unfold mt; rw [if_neg h]
    rw [e]
    clear e
    have k1 := conv1
    go_enter Tryz.func30, Tryz.ntmps30
    go_wp2
    go_loopw [0, 3] (fun n out wr => ∃ (j : Int) (o : ByteArray), n = .int .i64 j ∧ out = .string o ∧ 0 ≤ j ∧ (o.size : Int) + j ≤ 4000000000000000000 ∧ Hid (mtAux (j.toNat + 1) j o = mtAux (k.toNat + 1) k ⟨#[]⟩) ∧ Below w.heap.size w wr) (fun n _ _ => (intOf n).toNat)
    case atStart => exact ⟨k, _, rfl, rfl, by omega, by show (0 : Int) + k ≤ _; omega, rfl, Below.refl _ _⟩
    case round =>
      obtain ⟨j, o, rfl, rfl, j0, j1, Hj, hbw⟩ := hrel
      by_cases hp : 0 < j
      · have hz : ¬ 9223372036854775807 < 1 + o.size := by omega
        go_wp2
        go_roundw
        case rel => exact ⟨_, _, rfl, rfl, by omega, by rw [one_size]; omega, by rw [← mtAux_step o hp]; exact Hj, hbw.alloc hbw.size _⟩
        case measure => simp [intOf]; omega
      · have hz : ¬ 9223372036854775807 < 1 + o.size := by omega
        go_wp2
        go_ret
        exact ⟨ret_string (by rw [← Hj.out, mtAux_stop o (by omega)]), hbw⟩
end Go.Proofs.YtfbglokjehmgeaaGreatDoor

/- How a slice of whatever elements lies in memory, said of a list of plain data: one word for arguments, copies and answers; and how the row's own reading of an argument gives it. Of whatever program. No condition. -/
namespace Go.Proofs.YtfbglokjehmgeaaGreatDoor
open Go.ChangeShapes Go.WideShapes Go.ChangeAt Go.RowKit Go.Deep

theorem hide {p : Prop} (h : p) : Hid p := h
/-- Where a reading may lie: in blocks from 'lo' on, below 'hi'; 'made': of a copy that a law makes: not frozen, and what an element leads to lies behind the row itself. -/
structure Md where
  lo : Nat
  hi : Nat
  made : Bool
def Md.inner (m : Md) (b : Nat) : Md := if m.made then { m with lo := b + 1 } else m
theorem Md.inner_hi (m : Md) (b : Nat) : (m.inner b).hi = m.hi := by unfold Md.inner; split <;> rfl
theorem Md.inner_made (m : Md) (b : Nat) : (m.inner b).made = m.made := by unfold Md.inner; split <;> rfl
theorem Md.inner_lo {m : Md} {b : Nat} (h : m.lo ≤ b) : m.lo ≤ (m.inner b).lo := by
  unfold Md.inner
  split
  · exact Nat.le_succ_of_le h
  · exact Nat.le_refl _
/-- From 'lo' on, below 'hi', the two worlds hold the same. -/
def Same (lo hi : Nat) (w w' : World) : Prop := ∀ k, lo ≤ k → k < hi → w'.heap[k]? = w.heap[k]?
theorem Same.of_below {lo hi B : Nat} {w w' : World} (h : Below B w w') (hB : hi ≤ B) : Same lo hi w w' := fun k _ hk => h.block k (by omega)
theorem Same.cell {lo hi : Nat} {w w' : World} (h : Same lo hi w w') {b o : Nat} (h1 : lo ≤ b) (h2 : b < hi) : w'.cell? ⟨b, o, none⟩ = w.cell? ⟨b, o, none⟩ := World.cell?_of_block (w := w) (h b h1 h2)
theorem Same.frozen {lo hi : Nat} {w w' : World} (h : Same lo hi w w') {b o : Nat} (h1 : lo ≤ b) (h2 : b < hi) : w'.frozen? ⟨b, o, none⟩ = w.frozen? ⟨b, o, none⟩ := World.frozen?_of_block (w := w) (h b h1 h2)
theorem Same.refl (lo hi : Nat) (w : World) : Same lo hi w w := fun _ _ _ => rfl
theorem Same.trans {lo hi : Nat} {a b c : World} (h : Same lo hi a b) (k : Same lo hi b c) : Same lo hi a c := fun i x y => (k i x y).trans (h i x y)
theorem Same.setCell {lo hi : Nat} {a w : World} (h : Same lo hi a w) {p : Addr} (hp : p.block < lo) (v : Value) : Same lo hi a (w.setCell p v) := fun k x y => (Below.heap_setCell _ _ _ _ (by omega)).trans (h k x y)
theorem Same.alloc {lo hi : Nat} {a w : World} (h : Same lo hi a w) (hh : hi ≤ w.heap.size) (o : Obj) : Same lo hi a (w.alloc o) := fun k x y => (Below.heap_alloc _ _ _ (by omega)).trans (h k x y)
theorem Same.sub {lo hi lo' hi' : Nat} {w w' : World} (h : Same lo hi w w') (h1 : lo ≤ lo') (h2 : hi' ≤ hi) : Same lo' hi' w w' := fun k a b => h k (by omega) (by omega)
/-- An element's reading: its cells, by their number; the world; where what it leads to lies. -/
abbrev Elem (α : Type) := (Nat → Option Value) → World → Md → α → Prop
/-- A slice that holds the list. -/
def SlAt {α : Type} (E : Elem α) (sz : Nat) (w : World) (m : Md) (v : Value) (l : List α) : Prop :=
  ∃ a c, v = .slice a l.length c ∧ ∀ i (h : i < l.length), ∃ b o, a = some ⟨b, o, none⟩ ∧ (m.lo ≤ b ∧ l.length ≤ c) ∧ b < m.hi ∧ (m.made = true → ∀ j, w.frozen? ⟨b, j, none⟩ = false) ∧ E (fun j => w.cell? ⟨b, o + i * sz + j, none⟩) w (m.inner b) l[i]
/-- The element goes on in a world that holds the same where it leads to. -/
def Stays {α : Type} (E : Elem α) : Prop := ∀ cf w w' m x, E cf w m x → Same m.lo m.hi w w' → E cf w' m x
/-- .. and in wider bounds. -/
def Widens {α : Type} (E : Elem α) : Prop := ∀ cf w m m' x, E cf w m x → m'.lo ≤ m.lo → m.hi ≤ m'.hi → m'.made = m.made → E cf w m' x
theorem SlAt.same {α : Type} {E : Elem α} {sz : Nat} {w w' : World} {m : Md} {v : Value} {l : List α} (hE : Stays E) (h : SlAt E sz w m v l) (s : Same m.lo m.hi w w') : SlAt E sz w' m v l := by
  obtain ⟨a, c, rfl, h⟩ := h
  refine ⟨a, c, rfl, fun i hi => ?_⟩
  obtain ⟨b, o, e, h1, h2, h3, h4⟩ := h i hi
  refine ⟨b, o, e, h1, h2, fun hm j => (s.frozen h1.1 h2).trans (h3 hm j), ?_⟩
  have : (fun j => w'.cell? ⟨b, o + i * sz + j, none⟩) = fun j => w.cell? ⟨b, o + i * sz + j, none⟩ := funext fun j => s.cell h1.1 h2
  rw [this]
  exact hE _ _ _ _ _ h4 (s.sub (Md.inner_lo h1.1) (by rw [Md.inner_hi]; exact Nat.le_refl _))
theorem rows_on {α : Type} {E : Elem α} {sz : Nat} {w w' : World} {m : Md} {a : Option Addr} {c : Nat} {l : List α} (hE : Stays E) (h : ∀ i (h : i < l.length), ∃ b o, a = some ⟨b, o, none⟩ ∧ (m.lo ≤ b ∧ l.length ≤ c) ∧ b < m.hi ∧ (m.made = true → ∀ j, w.frozen? ⟨b, j, none⟩ = false) ∧ E (fun j => w.cell? ⟨b, o + i * sz + j, none⟩) w (m.inner b) l[i]) (bel : Below m.hi w w') :
    ∀ i (h : i < l.length), ∃ b o, a = some ⟨b, o, none⟩ ∧ (m.lo ≤ b ∧ l.length ≤ c) ∧ b < m.hi ∧ (m.made = true → ∀ j, w'.frozen? ⟨b, j, none⟩ = false) ∧ E (fun j => w'.cell? ⟨b, o + i * sz + j, none⟩) w' (m.inner b) l[i] := by
  obtain ⟨a', c', e, r⟩ := SlAt.same (w' := w') hE ⟨a, c, rfl, h⟩ (.of_below bel (Nat.le_refl _))
  cases e
  exact r
theorem SlAt.on {α : Type} {E : Elem α} {sz : Nat} {w w' : World} {m : Md} {v : Value} {l : List α} (hE : Stays E) (h : SlAt E sz w m v l) (bel : Below m.hi w w') : SlAt E sz w' m v l := h.same hE (.of_below bel (Nat.le_refl _))
theorem Md.inner_wid {m m' : Md} {b : Nat} (h1 : m'.lo ≤ m.lo) (h3 : m'.made = m.made) : (m'.inner b).lo ≤ (m.inner b).lo := by
  unfold Md.inner
  rw [h3]
  split
  · exact Nat.le_refl _
  · exact h1
theorem SlAt.wid {α : Type} {E : Elem α} {sz : Nat} {w : World} {m m' : Md} {v : Value} {l : List α} (hE : Widens E) (h : SlAt E sz w m v l) (h1 : m'.lo ≤ m.lo) (h2 : m.hi ≤ m'.hi) (h3 : m'.made = m.made) : SlAt E sz w m' v l := by
  obtain ⟨a, c, rfl, h⟩ := h
  refine ⟨a, c, rfl, fun i hi => ?_⟩
  obtain ⟨b, o, e, g1, g2, g3, g4⟩ := h i hi
  exact ⟨b, o, e, ⟨by omega, g1.2⟩, by omega, fun hm j => g3 (by rw [← h3]; exact hm) j, hE _ _ _ _ _ g4 (Md.inner_wid h1 h3) (by rw [Md.inner_hi, Md.inner_hi]; exact h2) (by rw [Md.inner_made, Md.inner_made]; exact h3)⟩
theorem SlAt.nil {α : Type} {E : Elem α} {sz : Nat} {w : World} {m : Md} {a : Option Addr} {c : Nat} : SlAt E sz w m (.slice a 0 c) ([] : List α) := ⟨a, c, rfl, fun i hi => absurd hi (by simp)⟩
theorem heapCells {w : World} {b : Nat} {C : Array Value} {T : TypeId} (h : w.heap[b]? = some (.cells C T (0, 0))) : (∀ j, w.cell? ⟨b, j, none⟩ = C[j]?) ∧ ∀ j, w.frozen? ⟨b, j, none⟩ = false := by
  constructor
  · intro j; simp [World.cell?, h]
  · intro j; simp [World.frozen?, h]
/-- A row of the call's own that holds the elements. -/
theorem SlAt.of_row {α : Type} {E : Elem α} {sz : Nat} {w : World} {m : Md} {g c : Nat} {C : Array Value} {T : TypeId} {l : List α} (h : w.heap[g]? = some (.cells C T (0, 0))) (h1 : m.lo ≤ g) (h2 : g < m.hi) (hcap : l.length ≤ c)
    (hE : ∀ i (h : i < l.length), E (fun j => C[i * sz + j]?) w (m.inner g) l[i]) : SlAt E sz w m (.slice (some ⟨g, 0, none⟩) l.length c) l := by
  refine ⟨_, c, rfl, fun i hi => ⟨g, 0, rfl, ⟨h1, hcap⟩, h2, fun _ => (heapCells h).2, ?_⟩⟩
  have : (fun j => w.cell? ⟨g, 0 + i * sz + j, none⟩) = fun j => C[i * sz + j]? := funext fun j => by rw [(heapCells h).1, Nat.zero_add]
  rw [this]
  exact hE i hi
/-- 'make' with a length that is a variable, elements of whatever size. -/
theorem run_make_many {P : Program} (t e : TypeId) (z : Value) (size bytes : Nat) (ht : P.underlying t = some (.slice e)) (hinfo : (P.info? e).map (fun i => (i.zero, i.size, i.bytes)) = some (some z, size, bytes)) (n : Nat) (hb : bytes * n ≤ 281474976710656) (h63 : n ≤ 9223372036854775807) (w : World) :
    (Instr.makeSlice t (.int .i64 (n : Int)) (.int .i64 (n : Int))).run P w = .ok (.slice (some ⟨w.heap.size, 0, none⟩) n n) (w.alloc (.cells (madeCells z.cells (n * size)) e)) := by
  obtain ⟨i, hi, hzz⟩ := Option.map_eq_some_iff.1 hinfo
  simp only [Prod.mk.injEq] at hzz
  obtain ⟨hz, hs, hbb⟩ := hzz
  have hb' : (i.bytes : Int) * (n : Int) ≤ 281474976710656 := by
    have h : ((i.bytes * n : Nat) : Int) ≤ 281474976710656 := by rw [hbb]; omega
    rwa [Int.natCast_mul] at h
  have hr := run_make (P := P) w t e i z ht hi hz .i64 .i64 n n (by omega) (Int.le_refl _) hb' (by omega)
  simp only [Int.toNat_natCast, hs] at hr
  exact hr

/-- The element's reading asks for its own cells alone. -/
def Loc {α : Type} (E : Elem α) (sz : Nat) : Prop := ∀ cf cf' w m x, (∀ j, j < sz → cf' j = cf j) → E cf w m x → E cf' w m x
/-- Values laid into a row, one behind the other. -/
def setRow (w : World) (g : Nat) : Nat → List Value → World
  | _, [] => w
  | o, v :: vs => setRow (w.setCell ⟨g, o, none⟩ v) g (o + 1) vs
def putRow (C : Array Value) : Nat → List Value → Array Value
  | _, [] => C
  | o, v :: vs => putRow (C.setIfInBounds o v) (o + 1) vs
theorem putRow_size : ∀ (vs : List Value) (C : Array Value) (o : Nat), (putRow C o vs).size = C.size
  | [], _, _ => rfl
  | v :: vs, C, o => by rw [putRow, putRow_size vs]; simp
theorem putRow_out : ∀ (vs : List Value) (C : Array Value) (o i : Nat), i < o ∨ o + vs.length ≤ i → (putRow C o vs)[i]? = C[i]?
  | [], _, _, _, _ => rfl
  | v :: vs, C, o, i, h => by
    rw [putRow, putRow_out vs _ _ _ (by simp at h; omega), Array.getElem?_setIfInBounds_ne (by simp at h; omega)]
theorem putRow_at : ∀ (vs : List Value) (C : Array Value) (o j : Nat), j < vs.length → o + vs.length ≤ C.size → (putRow C o vs)[o + j]? = vs[j]?
  | [], _, _, _, h, _ => by simp at h
  | v :: vs, C, o, 0, _, h2 => by
    rw [putRow, putRow_out vs _ _ _ (by omega), Nat.add_zero, Array.getElem?_setIfInBounds_self_of_lt (by simp at h2; omega)]
    rfl
  | v :: vs, C, o, j + 1, h1, h2 => by
    rw [putRow, show o + (j + 1) = o + 1 + j by omega, putRow_at vs _ _ _ (by simpa using h1) (by simp at h2 ⊢; omega)]
    rfl
theorem block_set {w : World} {g o : Nat} {C : Array Value} {T : TypeId} (h : w.heap[g]? = some (.cells C T (0, 0))) (v : Value) : (w.setCell ⟨g, o, none⟩ v).heap[g]? = some (.cells (C.setIfInBounds o v) T (0, 0)) := by
  simp only [World.setCell, Array.getElem?_modify]
  rw [h]
  rfl
theorem setRow_heap : ∀ (vs : List Value) {w : World} {g o : Nat} {C : Array Value} {T : TypeId}, w.heap[g]? = some (.cells C T (0, 0)) → (setRow w g o vs).heap[g]? = some (.cells (putRow C o vs) T (0, 0))
  | [], _, _, _, _, _, h => h
  | v :: vs, _, _, _, _, _, h => setRow_heap vs (block_set h v)
theorem setRow_other : ∀ (vs : List Value) (w : World) (g o k : Nat), k ≠ g → (setRow w g o vs).heap[k]? = w.heap[k]?
  | [], _, _, _, _, _ => rfl
  | v :: vs, w, g, o, k, h => by rw [setRow, setRow_other vs _ _ _ _ h, Below.heap_setCell _ _ _ _ h]
theorem setRow_size : ∀ (vs : List Value) (w : World) (g o : Nat), (setRow w g o vs).heap.size = w.heap.size
  | [], _, _, _ => rfl
  | v :: vs, w, g, o => by rw [setRow, setRow_size vs]; simp [World.setCell]
theorem setRow_below {B : Nat} : ∀ (vs : List Value) {a w : World} {g o : Nat}, Below B a w → B ≤ g → Below B a (setRow w g o vs)
  | [], _, _, _, _, h, _ => h
  | v :: vs, _, _, _, _, h, hb => setRow_below vs (h.setCell (p := ⟨_, _, none⟩) hb v) hb
/-- One element more. -/
theorem rows_step {α : Type} {E : Elem α} {sz : Nat} (hL : Loc E sz) (hS : Stays E) (hW : Widens E) {w w1 : World} {g k : Nat} {C : Array Value} {l : List α} {vs : List Value} {x : α} (hlen : vs.length = sz) (hk : k < l.length) (hx : l[k] = x) (hsz : l.length * sz ≤ C.size)
    (old : ∀ i (h : i < l.length), i < k → E (fun j => C[i * sz + j]?) w ⟨g + 1, w.heap.size, true⟩ l[i]) (bel : Below w.heap.size w w1) (new : E (fun j => vs[j]?) w1 ⟨g + 1, w1.heap.size, true⟩ x) :
    ∀ i (h : i < l.length), i < k + 1 → E (fun j => (putRow C (k * sz) vs)[i * sz + j]?) (setRow w1 g (k * sz) vs) ⟨g + 1, (setRow w1 g (k * sz) vs).heap.size, true⟩ l[i] := by
  intro i hi hk1
  have hs : Same (g + 1) (setRow w1 g (k * sz) vs).heap.size w1 (setRow w1 g (k * sz) vs) := fun b h _ => setRow_other _ _ _ _ _ (by omega)
  have hle : (k + 1) * sz ≤ l.length * sz := Nat.mul_le_mul_right _ hk
  rw [Nat.succ_mul] at hle
  by_cases e : i < k
  · have h1 := hW _ _ _ ⟨g + 1, (setRow w1 g (k * sz) vs).heap.size, true⟩ _ (hS _ _ w1 _ _ (old i hi e) (.of_below bel (Nat.le_refl _))) (Nat.le_refl _) (by rw [setRow_size]; exact bel.size) rfl
    refine hL _ _ _ _ _ (fun j hj => ?_) (hS _ _ _ _ _ h1 hs)
    have : (i + 1) * sz ≤ k * sz := Nat.mul_le_mul_right _ e
    rw [Nat.succ_mul] at this
    exact putRow_out _ _ _ _ (by omega)
  · obtain rfl : i = k := by omega
    rw [hx]
    have h1 := hW _ _ _ ⟨g + 1, (setRow w1 g (i * sz) vs).heap.size, true⟩ _ new (Nat.le_refl _) (by rw [setRow_size]; exact Nat.le_refl _) rfl
    refine hL _ _ _ _ _ (fun j hj => ?_) (hS _ _ _ _ _ h1 hs)
    exact putRow_at _ _ _ _ (by omega) (by omega)
theorem bcell {W w1 : World} (hb : Below W.heap.size W w1) : (∀ b o, b < W.heap.size → w1.cell? ⟨b, o, none⟩ = W.cell? ⟨b, o, none⟩) ∧ (∀ b o, b < W.heap.size → w1.frozen? ⟨b, o, none⟩ = W.frozen? ⟨b, o, none⟩) :=
  ⟨fun _ _ h => hb.cell (p := ⟨_, _, none⟩) h, fun _ _ h => hb.frozen (p := ⟨_, _, none⟩) h⟩
section
variable {H : Type} {enc : TypeId × Value → H} {P : Program} {w : World}
/-- What the row's reading of an element gives, wherever its cells lie. -/
def Opens {α : Type} (enc : TypeId × Value → H) (P : Program) (w : World) (e : TypeId) (E : Elem α) : Prop :=
  ∀ fuel cs y, DataW.trod enc P w 0 (fun _ => true) true fuel e cs = some y → ∃ x : α, ∀ cf : Nat → Option Value, (∀ j, j < P.cellsOf e → cf j = cs[j]?) → E cf w ⟨0, w.heap.size, false⟩ x
theorem opens_slice {α : Type} {E : Elem α} {t e : TypeId} {fuel : Nat} {cs : List Value} {y : DataW H × List MemPlace} (ht : P.underlying t = some (.slice e)) (hpos : 0 < P.cellsOf e) (hE : Opens enc P w e E)
    (h : DataW.trod enc P w 0 (fun _ => true) true fuel t cs = some y) : ∃ (v : Value) (l : List α), cs = [v] ∧ SlAt E (P.cellsOf e) w ⟨0, w.heap.size, false⟩ v l ∧ l.length ≤ maxLen := by
  rcases open_slice ht h with ⟨rfl, _⟩ | ⟨a, len, cap, m, n, D, Pl, rfl, _, hl, hm, hmm, _, hx⟩
  · exact ⟨_, [], rfl, SlAt.nil, Nat.zero_le _⟩
  · have hm' : m = cap := by rw [hmm]; exact if_pos rfl
    subst hm'
    by_cases z : len = 0
    · subst z
      exact ⟨_, [], rfl, SlAt.nil, Nat.zero_le _⟩
    obtain ⟨b, o, spot⟩ := a
    have hspot : spot = none := by
      obtain ⟨cs', h1, _⟩ := hx 0 (by omega)
      obtain ⟨_, hlen, hcell⟩ := World.cells?_some h1
      have h0 := hcell 0 (by omega)
      rw [List.getElem?_eq_getElem (by omega)] at h0
      simpa [Addr.add] using World.cell?_spot h0
    subst hspot
    have each : ∀ i, i < len → ∃ x : α, b < w.heap.size ∧ E (fun j => w.cell? ⟨b, o + i * P.cellsOf e + j, none⟩) w ⟨0, w.heap.size, false⟩ x := fun i hi => by
      obtain ⟨cs', h1, h2⟩ := hx i (by omega)
      obtain ⟨_, hlen, hcell⟩ := World.cells?_some h1
      obtain ⟨x, hxx⟩ := hE _ _ _ h2
      have h0 := hcell 0 (by omega)
      rw [List.getElem?_eq_getElem (by omega)] at h0
      rw [add_plain, add_plain] at h0
      have hb := block_lt h0
      refine ⟨x, hb, hxx _ (fun j hj => ?_)⟩
      have := hcell j hj
      rwa [add_plain, add_plain] at this
    obtain ⟨x0, _⟩ := each 0 (by omega)
    have inh : Inhabited α := ⟨x0⟩
    obtain ⟨f, hf⟩ := choose_lt each
    refine ⟨_, (List.range len).map f, rfl, ⟨some ⟨b, o, none⟩, m, by simp, fun i hi => ?_⟩, by simp; omega⟩
    have hi' : i < len := by simpa using hi
    obtain ⟨hb, he⟩ := hf i hi'
    exact ⟨b, o, rfl, ⟨Nat.zero_le _, by simp; omega⟩, hb, (fun h => by cases h), by simpa [Md.inner] using he⟩
/-- A struct of one-cell fields: each field's own reading. -/
theorem open_fields {t : TypeId} {fs : Array Field} {fuel : Nat} {cs : List Value} {y : DataW H × List MemPlace} (hs : P.underlying t = some (.struct fs))
    (hone : ∀ (i : Nat) (f : Field), fs[i]? = some f → f.offset = i ∧ P.cellsOf f.type = 1) (hC : P.cellsOf t = fs.size) (h : DataW.trod enc P w 0 (fun _ => true) true fuel t cs = some y) :
    cs.length = fs.size ∧ ∀ (i : Nat) (f : Field), fs[i]? = some f → ∃ v n z, cs[i]? = some v ∧ DataW.trod enc P w 0 (fun _ => true) true n f.type [v] = some z := by
  obtain ⟨xs, n, _, _, hl, hxl, hf⟩ := DataW.trod_struct hs h
  refine ⟨by omega, fun i f hi => ?_⟩
  have hlt : i < fs.size := (Array.getElem?_eq_some_iff.1 hi).1
  obtain ⟨ho, hc1⟩ := hone i f hi
  have g := hf i f hi
  rw [ho, hc1, take1_drop cs i undef (by omega), List.getElem?_eq_getElem (by omega)] at g
  refine ⟨cs.getD i undef, n, _, ?_, g⟩
  simp [List.getD, List.getElem?_eq_getElem (show i < cs.length by omega)]
end
end Go.Proofs.YtfbglokjehmgeaaGreatDoor

namespace Go.Proofs.YtfbglokjehmgeaaGreatDoor
open Go.ChangeShapes Go.WideShapes Go.ChangeAt Go.RowKit Go.Deep

/-- A cell that is there and may be written. -/
def Al (w : World) (b o : Nat) : Prop := (∃ z, w.cell? ⟨b, o, none⟩ = some z) ∧ w.frozen? ⟨b, o, none⟩ = false
theorem Al.set {w : World} {b o : Nat} (h : Al w b o) (p : Addr) (v : Value) : Al (w.setCell p v) b o := by
  obtain ⟨⟨z, hz⟩, hf⟩ := h
  exact ⟨cell?_setCell_some hz, by rw [World.frozen?_setCell]; exact hf⟩
/-- Of what was there, the blocks of S alone have turned; no cell is gone. -/
structure Tch (S : Nat → Prop) (w w' : World) : Prop where
  os : w'.os = w.os
  tape : w'.tape = w.tape
  output : w'.output = w.output
  size : w.heap.size ≤ w'.heap.size
  block : ∀ k, k < w.heap.size → ¬ S k → w'.heap[k]? = w.heap[k]?
  al : ∀ b o, Al w b o → Al w' b o
theorem Tch.refl (S : Nat → Prop) (w : World) : Tch S w w := ⟨rfl, rfl, rfl, Nat.le_refl _, fun _ _ _ => rfl, fun _ _ h => h⟩
theorem Tch.trans {S : Nat → Prop} {a b c : World} (h : Tch S a b) (k : Tch S b c) : Tch S a c :=
  ⟨k.os.trans h.os, k.tape.trans h.tape, k.output.trans h.output, Nat.le_trans h.size k.size, fun i hi hs => (k.block i (Nat.lt_of_lt_of_le hi h.size) hs).trans (h.block i hi hs), fun b o ha => k.al b o (h.al b o ha)⟩
theorem Tch.of_below {S : Nat → Prop} {w w' : World} (h : Below w.heap.size w w') : Tch S w w' :=
  ⟨h.os, h.tape, h.output, h.size, fun k hk _ => h.block k hk, fun b o ⟨⟨z, hz⟩, hf⟩ => ⟨⟨z, (h.cell (p := ⟨b, o, none⟩) (block_lt hz)).trans hz⟩, (h.frozen (p := ⟨b, o, none⟩) (block_lt hz)).trans hf⟩⟩
theorem Tch.set {S : Nat → Prop} {a w : World} (h : Tch S a w) {b : Nat} (hb : S b) (o : Nat) (v : Value) : Tch S a (w.setCell ⟨b, o, none⟩ v) :=
  h.trans ⟨rfl, rfl, rfl, by simp [World.setCell], fun k _ hk => Below.heap_setCell _ _ _ _ (fun e => hk (by rw [e]; exact hb)), fun _ _ ha => ha.set _ _⟩
theorem Tch.wid {S S' : Nat → Prop} {w w' : World} (h : Tch S w w') (hs : ∀ k, S k → S' k) : Tch S' w w' := ⟨h.os, h.tape, h.output, h.size, fun k hk hn => h.block k hk fun e => hn (hs k e), h.al⟩
theorem Tch.below {S : Nat → Prop} {w w' : World} {B : Nat} (h : Tch S w w') (hB : B ≤ w.heap.size) (hs : ∀ k, k < B → ¬ S k) : Below B w w' := ⟨h.os, h.tape, h.output, h.size, fun k hk => h.block k (by omega) (hs k hk)⟩
theorem Tch.cell {S : Nat → Prop} {w w' : World} (h : Tch S w w') {b o : Nat} {z : Value} (hb : ¬ S b) (hz : w.cell? ⟨b, o, none⟩ = some z) : w'.cell? ⟨b, o, none⟩ = some z :=
  (World.cell?_of_block (w := w) (a := ⟨b, o, none⟩) (h.block b (block_lt hz) hb)).trans hz
theorem set_at {w : World} {G o : Nat} (h : Al w G o) (v : Value) : (w.setCell ⟨G, o, none⟩ v).cell? ⟨G, o, none⟩ = some v := by
  obtain ⟨⟨z, hz⟩, -⟩ := h
  exact World.cell?_setCell_same _ _ _ hz
theorem set_off {w : World} {G o o' : Nat} {z : Value} (h : w.cell? ⟨G, o, none⟩ = some z) (hne : o' ≠ o) (v : Value) : (w.setCell ⟨G, o', none⟩ v).cell? ⟨G, o, none⟩ = some z := by
  rw [World.cell?_setCell_other _ _ _ _ (fun e => hne (congrArg Addr.off e))]
  exact h
/-- A row of structs of sz cells, there to be marked. -/
def FAl (w : World) (B : Nat) (u : Value) (n sz : Nat) : Prop := ∃ a c, u = .slice a n c ∧ ∀ j, j < n → ∃ g, a = some ⟨g, 0, none⟩ ∧ u.ownBlock = some g ∧ B ≤ g ∧ ∀ q, q < sz → Al w g (j * sz + q)
theorem FAl.on {S : Nat → Prop} {w w' : World} {B : Nat} {u : Value} {n sz : Nat} (h : FAl w B u n sz) (t : Tch S w w') : FAl w' B u n sz := by
  obtain ⟨a, c, e, hj⟩ := h
  refine ⟨a, c, e, fun j hjn => ?_⟩
  obtain ⟨g, e1, e2, h1, h2⟩ := hj j hjn
  exact ⟨g, e1, e2, h1, fun q hq => t.al _ _ (h2 q hq)⟩
/-- The first k structs of the row at g are marked. -/
def FMs (w : World) (g sz : Nat) (ms : Int → List Value) (K : Int) (k : Nat) : Prop := ∀ j, j < k → ∀ q y, (ms (K + (sz : Int) * (j : Int)))[q]? = some y → w.cell? ⟨g, j * sz + q, none⟩ = some y
theorem FMs.set {w : World} {g sz : Nat} {ms : Int → List Value} {K : Int} {k : Nat} (h : FMs w g sz ms K k) (hl : ∀ K, (ms K).length = sz) {o : Nat} (ho : k * sz ≤ o) (v : Value) : FMs (w.setCell ⟨g, o, none⟩ v) g sz ms K k := by
  intro j hj q y hq
  have hql : q < sz := by rw [← hl (K + (sz : Int) * (j : Int))]; exact (List.getElem?_eq_some_iff.1 hq).1
  have : (j + 1) * sz ≤ k * sz := Nat.mul_le_mul_right _ hj
  rw [Nat.add_mul, Nat.one_mul] at this
  exact set_off (h j hj q y hq) (by omega) v
theorem FMs.tch {S : Nat → Prop} {w w' : World} {g sz : Nat} {ms : Int → List Value} {K : Int} {k : Nat} (h : FMs w g sz ms K k) (t : Tch S w w') (hS : ¬ S g) : FMs w' g sz ms K k := fun j hj q y hq => t.cell hS (h j hj q y hq)
theorem FMs.succ {w : World} {g sz : Nat} {ms : Int → List Value} {K : Int} {k : Nat} (h : FMs w g sz ms K k) (h2 : ∀ q y, (ms (K + (sz : Int) * (k : Int)))[q]? = some y → w.cell? ⟨g, k * sz + q, none⟩ = some y) : FMs w g sz ms K (k + 1) := by
  intro j hj q y hq
  by_cases e : j < k
  · exact h j e q y hq
  · obtain rfl : j = k := by omega
    exact h2 q y hq
/-- .. marked. -/
def FMk (w : World) (u : Value) (n sz : Nat) (ms : Int → List Value) (K : Int) : Prop := ∃ a c, u = .slice a n c ∧ ∀ j, j < n → ∃ g, a = some ⟨g, 0, none⟩ ∧ u.ownBlock = some g ∧ ∀ q y, (ms (K + (sz : Int) * (j : Int)))[q]? = some y → w.cell? ⟨g, j * sz + q, none⟩ = some y
theorem FMk.on {S : Nat → Prop} {w w' : World} {u : Value} {n sz : Nat} {ms : Int → List Value} {K : Int} (h : FMk w u n sz ms K) (t : Tch S w w') (hs : ∀ g, u.ownBlock = some g → ¬ S g) : FMk w' u n sz ms K := by
  obtain ⟨a, c, e, hj⟩ := h
  refine ⟨a, c, e, fun j hjn => ?_⟩
  obtain ⟨g, e1, e2, h1⟩ := hj j hjn
  exact ⟨g, e1, e2, fun q y hq => t.cell (hs g e2) (h1 q y hq)⟩
end Go.Proofs.YtfbglokjehmgeaaGreatDoor
