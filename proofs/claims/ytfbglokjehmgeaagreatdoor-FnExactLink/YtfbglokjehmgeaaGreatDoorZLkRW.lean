/- Linking, the model's resolve. No condition. -/
import Derived.Test.YtfbglokjehmgeaaGreatDoorZLawZ
namespace Go.Proofs.YtfbglokjehmgeaaGreatDoor
open Go.ChangeShapes Go.WideShapes Go.ChangeAt Go.RowKit Go.Deep

theorem grown_below {B b : Nat} {w w' : World} (h : w.grownBy w' (some b)) (hb : B ≤ b) (hB : B ≤ w.heap.size) : Below B w w' := (Below.refl _ _).grown h hB fun k hk => by cases hk; exact hb
theorem below_grown {b : Nat} {w w' : World} (h : Below w.heap.size w w') : w.grownBy w' (some b) := ⟨h.os, h.tape, h.output, h.size, fun k hk _ => h.block k hk⟩
theorem InsAt.cells {cf : Nat → Option Value} {w : World} {m : Md} {x : InsD} (h : InsAt cf w m x) : ∀ j, j < insK.sz → cf j = (insK.cs x)[j]? := by
  obtain ⟨⟨c0, c1, c2, c3, c4⟩, -⟩ := h
  intro j hj
  match j, hj with
  | 0, _ => exact c0
  | 1, _ => exact c1
  | 2, _ => exact c2
  | 3, _ => exact c3
  | 4, _ => exact c4
def RsPost (P : List ObjectD) (N : List ByteArray) (mo cn : ByteArray) (pp ce rr : Int) (cl : List InsD) (b B : Nat) (lv ov pv : Value) (o : List Nat) (p : List ByteArray) (st : Int × ByteArray) (w : World) (e : Ending) (w' : World) : Prop :=
  (∃ v, e = .returned (.agg #[.string cn, .int .i64 pp, .int .i64 ce, .int .i64 rr, v]) ∧ FRow insK w' w.heap.size v (cl.map (insR P N))) ∧ LX w' b B lv ov pv o p (resF P N mo cl st).1 (resF P N mo cl st).2 ∧ w.grownBy w' (some b)
/-- What stands at the beginning of a round. -/
def RI (P : List ObjectD) (N : List ByteArray) (cl : List InsD) (b B : Nat) (lv ov pv : Value) (o : List Nat) (p : List ByteArray) (w : World) (O C R : Array Value) (g n cap j : Nat) (c1 : Int) (s1 : ByteArray) (wr : World) : Prop :=
  FRow insK wr w.heap.size (.slice (some ⟨g, 0, none⟩) n cap) ((cl.take j).map (insR P N) ++ cl.drop j) ∧ LX wr b B lv ov pv o p c1 s1 ∧ wr.heap[w.heap.size]? = some (.cells O 48 (0, 0)) ∧ wr.heap[w.heap.size + 1]? = some (.cells C 86 (0, 0)) ∧ wr.heap[w.heap.size + 2]? = some (.cells R 86 (0, 0)) ∧ w.grownBy wr (some b)
section
variable {P : List ObjectD} {N : List ByteArray} {cl : List InsD} {b B : Nat} {lv ov pv : Value} {o : List Nat} {p : List ByteArray} {w : World} {O C R : Array Value} {g n cap j : Nat} {c1 c2 : Int} {s1 s2 : ByteArray} {wr w' : World}
theorem RI.below (h : RI P N cl b B lv ov pv o p w O C R g n cap j c1 s1 wr) (bel : Below wr.heap.size wr w') : RI P N cl b B lv ov pv o p w O C R g n cap j c1 s1 w' := by
  obtain ⟨h1, h2, h3, h4, h5, h6⟩ := h
  have hlt : ∀ {k : Nat} {x : Obj}, wr.heap[k]? = some x → w'.heap[k]? = some x := fun hx => (bel.block _ (Array.getElem?_eq_some_iff.1 hx).1).trans hx
  exact ⟨h1.on bel, h2.below bel, hlt h3, hlt h4, hlt h5, h6.trans (below_grown bel)⟩
theorem RI.fail (h : RI P N cl b B lv ov pv o p w O C R g n cap j c1 s1 wr) (hb : b < w.heap.size) (hg : wr.grownBy w' (some b)) (hl : LX w' b B lv ov pv o p c2 s2) : RI P N cl b B lv ov pv o p w O C R g n cap j c2 s2 w' := by
  obtain ⟨h1, h2, h3, h4, h5, h6⟩ := h
  have hlt : ∀ {k : Nat} {x : Obj}, w.heap.size ≤ k → wr.heap[k]? = some x → w'.heap[k]? = some x := fun hk hx => (hg.block _ (Array.getElem?_eq_some_iff.1 hx).1 (fun e => by cases e; omega)).trans hx
  exact ⟨h1.of_heap fun k hk hk1 _ => hg.block k hk1 (fun e => by cases e; omega), hl, hlt (Nat.le_refl _) h3, hlt (by omega) h4, hlt (by omega) h5, h6.trans hg⟩
theorem RI.keep (h : RI P N cl b B lv ov pv o p w O C R g n cap j c1 s1 wr) (hj : j < cl.length) (hf : insR P N cl[j] = cl[j]) : RI P N cl b B lv ov pv o p w O C R g n cap (j + 1) c1 s1 wr := by
  obtain ⟨h1, h2⟩ := h
  rw [resX_keep hj hf] at h1
  exact ⟨h1, h2⟩
theorem RI.store (h : RI P N cl b B lv ov pv o p w O C R g n cap j c1 s1 wr) (hj : j < cl.length) (hb : b < w.heap.size) : RI P N cl b B lv ov pv o p w O C R g n cap (j + 1) c1 s1 (setRow wr g (j * 5) (insK.cs (insR P N cl[j]))) := by
  obtain ⟨h1, h2, h3, h4, h5, h6⟩ := h
  obtain ⟨hj2, -⟩ := resX_at (f := insR P N) hj
  have hgt := h1.ty (k := g) rfl
  obtain ⟨G, hG⟩ := hgt
  obtain ⟨hg1, hg2⟩ := h1.lt (k := g) rfl
  have hne : ∀ {k : Nat} {X : Array Value} {T : TypeId}, wr.heap[k]? = some (.cells X T (0, 0)) → T ≠ 139 → k ≠ g := fun hx hT e => by
    subst e
    rw [hG] at hx
    cases hx
    exact hT rfl
  have hoth : ∀ k, k ≠ g → (setRow wr g (j * 5) (insK.cs (insR P N cl[j]))).heap[k]? = wr.heap[k]? := fun k hk => setRow_other _ _ _ _ _ hk
  have hset := h1.setAt insOk hj2 (insR P N cl[j])
  rw [resX_set hj] at hset
  refine ⟨hset, h2.turn (hoth b (by omega)) (fun k _ ⟨X, T, hX, hT⟩ => hoth k (hne hX (by rcases hT with e | e <;> rw [e] <;> decide))), (hoth _ (hne h3 (by decide))).trans h3, (hoth _ (hne h4 (by decide))).trans h4, (hoth _ (hne h5 (by decide))).trans h5, ?_⟩
  have e0 : ∀ (vs : List Value) (w1 : World) (o : Nat), (setRow w1 g o vs).os = w1.os ∧ (setRow w1 g o vs).tape = w1.tape ∧ (setRow w1 g o vs).output = w1.output := by
    intro vs
    induction vs with
    | nil => intro w1 o; exact ⟨rfl, rfl, rfl⟩
    | cons v vs ih => intro w1 o; exact ih _ _
  obtain ⟨q1, q2, q3⟩ := e0 (insK.cs (insR P N cl[j])) wr (j * 5)
  exact ⟨q1.trans h6.os, q2.trans h6.tape, q3.trans h6.output, by rw [setRow_size]; exact h6.size, fun k hk hkb => (hoth k (by omega)).trans (h6.block k hk hkb)⟩
end
theorem RsPost_of {P : List ObjectD} {N : List ByteArray} {mo cn : ByteArray} {pp ce rr : Int} {cl : List InsD} {b B g n cap : Nat} {lv ov pv : Value} {o : List Nat} {p : List ByteArray} {st : Int × ByteArray} {w W W' : World} {R : Int × ByteArray} {c1 : Int} {s1 : ByteArray}
    (h : FRow insK W w.heap.size (.slice (some ⟨g, 0, none⟩) n cap) (cl.map (insR P N))) (hR : resF P N mo cl st = R) (hj : resF P N mo (cl.drop n) (c1, s1) = R) (hn : cl.length = n) (hl : LX W b B lv ov pv o p c1 s1) (hg : w.grownBy W (some b))
    (h1 : ∃ D, W.heap[w.heap.size + 1]? = some (.cells D 86 (0, 0))) (h2 : ∃ D, W.heap[w.heap.size + 1 + 1]? = some (.cells D 86 (0, 0))) (hb : b < w.heap.size)
    (hk : ∀ k, k ≠ w.heap.size + 1 → k ≠ w.heap.size + 1 + 1 → W'.heap[k]? = W.heap[k]?) (hs : W'.heap.size = W.heap.size) (ho : W'.os = W.os ∧ W'.tape = W.tape ∧ W'.output = W.output) :
    (∃ v, Ending.returned (.agg #[.string cn, .int .i64 pp, .int .i64 ce, .int .i64 rr, .slice (some ⟨g, 0, none⟩) n cap]) = .returned (.agg #[.string cn, .int .i64 pp, .int .i64 ce, .int .i64 rr, v]) ∧ FRow insK W' w.heap.size v (cl.map (insR P N))) ∧ LX W' b B lv ov pv o p R.1 R.2 ∧ w.grownBy W' (some b) := by
  obtain ⟨D1, h1⟩ := h1
  obtain ⟨D2, h2⟩ := h2
  have hne : ∀ {k : Nat} {X : Array Value} {T : TypeId}, W.heap[k]? = some (.cells X T (0, 0)) → T ≠ 86 → W'.heap[k]? = W.heap[k]? := fun hx hT => by
    refine hk _ (fun e => ?_) (fun e => ?_)
    · subst e
      rw [h1] at hx
      cases hx
      exact hT rfl
    · subst e
      rw [h2] at hx
      cases hx
      exact hT rfl
  rw [List.drop_eq_nil_of_le (by omega)] at hj
  unfold resF at hj
  subst hj
  refine ⟨⟨_, rfl, h.of_heap fun k _ _ ⟨C, hC⟩ => hne hC (by decide)⟩, hl.turn (hk _ (by omega) (by omega)) (fun k _ ⟨C, T, hC, hT⟩ => hne hC (by rcases hT with e | e <;> rw [e] <;> decide)), ⟨ho.1.trans hg.os, ho.2.1.trans hg.tape, ho.2.2.trans hg.output, by rw [hs]; exact hg.size, fun k hk1 hkb => (hk k (by omega) (by omega)).trans (hg.block k hk1 hkb)⟩⟩
set_option maxRecDepth 20000 in
set_option maxHeartbeats 16000000 in
theorem resolve_any (a : Option Addr) (cp : Nat) (m : Md) (L : List ObjectD) (b B : Nat) (ov pv : Value) (o : List Nat) (p : List ByteArray) (st : Int × ByteArray) (w : World) (h : SlAt ObjectAt 5 w m (.slice a L.length cp) L) (hm : m.hi ≤ b) (hbB : b < B) (hB : B ≤ w.heap.size) (hT : ∀ x ∈ L, Tiny x) (hls : LX w b B (.slice a L.length cp) ov pv o p st.1 st.2) (hk : ∀ k ∈ o, k < L.length) (hol : o.length ≤ 1000)
    (mo : ByteArray) (pr : Int) (x2 x3 x4 : Option Addr) (n2 n3 n4 c2 c3 c4 : Nat) (cn : ByteArray) (pp ce rr : Int) (lb lo n lc : Nat) (cl : List InsD) (md : Md) (hcl : SlAt InsAt 5 w md (.slice (some ⟨lb, lo, none⟩) n lc) cl) (_hmd : md.hi ≤ b) (hn0 : 0 < cl.length) (hn1 : cl.length ≤ 2000) (hin : ∀ y ∈ cl, y.mod.size ≤ 40 ∧ y.name.size ≤ 40)
    (nv : Value) (N : List ByteArray) (Bn : Nat) (hN : FRow strK w Bn nv N) (hNl : N.length ≤ 1000000) :
    Calls Tryz.prog 82 #[.pointer (some ⟨b, 0, none⟩), .agg #[.string mo, .int .i64 pr, .slice x2 n2 c2, .slice x3 n3 c3, .slice x4 n4 c4], .agg #[.string cn, .int .i64 pp, .int .i64 ce, .int .i64 rr, .slice (some ⟨lb, lo, none⟩) n lc], nv] w fun e w' =>
      RsPost (objsOf L o) N mo cn pp ce rr cl b B (.slice a L.length cp) ov pv o p st w e w' := by
  have hmix : Tryz.prog.follows .mixedOrders = true := by kernel_rfl
  have HS := hide h
  obtain ⟨P, hP⟩ : ∃ P, objsOf L o = P := ⟨_, rfl⟩
  have hPb : ∀ x ∈ P, ∀ g ∈ x.globals, 0 ≤ g.length ∧ g.length ≤ 100 := by
    intro x hx g hg
    rw [← hP] at hx
    unfold objsOf at hx
    obtain ⟨k, hk1, rfl⟩ := List.mem_map.1 hx
    have hkn := hk k hk1
    rw [show L.getD k OBn = L[k] by simp [List.getD, hkn]] at hg
    exact ((hT _ (List.getElem_mem hkn)).gnames g hg).2
  have HGl : Hid (∀ (mod name : ByteArray) (w1 : World) (c1 : Int) (s1 : ByteArray), w.grownBy w1 (some b) → LX w1 b B (.slice a L.length cp) ov pv o p c1 s1 → Calls Tryz.prog 102 #[.pointer (some ⟨b, 0, none⟩), .string mod, .string name] w1 fun e w' => e = .returned (.int .i64 (foundI (globP mod name P 0))) ∧ Below w1.heap.size w1 w') := hide fun mod name w1 c1 s1 hg hl => by
    have hbel := grown_below hg (Nat.le_refl b) (by omega)
    have := global_any a cp m L b B o p c1 s1 mod name w1 (h.on ObjectAt.stays (hbel.mono hm)) (by have := hg.size; omega) hT hl.ls hk hol
    rwa [hP] at this
  have HId : Hid (∀ (s : ByteArray) (w1 : World), w.grownBy w1 (some b) → Calls Tryz.prog 44 #[nv, .string s] w1 fun e w' => e = .returned (.int .i64 (idxI (firstAt (fun z => eqS z s) N))) ∧ w' = w1) := hide fun s w1 hg => by
    have hx := hls.1
    refine l01Idx_any nv N s Bn w1 (hN.of_heap fun k _ hk hC => hg.block k hk fun e => ?_) hNl
    obtain ⟨C, hC⟩ := hC
    cases e
    rw [hx] at hC
    cases hC
  have HFi : Hid (∀ (lv : Value) (c1 : Int) (s1 : ByteArray) (w1 : World), LX w1 b B lv ov pv o p c1 s1 → Calls Tryz.prog 49 #[.pointer (some ⟨b, 0, none⟩), .int .i64 5, .string mo] w1 fun e w' => e = .returned (.tuple #[]) ∧ LX w' b B lv ov pv o p (if c1 = 0 then 5 else c1) (if c1 = 0 then mo else s1) ∧ w1.grownBy w' (some b)) := hide fun lv c1 s1 w1 hl => fail_two b B lv ov pv o p c1 5 s1 mo w1 hbB hl
  have hnn : n = cl.length := by obtain ⟨a', c', e, -⟩ := hcl; cases e; rfl
  have hall := slat_all (E := InsAt) insOk (fun x cf w m h => InsAt.cells h) hcl
  have HLs := hide hls
  have HIn := hide hin
  have HPb := hide hPb
  obtain ⟨lv, hlv⟩ : ∃ lv, Value.slice a L.length cp = lv := ⟨_, rfl⟩
  rw [hlv] at HLs HGl ⊢
  have hcap : True := trivial
  unfold RsPost
  rw [hP]
  obtain ⟨R, hR⟩ : ∃ R, resF P N mo cl st = R := ⟨_, rfl⟩
  have HR := hide hR
  rw [hR]
  have hbw : b < w.heap.size := by omega
  subst hnn
  obtain ⟨n, hnl⟩ : ∃ n, cl.length = n := ⟨_, rfl⟩
  have HN := hide hnl
  rw [hnl] at hn0 hn1 ⊢
  have HAll := hide hall
  clear h hls hk hol hT hcl hN hNl hin hP hPb hlv hcap hR hall hnl
  go_enter Tryz.func82, Tryz.ntmps82
  obtain ⟨W, hW⟩ : ∃ W, W = ((w.alloc (.cells #[.string mo, .int .i64 pr, .slice x2 n2 c2, .slice x3 n3 c3, .slice x4 n4 c4] 48)).alloc (.cells #[.string cn, .int .i64 pp, .int .i64 ce, .int .i64 rr, .slice (some ⟨lb, lo, none⟩) n lc] 86)).alloc (.cells #[.string ⟨#[]⟩, .int .i64 0, .int .i64 0, .int .i64 0, .slice none 0 0] 86) := ⟨_, rfl⟩
  have x0 : W.heap[w.heap.size]? = some (.cells #[.string mo, .int .i64 pr, .slice x2 n2 c2, .slice x3 n3 c3, .slice x4 n4 c4] 48 (0, 0)) := by
    rw [hW, Below.heap_alloc _ _ _ (by simp; omega), Below.heap_alloc _ _ _ (by simp)]; exact Deep.blk_alloc_new w _
  have x1 : W.heap[w.heap.size + 1]? = some (.cells #[.string cn, .int .i64 pp, .int .i64 ce, .int .i64 rr, .slice (some ⟨lb, lo, none⟩) n lc] 86 (0, 0)) := by
    rw [hW, Below.heap_alloc _ _ _ (by simp)]
    have := Deep.blk_alloc_new (w.alloc (.cells #[.string mo, .int .i64 pr, .slice x2 n2 c2, .slice x3 n3 c3, .slice x4 n4 c4] 48)) (.cells #[.string cn, .int .i64 pp, .int .i64 ce, .int .i64 rr, .slice (some ⟨lb, lo, none⟩) n lc] 86)
    rwa [World.size_alloc] at this
  have x2' : W.heap[w.heap.size + 2]? = some (.cells #[.string ⟨#[]⟩, .int .i64 0, .int .i64 0, .int .i64 0, .slice none 0 0] 86 (0, 0)) := by
    rw [hW]
    have := Deep.blk_alloc_new ((w.alloc (.cells #[.string mo, .int .i64 pr, .slice x2 n2 c2, .slice x3 n3 c3, .slice x4 n4 c4] 48)).alloc (.cells #[.string cn, .int .i64 pp, .int .i64 ce, .int .i64 rr, .slice (some ⟨lb, lo, none⟩) n lc] 86)) (.cells #[.string ⟨#[]⟩, .int .i64 0, .int .i64 0, .int .i64 0, .slice none 0 0] 86)
    rwa [World.size_alloc, World.size_alloc] at this
  have bW : Below w.heap.size w W := by rw [hW]; exact (((Below.refl _ _).alloc (Nat.le_refl _) _).alloc (by simp) _).alloc (by simp; omega) _
  have hz : w.heap.size + 2 < W.heap.size := (Array.getElem?_eq_some_iff.1 x2').1
  have e4 : W.cell? ⟨w.heap.size + 1, 4, none⟩ = some (.slice (some ⟨lb, lo, none⟩) n lc) := (heapCells x1).1 4
  have e4' : (W.alloc (.cells #[] 139)).cell? ⟨w.heap.size + 1, 4, none⟩ = some (.slice (some ⟨lb, lo, none⟩) n lc) := (((Below.refl W.heap.size W).alloc (Nat.le_refl _) _).cell (p := ⟨w.heap.size + 1, 4, none⟩) (by show w.heap.size + 1 < W.heap.size; omega)).trans e4
  have HX := hide (And.intro x0 (And.intro x1 x2'))
  have HZ := hide hz
  have HW := hide bW
  have HF0 := hide ((FRow.made insK W w.heap.size bW.size))
  have HAl2 : Hid (∀ j u, (insK.all cl)[j]? = some u → (W.alloc (.cells #[] 139)).cell? ((⟨lb, lo, none⟩ : Addr).add j) = some u) := hide fun j u hu => by
    have h0 := HAll.out j u hu
    rw [add_plain] at h0 ⊢
    have hlb := block_lt h0
    exact ((bW.alloc bW.size _).cell (p := ⟨lb, lo + j, none⟩) hlb).trans h0
  clear x0 x1 x2' hz bW
  go_upto_region 1 with fail
  rw [← hW]
  clear hW
  go_wp2_with (at_builtin; refine wp_append_flats insOk rfl _ _ rfl w.heap.size (.slice (some ⟨W.heap.size, 0, none⟩) 0 0) [] rfl HF0.out ⟨lb, lo, none⟩ n lc cl rfl HN.out HAl2.out (fun y _ => ins_one y) (by simp; omega) (by rw [World.size_alloc]; have := HW.out.size; omega) ?_; intro v1 w1 hr1 gr1)
  obtain ⟨g, cap, rfl, hgB, hgl⟩ := World.ownsRow.form hr1 (by rw [List.nil_append, HN.out]; exact hn0)
  have hln : ([] ++ cl : List InsD).length = n := by rw [List.nil_append, HN.out]
  rw [hln] at hr1 ⊢
  obtain ⟨O, hO⟩ : ∃ O : Array Value, O = #[.string mo, .int .i64 pr, .slice x2 n2 c2, .slice x3 n3 c3, .slice x4 n4 c4] := ⟨_, rfl⟩
  obtain ⟨C, hC⟩ : ∃ C : Array Value, C = #[.string cn, .int .i64 pp, .int .i64 ce, .int .i64 rr, .slice (some ⟨lb, lo, none⟩) n lc] := ⟨_, rfl⟩
  obtain ⟨R0, hR0⟩ : ∃ C : Array Value, C = #[.string ⟨#[]⟩, .int .i64 0, .int .i64 0, .int .i64 0, .slice none 0 0] := ⟨_, rfl⟩
  have hRI : RI P N cl b B lv ov pv o p w O C R0 g n cap 0 st.1 st.2 w1 := by
    have hWs := HW.out.size
    have hz := HZ.out
    have ho2 : ∀ k, k < W.heap.size → w1.heap[k]? = W.heap[k]? := fun k hk => (gr1.block k (by rw [World.size_alloc]; omega) (fun e => absurd (show k = W.heap.size by simpa [Value.ownBlock] using e) (by omega))).trans (Below.heap_alloc _ _ _ hk)
    obtain ⟨x0, x1, x2'⟩ := HX.out
    have bw : Below w.heap.size w w1 := HW.out.trans (((Below.refl w.heap.size W).alloc hWs _).grown gr1 (by rw [World.size_alloc]; omega) (fun k hk => by cases hk; exact hWs))
    refine ⟨by rw [List.take_zero, List.drop_zero]; exact hr1, HLs.out.below bw, ?_, ?_, ?_, below_grown bw⟩
    · rw [hO]; exact (ho2 _ (by omega)).trans x0
    · rw [hC]; exact (ho2 _ (by omega)).trans x1
    · rw [hR0]; exact (ho2 _ (by omega)).trans x2'
  have HRI := hide hRI
  have HO := hide hO
  have HCo := hide hC
  have HRo := hide hR0
  clear hr1 gr1 hgl hgB hln hO hC hR0 hRI HF0 HAl2 HX HZ HW e4 e4'
  go_loopw [10] (fun i wr => ∃ (j : Nat) (c1 : Int) (s1 : ByteArray), i = .int .i64 j ∧ j ≤ n ∧ Hid (RI P N cl b B lv ov pv o p w O C R0 g n cap j c1 s1 wr) ∧ Hid (resF P N mo (cl.drop j) (c1, s1) = R)) (fun i _ => n - (intOf i).toNat)
  case atStart => exact ⟨0, _, _, rfl, by omega, HRI, hide (by rw [List.drop_zero]; exact HR.out)⟩
  case round =>
    obtain ⟨j, c1, s1, rfl, hj, HI, Hj⟩ := hrel
    by_cases hp : j < n
    · have i1 : (j : Int) < n := by omega
      have hjc : j < cl.length := by rw [HN.out]; exact hp
      obtain ⟨hj2, hy2⟩ := resX_at (f := insR P N) hjc
      obtain ⟨y, hy⟩ : ∃ y, cl[j] = y := ⟨_, rfl⟩
      rw [hy] at hy2
      obtain ⟨⟨k0, k1, k2, k3, k4⟩, kf, hgB, hgl, -, hcap⟩ := HI.out.1.at5 hj2 hy2
      rw [resX_len (by omega), HN.out] at hcap
      have hin := HIn.out _ (List.getElem_mem hjc)
      have hdr : cl.drop j = y :: cl.drop (j + 1) := by rw [List.drop_eq_getElem_cons hjc, hy]
      rw [hdr, resF_cons] at Hj
      have HY := hide hy
      rw [hy] at hin
      clear hy2 hy hdr hj2
      obtain ⟨op, ia, ib, im, iname⟩ := y
      simp only [] at k0 k1 k2 k3 k4 hin
      by_cases q3 : op = 3
      · subst q3
        have HI1 := hide (HI.out.below ((Below.refl wr.heap.size wr).alloc (Nat.le_refl _) (.cells #[.int .i64 3, .int .i64 ia, .int .i64 ib, .string im, .string iname] 139)))
        go_wp2_with fail
        refine (HGl.out im iname _ c1 s1 HI1.out.2.2.2.2.2 HI1.out.2.1).mono ?_
        rintro e W2 ⟨rfl, b2⟩
        have HI2 := hide (HI1.out.below b2)
        have m0 : W2.cell? ⟨w.heap.size, 0, none⟩ = some (.string mo) := by
          have := (heapCells HI2.out.2.2.1).1 0
          rw [HO.out] at this
          exact this
        have hfn := foundI_neg (mod := im) (name := iname) (P := P) (n := 0) (by decide) HPb.out
        obtain ⟨kk, hkk⟩ : ∃ kk, foundI (globP im iname P 0) = kk := ⟨_, rfl⟩
        have HKK := hide hkk
        rw [hkk] at hfn ⊢
        clear hkk k0 k1 k2 k3 k4 kf hgl b2
        cases hil : isInl (globP im iname P 0) with
        | true =>
          have i0 : ¬ kk < 0 := by have := hfn.1 hil; omega
          have HU := hide (show unk P N ⟨3, ia, ib, im, iname⟩ = false by unfold unk; rw [if_pos rfl, hil]; rfl)
          clear hfn hil
          have hst := HI2.out.store hjc hbw
          rw [HY.out, show insK.cs (insR P N ⟨3, ia, ib, im, iname⟩) = [.int .i64 1, .int .i64 kk, .int .i64 0, .string ⟨#[]⟩, .string ⟨#[]⟩] by unfold insR; rw [if_pos rfl, HKK.out]; rfl] at hst
          have HSt := hide hst
          obtain ⟨⟨z0, z1, z2, z3, z4⟩, zf, -⟩ := HI2.out.1.at5 (resX_at (f := insR P N) hjc).1 (resX_at (f := insR P N) hjc).2
          have zf0 := zf (j * 5)
          have zf1 := zf (j * 5 + 1)
          have zf2 := zf (j * 5 + 2)
          have zf3 := zf (j * 5 + 3)
          have zf4 := zf (j * 5 + 4)
          clear hst zf
          go_wp2_with fail
          go_roundw
          case rel =>
            refine ⟨j + 1, c1, s1, by go_num, by omega, HSt, ?_⟩
            have := Hj.out
            rw [HU.out, if_neg (by simp)] at this
            exact hide this
          case measure => simp [intOf]; omega
        | false =>
          have hk1 := hfn.2 hil
          have HU := hide (show unk P N ⟨3, ia, ib, im, iname⟩ = true by unfold unk; rw [if_pos rfl, hil]; rfl)
          subst hk1
          clear hfn hil
          go_wp2_with fail
          refine (HFi.out lv c1 s1 W2 HI2.out.2.1).mono ?_
          rintro e W3 ⟨rfl, hl3, g3⟩
          have HI3 := hide (HI2.out.fail hbw g3 hl3)
          clear m0 hl3 g3
          have hst := HI3.out.store hjc hbw
          rw [HY.out, show insK.cs (insR P N ⟨3, ia, ib, im, iname⟩) = [.int .i64 1, .int .i64 (-1), .int .i64 0, .string ⟨#[]⟩, .string ⟨#[]⟩] by unfold insR; rw [if_pos rfl, HKK.out]; rfl] at hst
          have HSt := hide hst
          obtain ⟨⟨z0, z1, z2, z3, z4⟩, zf, -⟩ := HI3.out.1.at5 (resX_at (f := insR P N) hjc).1 (resX_at (f := insR P N) hjc).2
          have zf0 := zf (j * 5)
          have zf1 := zf (j * 5 + 1)
          have zf2 := zf (j * 5 + 2)
          have zf3 := zf (j * 5 + 3)
          have zf4 := zf (j * 5 + 4)
          clear hst zf
          go_wp2_with fail
          go_roundw
          case rel =>
            refine ⟨j + 1, _, _, by go_num, by omega, HSt, ?_⟩
            have := Hj.out
            by_cases h0 : c1 = 0
            · rw [HU.out, if_pos ⟨rfl, h0⟩] at this
              rw [if_pos h0, if_pos h0]
              exact hide this
            · rw [if_neg (fun e => h0 e.2)] at this
              rw [if_neg h0, if_neg h0]
              exact hide this
          case measure => simp [intOf]; omega
      · by_cases q13 : op = 13
        · subst q13
          have HI1 := hide (HI.out.below ((Below.refl wr.heap.size wr).alloc (Nat.le_refl _) (.cells #[.int .i64 13, .int .i64 ia, .int .i64 ib, .string im, .string iname] 139)))
          go_wp2_with fail
          refine (HId.out _ _ HI1.out.2.2.2.2.2).mono ?_
          rintro e W2 ⟨rfl, rfl⟩
          have m0 : (wr.alloc (.cells #[.int .i64 13, .int .i64 ia, .int .i64 ib, .string im, .string iname] 139)).cell? ⟨w.heap.size, 0, none⟩ = some (.string mo) := by
            have := (heapCells HI1.out.2.2.1).1 0
            rw [HO.out] at this
            exact this
          obtain ⟨kk, hkk⟩ : ∃ kk, nameAt N ⟨13, ia, ib, im, iname⟩ = kk := ⟨_, rfl⟩
          have HKK := hide hkk
          have hkk2 : firstAt (fun z => eqS z (im ++ ⟨#[46]⟩ ++ iname)) N = kk := hkk
          rw [hkk2]
          have hq0 : kk.isNone = false → ¬ idxI kk < 0 := by
            cases kk with
            | none => intro e; cases e
            | some kn => intro _; show ¬ ((kn : Nat) : Int) < 0; omega
          have hq1 : kk.isNone = true → idxI kk < 0 := by
            cases kk with
            | none => intro _; decide
            | some kn => intro e; cases e
          obtain ⟨q, hq⟩ : ∃ q, idxI kk = q := ⟨_, rfl⟩
          rw [hq] at hq0 hq1 ⊢
          have HQ := hide hq
          clear hkk hkk2 hq k0 k1 k2 k3 k4 kf hgl
          cases hil : kk.isNone with
          | false =>
            have i0 := hq0 hil
            have HU := hide (show unk P N ⟨13, ia, ib, im, iname⟩ = false by unfold unk; rw [if_neg (show ¬ (13 : Int) = 3 by decide), if_pos rfl, HKK.out]; exact hil)
            clear hil hq0 hq1
            have hst := HI1.out.store hjc hbw
            rw [HY.out, show insK.cs (insR P N ⟨13, ia, ib, im, iname⟩) = [.int .i64 13, .int .i64 q, .int .i64 ib, .string ⟨#[]⟩, .string ⟨#[]⟩] by unfold insR; rw [if_neg (show ¬ (13 : Int) = 3 by decide), if_pos rfl, HKK.out, HQ.out]; rfl] at hst
            have HSt := hide hst
            obtain ⟨⟨z0, z1, z2, z3, z4⟩, zf, -⟩ := HI1.out.1.at5 (resX_at (f := insR P N) hjc).1 (resX_at (f := insR P N) hjc).2
            have zf0 := zf (j * 5)
            have zf1 := zf (j * 5 + 1)
            have zf2 := zf (j * 5 + 2)
            have zf3 := zf (j * 5 + 3)
            have zf4 := zf (j * 5 + 4)
            clear hst zf
            go_wp2_with fail
            go_roundw
            case rel =>
              refine ⟨j + 1, c1, s1, by go_num, by omega, HSt, ?_⟩
              have := Hj.out
              rw [HU.out, if_neg (by simp)] at this
              exact hide this
            case measure => simp [intOf]; omega
          | true =>
            have i0 := hq1 hil
            have HU := hide (show unk P N ⟨13, ia, ib, im, iname⟩ = true by unfold unk; rw [if_neg (show ¬ (13 : Int) = 3 by decide), if_pos rfl, HKK.out]; exact hil)
            clear hil hq0 hq1
            go_wp2_with fail
            refine (HFi.out lv c1 s1 _ HI1.out.2.1).mono ?_
            rintro e W3 ⟨rfl, hl3, g3⟩
            have HI3 := hide (HI1.out.fail hbw g3 hl3)
            have xb : W3.cell? ⟨wr.heap.size, 2, none⟩ = some (.int .i64 ib) := (heapCells ((g3.block wr.heap.size (by simp) (fun e => absurd (Option.some.inj e) (by have := HI.out.2.2.2.2.2.size; omega))).trans (Deep.blk_alloc_new wr _))).1 2
            clear m0 hl3 g3
            have hst := HI3.out.store hjc hbw
            rw [HY.out, show insK.cs (insR P N ⟨13, ia, ib, im, iname⟩) = [.int .i64 13, .int .i64 q, .int .i64 ib, .string ⟨#[]⟩, .string ⟨#[]⟩] by unfold insR; rw [if_neg (show ¬ (13 : Int) = 3 by decide), if_pos rfl, HKK.out, HQ.out]; rfl] at hst
            have HSt := hide hst
            obtain ⟨⟨z0, z1, z2, z3, z4⟩, zf, -⟩ := HI3.out.1.at5 (resX_at (f := insR P N) hjc).1 (resX_at (f := insR P N) hjc).2
            have zf0 := zf (j * 5)
            have zf1 := zf (j * 5 + 1)
            have zf2 := zf (j * 5 + 2)
            have zf3 := zf (j * 5 + 3)
            have zf4 := zf (j * 5 + 4)
            clear hst zf
            go_wp2_with fail
            go_roundw
            case rel =>
              refine ⟨j + 1, _, _, by go_num, by omega, HSt, ?_⟩
              have := Hj.out
              by_cases h0 : c1 = 0
              · rw [HU.out, if_pos ⟨rfl, h0⟩] at this
                rw [if_pos h0, if_pos h0]
                exact hide this
              · rw [if_neg (fun e => h0 e.2)] at this
                rw [if_neg h0, if_neg h0]
                exact hide this
            case measure => simp [intOf]; omega
        · have hk2 := HI.out.keep hjc (by rw [HY.out]; unfold insR; rw [if_neg q3, if_neg q13])
          have HK := hide (hk2.below ((Below.refl wr.heap.size wr).alloc (Nat.le_refl _) (.cells #[.int .i64 op, .int .i64 ia, .int .i64 ib, .string im, .string iname] 139)))
          have HU := hide (show unk P N ⟨op, ia, ib, im, iname⟩ = false by unfold unk; rw [if_neg q3, if_neg q13])
          go_wp2_with fail
          go_roundw
          case rel =>
            refine ⟨j + 1, c1, s1, by go_num, by omega, HK, ?_⟩
            have := Hj.out
            rw [HU.out, if_neg (by simp)] at this
            exact hide this
          case measure => simp [intOf]; omega
    · have i1 : ¬ (j : Int) < n := by omega
      have hjn : j = n := by omega
      subst hjn
      have hC1 := HI.out.2.2.2.1
      rw [HCo.out] at hC1
      obtain ⟨y1, y2⟩ := heapCells hC1
      have d0 : wr.cell? ⟨w.heap.size + 1, 0, none⟩ = some (.string cn) := y1 0
      have d1 : wr.cell? ⟨w.heap.size + 1, 1, none⟩ = some (.int .i64 pp) := y1 1
      have d2 : wr.cell? ⟨w.heap.size + 1, 2, none⟩ = some (.int .i64 ce) := y1 2
      have d3 : wr.cell? ⟨w.heap.size + 1, 3, none⟩ = some (.int .i64 rr) := y1 3
      have d4 : wr.cell? ⟨w.heap.size + 1, 4, none⟩ = some (.slice (some ⟨lb, lo, none⟩) j lc) := y1 4
      have df : wr.frozen? ⟨w.heap.size + 1, 4, none⟩ = false := y2 4
      have hR1 : wr.heap[w.heap.size + 1 + 1]? = some (.cells R0 86 (0, 0)) := HI.out.2.2.2.2.1
      rw [HRo.out] at hR1
      obtain ⟨z1, z2⟩ := heapCells hR1
      have e0 : wr.cell? ⟨w.heap.size + 1 + 1, 0, none⟩ = some (.string ⟨#[]⟩) := z1 0
      have e1 : wr.cell? ⟨w.heap.size + 1 + 1, 1, none⟩ = some (.int .i64 0) := z1 1
      have e2 : wr.cell? ⟨w.heap.size + 1 + 1, 2, none⟩ = some (.int .i64 0) := z1 2
      have e3 : wr.cell? ⟨w.heap.size + 1 + 1, 3, none⟩ = some (.int .i64 0) := z1 3
      have e4 : wr.cell? ⟨w.heap.size + 1 + 1, 4, none⟩ = some (.slice none 0 0) := z1 4
      have g0 := z2 0
      have g1 := z2 1
      have g2 := z2 2
      have g3 := z2 3
      have g4 := z2 4
      clear y1 y2 z1 z2 hC1 hR1
      go_wp2_with fail
      have hmr := HI.out.1
      rw [List.take_of_length_le (by rw [HN.out]; exact Nat.le_refl _), List.drop_eq_nil_of_le (by rw [HN.out]; exact Nat.le_refl _), List.append_nil] at hmr
      have HM := hide hmr
      have hcc : ∃ D, wr.heap[w.heap.size + 1]? = some (.cells D 86 (0, 0)) := ⟨_, HI.out.2.2.2.1⟩
      have hcr : ∃ D, wr.heap[w.heap.size + 1 + 1]? = some (.cells D 86 (0, 0)) := ⟨_, HI.out.2.2.2.2.1⟩
      clear hmr
      refine bodyPost_ret (v := .agg #[.string cn, .int .i64 pp, .int .i64 ce, .int .i64 rr, .slice (some ⟨g, 0, none⟩) j cap]) (by simp [results, Tryz.results82, go_sem, e0, e1, e2, e3, e4]) rfl ?_
      refine RsPost_of (W := wr) (HM.out) HR.out Hj.out HN.out HI.out.2.1 HI.out.2.2.2.2.2 hcc hcr hbw ?_ ?_ ?_
      · intro k h1 h2
        rw [Below.heap_setCell _ _ _ _ (by simp; omega), Below.heap_setCell _ _ _ _ (by simp; omega), Below.heap_setCell _ _ _ _ (by simp; omega), Below.heap_setCell _ _ _ _ (by simp; omega), Below.heap_setCell _ _ _ _ (by simp; omega), Below.heap_setCell _ _ _ _ (by simp; omega)]
      · simp [World.setCell]
      · exact ⟨rfl, rfl, rfl⟩
end Go.Proofs.YtfbglokjehmgeaaGreatDoor
