/- The law's marks in what ReadObject answered: rows of flat structs. No condition. (Made by wip/genheld.py.) -/
import Derived.Test.YtoodadepafghhaaGreatDoorZMO2
import Derived.Test.YtoodadepafghhaaGreatDoorZReader
import Derived.Test.YtoodadepafghhaaGreatDoorZRd
import Derived.Deep.RegionWith
/- The model's ReadObject over its bytes. No condition. -/
namespace Go.Proofs.YtoodadepafghhaaGreatDoor
open Go.ChangeShapes Go.WideShapes Go.ChangeAt Go.RowKit Go.PlainAid Go.Deep

set_option maxRecDepth 100000 in
set_option maxHeartbeats 8000000 in
theorem specReadO_any (g o c : Nat) (m : Md) (l : List Int) (w : World) (h : SlAt BAt 1 w m (.slice (some ⟨g, o, none⟩) l.length c) l) (hc : l.length ≤ c) (hm : m.hi ≤ w.heap.size) (hl : l.length ≤ 1099511627776) :
    Calls Tryz.prog 21 #[.slice (some ⟨g, o, none⟩) l.length c] w fun e w' => RdPO l w e w' := by
  have Hin : Hid (∀ y ∈ l, 0 ≤ y ∧ y ≤ 255) := by
    refine hide fun y hy => ?_
    obtain ⟨a, cc, -, hr⟩ := h
    obtain ⟨i, hi, rfl⟩ := List.getElem_of_mem hy
    obtain ⟨b, o', -, -, -, -, h1⟩ := hr i hi
    exact h1.2
  by_cases c1 : 65536 < l.length
  · have HVC : Hid (rdVO l = OB0 ∧ rdCO l = 2) := hide ⟨by unfold rdVO; rw [if_neg (by omega)], by unfold rdCO; rw [if_neg (by omega)]⟩
    obtain ⟨n, hn⟩ : ∃ n, l.length = n := ⟨_, rfl⟩
    rw [hn] at c1 ⊢
    have i1 : (65536 : Int) < n := by omega
    clear hn h
    go_enter Tryz.func21, Tryz.ntmps21
    go_wp2
    refine bodyPost_ret (v := .tuple #[.agg #[.string ⟨#[]⟩, .int .i64 0, .slice none 0 0, .slice none 0 0, .slice none 0 0], .int .i64 2]) (by simp [results, Tryz.results21, go_sem]) rfl ?_
    refine RdPO.no HVC.out ?_
    repeat (refine Below.setCell ?_ (by simp <;> omega) _)
    exact (Below.refl _ _).alloc (Nat.le_refl _) _
  · have hle : l.length ≤ 65536 := by omega
    have HOK := hide (mdOkO_eq Hin.out hle)
    have HC : Hid (∀ w', Below w.heap.size w w' → Calls Tryz.prog 57 #[.slice (some ⟨g, o, none⟩) l.length c] w' fun e w2 => LrPost l w' e w2) := hide fun w' bel =>
      l04Read_any g o c m l w' (h.on BAt.stays (bel.mono hm)) hc (Nat.le_trans hm bel.size) hle
    have HLE := hide hle
    obtain ⟨T, hT⟩ : ∃ T, mdOkO l = T := ⟨_, rfl⟩
    have HT := hide hT
    obtain ⟨n, hn⟩ : ∃ n, l.length = n := ⟨_, rfl⟩
    rw [hn] at HC hle ⊢
    have i1 : ¬ (65536 : Int) < n := by omega
    clear hn h c1 hT hc hl hle
    go_enter Tryz.func21, Tryz.ntmps21
    go_wp2_with fail
    refine (HC.out _ ((Below.refl _ _).alloc (Nat.le_refl _) _)).mono ?_
    rintro e w1 ⟨s, p, a2, n2, c2, a3, n3, c3, a4, n4, c4, rfl, hob, bel⟩
    rw [HT.out]
    rw [HT.out] at hob
    have HOB := hide hob
    have b1 : Below w.heap.size w w1 := ((Below.refl _ _).alloc (Nat.le_refl _) _).trans (bel.mono (by simp))
    have HY1 := hide ((bel.block w.heap.size (by simp)).trans (Deep.blk_alloc_new w (.cells #[.string ⟨#[]⟩, .int .i64 0, .slice none 0 0, .slice none 0 0, .slice none 0 0] 44)))
    have hs1 : w.heap.size < w1.heap.size := (Array.getElem?_eq_some_iff.1 HY1.out).1
    have HB1 := hide b1
    have bX : Below w1.heap.size w1 (w1.alloc (.cells #[.string s, .int .i64 p, .slice a2 n2 c2, .slice a3 n3 c3, .slice a4 n4 c4] 44)) := (Below.refl _ _).alloc (Nat.le_refl _) _
    obtain ⟨W, hW⟩ : ∃ W, W = w1.alloc (.cells #[.string s, .int .i64 p, .slice a2 n2 c2, .slice a3 n3 c3, .slice a4 n4 c4] 44) := ⟨_, rfl⟩
    rw [← hW] at bX
    have HBX := hide bX
    obtain ⟨⟨q0, q1, q2, q3, q4⟩, s'⟩ := obj_cells ((bX.block w.heap.size hs1).trans HY1.out)
    obtain ⟨⟨x0, x1, x2, x3, x4⟩, -⟩ := obj_cells (show W.heap[w1.heap.size]? = some (.cells #[.string s, .int .i64 p, .slice a2 n2 c2, .slice a3 n3 c3, .slice a4 n4 c4] 44 (0, 0)) by rw [hW]; exact Deep.blk_alloc_new w1 _)
    have s0 := s' 0
    have s1 := s' 1
    have s2 := s' 2
    have s3 := s' 3
    have s4 := s' 4
    clear hob bel b1 s' bX
    go_upto_region 4 with fail
    rw [← hW]
    clear hW
    cases T with
    | false =>
      have HVC : Hid (rdVO l = OB0 ∧ rdCO l = 3) := by
        have e : rdOkO l = false := by rw [← HOK.out]; exact HT.out
        exact hide ⟨by unfold rdVO; rw [e, if_neg (by simp)], by unfold rdCO; rw [if_pos HLE.out, e]; rfl⟩
      go_wp2
      refine bodyPost_ret (v := .tuple #[.agg #[.string ⟨#[]⟩, .int .i64 0, .slice none 0 0, .slice none 0 0, .slice none 0 0], .int .i64 3]) (by simp [results, Tryz.results21, go_sem, q0, q1, q2, q3, q4]) rfl ?_
      refine RdPO.no HVC.out ?_
      repeat (refine Below.setCell ?_ (by simp <;> omega) _)
      exact HB1.out.trans (HBX.out.mono (by omega))
    | true =>
      obtain ⟨L, hsm, hpm, hrow⟩ := HOB.out rfl
      have HSM := hide hsm
      have HPM := hide hpm
      have e : rdOkO l = true := by rw [← HOK.out]; exact HT.out
      have HV : Hid (rdVO l = rdObj l) := hide (by unfold rdVO; rw [if_pos ⟨HLE.out, e⟩])
      have HC2 : Hid (rdCO l = 0) := hide (by unfold rdCO; rw [if_pos HLE.out, e]; rfl)
      have HRow := hide hrow
      clear e hrow hsm hpm
      go_wp2
      refine bodyPost_ret (v := .tuple #[.agg #[.string s, .int .i64 p, .slice a2 n2 c2, .slice a3 n3 c3, .slice a4 n4 c4], .int .i64 0]) (by simp [results, Tryz.results21, go_sem, q0, q1, q2, q3, q4]) rfl ?_
      have oz := Only.trans (Only.trans (Only.trans (Only.trans (Only.set w.heap.size 0 W (.string s)) (Only.set w.heap.size 1 _ (.int .i64 p))) (Only.set w.heap.size 2 _ (.slice a2 n2 c2))) (Only.set w.heap.size 3 _ (.slice a3 n3 c3))) (Only.set w.heap.size 4 _ (.slice a4 n4 c4))
      refine ⟨⟨_, _, _, L, by rw [HV.out, HC2.out, HSM.out, HPM.out], ?_⟩, (HB1.out.trans (HBX.out.mono (by omega))).trans (oz.below (Nat.le_refl _))⟩
      rw [HV.out]
      have hr := HRow.out.on HBX.out
      rw [World.size_alloc] at hr
      exact (hr.of_heap fun j hj _ => oz.block j (by omega)).le (by omega)
end Go.Proofs.YtoodadepafghhaaGreatDoor

/- The text that a law writes into an answer to see who else holds it: a function of its number alone. -/
namespace Go.Proofs.YtoodadepafghhaaGreatDoor
open Go.RowKit

def mtAux : Nat → Int → ByteArray → ByteArray
  | 0, _, out => out
  | f + 1, k, out => if 0 < k then mtAux f (k / 10) (⟨#[UInt8.ofNat (48 + k % 10).toNat]⟩ ++ out) else out
/-- The text of mark k. -/
def mt (k : Int) : ByteArray := if k ≤ 0 then ⟨#[109, 48]⟩ else ⟨#[109]⟩ ++ mtAux (k.toNat + 1) k ⟨#[]⟩
theorem mtAux_enough : ∀ (f g : Nat) (k : Int) (out : ByteArray), 0 ≤ k → k < f → k < g → mtAux f k out = mtAux g k out
  | 0, _, k, _, h0, h, _ => by omega
  | _ + 1, 0, k, _, h0, _, h => by omega
  | f + 1, g + 1, k, out, h0, hf, hg => by
    simp only [mtAux]
    by_cases c : 0 < k
    · rw [if_pos c, if_pos c]
      exact mtAux_enough f g (k / 10) _ (by omega) (by omega) (by omega)
    · rw [if_neg c, if_neg c]
theorem mtAux_step {k : Int} (out : ByteArray) (h : 0 < k) : mtAux (k.toNat + 1) k out = mtAux ((k / 10).toNat + 1) (k / 10) (⟨#[UInt8.ofNat (48 + k % 10).toNat]⟩ ++ out) := by
  simp only [mtAux]
  rw [if_pos h]
  exact mtAux_enough k.toNat ((k / 10).toNat + 1) (k / 10) _ (by omega) (by omega) (by omega)
theorem mtAux_stop {k : Int} (out : ByteArray) (h : k ≤ 0) : mtAux (k.toNat + 1) k out = out := by
  simp only [mtAux]
  rw [if_neg (by omega)]

theorem one_size (a : UInt8) (o : ByteArray) : ((⟨#[a]⟩ : ByteArray) ++ o).size = 1 + o.size := by rw [ByteArray.size_append]; rfl
set_option maxHeartbeats 1600000 in
theorem markText_any (k : Int) (w : World) (h1 : k ≤ 4000000000000000000) : Calls Tryz.prog 113 #[.int .i64 k] w fun e w' => e = .returned (.string (mt k)) ∧ Below w.heap.size w w' := by
  by_cases h : k ≤ 0
  · have e : mt k = ⟨#[109, 48]⟩ := by unfold mt; rw [if_pos h]
    rw [e]
    clear e
    go_enter Tryz.func113, Tryz.ntmps113
    go_wp2
    go_ret
    exact ⟨rfl, Below.refl _ _⟩
  · have e : mt k = ⟨#[109]⟩ ++ mtAux (k.toNat + 1) k ⟨#[]⟩ := by unfold mt; rw [if_neg h]
    rw [e]
    clear e
    have k1 := conv1
    go_enter Tryz.func113, Tryz.ntmps113
    go_wp2
    go_loopw [0, 3] (fun n out wr => ∃ (j : Int) (o : ByteArray), n = .int .i64 j ∧ out = .string o ∧ 0 ≤ j ∧ (o.size : Int) + j ≤ 4000000000000000000 ∧ Hid (mtAux (j.toNat + 1) j o = mtAux (k.toNat + 1) k ⟨#[]⟩) ∧ Below w.heap.size w wr) (fun n _ _ => (intOf n).toNat)
    case atStart => exact ⟨k, _, rfl, rfl, by omega, by show (0 : Int) + k ≤ _; omega, rfl, Below.refl _ _⟩
    case round =>
      obtain ⟨j, o, rfl, rfl, j0, j1, Hj, hbw⟩ := hrel
      by_cases hp : 0 < j
      · have hz : ¬ 9223372036854775807 < 1 + o.size := by omega
        go_wp2
        go_roundw
        case rel => exact ⟨_, _, rfl, rfl, by omega, by rw [one_size]; omega, by rw [← mtAux_step o hp]; exact Hj, hbw.alloc hbw.size _⟩
        case measure => simp [intOf]; omega
      · have hz : ¬ 9223372036854775807 < 1 + o.size := by omega
        go_wp2
        go_ret
        exact ⟨ret_string (by rw [← Hj.out, mtAux_stop o (by omega)]), hbw⟩
end Go.Proofs.YtoodadepafghhaaGreatDoor

/- The law's marks in what a function answered: the steps, rows of flat structs, a row of bytes. No condition. -/
namespace Go.Proofs.YtoodadepafghhaaGreatDoor
open Go.ChangeShapes Go.WideShapes Go.ChangeAt Go.RowKit Go.Deep

/-- A cell that is there and may be written. -/
def Al (w : World) (b o : Nat) : Prop := (∃ z, w.cell? ⟨b, o, none⟩ = some z) ∧ w.frozen? ⟨b, o, none⟩ = false
theorem Al.set {w : World} {b o : Nat} (h : Al w b o) (p : Addr) (v : Value) : Al (w.setCell p v) b o := by
  obtain ⟨⟨z, hz⟩, hf⟩ := h
  exact ⟨cell?_setCell_some hz, by rw [World.frozen?_setCell]; exact hf⟩
/-- Of what was there, the blocks of S alone have turned; no cell is gone. -/
structure Tch (S : Nat → Prop) (w w' : World) : Prop where
  os : w'.os = w.os
  tape : w'.tape = w.tape
  output : w'.output = w.output
  size : w.heap.size ≤ w'.heap.size
  block : ∀ k, k < w.heap.size → ¬ S k → w'.heap[k]? = w.heap[k]?
  al : ∀ b o, Al w b o → Al w' b o
theorem Tch.refl (S : Nat → Prop) (w : World) : Tch S w w := ⟨rfl, rfl, rfl, Nat.le_refl _, fun _ _ _ => rfl, fun _ _ h => h⟩
theorem Tch.trans {S : Nat → Prop} {a b c : World} (h : Tch S a b) (k : Tch S b c) : Tch S a c :=
  ⟨k.os.trans h.os, k.tape.trans h.tape, k.output.trans h.output, Nat.le_trans h.size k.size, fun i hi hs => (k.block i (Nat.lt_of_lt_of_le hi h.size) hs).trans (h.block i hi hs), fun b o ha => k.al b o (h.al b o ha)⟩
theorem Tch.of_below {S : Nat → Prop} {w w' : World} (h : Below w.heap.size w w') : Tch S w w' :=
  ⟨h.os, h.tape, h.output, h.size, fun k hk _ => h.block k hk, fun b o ⟨⟨z, hz⟩, hf⟩ => ⟨⟨z, (h.cell (p := ⟨b, o, none⟩) (block_lt hz)).trans hz⟩, (h.frozen (p := ⟨b, o, none⟩) (block_lt hz)).trans hf⟩⟩
theorem Tch.set {S : Nat → Prop} {a w : World} (h : Tch S a w) {b : Nat} (hb : S b) (o : Nat) (v : Value) : Tch S a (w.setCell ⟨b, o, none⟩ v) :=
  h.trans ⟨rfl, rfl, rfl, by simp [World.setCell], fun k _ hk => Below.heap_setCell _ _ _ _ (fun e => hk (by rw [e]; exact hb)), fun _ _ ha => ha.set _ _⟩
theorem Tch.wid {S S' : Nat → Prop} {w w' : World} (h : Tch S w w') (hs : ∀ k, S k → S' k) : Tch S' w w' := ⟨h.os, h.tape, h.output, h.size, fun k hk hn => h.block k hk fun e => hn (hs k e), h.al⟩
theorem Tch.below {S : Nat → Prop} {w w' : World} {B : Nat} (h : Tch S w w') (hB : B ≤ w.heap.size) (hs : ∀ k, k < B → ¬ S k) : Below B w w' := ⟨h.os, h.tape, h.output, h.size, fun k hk => h.block k (by omega) (hs k hk)⟩
theorem Tch.cell {S : Nat → Prop} {w w' : World} (h : Tch S w w') {b o : Nat} {z : Value} (hb : ¬ S b) (hz : w.cell? ⟨b, o, none⟩ = some z) : w'.cell? ⟨b, o, none⟩ = some z :=
  (World.cell?_of_block (w := w) (a := ⟨b, o, none⟩) (h.block b (block_lt hz) hb)).trans hz
theorem set_at {w : World} {G o : Nat} (h : Al w G o) (v : Value) : (w.setCell ⟨G, o, none⟩ v).cell? ⟨G, o, none⟩ = some v := by
  obtain ⟨⟨z, hz⟩, -⟩ := h
  exact World.cell?_setCell_same _ _ _ hz
theorem set_off {w : World} {G o o' : Nat} {z : Value} (h : w.cell? ⟨G, o, none⟩ = some z) (hne : o' ≠ o) (v : Value) : (w.setCell ⟨G, o', none⟩ v).cell? ⟨G, o, none⟩ = some z := by
  rw [World.cell?_setCell_other _ _ _ _ (fun e => hne (congrArg Addr.off e))]
  exact h
/-- A row of structs of sz cells, there to be marked. -/
def FAl (w : World) (B : Nat) (u : Value) (n sz : Nat) : Prop := ∃ a c, u = .slice a n c ∧ ∀ j, j < n → ∃ g, a = some ⟨g, 0, none⟩ ∧ u.ownBlock = some g ∧ B ≤ g ∧ ∀ q, q < sz → Al w g (j * sz + q)
theorem FAl.on {S : Nat → Prop} {w w' : World} {B : Nat} {u : Value} {n sz : Nat} (h : FAl w B u n sz) (t : Tch S w w') : FAl w' B u n sz := by
  obtain ⟨a, c, e, hj⟩ := h
  refine ⟨a, c, e, fun j hjn => ?_⟩
  obtain ⟨g, e1, e2, h1, h2⟩ := hj j hjn
  exact ⟨g, e1, e2, h1, fun q hq => t.al _ _ (h2 q hq)⟩
/-- The first k structs of the row at g are marked. -/
def FMs (w : World) (g sz : Nat) (ms : Int → List Value) (K : Int) (k : Nat) : Prop := ∀ j, j < k → ∀ q y, (ms (K + (sz : Int) * (j : Int)))[q]? = some y → w.cell? ⟨g, j * sz + q, none⟩ = some y
theorem FMs.set {w : World} {g sz : Nat} {ms : Int → List Value} {K : Int} {k : Nat} (h : FMs w g sz ms K k) (hl : ∀ K, (ms K).length = sz) {o : Nat} (ho : k * sz ≤ o) (v : Value) : FMs (w.setCell ⟨g, o, none⟩ v) g sz ms K k := by
  intro j hj q y hq
  have hql : q < sz := by rw [← hl (K + (sz : Int) * (j : Int))]; exact (List.getElem?_eq_some_iff.1 hq).1
  have : (j + 1) * sz ≤ k * sz := Nat.mul_le_mul_right _ hj
  rw [Nat.add_mul, Nat.one_mul] at this
  exact set_off (h j hj q y hq) (by omega) v
theorem FMs.tch {S : Nat → Prop} {w w' : World} {g sz : Nat} {ms : Int → List Value} {K : Int} {k : Nat} (h : FMs w g sz ms K k) (t : Tch S w w') (hS : ¬ S g) : FMs w' g sz ms K k := fun j hj q y hq => t.cell hS (h j hj q y hq)
theorem FMs.succ {w : World} {g sz : Nat} {ms : Int → List Value} {K : Int} {k : Nat} (h : FMs w g sz ms K k) (h2 : ∀ q y, (ms (K + (sz : Int) * (k : Int)))[q]? = some y → w.cell? ⟨g, k * sz + q, none⟩ = some y) : FMs w g sz ms K (k + 1) := by
  intro j hj q y hq
  by_cases e : j < k
  · exact h j e q y hq
  · obtain rfl : j = k := by omega
    exact h2 q y hq
/-- .. marked. -/
def FMk (w : World) (u : Value) (n sz : Nat) (ms : Int → List Value) (K : Int) : Prop := ∃ a c, u = .slice a n c ∧ ∀ j, j < n → ∃ g, a = some ⟨g, 0, none⟩ ∧ u.ownBlock = some g ∧ ∀ q y, (ms (K + (sz : Int) * (j : Int)))[q]? = some y → w.cell? ⟨g, j * sz + q, none⟩ = some y
theorem FMk.on {S : Nat → Prop} {w w' : World} {u : Value} {n sz : Nat} {ms : Int → List Value} {K : Int} (h : FMk w u n sz ms K) (t : Tch S w w') (hs : ∀ g, u.ownBlock = some g → ¬ S g) : FMk w' u n sz ms K := by
  obtain ⟨a, c, e, hj⟩ := h
  refine ⟨a, c, e, fun j hjn => ?_⟩
  obtain ⟨g, e1, e2, h1⟩ := hj j hjn
  exact ⟨g, e1, e2, fun q y hq => t.cell (hs g e2) (h1 q y hq)⟩
set_option maxHeartbeats 2000000 in
/-- A row of bytes marked: that row alone has turned. -/
theorem markByteS_tch (g c : Nat) (l : List Int) (w : World) (hl : l.length ≤ 1099511627776) (h : ∀ i, i < l.length → Al w g i) :
    Calls Tryz.prog 19 #[.slice (some ⟨g, 0, none⟩) l.length c, .int .i64 1] w fun e w' => e = .returned (.int .i64 (1 + (l.length : Int))) ∧ Tch (fun k => k = g) w w' := by
  have H := hide h
  obtain ⟨n, hn⟩ : ∃ n, l.length = n := ⟨_, rfl⟩
  have HN := hide hn
  rw [hn] at hl ⊢
  clear h hn
  go_enter Tryz.func19, Tryz.ntmps19
  go_wp2
  go_loopw [1, 5] (fun q i wr => ∃ k : Nat, i = .int .i64 k ∧ q = .int .i64 (1 + (k : Int)) ∧ k ≤ n ∧ Tch (fun k => k = g) w wr) (fun _ i _ => n - (intOf i).toNat)
  case atStart => exact ⟨0, rfl, rfl, by omega, Tch.refl _ _⟩
  case round =>
    obtain ⟨k, rfl, rfl, hk, hbw⟩ := hrel
    by_cases hp : k < n
    · have i1 : (k : Int) < n := by omega
      obtain ⟨⟨y, hc⟩, hf⟩ := hbw.al _ _ (H.out k (by rw [HN.out]; exact hp))
      go_wp2
      go_roundw
      case rel => exact ⟨k + 1, by go_num, by go_num, by omega, hbw.set rfl k _⟩
      case measure => simp [intOf]; omega
    · have i1 : ¬ (k : Int) < n := by omega
      obtain rfl : k = n := by omega
      go_wp2
      go_ret
      exact ⟨rfl, hbw⟩
end Go.Proofs.YtoodadepafghhaaGreatDoor

namespace Go.Proofs.YtoodadepafghhaaGreatDoor
open Go.ChangeShapes Go.WideShapes Go.ChangeAt Go.RowKit Go.Deep

def needMs (K : Int) : List Value := [.string (mt (K)), .int .i64 (K + 1)]
theorem needLen (K : Int) : (needMs K).length = 2 := rfl
set_option maxHeartbeats 8000000 in
theorem markNeedS_mk (B : Nat) (u : Value) (n : Nat) (K : Int) (w : World) (hn : n ≤ 1000000) (k0 : 0 ≤ K) (k1 : K ≤ 1000000000000000) (h : FAl w B u n 2) :
    Calls Tryz.prog 54 #[u, .int .i64 K] w fun e w' => e = .returned (.int .i64 (K + 2 * (n : Int))) ∧ FMk w' u n 2 needMs K ∧ Tch (fun k => u.ownBlock = some k) w w' := by
  obtain ⟨a, c, rfl, h⟩ := h
  have H := hide h
  clear h
  go_enter Tryz.func54, Tryz.ntmps54
  go_wp2
  go_loopw [1, 5] (fun q i wr => ∃ k : Nat, i = .int .i64 k ∧ q = .int .i64 (K + 2 * (k : Int)) ∧ k ≤ n ∧ Hid (∀ g, a = some ⟨g, 0, none⟩ → FMs wr g 2 needMs K k) ∧ Tch (fun k => (Value.slice a n c).ownBlock = some k) w wr) (fun _ i _ => n - (intOf i).toNat)
  case atStart => exact ⟨0, rfl, by simp, by omega, hide (fun g _ j hj => absurd hj (by omega)), Tch.refl _ _⟩
  case round =>
    obtain ⟨k, rfl, rfl, hk, Hm, hbw⟩ := hrel
    by_cases hp : k < n
    · have i1 : (k : Int) < n := by omega
      obtain ⟨g, rfl, ho, -, hA⟩ := H.out k hp
      have HA := hide hA
      have M0 := hide (Hm.out g rfl)
      have T0 := hide hbw
      obtain ⟨J, hJ⟩ : ∃ J, K + 2 * (k : Int) = J := ⟨_, rfl⟩
      have HJ := hide hJ
      have hJ0 : 0 ≤ J ∧ J ≤ 2000000000000000 := by omega
      rw [hJ]
      clear hJ hA hbw Hm
      go_wp2_with fail
      refine (markText_any _ _ (by omega)).mono ?_
      rintro e w1' ⟨rfl, b1⟩
      have T1 := hide (T0.out.trans (Tch.of_below b1))
      have t1 := Tch.of_below (S := fun _ => False) b1
      have M1 := hide (M0.out.tch t1 (fun e => e))
      clear b1 t1
      obtain ⟨⟨y0, c0⟩, f0⟩ := T1.out.al _ _ (HA.out 0 (by omega))
      simp only [Nat.add_zero] at c0 f0
      obtain ⟨⟨y1, c1⟩, f1⟩ := T1.out.al _ _ (HA.out 1 (by omega))
      go_wp2
      go_roundw
      case rel =>
        refine ⟨k + 1, by go_num, by first | (rw [← HJ.out]; go_num) | (rw [← HJ.out]; congr 1; omega), by omega, hide fun g' e => ?_, ((T1.out.set ho _ _).set ho _ _)⟩
        cases e
        refine FMs.succ ((M1.out.set needLen (by omega) _).set needLen (by omega) _) fun q y hq => ?_
        replace hq : (needMs J)[q]? = some y := by rw [← HJ.out]; exact hq
        unfold needMs at hq
        have hql : q < 2 := (List.getElem?_eq_some_iff.1 hq).1
        obtain rfl | rfl : q = 0 ∨ q = 1 := by omega
        · cases hq; exact (set_off (set_at (T1.out.al _ _ (HA.out 0 (by omega))) _) (by omega) _)
        · cases hq; exact (set_at ((T1.out.al _ _ (HA.out 1 (by omega))).set _ _) _)
      case measure => simp [intOf]; omega
    · have i1 : ¬ (k : Int) < n := by omega
      obtain rfl : k = n := by omega
      go_wp2
      go_ret
      exact ⟨rfl, ⟨a, c, rfl, fun j hj => by obtain ⟨g, e, ho, -, -⟩ := H.out j hj; exact ⟨g, e, ho, Hm.out g e j hj⟩⟩, hbw⟩
set_option maxHeartbeats 8000000 in
theorem heldNeedS_mk (u : Value) (n : Nat) (K : Int) (w : World) (hn : n ≤ 1000000) (k0 : 0 ≤ K) (k1 : K ≤ 1000000000000000) (h : FMk w u n 2 needMs K) :
    Calls Tryz.prog 60 #[u, .int .i64 K] w fun e w' => e = .returned (.int .i64 (K + 2 * (n : Int))) ∧ Below w.heap.size w w' := by
  obtain ⟨a, c, rfl, h⟩ := h
  have H := hide h
  clear h
  go_enter Tryz.func60, Tryz.ntmps60
  go_wp2
  go_loopw [1, 5] (fun q i wr => ∃ k : Nat, i = .int .i64 k ∧ q = .int .i64 (K + 2 * (k : Int)) ∧ k ≤ n ∧ Below w.heap.size w wr) (fun _ i _ => n - (intOf i).toNat)
  case atStart => exact ⟨0, rfl, by simp, by omega, Below.refl _ _⟩
  case round =>
    obtain ⟨k, rfl, rfl, hk, hbw⟩ := hrel
    by_cases hp : k < n
    · have i1 : (k : Int) < n := by omega
      obtain ⟨g, rfl, ho, hM⟩ := H.out k hp
      obtain ⟨J, hJ⟩ : ∃ J, K + 2 * (k : Int) = J := ⟨_, rfl⟩
      have HJ := hide hJ
      have hJ0 : 0 ≤ J ∧ J ≤ 2000000000000000 := by omega
      replace hM : ∀ q y, (needMs J)[q]? = some y → w.cell? ⟨g, k * 2 + q, none⟩ = some y := by rw [← hJ]; exact hM
      rw [hJ]
      have c0 := hM 0 _ rfl
      replace c0 := (hbw.cell (p := ⟨g, k * 2 + 0, none⟩) (block_lt c0)).trans c0
      have c1 := hM 1 _ rfl
      replace c1 := (hbw.cell (p := ⟨g, k * 2 + 1, none⟩) (block_lt c1)).trans c1
      simp only [Nat.add_zero] at c0
      have HT0 : Hid (∀ w', Calls Tryz.prog 113 #[.int .i64 (J)] w' fun e w2 => e = .returned (.string (mt (J))) ∧ Below w'.heap.size w' w2) := hide fun w' => markText_any _ w' (by omega)
      generalize mt (J) = s0 at *
      clear hJ hM
      go_wp2_with fail
      go_region_with (go_at_call 113; refine (HT0.out _).mono ?_; rintro e v0 ⟨rfl, b0⟩; have d0_0 := ((Below.trans (Below.refl _ _).drew b0).cell (p := ⟨g, k * 2, none⟩) (block_lt c0)).trans c0; have d0_1 := ((Below.trans (Below.refl _ _).drew b0).cell (p := ⟨g, k * 2 + 1, none⟩) (block_lt c1)).trans c1)
      all_goals
        have hb0 := hbw.trans ((Below.trans (Below.refl _ _).drew b0).mono hbw.size)
        clear b0 c0 c1
        have c0 := d0_0
        have c1 := d0_1
        clear d0_0 d0_1
        go_wp2
        go_roundw
        case rel => exact ⟨k + 1, by go_num, by first | (rw [← HJ.out]; go_num) | (rw [← HJ.out]; congr 1; omega), by omega, hb0⟩
        case measure => simp [intOf]; omega
    · have i1 : ¬ (k : Int) < n := by omega
      obtain rfl : k = n := by omega
      go_wp2
      go_ret
      exact ⟨rfl, hbw⟩
def globalMs (K : Int) : List Value := [.string (mt (K)), .int .i64 (K + 1)]
theorem globalLen (K : Int) : (globalMs K).length = 2 := rfl
set_option maxHeartbeats 8000000 in
theorem markGlobalS_mk (B : Nat) (u : Value) (n : Nat) (K : Int) (w : World) (hn : n ≤ 1000000) (k0 : 0 ≤ K) (k1 : K ≤ 1000000000000000) (h : FAl w B u n 2) :
    Calls Tryz.prog 55 #[u, .int .i64 K] w fun e w' => e = .returned (.int .i64 (K + 2 * (n : Int))) ∧ FMk w' u n 2 globalMs K ∧ Tch (fun k => u.ownBlock = some k) w w' := by
  obtain ⟨a, c, rfl, h⟩ := h
  have H := hide h
  clear h
  go_enter Tryz.func55, Tryz.ntmps55
  go_wp2
  go_loopw [1, 5] (fun q i wr => ∃ k : Nat, i = .int .i64 k ∧ q = .int .i64 (K + 2 * (k : Int)) ∧ k ≤ n ∧ Hid (∀ g, a = some ⟨g, 0, none⟩ → FMs wr g 2 globalMs K k) ∧ Tch (fun k => (Value.slice a n c).ownBlock = some k) w wr) (fun _ i _ => n - (intOf i).toNat)
  case atStart => exact ⟨0, rfl, by simp, by omega, hide (fun g _ j hj => absurd hj (by omega)), Tch.refl _ _⟩
  case round =>
    obtain ⟨k, rfl, rfl, hk, Hm, hbw⟩ := hrel
    by_cases hp : k < n
    · have i1 : (k : Int) < n := by omega
      obtain ⟨g, rfl, ho, -, hA⟩ := H.out k hp
      have HA := hide hA
      have M0 := hide (Hm.out g rfl)
      have T0 := hide hbw
      obtain ⟨J, hJ⟩ : ∃ J, K + 2 * (k : Int) = J := ⟨_, rfl⟩
      have HJ := hide hJ
      have hJ0 : 0 ≤ J ∧ J ≤ 2000000000000000 := by omega
      rw [hJ]
      clear hJ hA hbw Hm
      go_wp2_with fail
      refine (markText_any _ _ (by omega)).mono ?_
      rintro e w1' ⟨rfl, b1⟩
      have T1 := hide (T0.out.trans (Tch.of_below b1))
      have t1 := Tch.of_below (S := fun _ => False) b1
      have M1 := hide (M0.out.tch t1 (fun e => e))
      clear b1 t1
      obtain ⟨⟨y0, c0⟩, f0⟩ := T1.out.al _ _ (HA.out 0 (by omega))
      simp only [Nat.add_zero] at c0 f0
      obtain ⟨⟨y1, c1⟩, f1⟩ := T1.out.al _ _ (HA.out 1 (by omega))
      go_wp2
      go_roundw
      case rel =>
        refine ⟨k + 1, by go_num, by first | (rw [← HJ.out]; go_num) | (rw [← HJ.out]; congr 1; omega), by omega, hide fun g' e => ?_, ((T1.out.set ho _ _).set ho _ _)⟩
        cases e
        refine FMs.succ ((M1.out.set globalLen (by omega) _).set globalLen (by omega) _) fun q y hq => ?_
        replace hq : (globalMs J)[q]? = some y := by rw [← HJ.out]; exact hq
        unfold globalMs at hq
        have hql : q < 2 := (List.getElem?_eq_some_iff.1 hq).1
        obtain rfl | rfl : q = 0 ∨ q = 1 := by omega
        · cases hq; exact (set_off (set_at (T1.out.al _ _ (HA.out 0 (by omega))) _) (by omega) _)
        · cases hq; exact (set_at ((T1.out.al _ _ (HA.out 1 (by omega))).set _ _) _)
      case measure => simp [intOf]; omega
    · have i1 : ¬ (k : Int) < n := by omega
      obtain rfl : k = n := by omega
      go_wp2
      go_ret
      exact ⟨rfl, ⟨a, c, rfl, fun j hj => by obtain ⟨g, e, ho, -, -⟩ := H.out j hj; exact ⟨g, e, ho, Hm.out g e j hj⟩⟩, hbw⟩
set_option maxHeartbeats 8000000 in
theorem heldGlobalS_mk (u : Value) (n : Nat) (K : Int) (w : World) (hn : n ≤ 1000000) (k0 : 0 ≤ K) (k1 : K ≤ 1000000000000000) (h : FMk w u n 2 globalMs K) :
    Calls Tryz.prog 61 #[u, .int .i64 K] w fun e w' => e = .returned (.int .i64 (K + 2 * (n : Int))) ∧ Below w.heap.size w w' := by
  obtain ⟨a, c, rfl, h⟩ := h
  have H := hide h
  clear h
  go_enter Tryz.func61, Tryz.ntmps61
  go_wp2
  go_loopw [1, 5] (fun q i wr => ∃ k : Nat, i = .int .i64 k ∧ q = .int .i64 (K + 2 * (k : Int)) ∧ k ≤ n ∧ Below w.heap.size w wr) (fun _ i _ => n - (intOf i).toNat)
  case atStart => exact ⟨0, rfl, by simp, by omega, Below.refl _ _⟩
  case round =>
    obtain ⟨k, rfl, rfl, hk, hbw⟩ := hrel
    by_cases hp : k < n
    · have i1 : (k : Int) < n := by omega
      obtain ⟨g, rfl, ho, hM⟩ := H.out k hp
      obtain ⟨J, hJ⟩ : ∃ J, K + 2 * (k : Int) = J := ⟨_, rfl⟩
      have HJ := hide hJ
      have hJ0 : 0 ≤ J ∧ J ≤ 2000000000000000 := by omega
      replace hM : ∀ q y, (globalMs J)[q]? = some y → w.cell? ⟨g, k * 2 + q, none⟩ = some y := by rw [← hJ]; exact hM
      rw [hJ]
      have c0 := hM 0 _ rfl
      replace c0 := (hbw.cell (p := ⟨g, k * 2 + 0, none⟩) (block_lt c0)).trans c0
      have c1 := hM 1 _ rfl
      replace c1 := (hbw.cell (p := ⟨g, k * 2 + 1, none⟩) (block_lt c1)).trans c1
      simp only [Nat.add_zero] at c0
      have HT0 : Hid (∀ w', Calls Tryz.prog 113 #[.int .i64 (J)] w' fun e w2 => e = .returned (.string (mt (J))) ∧ Below w'.heap.size w' w2) := hide fun w' => markText_any _ w' (by omega)
      generalize mt (J) = s0 at *
      clear hJ hM
      go_wp2_with fail
      go_region_with (go_at_call 113; refine (HT0.out _).mono ?_; rintro e v0 ⟨rfl, b0⟩; have d0_0 := ((Below.trans (Below.refl _ _).drew b0).cell (p := ⟨g, k * 2, none⟩) (block_lt c0)).trans c0; have d0_1 := ((Below.trans (Below.refl _ _).drew b0).cell (p := ⟨g, k * 2 + 1, none⟩) (block_lt c1)).trans c1)
      all_goals
        have hb0 := hbw.trans ((Below.trans (Below.refl _ _).drew b0).mono hbw.size)
        clear b0 c0 c1
        have c0 := d0_0
        have c1 := d0_1
        clear d0_0 d0_1
        go_wp2
        go_roundw
        case rel => exact ⟨k + 1, by go_num, by first | (rw [← HJ.out]; go_num) | (rw [← HJ.out]; congr 1; omega), by omega, hb0⟩
        case measure => simp [intOf]; omega
    · have i1 : ¬ (k : Int) < n := by omega
      obtain rfl : k = n := by omega
      go_wp2
      go_ret
      exact ⟨rfl, hbw⟩
end Go.Proofs.YtoodadepafghhaaGreatDoor
