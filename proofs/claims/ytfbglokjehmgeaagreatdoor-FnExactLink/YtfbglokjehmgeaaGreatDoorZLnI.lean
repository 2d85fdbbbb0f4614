/- The program finds the first module with an instruction that is wrong. No condition. -/
import Derived.Test.YtfbglokjehmgeaaGreatDoorZLnF
/- The program looks for an instruction that is wrong. No condition. -/
namespace Go.Proofs.YtfbglokjehmgeaaGreatDoor
open Go.ChangeShapes Go.WideShapes Go.ChangeAt Go.RowKit Go.Deep

set_option maxRecDepth 100000 in
set_option maxHeartbeats 4000000 in
theorem index_no (b : Nat) (f : InsD → Bool) (h : Nat) (v : Value) (m : Md) (l : List InsD) (w : World) (hl : l.length ≤ 1000000) (hs : SlAt InsAt 5 w m v l) (hm : m.hi ≤ h) (hh : h ≤ w.heap.size)
    (HF0 : ∀ y ∈ l, ∀ w', Below w.heap.size w w' → Calls Tryz.prog 61 #[.pointer (some ⟨b, 0, none⟩), .agg #[.int .i64 y.op, .int .i64 y.a, .int .i64 y.b, .string y.mod, .string y.name]] w' fun e w2 => e = .returned (.bool (f y)) ∧ Below w'.heap.size w' w2) :
    Calls Tryz.prog 110 #[v, .func (.func 61) #[.pointer (some ⟨b, 0, none⟩)] #[]] w fun e w' => (∃ k : Int, e = .returned (.int .i64 k) ∧ decide (0 ≤ k) = l.any f) ∧ Below w.heap.size w w' := by
  have HS := hide hs
  have HF := hide HF0
  obtain ⟨a, c, rfl, -⟩ := hs
  obtain ⟨n, hn⟩ : ∃ n, l.length = n := ⟨_, rfl⟩
  have HN := hide hn
  rw [hn] at hl HS ⊢
  have HYes : Hid (∀ k (h : k < l.length), f l[k] = true → decide (0 ≤ (k : Int)) = l.any f) := hide fun k h hb => by
    rw [decide_eq_true (by omega)]
    exact (List.any_eq_true.2 ⟨_, List.getElem_mem h, hb⟩).symm
  have HNo : Hid ((∀ s ∈ l, f s = false) → decide (0 ≤ (-1 : Int)) = l.any f) := hide fun h => by
    rw [decide_eq_false (by omega)]
    exact (List.any_eq_false.2 (fun s hs => by rw [h s hs]; decide)).symm
  clear hn HF0
  go_enter Tryz.func110, Tryz.ntmps110
  go_wp2
  go_loopw [8] (fun iv wr => ∃ k : Nat, iv = .int .i64 k ∧ k ≤ n ∧ Hid (Below w.heap.size w wr) ∧ Hid (∀ s ∈ l.take k, f s = false)) (fun iv _ => n - (intOf iv).toNat)
  case atStart => exact ⟨0, rfl, by omega, hide (Below.refl _ _), hide fun s hs => by simp at hs⟩
  case round =>
    obtain ⟨k, rfl, hk, Hb, Hs⟩ := hrel
    by_cases hp : k < n
    · have i1 : (k : Int) < n := by omega
      have hkl : k < l.length := by rw [HN.out]; exact hp
      obtain ⟨x, hx⟩ : ∃ x, l[k] = x := ⟨_, rfl⟩
      obtain ⟨a', c', e', hrows⟩ := HS.out.on InsAt.stays (Hb.out.mono (Nat.le_trans hm hh))
      cases e'
      obtain ⟨gb, o, rfl, hb1, hb2, -, he⟩ := hrows k hkl
      rw [HN.out] at hb1
      have hyes := HYes.out k hkl
      have htk : Hid (f x = false → ∀ s ∈ l.take (k + 1), f s = false) := hide fun hxs s hs => by
        rw [List.take_succ_eq_append_getElem hkl, hx] at hs
        rcases List.mem_append.1 hs with e | e
        · exact Hs.out s e
        · obtain rfl := List.mem_singleton.1 e
          exact hxs
      have HL := hide (fun w' (bel : Below wr.heap.size wr w') => HF.out x (by rw [← hx]; exact List.getElem_mem hkl) w' (Hb.out.trans (bel.mono Hb.out.size)))
      rw [hx] at he hyes
      clear hx hrows
      obtain ⟨⟨d0, d1, d2, d3, d4⟩, -⟩ := he
      simp only [Nat.add_zero] at d0
      obtain ⟨xo, xa, xb, xm, xn⟩ := x
      simp only [] at d0 d1 d2 d3 d4 HL
      cases hq : f ⟨xo, xa, xb, xm, xn⟩ with
      | true =>
        have HA := hide (hyes hq)
        rw [hq] at HL
        clear hyes hq htk hb1
        go_wp2_with (go_at_call 61; refine (HL.out _ (Below.refl _ _)).mono ?_; rintro e w3 ⟨rfl, b3⟩; have hb3 := hide b3; clear b3)
        go_ret
        exact ⟨⟨_, rfl, HA.out⟩, Hb.out.trans (hb3.out.mono Hb.out.size)⟩
      | false =>
        have Hs2 := hide (htk.out hq)
        rw [hq] at HL
        clear hyes hq htk hb1
        go_wp2_with (go_at_call 61; refine (HL.out _ (Below.refl _ _)).mono ?_; rintro e w3 ⟨rfl, b3⟩; have hb3 := hide (Hb.out.trans (b3.mono Hb.out.size)); clear b3)
        go_roundw
        case rel => exact ⟨k + 1, by go_num, by omega, hb3, Hs2⟩
        case measure => simp [intOf]; omega
    · have i1 : ¬ (k : Int) < n := by omega
      have HA := hide (HNo.out (fun s hs => Hs.out s (by rw [List.take_of_length_le (by rw [HN.out]; omega)]; exact hs)))
      go_wp2
      go_ret
      exact ⟨⟨_, rfl, HA.out⟩, Hb.out⟩
theorem contains_no (b : Nat) (f : InsD → Bool) (h : Nat) (v : Value) (m : Md) (l : List InsD) (w : World) (hl : l.length ≤ 1000000) (hs : SlAt InsAt 5 w m v l) (hm : m.hi ≤ h) (hh : h ≤ w.heap.size)
    (HF0 : ∀ y ∈ l, ∀ w', Below w.heap.size w w' → Calls Tryz.prog 61 #[.pointer (some ⟨b, 0, none⟩), .agg #[.int .i64 y.op, .int .i64 y.a, .int .i64 y.b, .string y.mod, .string y.name]] w' fun e w2 => e = .returned (.bool (f y)) ∧ Below w'.heap.size w' w2) :
    Calls Tryz.prog 89 #[v, .func (.func 61) #[.pointer (some ⟨b, 0, none⟩)] #[]] w fun e w' => e = .returned (.bool (l.any f)) ∧ Below w.heap.size w w' := by
  have HI := hide (index_no b f h v m l w hl hs hm hh HF0)
  clear hl hs hm hh HF0
  generalize l.any f = T at *
  go_enter Tryz.func89, Tryz.ntmps89
  go_wp2_with (go_at_call 110; refine HI.out.mono ?_; rintro e w3 ⟨⟨k, rfl, hk⟩, b3⟩)
  go_ret
  exact ⟨by rw [← hk]; rfl, b3⟩
set_option maxRecDepth 100000 in
set_option maxHeartbeats 4000000 in
theorem index_mis (b : Nat) (f : InsD → Bool) (h : Nat) (v : Value) (m : Md) (l : List InsD) (w : World) (hl : l.length ≤ 1000000) (hs : SlAt InsAt 5 w m v l) (hm : m.hi ≤ h) (hh : h ≤ w.heap.size)
    (HF0 : ∀ y ∈ l, ∀ w', Below w.heap.size w w' → Calls Tryz.prog 62 #[.pointer (some ⟨b, 0, none⟩), .agg #[.int .i64 y.op, .int .i64 y.a, .int .i64 y.b, .string y.mod, .string y.name]] w' fun e w2 => e = .returned (.bool (f y)) ∧ Below w'.heap.size w' w2) :
    Calls Tryz.prog 110 #[v, .func (.func 62) #[.pointer (some ⟨b, 0, none⟩)] #[]] w fun e w' => (∃ k : Int, e = .returned (.int .i64 k) ∧ decide (0 ≤ k) = l.any f) ∧ Below w.heap.size w w' := by
  have HS := hide hs
  have HF := hide HF0
  obtain ⟨a, c, rfl, -⟩ := hs
  obtain ⟨n, hn⟩ : ∃ n, l.length = n := ⟨_, rfl⟩
  have HN := hide hn
  rw [hn] at hl HS ⊢
  have HYes : Hid (∀ k (h : k < l.length), f l[k] = true → decide (0 ≤ (k : Int)) = l.any f) := hide fun k h hb => by
    rw [decide_eq_true (by omega)]
    exact (List.any_eq_true.2 ⟨_, List.getElem_mem h, hb⟩).symm
  have HNo : Hid ((∀ s ∈ l, f s = false) → decide (0 ≤ (-1 : Int)) = l.any f) := hide fun h => by
    rw [decide_eq_false (by omega)]
    exact (List.any_eq_false.2 (fun s hs => by rw [h s hs]; decide)).symm
  clear hn HF0
  go_enter Tryz.func110, Tryz.ntmps110
  go_wp2
  go_loopw [8] (fun iv wr => ∃ k : Nat, iv = .int .i64 k ∧ k ≤ n ∧ Hid (Below w.heap.size w wr) ∧ Hid (∀ s ∈ l.take k, f s = false)) (fun iv _ => n - (intOf iv).toNat)
  case atStart => exact ⟨0, rfl, by omega, hide (Below.refl _ _), hide fun s hs => by simp at hs⟩
  case round =>
    obtain ⟨k, rfl, hk, Hb, Hs⟩ := hrel
    by_cases hp : k < n
    · have i1 : (k : Int) < n := by omega
      have hkl : k < l.length := by rw [HN.out]; exact hp
      obtain ⟨x, hx⟩ : ∃ x, l[k] = x := ⟨_, rfl⟩
      obtain ⟨a', c', e', hrows⟩ := HS.out.on InsAt.stays (Hb.out.mono (Nat.le_trans hm hh))
      cases e'
      obtain ⟨gb, o, rfl, hb1, hb2, -, he⟩ := hrows k hkl
      rw [HN.out] at hb1
      have hyes := HYes.out k hkl
      have htk : Hid (f x = false → ∀ s ∈ l.take (k + 1), f s = false) := hide fun hxs s hs => by
        rw [List.take_succ_eq_append_getElem hkl, hx] at hs
        rcases List.mem_append.1 hs with e | e
        · exact Hs.out s e
        · obtain rfl := List.mem_singleton.1 e
          exact hxs
      have HL := hide (fun w' (bel : Below wr.heap.size wr w') => HF.out x (by rw [← hx]; exact List.getElem_mem hkl) w' (Hb.out.trans (bel.mono Hb.out.size)))
      rw [hx] at he hyes
      clear hx hrows
      obtain ⟨⟨d0, d1, d2, d3, d4⟩, -⟩ := he
      simp only [Nat.add_zero] at d0
      obtain ⟨xo, xa, xb, xm, xn⟩ := x
      simp only [] at d0 d1 d2 d3 d4 HL
      cases hq : f ⟨xo, xa, xb, xm, xn⟩ with
      | true =>
        have HA := hide (hyes hq)
        rw [hq] at HL
        clear hyes hq htk hb1
        go_wp2_with (go_at_call 62; refine (HL.out _ (Below.refl _ _)).mono ?_; rintro e w3 ⟨rfl, b3⟩; have hb3 := hide b3; clear b3)
        go_ret
        exact ⟨⟨_, rfl, HA.out⟩, Hb.out.trans (hb3.out.mono Hb.out.size)⟩
      | false =>
        have Hs2 := hide (htk.out hq)
        rw [hq] at HL
        clear hyes hq htk hb1
        go_wp2_with (go_at_call 62; refine (HL.out _ (Below.refl _ _)).mono ?_; rintro e w3 ⟨rfl, b3⟩; have hb3 := hide (Hb.out.trans (b3.mono Hb.out.size)); clear b3)
        go_roundw
        case rel => exact ⟨k + 1, by go_num, by omega, hb3, Hs2⟩
        case measure => simp [intOf]; omega
    · have i1 : ¬ (k : Int) < n := by omega
      have HA := hide (HNo.out (fun s hs => Hs.out s (by rw [List.take_of_length_le (by rw [HN.out]; omega)]; exact hs)))
      go_wp2
      go_ret
      exact ⟨⟨_, rfl, HA.out⟩, Hb.out⟩
theorem contains_mis (b : Nat) (f : InsD → Bool) (h : Nat) (v : Value) (m : Md) (l : List InsD) (w : World) (hl : l.length ≤ 1000000) (hs : SlAt InsAt 5 w m v l) (hm : m.hi ≤ h) (hh : h ≤ w.heap.size)
    (HF0 : ∀ y ∈ l, ∀ w', Below w.heap.size w w' → Calls Tryz.prog 62 #[.pointer (some ⟨b, 0, none⟩), .agg #[.int .i64 y.op, .int .i64 y.a, .int .i64 y.b, .string y.mod, .string y.name]] w' fun e w2 => e = .returned (.bool (f y)) ∧ Below w'.heap.size w' w2) :
    Calls Tryz.prog 89 #[v, .func (.func 62) #[.pointer (some ⟨b, 0, none⟩)] #[]] w fun e w' => e = .returned (.bool (l.any f)) ∧ Below w.heap.size w w' := by
  have HI := hide (index_mis b f h v m l w hl hs hm hh HF0)
  clear hl hs hm hh HF0
  generalize l.any f = T at *
  go_enter Tryz.func89, Tryz.ntmps89
  go_wp2_with (go_at_call 110; refine HI.out.mono ?_; rintro e w3 ⟨⟨k, rfl, hk⟩, b3⟩)
  go_ret
  exact ⟨by rw [← hk]; rfl, b3⟩
end Go.Proofs.YtfbglokjehmgeaaGreatDoor

namespace Go.Proofs.YtfbglokjehmgeaaGreatDoor
open Go.ChangeShapes Go.WideShapes Go.ChangeAt Go.RowKit Go.Deep

def anyC (f : InsD → Bool) (cs : List CV) : Bool := cs.any fun c => c.1.list.any f
def firstD (f : InsD → Bool) : List OV → Option ByteArray
  | [] => none
  | p :: r => if anyC f p.cs = true then some p.x.module else firstD f r
def firstE (c : Int) : Option ByteArray → Ending
  | none => .returned .nilIface
  | some s => .returned (.iface 59 (.agg #[.string s, .int .i64 c]))
theorem firstD_cons (f : InsD → Bool) (p : OV) (r : List OV) : firstD f (p :: r) = if anyC f p.cs = true then some p.x.module else firstD f r := rfl
set_option maxRecDepth 100000 in
set_option maxHeartbeats 8000000 in
theorem firstWith_any (b B h : Nat) (kv : Value) (vs : List OV) (f : InsD → Bool) (fv : Value) (c : Int) (w : World) (h3 : w.cell? ⟨b, 3, none⟩ = some kv) (hk : FRow objK w B kv vs) (hvs : vs.length ≤ 1000000) (hhw : h ≤ w.heap.size)
    (hv : ∀ p ∈ vs, OVal w h p ∧ p.cs.length ≤ 1000000)
    (hc : ∀ p ∈ vs, ∀ c ∈ p.cs, ∀ w', Below w.heap.size w w' → Calls Tryz.prog 89 #[c.2, fv] w' fun e w2 => e = .returned (.bool (c.1.list.any f)) ∧ Below w'.heap.size w' w2) :
    Calls Tryz.prog 60 #[.pointer (some ⟨b, 0, none⟩), fv, .int .i64 c] w fun e w' => e = firstE c (firstD f vs) ∧ Below w.heap.size w w' := by
  have HV := hide hv
  have HC := hide hc
  have HK := hide hk
  obtain ⟨ka, kc, rfl⟩ := hk.form
  obtain ⟨R, hR⟩ : ∃ R, firstD f vs = R := ⟨_, rfl⟩
  have HR := hide hR
  obtain ⟨n, hn⟩ : ∃ n, vs.length = n := ⟨_, rfl⟩
  have HN := hide hn
  rw [hn] at h3 hvs
  rw [hR]
  clear hv hc hk hn hR
  go_enter Tryz.func60, Tryz.ntmps60
  go_upto_region 2 with fail
  clear h3
  go_loopw [16] (fun iv wr => ∃ k : Nat, iv = .int .i64 k ∧ k ≤ n ∧ Hid (Below w.heap.size w wr) ∧ Hid (firstD f (vs.drop k) = R)) (fun iv _ => n - (intOf iv).toNat)
  case atStart => exact ⟨0, rfl, by omega, hide (Below.refl _ _), hide (by rw [List.drop_zero]; exact HR.out)⟩
  case round =>
    obtain ⟨k, rfl, hk, Hb, Hs⟩ := hrel
    obtain ⟨w8, rfl⟩ : ∃ w8, w8 = wr := ⟨_, rfl⟩
    by_cases hp : k < n
    · have i1 : (k : Int) < n := by omega
      have hkl : k < vs.length := by rw [HN.out]; exact hp
      obtain ⟨hov, hcl⟩ := HV.out _ (List.getElem_mem hkl)
      obtain ⟨gk, kc', e, hkc, -, hgk, hrow⟩ := HK.out.one_at objOk hkl
      rw [HN.out] at e hkc
      cases e
      have hdr : vs.drop k = vs[k] :: vs.drop (k + 1) := List.drop_eq_getElem_cons hkl
      have hin := List.getElem_mem hkl
      obtain ⟨p, hp'⟩ : ∃ p, vs[k] = p := ⟨_, rfl⟩
      rw [hp'] at hov hcl hrow hdr hin
      rw [hdr] at Hs
      have HIn := hide hin
      have hov8 := hov.on (Hb.out.mono hhw)
      obtain ⟨a2, c2, a3, c3, a4, c4, p2, p3, p4⟩ := hov.form
      have hol := hov.len
      have d0 : w8.cell? ⟨gk, k * 5, none⟩ = some (.string p.x.module) := (Hb.out.cell (p := ⟨gk, _, none⟩) hgk).trans (hrow 0 (by decide))
      have d1 : w8.cell? ⟨gk, k * 5 + 1, none⟩ = some (.int .i64 p.x.print) := (Hb.out.cell (p := ⟨gk, _, none⟩) hgk).trans (hrow 1 (by decide))
      have d2 : w8.cell? ⟨gk, k * 5 + 2, none⟩ = some p.u2 := (Hb.out.cell (p := ⟨gk, _, none⟩) hgk).trans (hrow 2 (by decide))
      have d3 : w8.cell? ⟨gk, k * 5 + 3, none⟩ = some p.u3 := (Hb.out.cell (p := ⟨gk, _, none⟩) hgk).trans (hrow 3 (by decide))
      have d4 : w8.cell? ⟨gk, k * 5 + 4, none⟩ = some p.u4 := (Hb.out.cell (p := ⟨gk, _, none⟩) hgk).trans (hrow 4 (by decide))
      rw [p2] at d2
      rw [p3] at d3
      rw [p4] at d4
      obtain ⟨-, -, -, -, -, hvr, hcv⟩ := hov8
      rw [p4] at hvr
      have HVr := hide hvr
      have HCv := hide hcv
      obtain ⟨mo, hmo⟩ : ∃ q, p.x.module = q := ⟨_, rfl⟩
      obtain ⟨n4, hn4⟩ : ∃ q, p.x.procs.length = q := ⟨_, rfl⟩
      have HMo := hide hmo
      rw [hmo] at d0
      rw [hn4] at d4 hol HVr
      have HOl := hide hol
      have hn4b : n4 ≤ 1000000 := by omega
      generalize p.x.print = pr at *
      generalize p.x.needs.length = l2 at *
      generalize p.x.globals.length = l3 at *
      obtain ⟨W5, hW5⟩ : ∃ W5, w8.alloc (.cells #[.string mo, .int .i64 pr, .slice a2 l2 c2, .slice a3 l3 c3, .slice a4 n4 c4] 48) = W5 := ⟨_, rfl⟩
      have b5 : Below w8.heap.size w8 W5 := by rw [← hW5]; exact (Below.refl _ _).alloc (Nat.le_refl _) _
      have x5 := Deep.blk_alloc_new w8 (.cells #[.string mo, .int .i64 pr, .slice a2 l2 c2, .slice a3 l3 c3, .slice a4 n4 c4] 48)
      rw [hW5] at x5
      have HX5 := hide x5
      have HB5 := hide b5
      have HW5 := hide hW5
      have z4 : W5.cell? ⟨w8.heap.size, 4, none⟩ = some (.slice a4 n4 c4) := (heapCells x5).1 4
      have hszw : w.heap.size ≤ w8.heap.size := Hb.out.size
      clear hp' hdr hin hov hcl hrow p2 p3 p4 hvr hcv hmo hn4 hol x5 b5 hW5
      go_upto_region 4 with fail
      rw [HW5.out]
      clear d0 d1 d2 d3 d4
      go_upto_region 5 with fail
      clear z4
      go_loopw [23] (fun iv wr => ∃ j : Nat, iv = .int .i64 j ∧ j ≤ n4 ∧ Hid (Below W5.heap.size W5 wr) ∧ Hid (anyC f (p.cs.take j) = false)) (fun iv _ => n4 - (intOf iv).toNat)
      case atStart => exact ⟨0, rfl, by omega, hide (Below.refl _ _), hide rfl⟩
      case round =>
        obtain ⟨j, rfl, hj, Hbj, Hsj⟩ := hrel
        obtain ⟨w6, rfl⟩ : ∃ w6, w6 = wr := ⟨_, rfl⟩
        have hbx : w6.heap[w8.heap.size]? = _ := (Hbj.out.block _ (Array.getElem?_eq_some_iff.1 HX5.out).1).trans HX5.out
        have HBx := hide hbx
        have h56 : w8.heap.size ≤ W5.heap.size := HB5.out.size
        have hb86 : Below w8.heap.size w8 w6 := HB5.out.trans (Hbj.out.mono h56)
        have HB86 := hide hb86
        clear hbx hb86
        by_cases hq : j < n4
        · have i2 : (j : Int) < n4 := by omega
          have hjc : j < p.cs.length := by rw [HOl.out]; exact hq
          have hvr6 := HVr.out.on (HB86.out.mono (by omega))
          obtain ⟨a', c', e4, hrn⟩ := hvr6
          rw [HOl.out] at e4
          cases e4
          obtain ⟨nb, nq, rfl, r1, r2, r3⟩ := hrn j hjc
          rw [HOl.out] at r1
          obtain ⟨mc, -, ⟨la, lc, el, -⟩⟩ := HCv.out _ (List.getElem_mem hjc)
          have HCc := hide (HC.out p HIn.out _ (List.getElem_mem hjc))
          have htk : anyC f (p.cs.take (j + 1)) = (p.cs[j].1.list.any f) := by
            unfold anyC
            rw [List.take_succ_eq_append_getElem hjc, List.any_append]
            have := Hsj.out
            unfold anyC at this
            rw [this]
            simp
          have hany : (p.cs[j].1.list.any f) = true → anyC f p.cs = true := fun e => by
            unfold anyC
            exact List.any_eq_true.2 ⟨_, List.getElem_mem hjc, e⟩
          obtain ⟨cd, hcd⟩ : ∃ cd, p.cs[j] = cd := ⟨_, rfl⟩
          rw [hcd] at r3 el HCc htk hany
          have k0 : w6.cell? ⟨nb, nq + j * 5, none⟩ = some (.string cd.1.name) := r3 0 (by decide)
          have k1 : w6.cell? ⟨nb, nq + j * 5 + 1, none⟩ = some (.int .i64 cd.1.params) := r3 1 (by decide)
          have k2 : w6.cell? ⟨nb, nq + j * 5 + 2, none⟩ = some (.int .i64 cd.1.cells) := r3 2 (by decide)
          have k3 : w6.cell? ⟨nb, nq + j * 5 + 3, none⟩ = some (.int .i64 cd.1.result) := r3 3 (by decide)
          have k4 : w6.cell? ⟨nb, nq + j * 5 + 4, none⟩ = some cd.2 := r3 4 (by decide)
          rw [el] at k4 HCc
          generalize cd.1.name = cn at *
          generalize cd.1.params = cp at *
          generalize cd.1.cells = cc at *
          generalize cd.1.result = cr at *
          generalize cd.1.list.length = ll at *
          obtain ⟨W7, hW7⟩ : ∃ W7, w6.alloc (.cells #[.string cn, .int .i64 cp, .int .i64 cc, .int .i64 cr, .slice la ll lc] 86) = W7 := ⟨_, rfl⟩
          have b7 : Below w6.heap.size w6 W7 := by rw [← hW7]; exact (Below.refl _ _).alloc (Nat.le_refl _) _
          have x7 := Deep.blk_alloc_new w6 (.cells #[.string cn, .int .i64 cp, .int .i64 cc, .int .i64 cr, .slice la ll lc] 86)
          rw [hW7] at x7
          have m4 : W7.cell? ⟨w6.heap.size, 4, none⟩ = some (.slice la ll lc) := (heapCells x7).1 4
          have hbw7 : Below w.heap.size w W7 := Hb.out.trans ((HB86.out.trans (b7.mono HB86.out.size)).mono hszw)
          have HCall := hide (HCc.out W7 hbw7)
          have HB7 := hide b7
          have HW7 := hide hW7
          have HBw7 := hide hbw7
          have hx7 := (b7.block _ (Array.getElem?_eq_some_iff.1 HBx.out).1).trans HBx.out
          have HX7 := hide hx7
          have HTk := hide htk
          have HAny := hide hany
          clear hrn hcd r3 el HCc htk hany b7 x7 hW7 hbw7 hx7
          cases hv : cd.1.list.any f with
          | true =>
            have HA := hide (HAny.out hv)
            rw [hv] at HCall
            have hRs : R = some mo := by
              have := Hs.out
              rw [firstD_cons, HA.out, if_pos rfl, HMo.out] at this
              exact this.symm
            have HRs := hide hRs
            clear hv hRs
            go_upto_region 7 with fail
            rw [HW7.out]
            clear k0 k1 k2 k3 k4
            go_upto_region 8 with (go_at_call 89; refine HCall.out.mono ?_; rintro e w9 ⟨rfl, b9⟩; have hb9 := hide b9; have x9 := (b9.block _ (Array.getElem?_eq_some_iff.1 HX7.out).1).trans HX7.out; have v0 : w9.cell? ⟨w8.heap.size, 0, none⟩ = some (.string mo) := (heapCells x9).1 0; clear b9 x9)
            go_wp2
            go_ret
            exact ⟨by rw [HRs.out]; rfl, HBw7.out.trans (hb9.out.mono HBw7.out.size)⟩
          | false =>
            rw [hv] at HCall HTk
            clear hv
            go_upto_region 7 with fail
            rw [HW7.out]
            clear k0 k1 k2 k3 k4
            go_wp2_with (go_at_call 89; refine HCall.out.mono ?_; rintro e w9 ⟨rfl, b9⟩; have hb9 := hide (Hbj.out.trans ((HB7.out.trans (b9.mono HB7.out.size)).mono Hbj.out.size)); clear b9)
            go_roundw
            case rel => exact ⟨j + 1, by go_num, by omega, hb9, HTk⟩
            case measure => simp [intOf]; omega
        · have i2 : ¬ (j : Int) < n4 := by omega
          obtain rfl : j = n4 := by omega
          have hno : anyC f p.cs = false := by
            have := Hsj.out
            rwa [List.take_of_length_le (by rw [HOl.out]; exact Nat.le_refl _)] at this
          have hRn : firstD f (vs.drop (k + 1)) = R := by
            have := Hs.out
            rw [firstD_cons, hno, if_neg (by decide)] at this
            exact this
          have HRn := hide hRn
          have hb9 := hide (Hb.out.trans (HB86.out.mono hszw))
          clear hno hRn
          go_wp2
          go_roundw
          case rel => exact ⟨k + 1, by go_num, by omega, hb9, HRn⟩
          case measure => simp [intOf]; omega
    · have i1 : ¬ (k : Int) < n := by omega
      have hRn : R = none := by
        have := Hs.out
        rw [List.drop_of_length_le (by rw [HN.out]; omega)] at this
        exact this.symm
      have HRn := hide hRn
      clear hRn
      go_wp2
      go_ret
      exact ⟨by rw [HRn.out]; rfl, Hb.out⟩
end Go.Proofs.YtfbglokjehmgeaaGreatDoor
