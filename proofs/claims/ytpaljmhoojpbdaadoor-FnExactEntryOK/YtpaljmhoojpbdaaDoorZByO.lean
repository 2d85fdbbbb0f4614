/- An object's bytes whole, as plain data; their bounds. No condition. -/
import Derived.Test.YtpaljmhoojpbdaaDoorZByD
/- The program's ways to lay a code into bytes. No condition. -/
namespace Go.Proofs.YtpaljmhoojpbdaaDoor
open Go.RowKit

theorem box_cells {w w' : World} {B : Nat} {o : Array Value} {T : TypeId} {g : Nat} (hg : w.heap[g]? = some (.cells o T (0, 0))) (k : Kp B w w') (hT : T ≠ 5) : ∀ j, w'.cell? ⟨g, j, none⟩ = o[j]? := (heapCells (k.row hg hT)).1
set_option maxRecDepth 100000 in
set_option maxHeartbeats 8000000 in
theorem appendCode_any (B : Nat) (v : Value) (L : List Int) (cv : Value) (m : Md) (x : CodeD) (w : World) (h : Own w B v L) (hv : CodeVal w m cv x) (hm : m.hi ≤ B) (hB : B ≤ w.heap.size) (hL : L.length ≤ 900000000) (hs : SmallC x) :
    Calls Tryd.prog 119 #[v, cv] w fun e w' => (∃ u, e = .returned u ∧ Own w' B u (L ++ codeBs x)) ∧ Kp B w w' := by
  obtain ⟨s1, s2, s3⟩ := hs
  obtain ⟨u4, rfl, -, a, c, rfl, hr⟩ := hv
  obtain ⟨cn, pp, ce, rr, l⟩ := x
  simp only [] at s1 s2 s3 hr ⊢
  have H := hide h
  have HR := hide hr
  obtain ⟨n, hn⟩ : ∃ n, l.length = n := ⟨_, rfl⟩
  have HN := hide hn
  have HS3 := hide s3
  have HB := hide (show L ++ codeBs ⟨cn, pp, ce, rr, l⟩ = (((((L ++ txtB cn) ++ [pp % 256]) ++ pairB ce) ++ [rr % 256]) ++ pairB n) ++ inssBs l by
    unfold codeBs codeHd
    simp only [hn, List.append_assoc])
  generalize L ++ codeBs ⟨cn, pp, ce, rr, l⟩ = X at *
  rw [hn] at s2 ⊢
  clear h hr hn s3
  go_enter Tryd.func119, Tryd.ntmps119
  go_wp2_with fail
  have HW := hide (Deep.blk_alloc_new w (.cells #[.string cn, .int .i64 pp, .int .i64 ce, .int .i64 rr, .slice a n c] 30))
  refine (appendText_any B v L cn _ (H.out.alloc _) (by simp; omega) (by omega) (by omega)).mono ?_
  rintro e w1 ⟨⟨u1, rfl, h1⟩, b1⟩
  have z1 : B ≤ w1.heap.size := by have := b1.size; simp at this; omega
  have q1 := box_cells HW.out b1 (by decide) 1
  simp at q1
  have H1 := hide h1
  have K1 := hide b1
  have e1 : (L ++ txtB cn).length ≤ 900000041 := by rw [List.length_append, txtB_len]; omega
  clear h1 b1
  go_wp2_with (at_builtin; refine wp_append_bytes rfl _ _ rfl B _ _ rfl (H1.out.alloc _) ⟨w1.heap.size, 0, none⟩ 1 1 [pp % 256] rfl rfl (one_new _ _ _) (by omega) (by simp; omega) ?_; intro v2 w2 h2 b2; have K2 := hide ((K1.out.alloc z1 _).trans b2); have q2 := box_cells HW.out K2.out (by decide) 2; simp at q2)
  have z2 : B ≤ w2.heap.size := by have := b2.size; simp at this; omega
  have e2 : ((L ++ txtB cn) ++ [pp % 256]).length ≤ 900000042 := by rw [List.length_append]; simp only [List.length_cons, List.length_nil]; omega
  clear b2 q1
  refine (appendPair_any B _ _ ce _ h2 z2 (by omega)).mono ?_
  rintro e w3 ⟨⟨u3, rfl, h3⟩, b3⟩
  have z3 : B ≤ w3.heap.size := Nat.le_trans z2 b3.size
  have K3 := hide (K2.out.trans b3)
  have q3 := box_cells HW.out K3.out (by decide) 3
  simp at q3
  have H3 := hide h3
  have e3 : (((L ++ txtB cn) ++ [pp % 256]) ++ pairB ce).length ≤ 900000044 := by rw [List.length_append]; simp only [pairB, List.length_cons, List.length_nil]; omega
  clear h2 h3 b3 q2
  go_wp2_with (at_builtin; refine wp_append_bytes rfl _ _ rfl B _ _ rfl (H3.out.alloc _) ⟨w3.heap.size, 0, none⟩ 1 1 [rr % 256] rfl rfl (one_new _ _ _) (by omega) (by simp; omega) ?_; intro v4 w4 h4 b4; have K4 := hide ((K3.out.alloc z3 _).trans b4); have q4 := box_cells HW.out K4.out (by decide) 4; simp at q4)
  have z4 : B ≤ w4.heap.size := by have := b4.size; simp at this; omega
  have e4 : ((((L ++ txtB cn) ++ [pp % 256]) ++ pairB ce) ++ [rr % 256]).length ≤ 900000045 := by rw [List.length_append]; simp only [List.length_cons, List.length_nil]; omega
  clear b4 q3
  refine (appendPair_any B _ _ n _ h4 z4 (by omega)).mono ?_
  rintro e w5 ⟨⟨u5, rfl, h5⟩, b5⟩
  have z5 : B ≤ w5.heap.size := Nat.le_trans z4 b5.size
  have K5 := hide (K4.out.trans b5)
  have q5 := box_cells HW.out K5.out (by decide) 4
  simp at q5
  obtain ⟨Y, hY⟩ : ∃ Y, ((((L ++ txtB cn) ++ [pp % 256]) ++ pairB ce) ++ [rr % 256]) ++ pairB n = Y := ⟨_, rfl⟩
  have e5 : Y.length ≤ 900000047 := by rw [← hY, List.length_append]; simp only [pairB, List.length_cons, List.length_nil] at e4 ⊢; omega
  rw [hY] at h5 HB
  have H5 := hide (show Own w5 B u5 (Y ++ inssBs (l.take 0)) by rw [List.take_zero, inssBs, List.append_nil]; exact h5)
  clear h4 h5 b5 q4 hY e1 e2 e3 e4
  go_wp2_with fail
  go_loopw [0, 35] (fun b i wr => ∃ k : Nat, i = .int .i64 k ∧ k ≤ n ∧ Hid (Own wr B b (Y ++ inssBs (l.take k))) ∧ Kp B w5 wr) (fun _ i _ => n - (intOf i).toNat)
  case atStart => exact ⟨0, rfl, by omega, H5, Kp.refl _ _⟩
  case round =>
    obtain ⟨k, rfl, hk, Hk, hbw⟩ := hrel
    have hBr : B ≤ wr.heap.size := Nat.le_trans z5 hbw.size
    by_cases hp : k < n
    · have i1 : (k : Int) < n := by omega
      have hkl : k < l.length := by rw [HN.out]; exact hp
      have hball : Below m.hi w wr := (((Kp.refl B w).alloc hB _).trans (K5.out.trans hbw)).bel.mono hm
      obtain ⟨b, o, rfl, -, -, -, he⟩ := rows_on InsAt.stays HR.out hball k hkl
      have hT := inss_take hkl
      have hsm := HS3.out l[k] (List.getElem_mem hkl)
      have hpl := inss_blen (l.take k) (fun y hy => HS3.out y (List.mem_of_mem_take hy))
      rw [List.length_take] at hpl
      obtain ⟨x, hx⟩ : ∃ x, l[k] = x := ⟨_, rfl⟩
      rw [hx] at he hT hsm
      obtain ⟨⟨c0, c1, c2, c3, c4⟩, -⟩ := he
      simp only [Nat.add_zero] at c0 c1 c2 c3 c4
      obtain ⟨Z, hZ⟩ : ∃ Z, Y ++ inssBs (l.take k) = Z := ⟨_, rfl⟩
      have hZl : Z.length ≤ 900300000 := by rw [← hZ, List.length_append]; omega
      rw [hZ] at Hk
      have HT : Hid (Y ++ inssBs (l.take (k + 1)) = Z ++ insBs x) := hide (by rw [hT, ← List.append_assoc, hZ])
      have HN' : Hid (∀ w', Calls Tryd.prog 94 #[.agg #[.int .i64 x.op, .int .i64 x.a, .int .i64 x.b, .string x.mod, .string x.name]] w' fun e w2 => e = .returned (.bool (namedB x.op)) ∧ Below w'.heap.size w' w2) := hide fun w' => hasName_gw x w'
      clear hT hpl hx hZ hball
      obtain ⟨op, ia, ib, im, iname⟩ := x
      simp only [] at c0 c1 c2 c3 c4 hsm HN'
      obtain ⟨g1, g2⟩ := hsm
      obtain ⟨q, hq⟩ : ∃ q, namedB op = q := ⟨_, rfl⟩
      have HQ := hide hq
      rw [hq] at HN'
      clear hq q5
      have HV := hide (Deep.blk_alloc_new wr (.cells #[.int .i64 op, .int .i64 ia, .int .i64 ib, .string im, .string iname] 94))
      have A0 := hide ((Kp.refl B wr).alloc hBr (.cells #[.int .i64 op, .int .i64 ia, .int .i64 ib, .string im, .string iname] 94))
      go_wp2_with (at_builtin; refine wp_append_bytes rfl _ _ rfl B _ _ rfl ((Hk.out.alloc _).alloc _) ⟨wr.heap.size + 1, 0, none⟩ 1 1 [op % 256] rfl rfl (one_at (by simp) _ _) (by omega) (by simp; omega) ?_; intro v6 w6 h6 b6; have K6 := hide (((Kp.refl B _).alloc (by simp; omega) _).trans b6); have q6 := box_cells HV.out K6.out (by decide) 1; simp at q6)
      have z6 : B ≤ w6.heap.size := by have := b6.size; simp at this; omega
      clear b6
      refine (appendNumber_any B _ _ ia _ h6 z6 (by simp; omega)).mono ?_
      rintro e w7 ⟨⟨u7, rfl, h7⟩, b7⟩
      have z7 : B ≤ w7.heap.size := Nat.le_trans z6 b7.size
      have K7 := hide (K6.out.trans b7)
      have r0 := box_cells HV.out K7.out (by decide) 0
      have r1 := box_cells HV.out K7.out (by decide) 1
      have r2 := box_cells HV.out K7.out (by decide) 2
      have r3 := box_cells HV.out K7.out (by decide) 3
      have r4 := box_cells HV.out K7.out (by decide) 4
      simp at r0 r1 r2 r3 r4
      have H7 := hide h7
      have e7 : ((Z ++ [op % 256]) ++ numB ia).length ≤ 900300009 := by simp [numB_len]; omega
      clear h6 b7 q6 h7 c0 c1 c2 c3 c4
      go_wp2_with fail
      refine (HN'.out _).mono ?_
      rintro e w8 ⟨rfl, b8⟩
      have z8 : B ≤ w8.heap.size := Nat.le_trans z7 b8.size
      have K8 := hide (K7.out.trans (Kp.of_below b8 z7))
      have H8 := hide (H7.out.on b8)
      have r2 := box_cells HV.out K8.out (by decide) 2
      have r3 := box_cells HV.out K8.out (by decide) 3
      simp at r2 r3
      clear r0 r1 r4 b8 HN'
      cases q with
      | false =>
        have H9 := hide (show Own w8 B u7 (Y ++ inssBs (l.take (k + 1))) by
          rw [HT.out]
          unfold insBs
          simp only [HQ.out, Bool.false_eq_true, if_false, List.append_nil, ← List.append_assoc]
          exact H8.out)
        go_wp2
        go_roundw
        case rel => exact ⟨k + 1, by go_num, by omega, H9, hbw.trans (A0.out.trans K8.out)⟩
        case measure => simp [intOf]; omega
      | true =>
        go_wp2_with (at_builtin; refine wp_append_bytes rfl _ _ rfl B _ _ rfl (H8.out.alloc _) ⟨w8.heap.size, 0, none⟩ 1 1 [ib % 256] rfl rfl (one_new _ _ _) (by omega) (by simp; omega) ?_; intro v9 w9 h9 b9; have K9 := hide ((K8.out.alloc z8 _).trans b9); have t3 := box_cells HV.out K9.out (by decide) 3; simp at t3)
        have z9 : B ≤ w9.heap.size := by have := b9.size; simp at this; omega
        clear b9
        refine (appendText_any B _ _ im _ h9 z9 (by simp at e7 ⊢; omega) (by omega)).mono ?_
        rintro e w10 ⟨⟨u10, rfl, h10⟩, b10⟩
        have z10 : B ≤ w10.heap.size := Nat.le_trans z9 b10.size
        have K10 := hide (K9.out.trans b10)
        have t4 := box_cells HV.out K10.out (by decide) 4
        simp at t4
        have H10 := hide h10
        clear h9 h10 b10 t3
        go_wp2_with fail
        refine (appendText_any B _ _ iname _ H10.out z10 (by simp [txtB_len] at e7 ⊢; omega) (by omega)).mono ?_
        rintro e w11 ⟨⟨u11, rfl, h11⟩, b11⟩
        have K11 := hide (K10.out.trans b11)
        have H11 := hide (show Own w11 B u11 (Y ++ inssBs (l.take (k + 1))) by
          rw [HT.out]
          unfold insBs
          simp only [HQ.out, if_true, ← List.append_assoc]
          exact h11)
        clear h11 b11
        go_wp2
        go_roundw
        case rel => exact ⟨k + 1, by go_num, by omega, H11, hbw.trans (A0.out.trans K11.out)⟩
        case measure => simp [intOf]; omega
    · have i1 : ¬ (k : Int) < n := by omega
      obtain rfl : k = n := by omega
      go_wp2
      go_ret
      refine ⟨⟨_, rfl, ?_⟩, ((Kp.refl B w).alloc hB _).trans (K5.out.trans hbw)⟩
      have := Hk.out
      rw [List.take_of_length_le (by rw [HN.out]; exact Nat.le_refl _), ← HB.out] at this
      exact this
end Go.Proofs.YtpaljmhoojpbdaaDoor

namespace Go.Proofs.YtpaljmhoojpbdaaDoor
open Go.RowKit

theorem flat_step {α : Type} (f : α → List Int) {l : List α} {k : Nat} (h : k < l.length) : (l.take (k + 1)).flatMap f = (l.take k).flatMap f ++ f l[k] := by
  rw [List.take_succ_eq_append_getElem h, List.flatMap_append]
  congr 1
  simp
theorem flat_blen {α : Type} (f : α → List Int) (c : Nat) : ∀ (l : List α), (∀ x ∈ l, (f x).length ≤ c) → (l.flatMap f).length ≤ c * l.length
  | [], _ => by simp
  | x :: r, h => by
    have h1 := h x (by simp)
    have h2 := flat_blen f c r fun y hy => h y (by simp [hy])
    rw [List.flatMap_cons, List.length_append, List.length_cons, Nat.mul_add]
    omega
theorem flat_tlen {α : Type} (f : α → List Int) (c n k : Nat) (l : List α) (h : ∀ x ∈ l, (f x).length ≤ c) (hn : l.length ≤ n) : ((l.take k).flatMap f).length ≤ c * n := by
  have h1 := flat_blen f c (l.take k) fun x hx => h x (List.mem_of_mem_take hx)
  have h2 : (l.take k).length ≤ n := by rw [List.length_take]; omega
  exact Nat.le_trans h1 (Nat.mul_le_mul_left c h2)
def objHead (x : ObjectD) : List Int := (([79, 79, 49] ++ txtB x.module) ++ numB x.print) ++ [(x.needs.length : Int) % 256]
def objBs (x : ObjectD) : List Int := (((((objHead x ++ x.needs.flatMap needBs) ++ [(x.globals.length : Int) % 256]) ++ x.globals.flatMap globBs) ++ [(x.procs.length : Int) % 256]) ++ x.procs.flatMap codeBs)
structure SmallO (x : ObjectD) : Prop where
  mod : x.module.size ≤ 40
  needs : x.needs.length ≤ 20
  globals : x.globals.length ≤ 100
  procs : x.procs.length ≤ 60
  need : ∀ y ∈ x.needs, y.module.size ≤ 40
  glob : ∀ y ∈ x.globals, y.name.size ≤ 40
  proc : ∀ y ∈ x.procs, SmallC y
theorem need_blen {x : NeedD} (h : x.module.size ≤ 40) : (needBs x).length ≤ 49 := by
  unfold needBs
  rw [List.length_append, txtB_len, numB_len]
  omega
theorem glob_blen {x : GlobalD} (h : x.name.size ≤ 40) : (globBs x).length ≤ 42 := by
  unfold globBs
  rw [List.length_append, txtB_len]
  simp
  omega
theorem obj_blen {x : ObjectD} (h : SmallO x) : (objBs x).length ≤ 13000000 := by
  have h1 := flat_tlen needBs 49 20 x.needs.length x.needs (fun y hy => need_blen (h.need y hy)) h.needs
  have h2 := flat_tlen globBs 42 100 x.globals.length x.globals (fun y hy => glob_blen (h.glob y hy)) h.globals
  have h3 := flat_tlen codeBs 200100 60 x.procs.length x.procs (fun y hy => code_blen y (h.proc y hy)) h.procs
  rw [List.take_of_length_le (Nat.le_refl _)] at h1 h2 h3
  have := h.mod
  unfold objBs objHead
  simp only [List.length_append, txtB_len, numB_len, List.length_cons, List.length_nil]
  omega
theorem oo_full (w : World) (fr : Nat × Nat) : Full (w.alloc (.cells #[.int .u8 79, .int .u8 79, .int .u8 49] 5 fr)) (.slice (some ⟨w.heap.size, 0, none⟩) 3 3) [79, 79, 49] := by
  refine ⟨_, rfl, fun j u hu => ?_⟩
  match j, hu with
  | 0, hu => simp [bc] at hu; subst hu; simp [Addr.add, World.cell?_alloc_mark]
  | 1, hu => simp [bc] at hu; subst hu; simp [Addr.add, World.cell?_alloc_mark]
  | 2, hu => simp [bc] at hu; subst hu; simp [Addr.add, World.cell?_alloc_mark]
  | j + 3, hu => simp [bc] at hu
theorem oo_full_at {w : World} {b : Nat} (hb : b = w.heap.size) (fr : Nat × Nat) : Full (w.alloc (.cells #[.int .u8 79, .int .u8 79, .int .u8 49] 5 fr)) (.slice (some ⟨b, 0, none⟩) 3 3) [79, 79, 49] := by
  subst hb
  exact oo_full w fr
end Go.Proofs.YtpaljmhoojpbdaaDoor
