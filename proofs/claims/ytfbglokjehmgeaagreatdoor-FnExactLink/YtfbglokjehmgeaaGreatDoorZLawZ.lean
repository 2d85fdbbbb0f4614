/- A region that draws its order and ends in one store: a condition on the world that holds behind every operation but that last one. What yields its value in every world that meets the condition may be taken first, where the last one waits for it. (After the kit's own law on held conditions; of whatever program. No condition.) -/
import Derived.Test.YtfbglokjehmgeaaGreatDoorZLkY
import Derived.Deep.CutRange
import Derived.Test.YtfbglokjehmgeaaGreatDoorZHelQ
import Derived.Test.YtfbglokjehmgeaaGreatDoorRows
import Derived.Deep.RegionHeld3
/- Linking, where the model's globals stand. No condition. -/
namespace Go.Proofs.YtfbglokjehmgeaaGreatDoor
open Go.ChangeShapes Go.WideShapes Go.ChangeAt Go.RowKit Go.Deep

def glen (g : GlobalD) : Int := if 1 < g.length then g.length else 1
/-- Found, or how many cells were passed. -/
def globIn (m mod name : ByteArray) : List GlobalD → Int → Int ⊕ Int
  | [], n => .inr n
  | g :: r, n => if (m.toList == mod.toList) && (g.name.toList == name.toList) then .inl n else globIn m mod name r (n + glen g)
def globP (mod name : ByteArray) : List ObjectD → Int → Int ⊕ Int
  | [], n => .inr n
  | x :: r, n => match globIn x.module mod name x.globals n with
    | .inl k => .inl k
    | .inr n' => globP mod name r n'
def foundI : Int ⊕ Int → Int
  | .inl k => k
  | .inr _ => -1
theorem globIn_bound (m mod name : ByteArray) : ∀ (l : List GlobalD) (n : Int), 0 ≤ n → (∀ g ∈ l, 0 ≤ g.length ∧ g.length ≤ 100) → ∀ k, globIn m mod name l n = .inr k → 0 ≤ k ∧ k ≤ n + 100 * l.length
  | [], n, h, _, k, e => by
    unfold globIn at e
    cases e
    simp
    exact h
  | g :: r, n, h, hb, k, e => by
    unfold globIn at e
    have hg := hb g (List.mem_cons_self ..)
    have hl : 1 ≤ glen g ∧ glen g ≤ 100 := by unfold glen; split <;> omega
    split at e
    · cases e
    · have := globIn_bound m mod name r (n + glen g) (by omega) (fun x hx => hb x (List.mem_cons_of_mem _ hx)) k e
      simp only [List.length_cons]
      omega
/-- The rest of a search: in one object's globals, then in the other objects. -/
def globR (m mod name : ByteArray) (l : List GlobalD) (r : List ObjectD) (n : Int) : Int ⊕ Int := match globIn m mod name l n with
  | .inl k => .inl k
  | .inr n' => globP mod name r n'
theorem globP_cons (mod name : ByteArray) (x : ObjectD) (r : List ObjectD) (n : Int) : globP mod name (x :: r) n = globR x.module mod name x.globals r n := rfl
theorem globR_nil (m mod name : ByteArray) (r : List ObjectD) (n : Int) : globR m mod name [] r n = globP mod name r n := rfl
theorem globR_yes {m mod name : ByteArray} {g : GlobalD} {l : List GlobalD} {r : List ObjectD} {n : Int} (h : ((m.toList == mod.toList) && (g.name.toList == name.toList)) = true) : globR m mod name (g :: l) r n = .inl n := by
  unfold globR globIn
  rw [if_pos h]
theorem globR_no {m mod name : ByteArray} {g : GlobalD} {l : List GlobalD} {r : List ObjectD} {n : Int} (h : ((m.toList == mod.toList) && (g.name.toList == name.toList)) = false) : globR m mod name (g :: l) r n = globR m mod name l r (n + glen g) := by
  unfold globR
  rw [show globIn m mod name (g :: l) n = globIn m mod name l (n + glen g) by rw [globIn, if_neg (by rw [h]; decide)]]
set_option maxRecDepth 20000 in
set_option maxHeartbeats 8000000 in
theorem global_any (a : Option Addr) (cp : Nat) (m : Md) (L : List ObjectD) (b B : Nat) (o : List Nat) (p : List ByteArray) (c : Int) (s mod name : ByteArray) (w : World) (h : SlAt ObjectAt 5 w m (.slice a L.length cp) L) (hm : m.hi ≤ w.heap.size) (hT : ∀ x ∈ L, Tiny x) (hls : LS w b B (.slice a L.length cp) o p c s) (hk : ∀ k ∈ o, k < L.length) (hol : o.length ≤ 1000) :
    Calls Tryz.prog 102 #[.pointer (some ⟨b, 0, none⟩), .string mod, .string name] w fun e w' => e = .returned (.int .i64 (foundI (globP mod name (objsOf L o) 0))) ∧ Below w.heap.size w w' := by
  have hmix : Tryz.prog.follows .mixedOrders = true := by kernel_rfl
  have HS := hide h
  obtain ⟨ov, pv, ⟨c0, c1, -, -, -⟩, -, ho, -, hxb⟩ := hls.cells
  have hbw0 : b < w.heap.size := (Array.getElem?_eq_some_iff.1 hxb).1
  obtain ⟨oa, oc, rfl⟩ := ho.form
  have HInt : Hid (∀ i (h : i < o.length), ∃ g', oa = some ⟨g', 0, none⟩ ∧ o.length ≤ oc ∧ g' < w.heap.size ∧ w.cell? ⟨g', i, none⟩ = some (.int .i64 (o[i] : Int))) := hide fun i hi => by
    obtain ⟨g', c', e, q1, q2, q3, hc⟩ := ho.one_at intOk hi
    cases e
    have := hc 0 (by decide)
    exact ⟨g', rfl, q1, q3, by simpa [intK] using this⟩
  have HKn := hide hk
  have HTi := hide hT
  obtain ⟨R, hR⟩ : ∃ R, globP mod name (objsOf L o) 0 = R := ⟨_, rfl⟩
  have HR := hide hR
  obtain ⟨nL, hnL⟩ : ∃ k, L.length = k := ⟨_, rfl⟩
  obtain ⟨no, hno⟩ : ∃ k, o.length = k := ⟨_, rfl⟩
  have HNL := hide hnL
  have HNo := hide hno
  rw [hnL] at HS c0
  rw [hno] at hol c1
  rw [hR]
  clear h ho hk hT hnL hno hls hR hxb
  go_enter Tryz.func102, Tryz.ntmps102
  go_wp2
  go_loopw [7, 8] (fun v i wr => ∃ (j : Nat) (n : Int), i = .int .i64 j ∧ j ≤ no ∧ v = .int .i64 n ∧ 0 ≤ n ∧ n ≤ 10000 * j ∧ Hid (globP mod name ((objsOf L o).drop j) n = R) ∧ Below w.heap.size w wr) (fun _ i _ => no - (intOf i).toNat)
  case atStart => exact ⟨0, 0, rfl, by omega, rfl, by omega, by omega, hide (by rw [List.drop_zero]; exact HR.out), Below.refl _ _⟩
  case round =>
    obtain ⟨j, n, rfl, hj, rfl, hn0, hn1, Hj, hbw⟩ := hrel
    obtain ⟨w8, rfl⟩ : ∃ w8, w8 = wr := ⟨_, rfl⟩
    have b1 := (hbw.cell (p := ⟨b, 1, none⟩) hbw0).trans c1
    by_cases hp : j < no
    · have i1 : (j : Int) < no := by omega
      have hjo : j < o.length := by rw [HNo.out]; exact hp
      obtain ⟨g', rfl, q1, q2, q3⟩ := HInt.out j hjo
      rw [HNo.out] at q1
      have hkL : o[j] < L.length := HKn.out _ (List.getElem_mem hjo)
      have HX := hide (objsOf_at hjo hkL)
      have HTx := hide (HTi.out _ (List.getElem_mem hkL))
      obtain ⟨k, hk⟩ : ∃ k, o[j] = k := ⟨_, rfl⟩
      have q4 := (hbw.cell (p := ⟨g', j, none⟩) q2).trans q3
      have i2 : ((o[j] : Nat) : Int) < nL := by rw [← HNL.out]; omega
      have hS := HS.out
      rw [← HNL.out] at hS
      obtain ⟨a', c', e', hr⟩ := hS.on ObjectAt.stays (hbw.mono hm)
      cases e'
      obtain ⟨gb, of, rfl, g1, g2, -, he⟩ := hr o[j] hkL
      rw [HNL.out] at g1
      obtain ⟨x, hx⟩ : ∃ x, L[o[j]] = x := ⟨_, rfl⟩
      rw [hx] at he HX HTx
      rw [hk] at q4 i2 he
      have hdr : (objsOf L o).drop j = x :: (objsOf L o).drop (j + 1) := by rw [List.drop_eq_getElem_cons (by rw [objsOf_len]; exact hjo), HX.out]
      rw [hdr, globP_cons] at Hj
      obtain ⟨⟨d0, d1⟩, -, u2, u3, u4, ⟨d2, d3, d4⟩, s2, s3, s4⟩ := he
      have HP := hide s3
      obtain ⟨a2, c2, rfl, -⟩ := s2
      obtain ⟨a3, c3, rfl, -⟩ := s3
      obtain ⟨a4, c4, rfl, -⟩ := s4
      simp only [Nat.add_zero] at d0 d1 d2 d3 d4
      obtain ⟨mo, pr, l2, l3, l4⟩ := x
      simp only [] at d0 d1 d2 d3 d4 HP Hj
      obtain ⟨n2, hn2⟩ : ∃ k, l2.length = k := ⟨_, rfl⟩
      obtain ⟨n3, hn3⟩ : ∃ k, l3.length = k := ⟨_, rfl⟩
      obtain ⟨n4, hn4⟩ : ∃ k, l4.length = k := ⟨_, rfl⟩
      have HN3 := hide hn3
      rw [hn2] at d2
      rw [hn3] at d3 HP
      rw [hn4] at d4
      have hn100 : n3 ≤ 100 := by rw [← HN3.out]; exact HTx.out.globs
      have HG := hide HTx.out.gnames
      simp only [] at HG
      have b0 := (hbw.cell (p := ⟨b, 0, none⟩) hbw0).trans c0
      clear hr hS hx hk q1 q2 q3 hkL hn2 hn3 hn4 hdr HX HTx
      go_wp2_with fail
      go_cut [9] from 20 to 32 (fun v wc => v = .pointer (some ⟨w8.heap.size, 0, none⟩) ∧ Hid (wc.heap[w8.heap.size]? = some (.cells #[.string mo, .int .i64 pr, .slice a2 n2 c2, .slice a3 n3 c3, .slice a4 n4 c4] 48 (0, 0))) ∧ Hid (Below w8.heap.size w8 wc))
      case first =>
        have bA : ∀ o : Obj, Below w8.heap.size w8 (w8.drew.alloc o) := fun o => (Below.refl _ _).drew.alloc (Nat.le_refl _) _
        go_region_held3 (fun w' => w'.cell? ⟨b, 0, none⟩ = some (.slice (some ⟨gb, of, none⟩) nL cp) ∧ w'.cell? ⟨b, 1, none⟩ = some (.slice (some ⟨g', 0, none⟩) no oc) ∧ w'.cell? ⟨g', j, none⟩ = some (.int .i64 k) ∧ w'.cell? ⟨gb, of + k * 5, none⟩ = some (.string mo) ∧ w'.cell? ⟨gb, of + k * 5 + 1, none⟩ = some (.int .i64 pr) ∧ w'.cell? ⟨gb, of + k * 5 + 2, none⟩ = some (.slice a2 n2 c2) ∧ w'.cell? ⟨gb, of + k * 5 + 3, none⟩ = some (.slice a3 n3 c3) ∧ w'.cell? ⟨gb, of + k * 5 + 4, none⟩ = some (.slice a4 n4 c4))
          (first
            | (go_split_ands; exact ⟨b0, b1, q4, d0, d1, d2, d3, d4⟩)
            | go_keep
            | trace_state)
          (fail)
        go_wp2_with fail
        go_meet
        case rel => exact ⟨rfl, hide (Deep.blk_alloc_new w8 _), hide ((Below.refl _ _).alloc (Nat.le_refl _) _).drew⟩
      case rest =>
        obtain ⟨rfl, Hbx, Hbc⟩ := hcut
        have hbwc := hbw.trans (Hbc.out.mono hbw.size)
        have hltc : w8.heap.size < wc.heap.size := (Array.getElem?_eq_some_iff.1 Hbx.out).1
        clear b0 b1 q4 d0 d1 d2 d3 d4
        go_wp2_with fail
        go_loopw [7, 10] (fun v i wr => ∃ (q : Nat) (n' : Int), i = .int .i64 q ∧ q ≤ n3 ∧ v = .int .i64 n' ∧ 0 ≤ n' ∧ n' ≤ 10000 * j + 100 * q ∧ Hid (globR mo mod name (l3.drop q) ((objsOf L o).drop (j + 1)) n' = R) ∧ Hid (wr.heap[w8.heap.size]? = some (.cells #[.string mo, .int .i64 pr, .slice a2 n2 c2, .slice a3 n3 c3, .slice a4 n4 c4] 48 (0, 0))) ∧ Below w.heap.size w wr) (fun _ i _ => n3 - (intOf i).toNat)
        case atStart => exact ⟨0, n, rfl, by omega, rfl, by omega, by omega, hide (by rw [List.drop_zero]; exact Hj.out), Hbx, hbwc⟩
        case round =>
          obtain ⟨q, n', rfl, hq, rfl, hn0', hn1', Hq, Hb, hbq⟩ := hrel
          obtain ⟨k0, k3⟩ : (wr.cell? ⟨w8.heap.size, 0, none⟩ = some (.string mo)) ∧ (wr.cell? ⟨w8.heap.size, 3, none⟩ = some (.slice a3 n3 c3)) :=
            ⟨(heapCells Hb.out).1 0, (heapCells Hb.out).1 3⟩
          by_cases hp3 : q < n3
          · have i3 : (q : Int) < n3 := by omega
            have hq3 : q < l3.length := by rw [HN3.out]; exact hp3
            have hP := HP.out
            rw [← HN3.out] at hP
            obtain ⟨a', c', e', hr⟩ := hP.same GlobalAt.stays (Same.two hbw hbq (by rw [Md.inner_hi]; exact hm))
            cases e'
            obtain ⟨pb, po, rfl, p1, p2, -, he⟩ := hr q hq3
            rw [HN3.out] at p1
            obtain ⟨y, hy⟩ : ∃ y, l3[q] = y := ⟨_, rfl⟩
            have hyt := HG.out _ (List.getElem_mem hq3)
            have hdr : l3.drop q = y :: l3.drop (q + 1) := by rw [List.drop_eq_getElem_cons hq3, hy]
            rw [hdr] at Hq
            rw [hy] at he hyt
            obtain ⟨⟨e0, e1⟩, -⟩ := he
            obtain ⟨yn, yl⟩ := y
            simp only [Nat.add_zero] at e0 e1 hyt
            obtain ⟨hyn, hy0, hy1⟩ := hyt
            clear hr hy hdr
            cases hmt : (mo.toList == mod.toList) with
            | false =>
              have HR2 := hide (show globR mo mod name (l3.drop (q + 1)) ((objsOf L o).drop (j + 1)) (n' + glen ⟨yn, yl⟩) = R by rw [← globR_no (by rw [hmt]; rfl)]; exact Hq.out)
              have hgl : 1 ≤ glen ⟨yn, yl⟩ ∧ glen ⟨yn, yl⟩ ≤ 100 := by unfold glen; simp only []; split <;> omega
              have HGl := hide (show glen ⟨yn, yl⟩ = if 1 < yl then yl else 1 from rfl)
              generalize glen ⟨yn, yl⟩ = G at *
              by_cases hge : 1 < yl
              · obtain rfl : G = yl := by rw [HGl.out, if_pos hge]
                go_wp2_with fail
                go_roundw
                case rel => exact ⟨q + 1, _, by go_num, by omega, rfl, by omega, by omega, HR2, Hb, hbq⟩
                case measure => simp [intOf]; omega
              · obtain rfl : G = 1 := by rw [HGl.out, if_neg hge]
                go_wp2_with fail
                go_roundw
                case rel => exact ⟨q + 1, _, by go_num, by omega, rfl, by omega, by omega, HR2, Hb, hbq⟩
                case measure => simp [intOf]; omega
            | true =>
              cases hnt : (yn.toList == name.toList) with
              | false =>
                have HR2 := hide (show globR mo mod name (l3.drop (q + 1)) ((objsOf L o).drop (j + 1)) (n' + glen ⟨yn, yl⟩) = R by rw [← globR_no (by rw [hmt, hnt]; rfl)]; exact Hq.out)
                have hgl : 1 ≤ glen ⟨yn, yl⟩ ∧ glen ⟨yn, yl⟩ ≤ 100 := by unfold glen; simp only []; split <;> omega
                have HGl := hide (show glen ⟨yn, yl⟩ = if 1 < yl then yl else 1 from rfl)
                generalize glen ⟨yn, yl⟩ = G at *
                by_cases hge : 1 < yl
                · obtain rfl : G = yl := by rw [HGl.out, if_pos hge]
                  go_wp2_with fail
                  go_roundw
                  case rel => exact ⟨q + 1, _, by go_num, by omega, rfl, by omega, by omega, HR2, Hb, hbq⟩
                  case measure => simp [intOf]; omega
                · obtain rfl : G = 1 := by rw [HGl.out, if_neg hge]
                  go_wp2_with fail
                  go_roundw
                  case rel => exact ⟨q + 1, _, by go_num, by omega, rfl, by omega, by omega, HR2, Hb, hbq⟩
                  case measure => simp [intOf]; omega
              | true =>
                have HRe := hide (show R = .inl n' by rw [← Hq.out, globR_yes (by rw [hmt, hnt]; rfl)])
                go_wp2_with fail
                go_ret
                exact ⟨by rw [HRe.out]; rfl, hbq⟩
          · have i3 : ¬ (q : Int) < n3 := by omega
            go_wp2
            go_roundw
            case rel =>
              refine ⟨j + 1, n', by go_num, by omega, rfl, by omega, by omega, ?_, hbq⟩
              have := Hq.out
              rw [List.drop_of_length_le (by rw [HN3.out]; omega), globR_nil] at this
              exact hide this
            case measure => simp [intOf]; omega
    · have i1 : ¬ (j : Int) < no := by omega
      go_wp2
      go_ret
      have := Hj.out
      rw [List.drop_of_length_le (by rw [objsOf_len, HNo.out]; omega)] at this
      unfold globP at this
      exact ⟨by rw [← this]; rfl, hbw⟩
end Go.Proofs.YtfbglokjehmgeaaGreatDoor

/- Rows of plain structs: many appended at once, one set anew. No condition. -/
namespace Go.Proofs.YtfbglokjehmgeaaGreatDoor
open Go.ChangeShapes Go.WideShapes Go.ChangeAt Go.RowKit Go.Deep

theorem wp_append_flats {D : Type} {F : FlatK D} (hF : F.Ok) {w : World} {ops : Array Oper} {rest : List Oper} {o : Oper} {a : Act} {Q : Exit → Act → World → Prop} (hgd : o.guard = none) (s x : Operand)
    (ho : o.op = .call { callee := .builtin .append, args := #[s, x], argTypes := #[F.sl, F.sl] }) (B : Nat) (v : Value) (l : List D) (hs : a.eval s = v) (hown : FRow F w B v l)
    (ad : Addr) (m c : Nat) (new : List D) (hx : a.eval x = .slice (some ad) m c) (hm : new.length = m) (hnews : ∀ j c, (F.all new)[j]? = some c → w.cell? (ad.add j) = some c) (hp : ∀ y ∈ new, ∀ u ∈ F.cs y, u.oneCell' = true) (hb : l.length + m ≤ 100000000) (hbase : B ≤ w.heap.size)
    (h : ∀ v' w', FRow F w' B v' (l ++ new) → w.grownBy w' v.ownBlock → wpList Tryz.prog ops Q rest (a.put o.dst v') w') : wpList Tryz.prog ops Q (o :: rest) a w := by
  obtain ⟨i, hi, hz0, hz1, hz2⟩ := info_parts hF.info
  have hbb := hF.by_
  refine wpList_append_own w hgd s x _ ho B F.ty i F.zero F.sz F.bytes hF.under hi hz0 hz1 hz2 hF.zsz hF.pos v l.length (F.all l) hs hown ad m c (F.all new) hx (by rw [FlatK.all_len hF, hm]) hnews ?_ (by unfold maxLen; omega) ?_ hbase fun v' w' h2 h3 _ => ?_
  · intro u hu
    unfold FlatK.all at hu
    obtain ⟨y, hy, hu⟩ := List.mem_flatMap.1 hu
    exact hp y hy u hu
  · have : (l.length + m) * F.bytes ≤ 100000000 * 1024 := Nat.mul_le_mul hb hbb
    omega
  · refine h v' w' ?_ h3
    unfold FRow
    rw [FlatK.all_app, List.length_append, hm]
    exact h2
/-- The cells of a slice of such structs, one behind the other. -/
theorem slat_all {D : Type} {F : FlatK D} (hF : F.Ok) {E : Elem D} {w : World} {m : Md} {b o n c : Nat} {l : List D} (hE : ∀ x cf w m, E cf w m x → ∀ j, j < F.sz → cf j = (F.cs x)[j]?) (h : SlAt E F.sz w m (.slice (some ⟨b, o, none⟩) n c) l) : ∀ j u, (F.all l)[j]? = some u → w.cell? ((⟨b, o, none⟩ : Addr).add j) = some u := by
  intro j u hu
  have hj := (List.getElem?_eq_some_iff.1 hu).1
  rw [FlatK.all_len hF] at hj
  have hpos := hF.pos
  have hi : j / F.sz < l.length := Nat.div_lt_of_lt_mul (by rw [Nat.mul_comm]; exact hj)
  have hr : j % F.sz < F.sz := Nat.mod_lt _ hpos
  have hjj : j / F.sz * F.sz + j % F.sz = j := by rw [Nat.mul_comm]; exact Nat.div_add_mod j F.sz
  obtain ⟨a', c', e, hrow⟩ := h
  cases e
  obtain ⟨b', o', e', -, -, -, he⟩ := hrow _ hi
  cases e'
  have h1 := hE _ _ _ _ he _ hr
  have h2 := FlatK.all_at hF l _ hi _ hr
  rw [hjj] at h2
  rw [add_plain, ← hu, h2, ← h1]
  show w.cell? ⟨b, o + j, none⟩ = w.cell? ⟨b, o + j / F.sz * F.sz + j % F.sz, none⟩
  rw [Nat.add_assoc, hjj]
/-- An element set anew. -/
theorem FRow.setAt {D : Type} {F : FlatK D} (hF : F.Ok) {w : World} {B g n c : Nat} {l : List D} (h : FRow F w B (.slice (some ⟨g, 0, none⟩) n c) l) {i : Nat} (hi : i < l.length) (x : D) : FRow F (setRow w g (i * F.sz) (F.cs x)) B (.slice (some ⟨g, 0, none⟩) n c) (l.set i x) := by
  obtain ⟨h1, h2⟩ := h
  rcases h2 with ⟨e, -⟩ | ⟨g', cap, cur, e, hb, hg, h3, h4, h5, h6⟩
  · cases e
  · cases e
    have hlen : (F.all (l.set i x)).length = l.length * F.sz := by rw [FlatK.all_len hF, List.length_set]
    have hfit : i * F.sz + (F.cs x).length ≤ cur.size := by
      rw [hF.len, h5]
      have : (i + 1) * F.sz ≤ c * F.sz := Nat.mul_le_mul_right _ (by omega)
      rw [Nat.add_mul, Nat.one_mul] at this
      exact this
    refine ⟨by rw [hlen, List.length_set], .inr ⟨g, c, putRow cur (i * F.sz) (F.cs x), by rw [List.length_set], hb, setRow_heap _ hg, by rw [List.length_set]; exact h3, h4, by rw [putRow_size]; exact h5, ?_⟩⟩
    rw [List.length_set]
    apply List.ext_getElem?
    intro t
    by_cases ht : t < l.length * F.sz
    · have hpos := hF.pos
      have hq : t / F.sz < l.length := Nat.div_lt_of_lt_mul (by rw [Nat.mul_comm]; exact ht)
      have hr : t % F.sz < F.sz := Nat.mod_lt _ hpos
      have htt : t / F.sz * F.sz + t % F.sz = t := by rw [Nat.mul_comm]; exact Nat.div_add_mod t F.sz
      have e1 := FlatK.all_at hF (l.set i x) (t / F.sz) (by rw [List.length_set]; exact hq) _ hr
      have e2 := FlatK.all_at hF l (t / F.sz) hq _ hr
      rw [htt] at e1 e2
      rw [e1, List.getElem?_take, if_pos ht, Array.getElem?_toList]
      by_cases c1 : t / F.sz = i
      · subst c1
        have := putRow_at (F.cs x) cur (t / F.sz * F.sz) (t % F.sz) (by rw [hF.len]; exact hr) hfit
        rw [htt] at this
        rw [this]
        simp
      · have hout : t < i * F.sz ∨ i * F.sz + (F.cs x).length ≤ t := by
          rw [hF.len]
          rcases Nat.lt_or_gt_of_ne c1 with c1 | c1
          · have : (t / F.sz + 1) * F.sz ≤ i * F.sz := Nat.mul_le_mul_right _ c1
            rw [Nat.add_mul] at this
            omega
          · have : (i + 1) * F.sz ≤ t / F.sz * F.sz := Nat.mul_le_mul_right _ c1
            rw [Nat.add_mul] at this
            omega
        rw [putRow_out _ _ _ _ hout]
        have e3 : cur[t]? = (F.all l)[t]? := by rw [← h6, List.getElem?_take, if_pos ht, Array.getElem?_toList]
        rw [e3, e2]
        simp [Ne.symm c1]
    · rw [List.getElem?_take, if_neg ht, List.getElem?_eq_none (by rw [hlen]; omega)]
end Go.Proofs.YtfbglokjehmgeaaGreatDoor

/- Linking, the model puts numbers for names. No condition. -/
namespace Go.Proofs.YtfbglokjehmgeaaGreatDoor
open Go.ChangeShapes Go.WideShapes Go.ChangeAt Go.RowKit Go.Deep

/-- Where a procedure is among names. -/
def nameAt (N : List ByteArray) (x : InsD) : Option Nat := firstAt (fun z => eqS z (dotN x.mod x.name)) N
def isInl : Int ⊕ Int → Bool
  | .inl _ => true
  | .inr _ => false
/-- An instruction, numbers for names. -/
def insR (P : List ObjectD) (N : List ByteArray) (x : InsD) : InsD :=
  if x.op = 3 then ⟨1, foundI (globP x.mod x.name P 0), 0, ⟨#[]⟩, ⟨#[]⟩⟩ else if x.op = 13 then ⟨13, idxI (nameAt N x), x.b, ⟨#[]⟩, ⟨#[]⟩⟩ else x
/-- It names what there is not. -/
def unk (P : List ObjectD) (N : List ByteArray) (x : InsD) : Bool :=
  if x.op = 3 then !isInl (globP x.mod x.name P 0) else if x.op = 13 then (nameAt N x).isNone else false
/-- The fault behind instructions. -/
def resF (P : List ObjectD) (N : List ByteArray) (mo : ByteArray) : List InsD → Int × ByteArray → Int × ByteArray
  | [], st => st
  | x :: r, st => resF P N mo r (if unk P N x = true ∧ st.1 = 0 then (5, mo) else st)
def codeR (P : List ObjectD) (N : List ByteArray) (c : CodeD) : CodeD := ⟨c.name, c.params, c.cells, c.result, c.list.map (insR P N)⟩
theorem foundI_neg {mod name : ByteArray} {P : List ObjectD} : ∀ {n : Int}, 0 ≤ n → (∀ x ∈ P, ∀ g ∈ x.globals, 0 ≤ g.length ∧ g.length ≤ 100) → (isInl (globP mod name P n) = true → 0 ≤ foundI (globP mod name P n)) ∧ (isInl (globP mod name P n) = false → foundI (globP mod name P n) = -1) := by
  induction P with
  | nil => intro n h _; unfold globP; exact ⟨(fun e => by cases e), fun _ => rfl⟩
  | cons x r ih =>
    intro n h hb
    unfold globP
    have hx := hb x (List.mem_cons_self ..)
    cases hg : globIn x.module mod name x.globals n with
    | inl k =>
      refine ⟨fun _ => ?_, (fun e => by cases e)⟩
      show 0 ≤ k
      have : ∀ (l : List GlobalD) (n : Int), 0 ≤ n → (∀ g ∈ l, 0 ≤ g.length ∧ g.length ≤ 100) → globIn x.module mod name l n = .inl k → 0 ≤ k := by
        intro l
        induction l with
        | nil => intro n _ _ e; unfold globIn at e; cases e
        | cons g l ih2 =>
          intro n h0 hl e
          unfold globIn at e
          have hg1 : 1 ≤ glen g := by unfold glen; split <;> omega
          split at e
          · cases e; exact h0
          · exact ih2 _ (by omega) (fun y hy => hl y (List.mem_cons_of_mem _ hy)) e
      exact this _ n h hx hg
    | inr n' =>
      have := globIn_bound x.module mod name x.globals n h hx n' hg
      exact ih this.1 fun y hy => hb y (List.mem_cons_of_mem _ hy)
/-- The model's linker in block b, its rows by their values. -/
def LX (w : World) (b B : Nat) (lv ov pv : Value) (o : List Nat) (p : List ByteArray) (c : Int) (s : ByteArray) : Prop :=
  w.heap[b]? = some (.cells #[lv, ov, pv, .int .i64 c, .string s] 91 (0, 0)) ∧ FRow intK w B ov o ∧ FRow strK w B pv p
theorem LX.ls {w : World} {b B : Nat} {lv ov pv : Value} {o : List Nat} {p : List ByteArray} {c : Int} {s : ByteArray} (h : LX w b B lv ov pv o p c s) : LS w b B lv o p c s := ⟨_, _, h⟩
theorem LS.lx {w : World} {b B : Nat} {lv : Value} {o : List Nat} {p : List ByteArray} {c : Int} {s : ByteArray} (h : LS w b B lv o p c s) : ∃ ov pv, LX w b B lv ov pv o p c s := h
theorem FRow.of_own {D : Type} {F : FlatK D} {w w' : World} {B : Nat} {v : Value} {l : List D} (h : FRow F w B v l) (hk : ∀ k, v.ownBlock = some k → w'.heap[k]? = w.heap[k]?) : FRow F w' B v l :=
  ⟨h.1, h.2.imp id fun ⟨g, cap, cur, e, hb, hg, r⟩ => ⟨g, cap, cur, e, hb, (hk g (by rw [e]; rfl)).trans hg, r⟩⟩
theorem LX.below {w w' : World} {b B : Nat} {lv ov pv : Value} {o : List Nat} {p : List ByteArray} {c : Int} {s : ByteArray} (h : LX w b B lv ov pv o p c s) (bel : Below w.heap.size w w') : LX w' b B lv ov pv o p c s :=
  ⟨(bel.block _ (Array.getElem?_eq_some_iff.1 h.1).1).trans h.1, h.2.1.on bel, h.2.2.on bel⟩
theorem LX.turn {w w' : World} {b B : Nat} {lv ov pv : Value} {o : List Nat} {p : List ByteArray} {c : Int} {s : ByteArray} (h : LX w b B lv ov pv o p c s) (hb : w'.heap[b]? = w.heap[b]?) (hk : ∀ k, k < w.heap.size → (∃ C T, w.heap[k]? = some (.cells C T (0, 0)) ∧ (T = 3 ∨ T = 9)) → w'.heap[k]? = w.heap[k]?) : LX w' b B lv ov pv o p c s :=
  ⟨hb.trans h.1, h.2.1.of_heap fun k _ hk1 ⟨C, hC⟩ => hk k hk1 ⟨C, _, hC, .inl rfl⟩, h.2.2.of_heap fun k _ hk1 ⟨C, hC⟩ => hk k hk1 ⟨C, _, hC, .inr rfl⟩⟩
set_option maxHeartbeats 4000000 in
theorem fail_two (b B : Nat) (lv ov pv : Value) (o : List Nat) (p : List ByteArray) (c0 c : Int) (s0 s : ByteArray) (w : World) (hb : b < B) (h : LX w b B lv ov pv o p c0 s0) :
    Calls Tryz.prog 49 #[.pointer (some ⟨b, 0, none⟩), .int .i64 c, .string s] w fun e w' => e = .returned (.tuple #[]) ∧ LX w' b B lv ov pv o p (if c0 = 0 then c else c0) (if c0 = 0 then s else s0) ∧ w.grownBy w' (some b) := by
  obtain ⟨hx, ho, hp⟩ := h
  have HO := hide ho
  have HP := hide hp
  have HX := hide hx
  obtain ⟨s1, s2⟩ := heapCells hx
  have c3 : w.cell? ⟨b, 3, none⟩ = some (.int .i64 c0) := s1 3
  have c4 : w.cell? ⟨b, 4, none⟩ = some (.string s0) := s1 4
  have f3 := s2 3
  have f4 := s2 4
  clear s1 s2 hx ho hp
  have hset : ∀ (w1 : World) (j : Nat) (v : Value), w1.grownBy (w1.setCell ⟨b, j, none⟩ v) (some b) := fun w1 j v => ⟨rfl, rfl, rfl, by simp [World.setCell], fun k _ hk => Below.heap_setCell _ _ _ _ (fun e => hk (by rw [e]))⟩
  by_cases hc : c0 = 0
  · subst hc
    rw [if_pos rfl, if_pos rfl]
    go_enter Tryz.func49, Tryz.ntmps49
    go_wp2
    go_end0
    refine ⟨rfl, ⟨?_, (HO.out.set_far hb _ _).set_far hb _ _, (HP.out.set_far hb _ _).set_far hb _ _⟩, (hset _ _ _).trans (hset _ _ _)⟩
    exact block_set (block_set HX.out _) _
  · rw [if_neg hc, if_neg hc]
    go_enter Tryz.func49, Tryz.ntmps49
    go_wp2
    go_end0
    exact ⟨rfl, ⟨HX.out, HO.out, HP.out⟩, ⟨rfl, rfl, rfl, Nat.le_refl _, fun _ _ _ => rfl⟩⟩
theorem FRow.at5 {w : World} {B g n c : Nat} {l : List InsD} (h : FRow insK w B (.slice (some ⟨g, 0, none⟩) n c) l) {i : Nat} (hi : i < l.length) {x : InsD} (hx : l[i] = x) :
    (w.cell? ⟨g, i * 5, none⟩ = some (.int .i64 x.op) ∧ w.cell? ⟨g, i * 5 + 1, none⟩ = some (.int .i64 x.a) ∧ w.cell? ⟨g, i * 5 + 2, none⟩ = some (.int .i64 x.b) ∧ w.cell? ⟨g, i * 5 + 3, none⟩ = some (.string x.mod) ∧ w.cell? ⟨g, i * 5 + 4, none⟩ = some (.string x.name)) ∧
    (∀ j, w.frozen? ⟨g, j, none⟩ = false) ∧ B ≤ g ∧ g < w.heap.size ∧ n = l.length ∧ l.length ≤ c := by
  obtain ⟨g', c', e, h1, h2, h3, hc⟩ := h.one_at insOk hi
  cases e
  subst hx
  have hf : ∀ j, w.frozen? ⟨g, j, none⟩ = false := by
    rcases h.2 with ⟨e, -⟩ | ⟨g', cap, cur, e, -, hg, -⟩
    · cases e
    · cases e; exact (heapCells hg).2
  exact ⟨⟨hc 0 (by decide), hc 1 (by decide), hc 2 (by decide), hc 3 (by decide), hc 4 (by decide)⟩, hf, h2, h3, rfl, h1⟩
theorem resX_at {f : InsD → InsD} {cl : List InsD} {j : Nat} (h : j < cl.length) : ∃ h2 : j < ((cl.take j).map f ++ cl.drop j).length, ((cl.take j).map f ++ cl.drop j)[j] = cl[j] := by
  have e : ((cl.take j).map f ++ cl.drop j)[j]? = some cl[j] := by
    rw [List.getElem?_append_right (by rw [List.length_map, List.length_take]; omega), List.length_map, List.length_take, Nat.min_eq_left (by omega), Nat.sub_self, List.getElem?_drop]
    simp [h]
  exact List.getElem?_eq_some_iff.1 e
theorem resX_set {f : InsD → InsD} {cl : List InsD} {j : Nat} (h : j < cl.length) : ((cl.take j).map f ++ cl.drop j).set j (f cl[j]) = (cl.take (j + 1)).map f ++ cl.drop (j + 1) := by
  have h1 : ((cl.take j).map f).length = j := by simp; omega
  rw [List.set_append_right _ _ (by omega), h1, Nat.sub_self, List.drop_eq_getElem_cons h, List.set_cons_zero, List.take_succ_eq_append_getElem h, List.map_append, List.append_assoc]
  rfl
theorem resX_keep {f : InsD → InsD} {cl : List InsD} {j : Nat} (h : j < cl.length) (hf : f cl[j] = cl[j]) : (cl.take j).map f ++ cl.drop j = (cl.take (j + 1)).map f ++ cl.drop (j + 1) := by
  rw [List.take_succ_eq_append_getElem h, List.map_append, List.append_assoc, List.drop_eq_getElem_cons h]
  simp [hf]
theorem resX_len {f : InsD → InsD} {cl : List InsD} {j : Nat} (h : j ≤ cl.length) : ((cl.take j).map f ++ cl.drop j).length = cl.length := by simp; omega
theorem resF_cons {P : List ObjectD} {N : List ByteArray} {mo : ByteArray} {x : InsD} {r : List InsD} {st : Int × ByteArray} : resF P N mo (x :: r) st = resF P N mo r (if unk P N x = true ∧ st.1 = 0 then (5, mo) else st) := rfl
end Go.Proofs.YtfbglokjehmgeaaGreatDoor

/- Linking over plain data: the model's image; rows of codes that hold rows. No condition. -/
namespace Go.Proofs.YtfbglokjehmgeaaGreatDoor
open Go.ChangeShapes Go.WideShapes Go.ChangeAt Go.RowKit Go.Deep

def zK : FlatK Int := ⟨3, 26, 1, 8, .int .i64 0, fun k => [.int .i64 k]⟩
theorem zOk : zK.Ok := ⟨by kernel_rfl, Tryz.underlying26, by decide, rfl, fun _ => rfl, by decide⟩
/-- A slice of codes in a row of the call's own, each code's list in a row of its own. -/
def KRow (w : World) (B : Nat) (v : Value) (L : List CV) : Prop := FRow codeK w B v L ∧ (∀ p ∈ L, FRow insK w B p.2 p.1.list) ∧ L.Pairwise fun a b => ∀ k, a.2.ownBlock = some k → b.2.ownBlock ≠ some k
theorem KRow.nil (w : World) (B : Nat) : KRow w B (.slice none 0 0) [] := ⟨FRow.nil _ _ _, (fun p h => absurd h (by simp)), List.Pairwise.nil⟩
theorem KRow.of_heap {w w' : World} {B : Nat} {v : Value} {L : List CV} (h : KRow w B v L) (hk : ∀ k, B ≤ k → k < w.heap.size → (∃ C T, w.heap[k]? = some (.cells C T (0, 0)) ∧ (T = 86 ∨ T = 139)) → w'.heap[k]? = w.heap[k]?) : KRow w' B v L :=
  ⟨h.1.of_heap fun k a b ⟨C, hC⟩ => hk k a b ⟨C, _, hC, .inl rfl⟩, fun p hp => (h.2.1 p hp).of_heap fun k a b ⟨C, hC⟩ => hk k a b ⟨C, _, hC, .inr rfl⟩, h.2.2⟩
theorem KRow.on {w w' : World} {B : Nat} {v : Value} {L : List CV} (h : KRow w B v L) (bel : Below w.heap.size w w') : KRow w' B v L := h.of_heap fun k _ hk _ => bel.block k hk
theorem KRow.le {w : World} {B C : Nat} {v : Value} {L : List CV} (h : KRow w B v L) (hc : C ≤ B) : KRow w C v L := ⟨h.1.le hc, fun p hp => (h.2.1 p hp).le hc, h.2.2⟩
theorem KRow.push {w wa w2 : World} {B : Nat} {v v' : Value} {L : List CV} {y : CodeD} {u : Value} (h : KRow w B v L) (ha : ∀ k, B ≤ k → k < w.heap.size → (∃ C T, w.heap[k]? = some (.cells C T (0, 0)) ∧ (T = 86 ∨ T = 139)) → wa.heap[k]? = w.heap[k]?) (hu : FRow insK wa w.heap.size u y.list) (hB : B ≤ w.heap.size)
    (hg : wa.grownBy w2 v.ownBlock) (ho : FRow codeK w2 B v' (L ++ [(y, u)])) : KRow w2 B v' (L ++ [(y, u)]) := by
  have hA := h.of_heap ha
  have key : ∀ k, k < wa.heap.size → (∃ C, wa.heap[k]? = some (.cells C 139 (0, 0))) → w2.heap[k]? = wa.heap[k]? := fun k hk ⟨C, hC⟩ => hg.block k hk fun e => by
    obtain ⟨C', hC'⟩ := hA.1.ty e.symm
    rw [hC'] at hC
    have := congrArg (fun o : Option Obj => match o with | some (.cells _ T _) => T | _ => 0) hC
    simp [codeK] at this
  refine ⟨ho, fun p hp => ?_, ?_⟩
  · rcases List.mem_append.1 hp with hp | hp
    · exact (hA.2.1 p hp).of_heap fun k _ hk hc => key k hk hc
    · rw [List.mem_singleton] at hp
      subst hp
      exact (hu.of_heap fun k _ hk hc => key k hk hc).le hB
  · rw [List.pairwise_append]
    refine ⟨h.2.2, List.pairwise_singleton _ _, fun a ha b hb k hk => ?_⟩
    rw [List.mem_singleton] at hb
    subst hb
    intro e
    have h1 := ((h.2.1 a ha).lt hk).2
    have h2 := (hu.lt e).1
    omega
/-- The fault behind codes, behind objects. -/
def resC (P : List ObjectD) (N : List ByteArray) (mo : ByteArray) : List CodeD → Int × ByteArray → Int × ByteArray
  | [], st => st
  | c :: r, st => resC P N mo r (resF P N mo c.list st)
def resO (P : List ObjectD) (N : List ByteArray) : List ObjectD → Int × ByteArray → Int × ByteArray
  | [], st => st
  | x :: r, st => if st.1 = 0 then resO P N r (resC P N x.module x.procs st) else st
theorem resC_cons (P : List ObjectD) (N : List ByteArray) (mo : ByteArray) (c : CodeD) (r : List CodeD) (st : Int × ByteArray) : resC P N mo (c :: r) st = resC P N mo r (resF P N mo c.list st) := rfl
theorem resO_cons (P : List ObjectD) (N : List ByteArray) (x : ObjectD) (r : List ObjectD) (s : ByteArray) : resO P N (x :: r) (0, s) = resO P N r (resC P N x.module x.procs (0, s)) := by
  rw [resO, if_pos rfl]
theorem resO_stop (P : List ObjectD) (N : List ByteArray) (r : List ObjectD) (c : Int) (s : ByteArray) (h : ¬ c = 0) : resO P N r (c, s) = (c, s) := by
  cases r with
  | nil => rfl
  | cons x r => rw [resO, if_neg h]
/-- How many cells globals have. -/
def gsum : List GlobalD → Int → Int
  | [], n => n
  | g :: r, n => gsum r (n + glen g)
def gsumP : List ObjectD → Int → Int
  | [], n => n
  | x :: r, n => gsumP r (gsum x.globals n)
theorem gsum_cons (g : GlobalD) (r : List GlobalD) (n : Int) : gsum (g :: r) n = gsum r (n + glen g) := rfl
theorem gsumP_cons (x : ObjectD) (r : List ObjectD) (n : Int) : gsumP (x :: r) n = gsumP r (gsum x.globals n) := rfl
def codesO (P : List ObjectD) (N : List ByteArray) (x : ObjectD) : List CodeD := x.procs.map (codeR P N)
def codesR (P : List ObjectD) (N : List ByteArray) (Q : List ObjectD) : List CodeD := Q.flatMap (codesO P N)
/-- Where each module's body is among the codes; some are there already. -/
def starts : List ObjectD → Nat → List Int
  | [], _ => []
  | x :: r, k => (((k + x.procs.length : Nat) : Int) - 1) :: starts r (k + x.procs.length)
theorem starts_app (Q : List ObjectD) : ∀ (k : Nat) (x : ObjectD), starts (Q ++ [x]) k = starts Q k ++ [((k + (Q.flatMap fun y => y.procs).length + x.procs.length : Nat) : Int) - 1] := by
  induction Q with
  | nil => intro k x; simp [starts]
  | cons y r ih =>
    intro k x
    rw [List.cons_append, starts, ih, starts]
    simp only [List.flatMap_cons, List.length_append, List.cons_append]
    congr 3
    omega
theorem codesR_len (P : List ObjectD) (N : List ByteArray) (Q : List ObjectD) : (codesR P N Q).length = (Q.flatMap fun y => y.procs).length := by
  induction Q with
  | nil => rfl
  | cons y r ih =>
    unfold codesR at ih ⊢
    rw [List.flatMap_cons, List.flatMap_cons, List.length_append, List.length_append, ih]
    unfold codesO
    rw [List.length_map]
theorem codesR_bound {P : List ObjectD} {N : List ByteArray} {Q : List ObjectD} (h : ∀ x ∈ Q, Tiny x) : (codesR P N Q).length ≤ 60 * Q.length := by
  induction Q with
  | nil => simp [codesR]
  | cons y r ih =>
    have h1 := ih fun z hz => h z (List.mem_cons_of_mem _ hz)
    have h2 := (h y (List.mem_cons_self ..)).procs
    unfold codesR codesO at h1 ⊢
    simp only [List.flatMap_cons, List.length_append, List.length_map, List.length_cons]
    omega
theorem starts_len : ∀ (Q : List ObjectD) (k : Nat), (starts Q k).length = Q.length
  | [], _ => rfl
  | x :: r, k => by rw [starts, List.length_cons, List.length_cons, starts_len]
theorem tiny_objs {L : List ObjectD} {o : List Nat} (hT : ∀ x ∈ L, Tiny x) (hk : ∀ k ∈ o, k < L.length) : ∀ x ∈ objsOf L o, Tiny x := by
  intro x hx
  unfold objsOf at hx
  obtain ⟨k, hk1, rfl⟩ := List.mem_map.1 hx
  have hkn := hk k hk1
  rw [show L.getD k OBn = L[k] by simp [List.getD, hkn]]
  exact hT _ (List.getElem_mem hkn)
end Go.Proofs.YtfbglokjehmgeaaGreatDoor

namespace Go.Proofs.YtfbglokjehmgeaaGreatDoor

section
variable {P : Program} {ops : Array Oper} {Q : Exit → Act → World → Prop} {md : Region.Mode} {S : World → Prop} {z : Nat}

/-- Whatever order is picked from here on, and S holds behind every operation but z. -/
def wpAnyZ (P : Program) (md : Region.Mode) (ops : Array Oper) (Q : Exit → Act → World → Prop) (S : World → Prop) (z : Nat) : Nat → Array Bool → Act → World → Prop
  | 0, listed, a, w => Region.ready md ops listed = [] ∧ Q .normal a w
  | fuel + 1, listed, a, w =>
    (Region.ready md ops listed = [] → Q .normal a w) ∧
    ∀ i ∈ Region.ready md ops listed, wpOp P ops Q i (fun a' w' => (i ≠ z → S w') ∧ wpAnyZ P md ops Q S z fuel (listed.setIfInBounds i true) a' w') a w
theorem wpAny_of_z : ∀ (fuel : Nat) (listed : Array Bool) (a : Act) (w : World), wpAnyZ P md ops Q S z fuel listed a w → wpAny P md ops Q fuel listed a w
  | 0, _, _, _, h => h
  | fuel + 1, _, _, _, h => ⟨h.1, fun i hi => wpOp_mono (fun a' w' h' => wpAny_of_z fuel _ a' w' h'.2) (h.2 i hi)⟩
/-- The last one waits for i. -/
def waitsB (md : Region.Mode) (ops : Array Oper) (z i : Nat) : Bool := ((ops[z]?).map fun o => o.after.any fun e => Region.binds md e && e.on == i).getD false
theorem waits_not_ready {listed : Array Bool} {i : Nat} (h : waitsB md ops z i = true) (hi : i ∈ Region.ready md ops listed) : z ∉ Region.ready md ops listed := fun hz => by
  obtain ⟨-, oz, hoz, hall⟩ := mem_ready.1 hz
  unfold waitsB at h
  rw [hoz] at h
  simp only [Option.map_some, Option.getD_some, Array.any_eq_true', Bool.and_eq_true, beq_iff_eq] at h
  obtain ⟨e, he, hb, heq⟩ := h
  have h1 := hall e he hb
  have h0 := (mem_ready.1 hi).1
  rw [heq] at h1
  rcases Nat.lt_or_ge i listed.size with h' | h'
  · simp [h'] at h0 h1; rw [h0] at h1; cases h1
  · simp [Array.getElem?_eq_none h'] at h1
theorem wpAnyZ_first {i : Nat} {oi : Oper} {v : Value} (hi : ops[i]? = some oi) (hw : waitsB md ops z i = true) (hsel : ∀ (j : Nat) (o : Oper) cs b, ops[j]? = some o → o.op ≠ .select cs b)
    (hQ : ∀ c a w, Q (.panic c) (a.put oi.dst v) w → Q (.panic c) a w) :
    ∀ (fuel : Nat) (listed : Array Bool) (a : Act) (w : World),
      (∀ j oj, ops[j]? = some oj → j ≠ i → listed.getD j true = false → (∀ e ∈ oj.after, Region.binds md e = true → e.on ≠ i) → oi.apart ops oj = true) →
      i ∈ Region.ready md ops listed → YieldsIf P ops S oi v a → S w →
      wpAnyZ P md ops Q S z fuel (listed.setIfInBounds i true) (a.put oi.dst v) w → wpAnyZ P md ops Q S z (fuel + 1) listed a w := by
  intro fuel
  induction fuel with
  | zero =>
    intro listed a w _ hr hy hS H
    refine ⟨fun h => (by rw [h] at hr; cases hr), fun j hj => ?_⟩
    by_cases hji : j = i
    · subst hji; exact hy.wpOp hi hS ⟨fun _ => hS, H⟩
    · have := ready_mono hj hji
      rw [H.1] at this
      cases this
  | succ fuel ih =>
    intro listed a w hfree hr hy hS H
    refine ⟨fun h => (by rw [h] at hr; cases hr), fun j hj => ?_⟩
    by_cases hji : j = i
    · subst hji; exact hy.wpOp hi hS ⟨fun _ => hS, H⟩
    · have h1 := H.2 j (ready_mono hj hji)
      have hjz : j ≠ z := fun e => waits_not_ready hw hr (e ▸ hj)
      obtain ⟨hjun, oj, hoj, hall⟩ := mem_ready.1 hj
      have hnot : ∀ e ∈ oj.after, Region.binds md e = true → e.on ≠ i := fun e he hb heq => by
        have h1 := hall e he hb
        have h0 := (mem_ready.1 hr).1
        rw [heq] at h1
        rcases Nat.lt_or_ge i listed.size with h' | h'
        · simp [h'] at h0 h1; rw [h0] at h1; cases h1
        · simp [Array.getElem?_eq_none h'] at h1
      have h2 := wpOp_putIf hoj (hfree j oj hoj hji hjun hnot) (fun cs b => hsel i oi cs b hi) (fun cs b => hsel j oj cs b hoj) hQ hy h1
      have hfree' : ∀ k ok, ops[k]? = some ok → k ≠ i → (listed.setIfInBounds j true).getD k true = false →
          (∀ e ∈ ok.after, Region.binds md e = true → e.on ≠ i) → oi.apart ops ok = true := fun k ok hk hki hun hno => by
        refine hfree k ok hk hki ?_ hno
        by_cases hjk : j = k
        · subst hjk; exact hjun
        · rw [getD_set_ne true hjk] at hun; exact hun
      refine wpOp_mono (fun a' w' h3 => ⟨h3.2.1, ih (listed.setIfInBounds j true) a' w' hfree' (ready_mono hr (Ne.symm hji)) h3.1 (h3.2.1 hjz) ?_⟩) h2
      rw [Array.setIfInBounds_comm _ _ hji]
      exact h3.2.2
theorem wpAnyZ_take {i : Nat} {oi : Oper} {v : Value} {fuel : Nat} {listed : Array Bool} {a : Act} {w : World} (hi : ops[i]? = some oi) (hw : waitsB md ops z i = true)
    (hs : Region.noSelect ops = true) (hf : Region.free md ops listed i = true) (hr : (Region.ready md ops listed).contains i = true)
    (hQ : ∀ c a w, Q (.panic c) (a.put oi.dst v) w → Q (.panic c) a w) (hg : Region.wanted oi (yielded ops a.tmps) = true) (hy : ∀ w, S w → (execOp a.eval oi).run P w = .ok (.value v) w) (hS : S w)
    (h : wpAnyZ P md ops Q S z fuel (listed.setIfInBounds i true) (a.put oi.dst v) w) : wpAnyZ P md ops Q S z (fuel + 1) listed a w :=
  wpAnyZ_first hi hw (Region.noSelect_spec hs) hQ fuel listed a w (Region.free_spec hi hf) (by simpa using hr) (.inl ⟨hg, hy⟩) hS h
/-- One alone may come up, and it is not the last: behind it S is shown anew. -/
theorem wpAnyZ_one {i : Nat} {o : Oper} {fuel : Nat} {listed : Array Bool} {a : Act} {w : World} (hr : Region.ready md ops listed = [i]) (ho : ops[i]? = some o)
    (h : ∀ K' : Act → World → Prop, Shut (∀ a w, S w → (S w → wpAnyZ P md ops Q S z fuel (listed.setIfInBounds i true) a w) → K' a w) → if Region.wanted o (yielded ops a.tmps) = true then Oper.wp P o a w K' Q else K' (a.put o.dst undef) w) :
    wpAnyZ P md ops Q S z (fuel + 1) listed a w :=
  ⟨fun h0 => (by rw [hr] at h0; cases h0), fun j hj => by
    rw [hr] at hj
    obtain rfl := List.mem_singleton.1 hj
    exact wpOp_step ho (fun K' hK => h K' (fun a w hS hW => hK a w ⟨fun _ => hS, hW hS⟩))⟩
/-- The last one comes up alone: nothing is asked behind it but the end. -/
theorem wpAnyZ_last {o : Oper} {fuel : Nat} {listed : Array Bool} {a : Act} {w : World} (hr : Region.ready md ops listed = [z]) (ho : ops[z]? = some o) (hn : Region.ready md ops (listed.setIfInBounds z true) = [])
    (h : ∀ K' : Act → World → Prop, Shut (∀ a w, Q .normal a w → K' a w) → if Region.wanted o (yielded ops a.tmps) = true then Oper.wp P o a w K' Q else K' (a.put o.dst undef) w) :
    wpAnyZ P md ops Q S z (fuel + 1) listed a w :=
  ⟨fun h0 => (by rw [hr] at h0; cases h0), fun j hj => by
    rw [hr] at hj
    obtain rfl := List.mem_singleton.1 hj
    refine wpOp_step ho (fun K' hK => h K' (fun a w hq => hK a w ⟨fun e => absurd rfl e, ?_⟩))
    cases fuel with
    | zero => exact ⟨hn, hq⟩
    | succ n => exact ⟨fun _ => hq, by rw [hn]; simp⟩⟩
theorem wp_region_z {id : Nat} {a : Act} {w : World} (z : Nat) (hm : P.follows .mixedOrders = true) (hS : S w.drew)
    (h : S w.drew → wpAnyZ P .any ops Q S z ops.size (Array.replicate ops.size false) a w.drew) : (Code.region id ops true).wp P Q a w :=
  wp_region_any hm (wpAny_of_z _ _ _ _ (h hS))
end
end Go.Proofs.YtfbglokjehmgeaaGreatDoor
