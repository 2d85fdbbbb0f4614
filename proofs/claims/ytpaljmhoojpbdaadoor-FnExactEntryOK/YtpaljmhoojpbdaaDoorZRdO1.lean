/- The program reads a pair of bytes, an instruction; what it reads, over plain data. No condition. -/
import Derived.Test.YtpaljmhoojpbdaaDoorZRdG
import Derived.Test.YtpaljmhoojpbdaaDoorZFlat
import Derived.Test.YtpaljmhoojpbdaaDoorZByD
namespace Go.Proofs.YtpaljmhoojpbdaaDoor
open Go.ChangeShapes Go.WideShapes Go.ChangeAt Go.RowKit Go.Deep

def insK : FlatK InsD := ⟨94, 28, 5, 56, .agg #[.int .i64 0, .int .i64 0, .int .i64 0, .string ⟨#[]⟩, .string ⟨#[]⟩], fun x => [.int .i64 x.op, .int .i64 x.a, .int .i64 x.b, .string x.mod, .string x.name]⟩
def needK : FlatK NeedD := ⟨69, 41, 2, 24, .agg #[.string ⟨#[]⟩, .int .i64 0], fun x => [.string x.module, .int .i64 x.print]⟩
def globK : FlatK GlobalD := ⟨72, 42, 2, 24, .agg #[.string ⟨#[]⟩, .int .i64 0], fun x => [.string x.name, .int .i64 x.length]⟩
theorem insOk : insK.Ok := ⟨by kernel_rfl, Tryd.underlying28, by decide, rfl, fun _ => rfl, by decide⟩
theorem needOk : needK.Ok := ⟨by kernel_rfl, Tryd.underlying41, by decide, rfl, fun _ => rfl, by decide⟩
theorem globOk : globK.Ok := ⟨by kernel_rfl, Tryd.underlying42, by decide, rfl, fun _ => rfl, by decide⟩
theorem ins_one (x : InsD) : ∀ u ∈ insK.cs x, u.oneCell' = true := by
  intro u hu
  simp only [insK, List.mem_cons, List.not_mem_nil, or_false] at hu
  rcases hu with rfl | rfl | rfl | rfl | rfl <;> rfl
theorem need_one (x : NeedD) : ∀ u ∈ needK.cs x, u.oneCell' = true := by
  intro u hu
  simp only [needK, List.mem_cons, List.not_mem_nil, or_false] at hu
  rcases hu with rfl | rfl <;> rfl
theorem glob_one (x : GlobalD) : ∀ u ∈ globK.cs x, u.oneCell' = true := by
  intro u hu
  simp only [globK, List.mem_cons, List.not_mem_nil, or_false] at hu
  rcases hu with rfl | rfl <;> rfl
-- what is read
def tN (r : List Int) : Nat := (hd r).toNat
def tT (r : List Int) : ByteArray := bs ((r.drop 1).take (tN r))
def tR (r : List Int) : List Int := r.drop (1 + tN r)
def rdP (r : List Int) : Int := hd r * 256 + hd (r.drop 1)
def rdIns (r : List Int) : InsD := if namedB (hd r) = true then ⟨hd r, accN 0 (r.drop 1) 8, hd (r.drop 9), tT (r.drop 10), tT (tR (r.drop 10))⟩ else ⟨hd r, accN 0 (r.drop 1) 8, 0, ⟨#[]⟩, ⟨#[]⟩⟩
def inR (r : List Int) : List Int := if namedB (hd r) = true then tR (tR (r.drop 10)) else r.drop 9
theorem tN_le {r : List Int} (h : ∀ y ∈ r, 0 ≤ y ∧ y ≤ 255) : tN r ≤ 255 := by have := hd_in h; unfold tN; omega
theorem tN_int {r : List Int} (h : ∀ y ∈ r, 0 ≤ y ∧ y ≤ 255) : hd r = (tN r : Int) := by have := hd_in h; unfold tN; omega
theorem tR_len (r : List Int) : (tR r).length ≤ r.length := by unfold tR; rw [List.length_drop]; omega
theorem tT_size {r : List Int} (h : ∀ y ∈ r, 0 ≤ y ∧ y ≤ 255) : (tT r).size ≤ 255 := by
  unfold tT
  rw [bs_size, List.length_take]
  have := tN_le h
  omega
theorem tR_in {r : List Int} (h : ∀ y ∈ r, 0 ≤ y ∧ y ≤ 255) : ∀ y ∈ tR r, 0 ≤ y ∧ y ≤ 255 := drop_in h _
theorem inR_in {r : List Int} (h : ∀ y ∈ r, 0 ≤ y ∧ y ≤ 255) : ∀ y ∈ inR r, 0 ≤ y ∧ y ≤ 255 := by
  unfold inR
  split
  · exact tR_in (tR_in (drop_in h _))
  · exact drop_in h _
theorem inR_len (r : List Int) : (inR r).length ≤ r.length := by
  unfold inR
  split
  · have h1 := tR_len (tR (r.drop 10))
    have h2 := tR_len (r.drop 10)
    rw [List.length_drop] at h2
    omega
  · rw [List.length_drop]; omega
set_option maxHeartbeats 2000000 in
/-- A text with its length ahead: the two calls' state. -/
theorem readText_tR (R : Nat) (m : Md) (r : List Int) (w1 : World) (hl : r.length ≤ 1099511627776) (hin : ∀ y ∈ r, 0 ≤ y ∧ y ≤ 255) (h1 : RS w1 R m (r.drop 1)) :
    Calls Tryd.prog 114 #[.pointer (some ⟨R, 0, none⟩), .int .i64 (hd r)] w1 fun e w' => e = .returned (.string (tT r)) ∧ RS w' R m (tR r) ∧ Only R w1 w' := by
  rw [tN_int hin]
  refine (readText_any R m (r.drop 1) (tN r) w1 (by rw [List.length_drop]; omega) (tN_le hin) h1).mono ?_
  rintro e w' ⟨e1, e2, e3⟩
  rw [List.drop_drop] at e2
  exact ⟨e1, e2, e3⟩
set_option maxHeartbeats 2000000 in
theorem readPair_any (R : Nat) (m : Md) (r : List Int) (w : World) (hl : r.length ≤ 1099511627776) (h : RS w R m r) :
    Calls Tryd.prog 121 #[.pointer (some ⟨R, 0, none⟩)] w fun e w' => e = .returned (.int .i64 (rdP r)) ∧ RS w' R m (r.drop 2) ∧ Only R w w' := by
  have HR := hide h
  have hin := h.in
  have q0 := hd_in hin
  have q1 := hd_in (drop_in hin 1)
  have HE : Hid (bits .or .i64 (hd r * 256) (hd (r.drop 1)) = rdP r) := hide (by
    rw [or_i64 (by omega) (by omega) (by omega) q1.1 q1.2]
    rfl)
  obtain ⟨y0, hy0⟩ : ∃ y, hd r = y := ⟨_, rfl⟩
  obtain ⟨y1, hy1⟩ : ∃ y, hd (r.drop 1) = y := ⟨_, rfl⟩
  have H0 := hide hy0
  have H1 := hide hy1
  rw [hy0, hy1] at HE
  rw [hy0] at q0
  rw [hy1] at q1
  clear h hin hy0 hy1
  go_enter Tryd.func121, Tryd.ntmps121
  go_wp2_with fail
  refine (readByte_any R m r _ hl HR.out).mono ?_
  rintro e w1 ⟨rfl, h1, o1⟩
  rw [H0.out]
  have HR1 := hide h1
  clear h1
  go_wp2_with fail
  refine (readByte_any R m (r.drop 1) _ (by rw [List.length_drop]; omega) HR1.out).mono ?_
  rintro e w2 ⟨rfl, h2, o2⟩
  rw [H1.out]
  rw [List.drop_drop] at h2
  go_wp2
  go_ret
  exact ⟨ret_i64r HE.out, h2, o1.trans o2⟩
theorem ins_cells {w : World} {b : Nat} {x0 x1 x2 : Int} {x3 x4 : ByteArray} (h : w.heap[b]? = some (.cells #[.int .i64 x0, .int .i64 x1, .int .i64 x2, .string x3, .string x4] 94 (0, 0))) :
    (w.cell? ⟨b, 0, none⟩ = some (.int .i64 x0) ∧ w.cell? ⟨b, 1, none⟩ = some (.int .i64 x1) ∧ w.cell? ⟨b, 2, none⟩ = some (.int .i64 x2) ∧ w.cell? ⟨b, 3, none⟩ = some (.string x3) ∧ w.cell? ⟨b, 4, none⟩ = some (.string x4)) ∧ ∀ j, w.frozen? ⟨b, j, none⟩ = false :=
  ⟨⟨(heapCells h).1 0, (heapCells h).1 1, (heapCells h).1 2, (heapCells h).1 3, (heapCells h).1 4⟩, (heapCells h).2⟩
set_option maxRecDepth 100000 in
set_option maxHeartbeats 8000000 in
theorem readIns_any (R : Nat) (m : Md) (r : List Int) (w : World) (hl : r.length ≤ 1099511627776) (h : RS w R m r) :
    Calls Tryd.prog 122 #[.pointer (some ⟨R, 0, none⟩)] w fun e w' => e = .returned (.agg #[.int .i64 (rdIns r).op, .int .i64 (rdIns r).a, .int .i64 (rdIns r).b, .string (rdIns r).mod, .string (rdIns r).name]) ∧ RS w' R m (inR r) ∧ Fr R w w' := by
  have HR := hide h
  have HIN := hide h.in
  have hRw : R < w.heap.size := by obtain ⟨_, _, h1, _⟩ := h; exact block_lt h1
  have HL := hide hl
  clear h
  obtain ⟨w0, hw0⟩ : ∃ w0, w0 = w.alloc (.cells #[.int .i64 0, .int .i64 0, .int .i64 0, .string ⟨#[]⟩, .string ⟨#[]⟩] 94) := ⟨_, rfl⟩
  have hb0 : Below w.heap.size w w0 := by rw [hw0]; exact (Below.refl _ _).alloc (Nat.le_refl _) _
  have hs0 : w0.heap.size = w.heap.size + 1 := by rw [hw0]; simp
  have HY0 := hide (show w0.heap[w.heap.size]? = some (.cells #[.int .i64 0, .int .i64 0, .int .i64 0, .string ⟨#[]⟩, .string ⟨#[]⟩] 94 (0, 0)) by rw [hw0]; exact Deep.blk_alloc_new w _)
  have F00 := hide (show FrB R w.heap.size w w0 from .of_below hb0)
  have HR0 := hide (HR.out.on hb0)
  obtain ⟨op, hop⟩ : ∃ op, hd r = op := ⟨_, rfl⟩
  obtain ⟨av, hav⟩ : ∃ av, accN 0 (r.drop 1) 8 = av := ⟨_, rfl⟩
  have HOP := hide hop
  have HAV := hide hav
  go_enter Tryd.func122, Tryd.ntmps122
  go_wp2_with fail
  rw [← hw0]
  clear hw0 hb0 hop hav
  refine (readByte_any R m r w0 HL.out HR0.out).mono ?_
  rintro e w1 ⟨rfl, h1, o1⟩
  rw [HOP.out]
  have HR1 := hide h1
  clear h1
  go_wp2_with fail
  refine (readNumber_any R m (r.drop 1) _ (by rw [List.length_drop]; omega) HR1.out).mono ?_
  rintro e w2 ⟨rfl, h2, o2⟩
  rw [HAV.out]
  rw [List.drop_drop] at h2
  have hs2 : w2.heap.size = w.heap.size + 1 := o2.size.trans (o1.size.trans hs0)
  have HY2 := hide ((o2.block _ (by omega)).trans ((o1.block _ (by omega)).trans HY0.out))
  have F2 := hide (((FrB.of_only o1).trans (.of_only o2) : FrB R (w.heap.size + 1) w0 w2))
  have HR2 := hide h2
  clear h2 o1 o2 HR1
  go_wp2_with fail
  refine (hasName_gw ⟨op, av, 0, ⟨#[]⟩, ⟨#[]⟩⟩ _).mono ?_
  rintro e w4 ⟨rfl, b4⟩
  simp only []
  have bX : Below w2.heap.size w2 (w2.alloc (.cells #[.int .i64 op, .int .i64 av, .int .i64 0, .string ⟨#[]⟩, .string ⟨#[]⟩] 94)) := (Below.refl _ _).alloc (Nat.le_refl _) _
  have hx3 : (w2.alloc (.cells #[.int .i64 op, .int .i64 av, .int .i64 0, .string ⟨#[]⟩, .string ⟨#[]⟩] 94)).heap[w.heap.size + 1]? = some (.cells #[.int .i64 op, .int .i64 av, .int .i64 0, .string ⟨#[]⟩, .string ⟨#[]⟩] 94 (0, 0)) := by
    have := Deep.blk_alloc_new w2 (.cells #[.int .i64 op, .int .i64 av, .int .i64 0, .string ⟨#[]⟩, .string ⟨#[]⟩] 94)
    rwa [hs2] at this
  have bX4 : Below (w.heap.size + 1) w2 w4 := (bX.mono (by omega)).trans (b4.mono (by simp; omega))
  have HX4 := hide ((b4.block _ (by simp; omega)).trans hx3)
  have hs4 : w.heap.size + 2 ≤ w4.heap.size := by have := b4.size; simp at this; omega
  have HR4 := hide (HR2.out.below bX4 (by omega))
  have HY4 := hide ((bX4.block w.heap.size (by omega)).trans HY2.out)
  have F4 := hide (F2.out.trans (.of_below bX4))
  clear bX hx3 bX4 b4 HY2 HR2 F2
  cases hn : namedB op with
  | false =>
    have hI : Hid (rdIns r = ⟨op, av, 0, ⟨#[]⟩, ⟨#[]⟩⟩) := hide (by unfold rdIns; rw [HOP.out, hn, HAV.out]; rfl)
    have hJ : Hid (inR r = r.drop 9) := hide (by unfold inR; rw [HOP.out, hn]; rfl)
    obtain ⟨⟨p0, p1, p2, p3, p4⟩, -⟩ := ins_cells HX4.out
    obtain ⟨⟨q0, q1, q2, q3, q4⟩, s⟩ := ins_cells HY4.out
    have s0 := s 0
    have s1 := s 1
    have s2 := s 2
    have s3 := s 3
    have s4 := s 4
    clear s hn
    go_wp2
    refine bodyPost_ret (v := .agg #[.int .i64 op, .int .i64 av, .int .i64 0, .string ⟨#[]⟩, .string ⟨#[]⟩]) (by simp [results, Tryd.results122, go_sem, q0, q1, q2, q3, q4]) rfl ?_
    have oz := Only.trans (Only.trans (Only.trans (Only.trans (Only.set w.heap.size 0 w4 (.int .i64 op)) (Only.set w.heap.size 1 _ (.int .i64 av))) (Only.set w.heap.size 2 _ (.int .i64 0))) (Only.set w.heap.size 3 _ (.string ⟨#[]⟩))) (Only.set w.heap.size 4 _ (.string ⟨#[]⟩))
    have bz := oz.below (Nat.le_refl _)
    refine ⟨by rw [hI.out], by rw [hJ.out]; exact HR4.out.below bz hRw, ?_⟩
    have F := F00.out.trans (FrB.trans ⟨F4.out.os, F4.out.tape, F4.out.output, F4.out.size, fun j hj hr => F4.out.block j (by omega) hr⟩ (FrB.of_below bz))
    exact ⟨F.os, F.tape, F.output, F.size, F.block⟩
  | true =>
    obtain ⟨bv, hbv⟩ : ∃ bv, hd (r.drop 9) = bv := ⟨_, rfl⟩
    obtain ⟨t1, ht1⟩ : ∃ t, tT (r.drop 10) = t := ⟨_, rfl⟩
    obtain ⟨t2, ht2⟩ : ∃ t, tT (tR (r.drop 10)) = t := ⟨_, rfl⟩
    have hI : Hid (rdIns r = ⟨op, av, bv, t1, t2⟩) := hide (by unfold rdIns; rw [HOP.out, hn, HAV.out, hbv, ht1, ht2]; rfl)
    have hJ : Hid (inR r = tR (tR (r.drop 10))) := hide (by unfold inR; rw [HOP.out, hn]; rfl)
    have HBV := hide hbv
    have HT1 := hide ht1
    have HT2 := hide ht2
    have HL10 : Hid ((r.drop 10).length ≤ 1099511627776) := hide (by rw [List.length_drop]; omega)
    have HL11 : Hid ((tR (r.drop 10)).length ≤ 1099511627776) := hide (by have := tR_len (r.drop 10); have := HL10.out; omega)
    clear hn hbv ht1 ht2 HY4
    go_wp2_with fail
    refine (readByte_any R m (r.drop 9) _ (by rw [List.length_drop]; omega) HR4.out).mono ?_
    rintro e w5 ⟨rfl, h5, o5⟩
    rw [HBV.out]
    rw [List.drop_drop] at h5
    have hx5 := (o5.block (w.heap.size + 1) (by omega)).trans HX4.out
    have c2 : w5.cell? ⟨w.heap.size + 1, 2, none⟩ = some (.int .i64 0) := (heapCells hx5).1 2
    have z2 := (heapCells hx5).2 2
    have HX6 := hide (show (w5.setCell ⟨w.heap.size + 1, 2, none⟩ (.int .i64 bv)).heap[w.heap.size + 1]? = some (.cells #[.int .i64 op, .int .i64 av, .int .i64 bv, .string ⟨#[]⟩, .string ⟨#[]⟩] 94 (0, 0)) from block_set hx5 _)
    have b6 : Below (w.heap.size + 1) w5 (w5.setCell ⟨w.heap.size + 1, 2, none⟩ (.int .i64 bv)) := (Below.refl (w.heap.size + 1) w5).setCell (p := ⟨w.heap.size + 1, 2, none⟩) (Nat.le_refl _) _
    have HR6 := hide (h5.below b6 (by omega))
    have F6 := hide ((F4.out.trans (.of_only o5)).trans (.of_below b6))
    have hs6 : w.heap.size + 2 ≤ (w5.setCell ⟨w.heap.size + 1, 2, none⟩ (.int .i64 bv)).heap.size := by have := b6.size; have := o5.size; omega
    clear h5 hx5 b6 o5 F4 HR4 HX4
    go_wp2_with fail
    clear c2 z2
    refine (readByte_any R m (r.drop 10) _ HL10.out HR6.out).mono ?_
    rintro e w7 ⟨rfl, h7, o7⟩
    have HR7 := hide h7
    clear h7
    go_wp2_with fail
    refine (readText_tR R m (r.drop 10) _ HL10.out (drop_in HIN.out _) HR7.out).mono ?_
    rintro e w8 ⟨rfl, h8, o8⟩
    rw [HT1.out]
    have hx8 := (o8.block (w.heap.size + 1) (by omega)).trans ((o7.block (w.heap.size + 1) (by omega)).trans HX6.out)
    have c3 : w8.cell? ⟨w.heap.size + 1, 3, none⟩ = some (.string ⟨#[]⟩) := (heapCells hx8).1 3
    have z3 := (heapCells hx8).2 3
    have HX9 := hide (show (w8.setCell ⟨w.heap.size + 1, 3, none⟩ (.string t1)).heap[w.heap.size + 1]? = some (.cells #[.int .i64 op, .int .i64 av, .int .i64 bv, .string t1, .string ⟨#[]⟩] 94 (0, 0)) from block_set hx8 _)
    have b9 : Below (w.heap.size + 1) w8 (w8.setCell ⟨w.heap.size + 1, 3, none⟩ (.string t1)) := (Below.refl (w.heap.size + 1) w8).setCell (p := ⟨w.heap.size + 1, 3, none⟩) (Nat.le_refl _) _
    have HR9 := hide (h8.below b9 (by omega))
    have F9 := hide (((F6.out.trans (.of_only o7)).trans (.of_only o8)).trans (.of_below b9))
    have hs9 : w.heap.size + 2 ≤ (w8.setCell ⟨w.heap.size + 1, 3, none⟩ (.string t1)).heap.size := by have := b9.size; have := o7.size; have := o8.size; omega
    clear h8 hx8 b9 o7 o8 F6 HR6 HR7 HX6 hs6
    go_wp2_with fail
    clear c3 z3
    refine (readByte_any R m (tR (r.drop 10)) _ HL11.out HR9.out).mono ?_
    rintro e w10 ⟨rfl, h10, o10⟩
    have HR10 := hide h10
    clear h10
    go_wp2_with fail
    refine (readText_tR R m (tR (r.drop 10)) _ HL11.out (tR_in (drop_in HIN.out _)) HR10.out).mono ?_
    rintro e w11 ⟨rfl, h11, o11⟩
    rw [HT2.out]
    have hx11 := (o11.block (w.heap.size + 1) (by omega)).trans ((o10.block (w.heap.size + 1) (by omega)).trans HX9.out)
    have b12 : Below (w.heap.size + 1) w11 (w11.setCell ⟨w.heap.size + 1, 4, none⟩ (.string t2)) := (Below.refl (w.heap.size + 1) w11).setCell (p := ⟨w.heap.size + 1, 4, none⟩) (Nat.le_refl _) _
    have HR12 := hide (h11.below b12 (by omega))
    have F12 := hide (((F9.out.trans (.of_only o10)).trans (.of_only o11)).trans (.of_below b12))
    obtain ⟨⟨p0, p1, p2, p3, p4⟩, zz⟩ := ins_cells hx11
    have z4 := zz 4
    have F11 := (F9.out.trans (.of_only o10)).trans (.of_only o11)
    obtain ⟨⟨q0, q1, q2, q3, q4⟩, s⟩ := ins_cells ((F11.block w.heap.size (by omega) (by omega)).trans HY0.out)
    have s0 := s 0
    have s1 := s 1
    have s2 := s 2
    have s3 := s 3
    have s4 := s 4
    clear s zz F11 hx11 b12 h11 o10 o11 HR9 HR10 F9 HX9 hs9
    go_wp2
    refine bodyPost_ret (v := .agg #[.int .i64 op, .int .i64 av, .int .i64 bv, .string t1, .string t2]) (by simp [results, Tryd.results122, go_sem, q0, q1, q2, q3, q4]) rfl ?_
    have oz := Only.trans (Only.trans (Only.trans (Only.trans (Only.set w.heap.size 0 (w11.setCell ⟨w.heap.size + 1, 4, none⟩ (.string t2)) (.int .i64 op)) (Only.set w.heap.size 1 _ (.int .i64 av))) (Only.set w.heap.size 2 _ (.int .i64 bv))) (Only.set w.heap.size 3 _ (.string t1))) (Only.set w.heap.size 4 _ (.string t2))
    have bz := oz.below (Nat.le_refl _)
    refine ⟨by rw [hI.out], by rw [hJ.out]; exact HR12.out.below bz hRw, ?_⟩
    have F := F00.out.trans (FrB.trans ⟨F12.out.os, F12.out.tape, F12.out.output, F12.out.size, fun j hj hr => F12.out.block j (by omega) hr⟩ (FrB.of_below bz))
    exact ⟨F.os, F.tape, F.output, F.size, F.block⟩
end Go.Proofs.YtpaljmhoojpbdaaDoor
