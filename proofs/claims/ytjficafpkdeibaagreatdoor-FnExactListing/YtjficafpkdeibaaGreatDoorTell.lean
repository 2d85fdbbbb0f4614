/- What the program lists behind an operation's word, each of its five ways. Listed: the table of signs and the library's powers of ten. No other condition. -/
import Derived.Test.YtjficafpkdeibaaGreatDoorListP
import Derived.Test.YtjficafpkdeibaaGreatDoorIFit
import Derived.Test.YtjficafpkdeibaaGreatDoorShelf
import Derived.Shelf.SlSortCmp.QuietGrown
namespace Go.Proofs.YtjficafpkdeibaaGreatDoor
open Go.ChangeShapes Go.WideShapes Go.ChangeAt Go.RowKit Go.PlainAid Go.Deep

theorem gPow : Tryz.prog.globalNamed "internal/strconv.uint64pow10" = some 3 := by kernel_rfl
/-- The table of powers of ten stands. -/
def PowT (w : World) : Prop := Lib.TabIs Tryz.prog w "internal/strconv.uint64pow10" .u64 Lib.pow10Tab
theorem PowT.on {w w' : World} (h : PowT w) (bel : Below w.heap.size w w') : PowT w' := by
  unfold PowT Lib.TabIs at h ⊢
  have e : w'.heap[3]? = w.heap[3]? := by
    rcases Nat.lt_or_ge 3 w.heap.size with h' | h'
    · exact bel.block _ h'
    · simp [World.var?, gPow, Array.getElem?_eq_none h'] at h
  rw [← h]
  simp [World.var?, gPow, e]
/-- The table of signs stands. -/
def signRow : Array Value := (opSigns.map fun z => Value.string ⟨z.toArray⟩).toArray
def SignT (w : World) : Prop := ∃ t fr, w.heap[1]? = some (.cells signRow t fr)
theorem SignT.on {w w' : World} (h : SignT w) (bel : Below w.heap.size w w') : SignT w' := by
  obtain ⟨t, fr, hg⟩ := h
  exact ⟨t, fr, (bel.block _ (Array.getElem?_eq_some_iff.1 hg).1).trans hg⟩
theorem SignT.cell {w : World} (h : SignT w) (k : Nat) (hk : k < 11) : w.cell? ⟨1, k, none⟩ = some (.string ⟨(signU k).toArray⟩) := by
  obtain ⟨t, fr, hg⟩ := h
  simp only [World.cell?, hg]
  have hl : k < opSigns.length := hk
  unfold signRow signU
  rw [List.getElem?_toArray, List.getElem?_map, List.getD_eq_getElem?_getD, List.getElem?_eq_getElem hl]
  rfl
def insV (x : InsD) : Value := .agg #[.int .i64 x.op, .int .i64 x.a, .int .i64 x.b, .string x.mod, .string x.name]
theorem itoa_gw (n : Int) (hn : I64 n) (w : World) (hT : PowT w) : Calls Tryz.prog 34 #[.int .i64 n] w fun e w' => e = .returned (.string ⟨(Lib.itoa n).toArray⟩) ∧ Gw w w' :=
  (Tryz.strconv_Itoa n hn.1 hn.2 w hT).mono fun _ _ ⟨a, k, os, b⟩ => ⟨a, k, os, b⟩
set_option maxRecDepth 100000 in
theorem tellNothing_gw (x : InsD) (w : World) : Calls Tryz.prog 84 #[insV x] w fun e w' => e = .returned (.string ⟨#[]⟩) ∧ Gw w w' := by
  unfold insV
  go_enter Tryz.func84, Tryz.ntmps84
  go_wp2
  go_ret
  exact ⟨rfl, Gw.one _ _⟩
set_option maxRecDepth 100000 in
theorem tellNumber_gw (x : InsD) (h : I64 x.a) (w : World) (hT : PowT w) : Calls Tryz.prog 79 #[insV x] w fun e w' => e = .returned (.string ⟨(numU x.a).toArray⟩) ∧ Gw w w' := by
  unfold insV
  have HT := hide hT
  have hl := itoa_len x.a h.1 h.2
  have hs : ¬ 9223372036854775807 < 1 + (Lib.itoa x.a).length := by omega
  have HI : Hid (∀ o, Calls Tryz.prog 34 #[.int .i64 x.a] (w.alloc o) fun e w' => e = .returned (.string ⟨(Lib.itoa x.a).toArray⟩) ∧ Gw (w.alloc o) w') := hide fun o => itoa_gw x.a h _ (HT.out.on ((Below.refl _ _).alloc (Nat.le_refl _) _))
  have HE : Hid ((⟨#[32]⟩ : ByteArray) ++ ⟨(Lib.itoa x.a).toArray⟩ = ⟨(numU x.a).toArray⟩) := hide (ba_app [32] _)
  generalize Lib.itoa x.a = D at *
  clear hT hl h
  go_enter Tryz.func79, Tryz.ntmps79
  go_wp2_with (go_at_call 34; refine (HI.out _).mono ?_; rintro e w1 ⟨rfl, g1⟩)
  go_ret
  exact ⟨ret_string HE.out, (Gw.one _ _).trans g1⟩
set_option maxRecDepth 100000 in
theorem tellName_gw (x : InsD) (h1 : x.mod.size ≤ 40) (h2 : x.name.size ≤ 40) (w : World) : Calls Tryz.prog 82 #[insV x] w fun e w' => e = .returned (.string ⟨(nameU x).toArray⟩) ∧ Gw w w' := by
  unfold insV
  have HE : Hid ((((⟨#[32]⟩ : ByteArray) ++ x.mod) ++ ⟨#[46]⟩) ++ x.name = ⟨(nameU x).toArray⟩) := hide (by
    unfold nameU
    have e1 := mk_ub x.mod
    have e2 := mk_ub x.name
    rw [← ba_app, ← ba_app, ← ba_app, e1, e2])
  obtain ⟨op, a, b, md, nm⟩ := x
  simp only [] at h1 h2 HE
  go_enter Tryz.func82, Tryz.ntmps82
  go_wp2
  go_ret
  exact ⟨ret_string HE.out, Gw.one _ _⟩
set_option maxRecDepth 100000 in
theorem tellSign_gw (x : InsD) (h0 : 0 ≤ x.a) (h1 : x.a < 11) (w : World) (hS : SignT w) : Calls Tryz.prog 86 #[insV x] w fun e w' => e = .returned (.string ⟨(32 :: signU x.a.toNat).toArray⟩) ∧ Gw w w' := by
  unfold insV
  obtain ⟨op, a, b, md, nm⟩ := x
  simp only [] at h0 h1
  obtain ⟨k, rfl⟩ : ∃ k : Nat, a = k := ⟨a.toNat, by omega⟩
  have hk : k < 11 := by omega
  have hc := hS.cell k hk
  have hlt : 1 < w.heap.size := by
    obtain ⟨t, fr, hg⟩ := hS
    exact (Array.getElem?_eq_some_iff.1 hg).1
  have hsg := sign_len ⟨k, hk⟩
  simp only [] at hsg
  have hs : ¬ 9223372036854775807 < 1 + (signU k).length := by omega
  have HE : Hid ((⟨#[32]⟩ : ByteArray) ++ ⟨(signU k).toArray⟩ = ⟨(32 :: signU k).toArray⟩) := hide (ba_app [32] _)
  have e1 : ((k : Int)).toNat = k := by omega
  show Calls _ _ _ _ fun e w' => e = .returned (.string ⟨(32 :: signU ((k : Int)).toNat).toArray⟩) ∧ Gw w w'
  rw [e1]
  generalize signU k = D at *
  clear hS hsg e1
  have i1 : (k : Int) < 11 := by omega
  go_enter Tryz.func86, Tryz.ntmps86
  go_wp2
  go_ret
  exact ⟨ret_string HE.out, Gw.one _ _⟩
set_option maxRecDepth 100000 in
set_option maxHeartbeats 4000000 in
theorem tellCall_gw (x : InsD) (ha : I64 x.a) (hb : I64 x.b) (h1 : x.mod.size ≤ 40) (h2 : x.name.size ≤ 40) (w : World) (hT : PowT w) : Calls Tryz.prog 89 #[insV x] w fun e w' => e = .returned (.string ⟨((nameU x ++ numU x.a) ++ numU x.b).toArray⟩) ∧ Gw w w' := by
  have hmix : Tryz.prog.follows .mixedOrders = true := by kernel_rfl
  obtain ⟨W, hW⟩ : ∃ W, W = w.alloc (.cells #[.int .i64 x.op, .int .i64 x.a, .int .i64 x.b, .string x.mod, .string x.name] 75) := ⟨_, rfl⟩
  have gW : Gw w W := by rw [hW]; exact Gw.one _ _
  have HT := hide (hT.on gW.below)
  have key : ∀ n os, Below W.heap.size W (Sort.grow (W.drewN n) os) := fun n os => Gw.below ⟨n, os, rfl⟩
  have HN : Hid (∀ n os, Calls Tryz.prog 82 #[insV x] (Sort.grow (W.drewN n) os) fun e w' => e = .returned (.string ⟨(nameU x).toArray⟩) ∧ ∃ p : GrownBy, w' = Sort.grow (W.drewN p.n) p.os) := hide fun n os => Calls.grown_of ((tellName_gw x h1 h2 _).mono fun _ _ ⟨a, n, os, hq⟩ => ⟨a, n, os, hq⟩)
  have HM : Hid (∀ n os, Calls Tryz.prog 79 #[insV x] (Sort.grow (W.drewN n) os) fun e w' => e = .returned (.string ⟨(numU x.a).toArray⟩) ∧ ∃ p : GrownBy, w' = Sort.grow (W.drewN p.n) p.os) := hide fun n os => Calls.grown_of ((tellNumber_gw x ha _ (HT.out.on (key n os))).mono fun _ _ ⟨a, n, os, hq⟩ => ⟨a, n, os, hq⟩)
  have HI : Hid (∀ n os, Calls Tryz.prog 34 #[.int .i64 x.b] (Sort.grow (W.drewN n) os) fun e w' => e = .returned (.string ⟨(Lib.itoa x.b).toArray⟩) ∧ ∃ p : GrownBy, w' = Sort.grow (W.drewN p.n) p.os) := hide fun n os => Calls.grown_of ((itoa_gw x.b hb _ (HT.out.on (key n os))).mono fun _ _ ⟨a, n, os, hq⟩ => ⟨a, n, os, hq⟩)
  have HE : Hid ((((⟨(nameU x).toArray⟩ : ByteArray) ++ ⟨(numU x.a).toArray⟩) ++ ⟨#[32]⟩) ++ ⟨(Lib.itoa x.b).toArray⟩ = ⟨((nameU x ++ numU x.a) ++ numU x.b).toArray⟩) := hide (by
    rw [show (⟨#[32]⟩ : ByteArray) = ⟨([32] : List UInt8).toArray⟩ from rfl, ba_app, ba_app, ba_app]
    unfold numU
    simp)
  have l1 : (nameU x).length ≤ 82 := by
    unfold nameU
    rw [List.length_append, List.length_append, List.length_append, ub_len, ub_len]
    simp
    omega
  have l2 := num_len x.a ha
  have l3 := itoa_len x.b hb.1 hb.2
  unfold insV at HN HM ⊢
  have x0 : W.heap[w.heap.size]? = some (.cells #[.int .i64 x.op, .int .i64 x.a, .int .i64 x.b, .string x.mod, .string x.name] 75 (0, 0)) := by rw [hW]; exact Deep.blk_alloc_new w _
  have hz : w.heap.size < W.heap.size := (Array.getElem?_eq_some_iff.1 x0).1
  obtain ⟨A, hA⟩ : ∃ A, nameU x = A := ⟨_, rfl⟩
  obtain ⟨B, hB⟩ : ∃ B, numU x.a = B := ⟨_, rfl⟩
  obtain ⟨C, hC⟩ : ∃ C, Lib.itoa x.b = C := ⟨_, rfl⟩
  rw [hA] at HN HE l1
  rw [hB] at HM HE l2
  rw [hC] at HI HE l3
  rw [hA, hB]
  obtain ⟨op, a, b, md, nm⟩ := x
  simp only [] at HN HM HI x0 hW ⊢
  have s1 : ¬ 9223372036854775807 < A.length + B.length := by omega
  have s2 : ¬ 9223372036854775807 < A.length + B.length + 1 := by omega
  have s3 : ¬ 9223372036854775807 < A.length + B.length + 1 + C.length := by omega
  have C0 := (heapCells x0).1 0
  have C1 := (heapCells x0).1 1
  have C2 := (heapCells x0).1 2
  have C3 := (heapCells x0).1 3
  have C4 := (heapCells x0).1 4
  simp only [List.getElem?_toArray, List.getElem?_cons_zero, List.getElem?_cons_succ] at C0 C1 C2 C3 C4
  have c0 := fun n os => cell_grown (w := W) (a := ⟨w.heap.size, 0, none⟩) hz C0 n os
  have c1 := fun n os => cell_grown (w := W) (a := ⟨w.heap.size, 1, none⟩) hz C1 n os
  have c2 := fun n os => cell_grown (w := W) (a := ⟨w.heap.size, 2, none⟩) hz C2 n os
  have c3 := fun n os => cell_grown (w := W) (a := ⟨w.heap.size, 3, none⟩) hz C3 n os
  have c4 := fun n os => cell_grown (w := W) (a := ⟨w.heap.size, 4, none⟩) hz C4 n os
  have HG := hide gW
  clear C0 C1 C2 C3 C4 x0 hA hB hC l1 l2 l3 ha hb h1 h2 hT gW key
  go_enter Tryz.func89, Tryz.ntmps89
  go_upto_region 1 with fail
  rw [← hW]
  clear hW
  refine wp_region_quiet_grown (by assumption) (by kernel_rfl) ?_
  repeat (first | go_big_quiet_skip | quiet_step (first | (go_at_call 82; exact HN.out _ _) | (go_at_call 79; exact HM.out _ _) | (go_at_call 34; exact HI.out _ _)))
  refine wpQuiet_nil ?_
  intro _ hw'
  obtain ⟨⟨nq, osq⟩, hw''⟩ := hw'
  subst hw''
  go_wp2
  go_ret
  exact ⟨ret_string (HE.out.trans (by rw [List.append_assoc])), HG.out.trans ⟨nq, osq, rfl⟩⟩
end Go.Proofs.YtjficafpkdeibaaGreatDoor
