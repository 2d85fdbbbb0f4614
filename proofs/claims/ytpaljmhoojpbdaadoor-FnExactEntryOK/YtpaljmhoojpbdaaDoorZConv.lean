/- A row of bytes that the call has made, as a text. -/
import Derived.Test.YtpaljmhoojpbdaaDoorZEnSumI
import Derived.Deep.CutRange
import Derived.Deep.RegionLaw
import Derived.Test.YtpaljmhoojpbdaaDoorZBase
/- The sum of an entry: the model's. No condition. -/
namespace Go.Proofs.YtpaljmhoojpbdaaDoor
open Go.RowKit

theorem sb_app (a b : ByteArray) : sb (a ++ b) = sb a ++ sb b := by
  unfold sb
  rw [← List.map_append]
  congr 1
set_option maxRecDepth 20000 in
set_option maxHeartbeats 4000000 in
theorem specSum_any (m s f b : ByteArray) (k : Int) (w : World) (hm : m.size ≤ 1048576) (hs : s.size ≤ 1048576) (hf : f.size ≤ 1048576) (hb : b.size ≤ 1048576) :
    Calls Tryd.prog 43 #[.agg #[.string m, .string s, .string f, .string b, .int .i64 k]] w fun e w' => e = .returned (.int .i64 (sumF (entS m s f b))) ∧ Below w.heap.size w w' := by
  obtain ⟨m', hm'⟩ : ∃ m' : ByteArray, m ++ ⟨#[32]⟩ = m' := ⟨_, rfl⟩
  have hcv := fun W : World => conv_run W m'
  have hsm : sb m' = sb m ++ [32] := by rw [← hm', sb_app]; rfl
  have hml : m'.size = m.size + 1 := by have := congrArg List.length hsm; rw [List.length_append, sb_len, sb_len] at this; exact this
  have hadd : ¬ 9223372036854775807 < m.size + 1 := by omega
  obtain ⟨W, hW⟩ : ∃ W, W = w.alloc (.cells #[.string m, .string s, .string f, .string b, .int .i64 k] 53) := ⟨_, rfl⟩
  have x0 : W.heap[w.heap.size]? = some (.cells #[.string m, .string s, .string f, .string b, .int .i64 k] 53 (0, 0)) := by rw [hW]; exact Deep.blk_alloc_new w _
  have hWs : W.heap.size = w.heap.size + 1 := by rw [hW]; simp
  have bW : Below w.heap.size w W := by rw [hW]; exact (Below.refl _ _).alloc (Nat.le_refl _) _
  have HW := hide (And.intro x0 bW)
  have C0 := (heapCells x0).1 0
  have C1 := (heapCells x0).1 1
  have C2 := (heapCells x0).1 2
  have C3 := (heapCells x0).1 3
  simp only [List.getElem?_toArray, List.getElem?_cons_zero, List.getElem?_cons_succ] at C0 C1 C2 C3
  have hz : w.heap.size < W.heap.size := by omega
  have HZ := hide hz
  have HM := hide (And.intro hsm hml)
  clear x0 bW hWs hsm hml hz
  go_enter Tryd.func43, Tryd.ntmps43
  go_upto_region 1 with fail
  rw [← hW]
  clear hW
  go_cut [3] from 4 to 12 (fun v wc => Hid (MOwn wc W.heap.size v (sb m' ++ numB s.size)) ∧ Hid (Below W.heap.size W wc))
  case first =>
    have hx0 : W.drew.cell? ⟨w.heap.size, 0, none⟩ = some (.string m) := C0
    have hx1 : W.drew.cell? ⟨w.heap.size, 1, none⟩ = some (.string s) := C1
    have hx2 : (Lib.bytesWorld W.drew 5 m').cell? ⟨w.heap.size, 1, none⟩ = some (.string s) := ((conv_below W.drew m').cell (p := ⟨w.heap.size, 1, none⟩) HZ.out).trans C1
    have HC := hide (And.intro C0 C1)
    clear C0 C1
    go_region_law (first
        | (go_simp; go_at_call 66; refine (l03Eight_any (s.size : Int) (Lib.bytesWorld W.drew 5 m')).mono ?_; rintro e w2 ⟨⟨u2, rfl, h2⟩, b2⟩; have HB2 := hide (((Below.refl W.heap.size W).drew.trans (conv_below W.drew m')).trans (b2.mono (by rw [Lib.bytesWorld_size]; show W.heap.size ≤ W.heap.size + 1; omega))); have HV := hide ((MOwn.conv W.drew W.heap.size m' (Nat.le_refl _) (by unfold maxLen; have := HM.out.2; omega)).on b2); obtain ⟨g2, c2, rfl, hg2, hg2'⟩ := h2.form (by rw [numB_len]; decide))
        | (go_simp; go_at_call 66; refine (l03Eight_any (s.size : Int) W.drew).mono ?_; rintro e w2 ⟨⟨u2, rfl, h2⟩, b2⟩; have HB2 := hide ((Below.refl W.heap.size W).drew.trans b2); have mx := (HB2.out.cell (p := ⟨w.heap.size, 0, none⟩) HZ.out).trans HC.out.1; obtain ⟨g2, c2, rfl, hg2, hg2'⟩ := h2.form (by rw [numB_len]; decide))
        | (refine step_m_bytes (by rfl) _ _ (by rfl) W.heap.size _ (sb m') (by rfl) HV.out ⟨g2, 0, none⟩ _ c2 (numB s.size) (by rfl) (by rfl) h2.cells (by have := HM.out.2; rw [sb_len, numB_len]; omega) HB2.out.size ?_; intro v3 w3 h3 g3 b3; have HB3 := hide (HB2.out.trans b3); have H3 := hide h3)
        | (refine step_m_bytes (by rfl) _ _ (by rfl) W.heap.size _ (sb m') (by rfl) (MOwn.conv w2 W.heap.size m' HB2.out.size (by unfold maxLen; have := HM.out.2; omega)) ⟨g2, 0, none⟩ _ c2 (numB s.size) (by rfl) (by rfl) (h2.on (conv_below w2 m')).cells (by have := HM.out.2; rw [sb_len, numB_len]; omega) (Nat.le_trans HB2.out.size (conv_below w2 m').size) ?_; intro v3 w3 h3 g3 b3; have HB3 := hide (HB2.out.trans (((conv_below w2 m').mono HB2.out.size).trans b3)); have H3 := hide h3)
        | fail)
    all_goals
      go_wp2_with fail
      go_meet
      case rel => exact ⟨H3, HB3⟩
  case rest =>
    obtain ⟨H1, HB1⟩ := hcut
    have bx : Below W.heap.size W wc.drew := HB1.out.trans (Below.refl _ _).drew
    have hx1 : wc.drew.cell? ⟨w.heap.size, 1, none⟩ = some (.string s) := (bx.cell (p := ⟨w.heap.size, 1, none⟩) HZ.out).trans C1
    have hx2 : wc.drew.cell? ⟨w.heap.size, 2, none⟩ = some (.string f) := (bx.cell (p := ⟨w.heap.size, 2, none⟩) HZ.out).trans C2
    obtain ⟨Y, hY⟩ : ∃ Y, sb m' ++ numB s.size = Y := ⟨_, rfl⟩
    have HYl := hide (show Y.length ≤ 1100000 by rw [← hY, List.length_append, sb_len, numB_len]; have := HM.out.2; omega)
    have HY := hide hY
    rw [hY] at H1
    clear hY hcv bx
    go_upto_region 2 with fail
    go_cut [3] from 13 to 21 (fun v wc => Hid (MOwn wc W.heap.size v (Y ++ sb s ++ numB f.size)) ∧ Hid (Below W.heap.size W wc))
    case first =>
      go_region_held3 (fun w' => w'.cell? ⟨w.heap.size, 1, none⟩ = some (.string s) ∧ w'.cell? ⟨w.heap.size, 2, none⟩ = some (.string f))
        (first
          | (go_split_ands; refine ⟨?_, ?_⟩ <;> assumption)
          | (go_split_ands; exact ⟨(HB5.out.cell (p := ⟨w.heap.size, 1, none⟩) HZ.out).trans C1, (HB5.out.cell (p := ⟨w.heap.size, 2, none⟩) HZ.out).trans C2⟩)
          | (go_split_ands; exact ⟨(HB4.out.cell (p := ⟨w.heap.size, 1, none⟩) HZ.out).trans C1, (HB4.out.cell (p := ⟨w.heap.size, 2, none⟩) HZ.out).trans C2⟩)
          | (go_split_ands; exact ⟨(HB3.out.cell (p := ⟨w.heap.size, 1, none⟩) HZ.out).trans C1, (HB3.out.cell (p := ⟨w.heap.size, 2, none⟩) HZ.out).trans C2⟩))
        ((first
          | (go_at_call 66; refine (l03Eight_any (f.size : Int) w3).mono ?_; rintro e w4 ⟨⟨u4, rfl, h4⟩, b4⟩; have HB4 := hide (HB3.out.trans (b4.mono HB3.out.size)); have HV := hide (H3.out.on b4); obtain ⟨g4, c4, rfl, hg4, hg4'⟩ := h4.form (by rw [numB_len]; decide); have H4 := hide h4)
          | (go_at_call 66; refine (l03Eight_any (f.size : Int) wc.drew).mono ?_; rintro e w4 ⟨⟨u4, rfl, h4⟩, b4⟩; have HB4 := hide (HB1.out.trans ((Below.refl _ _).drew.trans (b4.mono HB1.out.size))); have HV4 := hide (H1.out.on ((Below.refl _ _).drew.trans b4)); have HLt := hide H1.out.lt; obtain ⟨g4, c4, rfl, hg4, hg4'⟩ := h4.form (by rw [numB_len]; decide); have H4 := hide h4)
          | (refine step_m_text (by rfl) _ _ (by rfl) W.heap.size _ Y (by rfl) (H1.out.on (w' := wc.drew) (Below.refl _ _).drew) s (by rfl) (by have := HYl.out; omega) HB1.out.size ?_; intro v3 w3 h3 g3 b3; have HB3 := hide (HB1.out.trans ((Below.refl _ _).drew.trans b3)); have H3 := hide h3)
          | (refine step_m_text (by rfl) _ _ (by rfl) W.heap.size _ Y (by rfl) HV4.out s (by rfl) (by have := HYl.out; omega) HB4.out.size ?_; intro v3 w3 h3 g3 b3; have HB3 := hide (HB4.out.trans b3); have H3 := hide h3; have H4 := hide (H4.out.kept g3 HLt.out))
          | (refine step_m_bytes (by rfl) _ _ (by rfl) W.heap.size _ (Y ++ sb s) (by rfl) HV.out ⟨g4, 0, none⟩ _ c4 (numB f.size) (by rfl) (by rfl) H4.out.cells (by have := HYl.out; rw [List.length_append, sb_len, numB_len]; omega) HB4.out.size ?_; intro v5 w5 h5 g5 b5; have HB5 := hide (HB4.out.trans b5); have H5 := hide h5)
          | (refine step_m_bytes (by rfl) _ _ (by rfl) W.heap.size _ (Y ++ sb s) (by rfl) H3.out ⟨g4, 0, none⟩ _ c4 (numB f.size) (by rfl) (by rfl) H4.out.cells (by have := HYl.out; rw [List.length_append, sb_len, numB_len]; omega) HB3.out.size ?_; intro v5 w5 h5 g5 b5; have HB5 := hide (HB3.out.trans b5); have H5 := hide h5)
          | fail))
      all_goals
        go_wp2_with fail
        go_meet
        case rel => exact ⟨H5, HB5⟩
    case rest =>
      clear H1 HB1 hx1 hx2
      obtain ⟨H1, HB1⟩ := hcut
      have bx : Below W.heap.size W wc.drew := HB1.out.trans (Below.refl _ _).drew
      have hx1 : wc.drew.cell? ⟨w.heap.size, 2, none⟩ = some (.string f) := (bx.cell (p := ⟨w.heap.size, 2, none⟩) HZ.out).trans C2
      have hx2 : wc.drew.cell? ⟨w.heap.size, 3, none⟩ = some (.string b) := (bx.cell (p := ⟨w.heap.size, 3, none⟩) HZ.out).trans C3
      have HE := hide (show Y ++ sb s ++ numB f.size ++ sb f ++ sb b = entS m s f b by rw [← HY.out, HM.out.1]; rfl)
      obtain ⟨X, hX⟩ : ∃ X, entS m s f b = X := ⟨_, rfl⟩
      rw [hX] at HE
      have HEX := hide hX
      obtain ⟨Z, hZ⟩ : ∃ Z, Y ++ sb s ++ numB f.size = Z := ⟨_, rfl⟩
      rw [hZ] at H1 HE
      have HZl := hide (show Z.length ≤ 3000000 by rw [← hZ, List.length_append, List.length_append, sb_len, numB_len]; have := HYl.out; omega)
      have HX := hide (show X.length ≤ 8000000 ∧ ∀ y ∈ X, 0 ≤ y ∧ y ≤ 255 from ⟨by rw [← HE.out, List.length_append, List.length_append, sb_len, sb_len]; have := HZl.out; omega, by rw [← hX]; exact entS_in m s f b⟩)
      clear hX hZ bx
      go_upto_region 3 with fail
      go_region_held3 (fun w' => w'.cell? ⟨w.heap.size, 2, none⟩ = some (.string f) ∧ w'.cell? ⟨w.heap.size, 3, none⟩ = some (.string b))
        (first
          | (go_split_ands; refine ⟨?_, ?_⟩ <;> assumption)
          | (go_split_ands; exact ⟨(HB5.out.cell (p := ⟨w.heap.size, 2, none⟩) HZ.out).trans C2, (HB5.out.cell (p := ⟨w.heap.size, 3, none⟩) HZ.out).trans C3⟩)
          | (go_split_ands; exact ⟨(HB3.out.cell (p := ⟨w.heap.size, 2, none⟩) HZ.out).trans C2, (HB3.out.cell (p := ⟨w.heap.size, 3, none⟩) HZ.out).trans C3⟩))
        ((first
          | (refine step_m_text (by rfl) _ _ (by rfl) W.heap.size _ Z (by rfl) (H1.out.on (w' := wc.drew) (Below.refl _ _).drew) f (by rfl) (by have := HZl.out; omega) HB1.out.size ?_; intro v3 w3 h3 g3 b3; have HB3 := hide (HB1.out.trans ((Below.refl _ _).drew.trans b3)); have H3 := hide h3)
          | (refine step_m_text (by rfl) _ _ (by rfl) W.heap.size _ (Z ++ sb f) (by rfl) H3.out b (by rfl) (by have := HZl.out; rw [List.length_append, sb_len]; omega) HB3.out.size ?_; intro v5 w5 h5 g5 b5; rw [HE.out] at h5; have HB5 := hide (HB3.out.trans b5); have H5 := hide h5; obtain ⟨gx, capx, rfl, hr⟩ := id h5)
          | (go_at_call 67; refine (l03Sum_any (some ⟨gx, 0, none⟩) capx X w5 (by have := HX.out.1; omega) (H5.out.bytes HX.out.2)).mono ?_; rintro e w7 ⟨rfl, rfl⟩)
          | fail))
      all_goals
        go_wp2_with fail
        go_ret
        exact ⟨ret_i64s (by rw [HEX.out]), HW.out.2.trans (HB5.out.mono (Nat.le_of_lt HZ.out))⟩
end Go.Proofs.YtpaljmhoojpbdaaDoor

namespace Go.Proofs.YtpaljmhoojpbdaaDoor
open Go.RowKit

theorem foldl_push (ns : List Int) : ∀ r : ByteArray, ns.foldl (fun r n => r.push (UInt8.ofNat n.toNat)) r = ⟨r.data ++ (ns.map fun n => UInt8.ofNat n.toNat).toArray⟩ := by
  induction ns with
  | nil => intro r; simp
  | cons n ns ih =>
    intro r
    simp only [List.foldl_cons, ih, List.map_cons]
    simp [ByteArray.push]

/-- The bytes of a row, wherever it lies, as a text. -/
theorem run_convert_cells {P : Program} (src dst e : TypeId) (hs : P.underlying src = some (.slice e)) (he : P.underlying e = some (.int .u8)) (hd : P.underlying dst = some .string) (b off : Nat) (ns : List Int) (cap : Nat) (w : World)
    (hc : ∀ j (h : j < ns.length), w.cell? ⟨b, off + j, none⟩ = some (.int .u8 ns[j])) :
    (convert src dst (.slice (some ⟨b, off, none⟩) ns.length cap)).run P w = .ok (.string ⟨(ns.map fun n => UInt8.ofNat n.toNat).toArray⟩) w := by
  rw [run_convert_bytes_string _ src dst e _ _ _ hs he hd]
  have h := run_loadCells_list (P := P) (w := w) ⟨b, off, none⟩ (ns.map (Value.int .u8)) (fun j v hj => by
    have hl : j < ns.length := by
      have := (List.getElem?_eq_some_iff.1 hj).1
      simpa using this
    have e1 : (Addr.add ⟨b, off, none⟩ j) = (⟨b, off + j, none⟩ : Addr) := by simp [Addr.add]
    rw [e1, hc j hl]
    simpa [List.getElem?_eq_getElem hl] using hj)
  rw [List.length_map] at h
  rw [run_bytesToString _ _ _ _ ns h, foldl_push]
  simp

/-- The bytes of a new row, as a text. -/
theorem run_convert_new {P : Program} (src dst e : TypeId) (hs : P.underlying src = some (.slice e)) (he : P.underlying e = some (.int .u8)) (hd : P.underlying dst = some .string) (ns : List Int) (cap : Nat) (w : World) (t : TypeId) :
    (convert src dst (.slice (some ⟨w.heap.size, 0, none⟩) ns.length cap)).run P (w.alloc (.cells (ns.map (Value.int .u8)).toArray t)) = .ok (.string ⟨(ns.map fun n => UInt8.ofNat n.toNat).toArray⟩) (w.alloc (.cells (ns.map (Value.int .u8)).toArray t)) := by
  rw [run_convert_bytes_string _ src dst e _ _ _ hs he hd]
  have h := run_loadCells_list (P := P) (w := w.alloc (.cells (ns.map (Value.int .u8)).toArray t)) ⟨w.heap.size, 0, none⟩ (ns.map (Value.int .u8)) (fun j v hj => by
    have : (Addr.add ⟨w.heap.size, 0, none⟩ j) = (⟨w.heap.size, j, none⟩ : Addr) := by simp [Addr.add]; omega
    rw [this, World.cell?_alloc_new]
    simpa using hj)
  rw [List.length_map] at h
  rw [run_bytesToString _ _ _ _ ns h, foldl_push]
  simp

theorem conv1 (a : Int) (w : World) : (convert 88 9 (.slice (some ⟨w.heap.size, 0, none⟩) 1 1)).run Tryd.prog (w.alloc (.cells #[.int .u8 a] 5)) = .ok (.string ⟨#[UInt8.ofNat a.toNat]⟩) (w.alloc (.cells #[.int .u8 a] 5)) :=
  run_convert_new 88 9 5 Tryd.underlying88 Tryd.underlying5 Tryd.underlying9 [a] 1 w 5
theorem conv2 (a b : Int) (w : World) : (convert 88 9 (.slice (some ⟨w.heap.size, 0, none⟩) 2 2)).run Tryd.prog (w.alloc (.cells #[.int .u8 a, .int .u8 b] 5)) = .ok (.string ⟨#[UInt8.ofNat a.toNat, UInt8.ofNat b.toNat]⟩) (w.alloc (.cells #[.int .u8 a, .int .u8 b] 5)) :=
  run_convert_new 88 9 5 Tryd.underlying88 Tryd.underlying5 Tryd.underlying9 [a, b] 2 w 5
theorem conv3 (a b c : Int) (w : World) : (convert 88 9 (.slice (some ⟨w.heap.size, 0, none⟩) 3 3)).run Tryd.prog (w.alloc (.cells #[.int .u8 a, .int .u8 b, .int .u8 c] 5)) = .ok (.string ⟨#[UInt8.ofNat a.toNat, UInt8.ofNat b.toNat, UInt8.ofNat c.toNat]⟩) (w.alloc (.cells #[.int .u8 a, .int .u8 b, .int .u8 c] 5)) :=
  run_convert_new 88 9 5 Tryd.underlying88 Tryd.underlying5 Tryd.underlying9 [a, b, c] 3 w 5
theorem conv4 (a b c d : Int) (w : World) : (convert 88 9 (.slice (some ⟨w.heap.size, 0, none⟩) 4 4)).run Tryd.prog (w.alloc (.cells #[.int .u8 a, .int .u8 b, .int .u8 c, .int .u8 d] 5)) = .ok (.string ⟨#[UInt8.ofNat a.toNat, UInt8.ofNat b.toNat, UInt8.ofNat c.toNat, UInt8.ofNat d.toNat]⟩) (w.alloc (.cells #[.int .u8 a, .int .u8 b, .int .u8 c, .int .u8 d] 5)) :=
  run_convert_new 88 9 5 Tryd.underlying88 Tryd.underlying5 Tryd.underlying9 [a, b, c, d] 4 w 5

theorem ret_string {a b : ByteArray} (h : a = b) : Ending.returned (.string a) = .returned (.string b) := by rw [h]
end Go.Proofs.YtpaljmhoojpbdaaDoor
