/- The sum of an entry: the program's. No condition. -/
import Derived.Test.YtpaljmhoojpbdaaDoorZMRow
import Derived.Deep.Cut
import Derived.Deep.RegionHeld3
namespace Go.Proofs.YtpaljmhoojpbdaaDoor
open Go.RowKit

theorem mown_step {w : World} {B : Nat} {v : Value} {l r : List Int} {k : Nat} {x : Int} (h : MOwn w B v (l ++ r.take k ++ [x])) (hk : k < r.length) (e : r[k] = x) : MOwn w B v (l ++ r.take (k + 1)) := by
  rw [List.take_succ_eq_append_getElem hk, e, ← List.append_assoc]
  exact h
set_option maxHeartbeats 4000000 in
theorem appendNumber_m (B : Nat) (v : Value) (l : List Int) (n : Int) (w : World) (h : MOwn w B v l) (hB : B ≤ w.heap.size) (hl : l.length ≤ 1099511627776) :
    Calls Tryd.prog 103 #[v, .int .i64 n] w fun e w' => (∃ u, e = .returned u ∧ MOwn w' B u (l ++ numB n)) ∧ Below B w w' := by
  have H := hide h
  clear h
  go_enter Tryd.func103, Tryd.ntmps103
  go_wp2
  go_loopw [0, 5] (fun b i wr => ∃ k : Nat, k ≤ 8 ∧ i = .int .i64 (56 - 8 * (k : Int)) ∧ Hid (MOwn wr B b (l ++ (numB n).take k)) ∧ Below B w wr) (fun _ i _ => (intOf i + 8).toNat)
  case atStart => exact ⟨0, by omega, rfl, by rw [List.take_zero, List.append_nil]; exact H.out, Below.refl _ _⟩
  case round =>
    obtain ⟨k, hk, rfl, Hk, hbw⟩ := hrel
    have hB' : B ≤ wr.heap.size := Nat.le_trans hB hbw.size
    match k, hk with
    | 0, _ =>
      rw [show (56 : Int) - 8 * ((0 : Nat) : Int) = 56 from rfl]
      go_wp2_with (at_builtin; refine list_m_bytes rfl _ _ rfl B _ _ rfl (Hk.out.alloc _) ⟨wr.heap.size, 0, none⟩ 1 1 [n / 72057594037927936 % 256] rfl rfl (one_new _ _ _) (by simp [numB]; omega) (by simp; omega) ?_; intro v1 w1 h1 g1 b1)
      have HO := hide (mown_step h1 (by rw [numB_len]; omega) rfl)
      have hbw1 := (hbw.alloc hB' _).trans b1
      clear h1 g1 b1
      go_roundw
      case rel => exact ⟨1, by omega, rfl, HO, hbw1⟩
      case measure => simp [intOf]
    | 1, _ =>
      rw [show (56 : Int) - 8 * ((1 : Nat) : Int) = 48 from rfl]
      go_wp2_with (at_builtin; refine list_m_bytes rfl _ _ rfl B _ _ rfl (Hk.out.alloc _) ⟨wr.heap.size, 0, none⟩ 1 1 [n / 281474976710656 % 256] rfl rfl (one_new _ _ _) (by simp [numB]; omega) (by simp; omega) ?_; intro v1 w1 h1 g1 b1)
      have HO := hide (mown_step h1 (by rw [numB_len]; omega) rfl)
      have hbw1 := (hbw.alloc hB' _).trans b1
      clear h1 g1 b1
      go_roundw
      case rel => exact ⟨2, by omega, rfl, HO, hbw1⟩
      case measure => simp [intOf]
    | 2, _ =>
      rw [show (56 : Int) - 8 * ((2 : Nat) : Int) = 40 from rfl]
      go_wp2_with (at_builtin; refine list_m_bytes rfl _ _ rfl B _ _ rfl (Hk.out.alloc _) ⟨wr.heap.size, 0, none⟩ 1 1 [n / 1099511627776 % 256] rfl rfl (one_new _ _ _) (by simp [numB]; omega) (by simp; omega) ?_; intro v1 w1 h1 g1 b1)
      have HO := hide (mown_step h1 (by rw [numB_len]; omega) rfl)
      have hbw1 := (hbw.alloc hB' _).trans b1
      clear h1 g1 b1
      go_roundw
      case rel => exact ⟨3, by omega, rfl, HO, hbw1⟩
      case measure => simp [intOf]
    | 3, _ =>
      rw [show (56 : Int) - 8 * ((3 : Nat) : Int) = 32 from rfl]
      go_wp2_with (at_builtin; refine list_m_bytes rfl _ _ rfl B _ _ rfl (Hk.out.alloc _) ⟨wr.heap.size, 0, none⟩ 1 1 [n / 4294967296 % 256] rfl rfl (one_new _ _ _) (by simp [numB]; omega) (by simp; omega) ?_; intro v1 w1 h1 g1 b1)
      have HO := hide (mown_step h1 (by rw [numB_len]; omega) rfl)
      have hbw1 := (hbw.alloc hB' _).trans b1
      clear h1 g1 b1
      go_roundw
      case rel => exact ⟨4, by omega, rfl, HO, hbw1⟩
      case measure => simp [intOf]
    | 4, _ =>
      rw [show (56 : Int) - 8 * ((4 : Nat) : Int) = 24 from rfl]
      go_wp2_with (at_builtin; refine list_m_bytes rfl _ _ rfl B _ _ rfl (Hk.out.alloc _) ⟨wr.heap.size, 0, none⟩ 1 1 [n / 16777216 % 256] rfl rfl (one_new _ _ _) (by simp [numB]; omega) (by simp; omega) ?_; intro v1 w1 h1 g1 b1)
      have HO := hide (mown_step h1 (by rw [numB_len]; omega) rfl)
      have hbw1 := (hbw.alloc hB' _).trans b1
      clear h1 g1 b1
      go_roundw
      case rel => exact ⟨5, by omega, rfl, HO, hbw1⟩
      case measure => simp [intOf]
    | 5, _ =>
      rw [show (56 : Int) - 8 * ((5 : Nat) : Int) = 16 from rfl]
      go_wp2_with (at_builtin; refine list_m_bytes rfl _ _ rfl B _ _ rfl (Hk.out.alloc _) ⟨wr.heap.size, 0, none⟩ 1 1 [n / 65536 % 256] rfl rfl (one_new _ _ _) (by simp [numB]; omega) (by simp; omega) ?_; intro v1 w1 h1 g1 b1)
      have HO := hide (mown_step h1 (by rw [numB_len]; omega) rfl)
      have hbw1 := (hbw.alloc hB' _).trans b1
      clear h1 g1 b1
      go_roundw
      case rel => exact ⟨6, by omega, rfl, HO, hbw1⟩
      case measure => simp [intOf]
    | 6, _ =>
      rw [show (56 : Int) - 8 * ((6 : Nat) : Int) = 8 from rfl]
      go_wp2_with (at_builtin; refine list_m_bytes rfl _ _ rfl B _ _ rfl (Hk.out.alloc _) ⟨wr.heap.size, 0, none⟩ 1 1 [n / 256 % 256] rfl rfl (one_new _ _ _) (by simp [numB]; omega) (by simp; omega) ?_; intro v1 w1 h1 g1 b1)
      have HO := hide (mown_step h1 (by rw [numB_len]; omega) rfl)
      have hbw1 := (hbw.alloc hB' _).trans b1
      clear h1 g1 b1
      go_roundw
      case rel => exact ⟨7, by omega, rfl, HO, hbw1⟩
      case measure => simp [intOf]
    | 7, _ =>
      rw [show (56 : Int) - 8 * ((7 : Nat) : Int) = 0 from rfl]
      go_wp2_with (at_builtin; refine list_m_bytes rfl _ _ rfl B _ _ rfl (Hk.out.alloc _) ⟨wr.heap.size, 0, none⟩ 1 1 [n % 256] rfl rfl (one_new _ _ _) (by simp [numB]; omega) (by simp; omega) ?_; intro v1 w1 h1 g1 b1)
      have HO := hide (mown_step h1 (by rw [numB_len]; omega) rfl)
      have hbw1 := (hbw.alloc hB' _).trans b1
      clear h1 g1 b1
      go_roundw
      case rel => exact ⟨8, by omega, rfl, HO, hbw1⟩
      case measure => simp [intOf]
    | 8, _ =>
      rw [show (56 : Int) - 8 * ((8 : Nat) : Int) = -8 from rfl]
      go_wp2
      go_ret
      exact ⟨⟨_, rfl, Hk.out⟩, hbw⟩
    | k + 9, hk => exact absurd hk (by omega)
theorem sb_byte (s : ByteArray) : ∀ y ∈ sb s, 0 ≤ y ∧ y ≤ 255 := by
  intro y hy
  unfold sb at hy
  obtain ⟨b, -, rfl⟩ := List.mem_map.1 hy
  have := b.toNat_lt
  omega
theorem numB_byte (n : Int) : ∀ y ∈ numB n, 0 ≤ y ∧ y ≤ 255 := by
  intro y hy
  simp only [numB, List.mem_cons, List.not_mem_nil, or_false] at hy
  omega
def entS (m s f b : ByteArray) : List Int := sb m ++ [32] ++ numB s.size ++ sb s ++ numB f.size ++ sb f ++ sb b
theorem entS_in (m s f b : ByteArray) : ∀ y ∈ sb m ++ [32] ++ numB s.size ++ sb s ++ numB f.size ++ sb f ++ sb b, 0 ≤ y ∧ y ≤ 255 := by
  intro y hy
  simp only [List.mem_append, List.mem_singleton] at hy
  rcases hy with (((((h | h) | h) | h) | h) | h) | h
  · exact sb_byte _ y h
  · omega
  · exact numB_byte _ y h
  · exact sb_byte _ y h
  · exact numB_byte _ y h
  · exact sb_byte _ y h
  · exact sb_byte _ y h
set_option maxRecDepth 20000 in
set_option maxHeartbeats 4000000 in
theorem implSum_any (m s f b : ByteArray) (k : Int) (w : World) (hm : m.size ≤ 1048576) (hs : s.size ≤ 1048576) (hf : f.size ≤ 1048576) (hb : b.size ≤ 1048576) :
    Calls Tryd.prog 72 #[.agg #[.string m, .string s, .string f, .string b, .int .i64 k]] w fun e w' => e = .returned (.int .i64 (sumF (entS m s f b))) ∧ Below w.heap.size w w' := by
  have hcv := fun W : World => conv_run W m
  obtain ⟨W, hW⟩ : ∃ W, W = w.alloc (.cells #[.string m, .string s, .string f, .string b, .int .i64 k] 53) := ⟨_, rfl⟩
  have x0 : W.heap[w.heap.size]? = some (.cells #[.string m, .string s, .string f, .string b, .int .i64 k] 53 (0, 0)) := by rw [hW]; exact Deep.blk_alloc_new w _
  have hWs : W.heap.size = w.heap.size + 1 := by rw [hW]; simp
  have bW : Below w.heap.size w W := by rw [hW]; exact (Below.refl _ _).alloc (Nat.le_refl _) _
  have HW := hide (And.intro x0 (And.intro hWs bW))
  have C0 := (heapCells x0).1 0
  have C1 := (heapCells x0).1 1
  have C2 := (heapCells x0).1 2
  have C3 := (heapCells x0).1 3
  simp only [List.getElem?_toArray, List.getElem?_cons_zero, List.getElem?_cons_succ] at C0 C1 C2 C3
  have hz : w.heap.size < W.heap.size := by omega
  clear x0 bW hWs
  go_enter Tryd.func72, Tryd.ntmps72
  go_upto_region 1 with fail
  rw [← hW]
  clear hW
  go_wp2_with (at_builtin; refine list_m_bytes rfl _ _ rfl W.heap.size _ (sb m) rfl ((MOwn.conv W W.heap.size m (Nat.le_refl _) (by unfold maxLen; omega)).alloc _) ⟨(Lib.bytesWorld W 5 m).heap.size, 0, none⟩ 1 1 [32] rfl rfl (one_new _ _ _) (by rw [sb_len]; omega) (by rw [World.size_alloc, Lib.bytesWorld_size]; omega) ?_; intro v1 w1 h1 g1 b1)
  have H1 := hide h1
  have HB1 := hide ((conv_below W m).trans (((Below.refl _ _).alloc (by rw [Lib.bytesWorld_size]; omega) _).trans b1) : Below W.heap.size W w1)
  have HZ := hide hz
  have HL := hide (And.intro hm (And.intro hs (And.intro hf hb)))
  clear h1 g1 b1 hcv hz
  have hx1 : w1.drew.cell? ⟨w.heap.size, 1, none⟩ = some (.string s) := ((HB1.out.trans (Below.refl _ _).drew).cell (p := ⟨w.heap.size, 1, none⟩) HZ.out).trans C1
  go_region_held3 (fun w' => w'.cell? ⟨w.heap.size, 1, none⟩ = some (.string s))
    (first
      | (go_split_ands; assumption)
      | (go_split_ands; exact ((HB1.out.trans (Below.refl _ _).drew).cell (p := ⟨w.heap.size, 1, none⟩) HZ.out).trans C1)
      | (go_split_ands; exact (HB2.out.cell (p := ⟨w.heap.size, 1, none⟩) HZ.out).trans C1)
      | (go_split_ands; exact ((HB3.out.trans (Below.refl _ _).drew).cell (p := ⟨w.heap.size, 1, none⟩) HZ.out).trans C1))
    ((first
      | (go_at_call 103; refine (appendNumber_m W.heap.size v1 _ (s.size : Int) _ (H1.out.on (Below.refl _ _).drew) HB1.out.size (by have := HL.out; simp [sb_len]; omega)).mono ?_; rintro e w2 ⟨⟨u2, rfl, h2⟩, b2⟩; have HB2 := hide (HB1.out.trans ((Below.refl _ _).drew.trans b2)))
      | (refine step_m_text (by rfl) _ _ (by rfl) W.heap.size u2 _ (by rfl) h2 s (by rfl) (by have := HL.out; simp [sb_len, numB_len] <;> omega) HB2.out.size ?_; intro v3 w3 h3 g3 b3; have HB3 := hide (HB2.out.trans b3))))
  have H3 := hide h3
  clear h2 b2 h3 g3 b3 HB2
  go_wp2_with fail
  go_region_held3 (fun w' => w'.cell? ⟨w.heap.size, 2, none⟩ = some (.string f))
    (first
      | (go_split_ands; assumption)
      | (go_split_ands; exact ((HB3.out.trans (Below.refl _ _).drew).cell (p := ⟨w.heap.size, 2, none⟩) HZ.out).trans C2)
      | (go_split_ands; exact (HB4.out.cell (p := ⟨w.heap.size, 2, none⟩) HZ.out).trans C2)
      | (go_split_ands; exact (HB5.out.cell (p := ⟨w.heap.size, 2, none⟩) HZ.out).trans C2))
    ((first
      | (go_at_call 103; refine (appendNumber_m W.heap.size v3 _ (f.size : Int) _ (H3.out.on (Below.refl _ _).drew) HB3.out.size (by have := HL.out; simp [sb_len, numB_len] <;> omega)).mono ?_; rintro e w4 ⟨⟨u4, rfl, h4⟩, b4⟩; have HB4 := hide (HB3.out.trans ((Below.refl _ _).drew.trans b4)))
      | (refine step_m_text (by rfl) _ _ (by rfl) W.heap.size u4 _ (by rfl) h4 f (by rfl) (by have := HL.out; simp [sb_len, numB_len] <;> omega) HB4.out.size ?_; intro v5 w5 h5 g5 b5; have HB5 := hide (HB4.out.trans b5))))
  have H5 := hide h5
  clear h4 b4 h5 g5 b5 HB4
  have d3 := (HB5.out.cell (p := ⟨w.heap.size, 3, none⟩) HZ.out).trans C3
  have HE := hide (show sb m ++ [32] ++ numB s.size ++ sb s ++ numB f.size ++ sb f ++ sb b = entS m s f b from rfl)
  obtain ⟨X, hX⟩ : ∃ X, entS m s f b = X := ⟨_, rfl⟩
  rw [hX] at HE
  have HEX := hide hX
  clear hX
  obtain ⟨Y, hY⟩ : ∃ Y, sb m ++ [32] ++ numB s.size ++ sb s ++ numB f.size ++ sb f = Y := ⟨_, rfl⟩
  have hYl : Y.length ≤ 4000000 := by rw [← hY]; simp [sb_len, numB_len]; omega
  have hXl : X.length ≤ 8000000 := by rw [← HE.out, List.length_append, hY, sb_len]; omega
  have hXb : ∀ y ∈ X, 0 ≤ y ∧ y ≤ 255 := by rw [← HE.out]; exact entS_in m s f b
  rw [hY] at H5 HE
  have HX := hide (And.intro hXl hXb)
  clear hY hXl hXb C0 C1 C2 C3
  go_wp2_with (first
    | (at_builtin; refine list_m_text rfl _ _ rfl W.heap.size v5 Y rfl H5.out b rfl (by omega) HB5.out.size ?_; intro v6 w6 h6 g6 b6; rw [HE.out] at h6; obtain ⟨g, cap, rfl, hr⟩ := id h6)
    | (go_at_call 104; refine (sumOf_any (some ⟨g, 0, none⟩) cap X w6 (by have := HX.out.1; omega) (h6.bytes HX.out.2)).mono ?_; rintro e w7 ⟨rfl, rfl⟩))
  go_ret
  exact ⟨ret_i64s (by rw [HEX.out]), HW.out.2.2.trans ((HB5.out.trans b6).mono (Nat.le_of_lt HZ.out))⟩
end Go.Proofs.YtpaljmhoojpbdaaDoor
