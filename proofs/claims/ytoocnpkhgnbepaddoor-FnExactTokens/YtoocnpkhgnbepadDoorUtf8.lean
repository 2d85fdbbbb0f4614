/- A character's bytes: the model's arithmetic and Go's own conversion are one, at every character. -/
import Derived.Test.YtoocnpkhgnbepadDoorBase
namespace Go.Proofs.YtoocnpkhgnbepadDoor
open Go.RowKit

theorem foldl_push (ns : List Int) : ∀ r : ByteArray, ns.foldl (fun r n => r.push (UInt8.ofNat n.toNat)) r = ⟨r.data ++ (ns.map fun n => UInt8.ofNat n.toNat).toArray⟩ := by
  induction ns with
  | nil => intro r; simp
  | cons n ns ih =>
    intro r
    simp only [List.foldl_cons, ih, List.map_cons]
    simp [ByteArray.push]

/-- The bytes of a row, wherever it lies, as a text. -/
theorem run_convert_cells {P : Program} (src dst e : TypeId) (hs : P.underlying src = some (.slice e)) (he : P.underlying e = some (.int .u8)) (hd : P.underlying dst = some .string) (b off : Nat) (ns : List Int) (cap : Nat) (w : World)
    (hc : ∀ j (h : j < ns.length), w.cell? ⟨b, off + j, none⟩ = some (.int .u8 ns[j])) :
    (convert src dst (.slice (some ⟨b, off, none⟩) ns.length cap)).run P w = .ok (.string ⟨(ns.map fun n => UInt8.ofNat n.toNat).toArray⟩) w := by
  rw [run_convert_bytes_string _ src dst e _ _ _ hs he hd]
  have h := run_loadCells_list (P := P) (w := w) ⟨b, off, none⟩ (ns.map (Value.int .u8)) (fun j v hj => by
    have hl : j < ns.length := by
      have := (List.getElem?_eq_some_iff.1 hj).1
      simpa using this
    have e1 : (Addr.add ⟨b, off, none⟩ j) = (⟨b, off + j, none⟩ : Addr) := by simp [Addr.add]
    rw [e1, hc j hl]
    simpa [List.getElem?_eq_getElem hl] using hj)
  rw [List.length_map] at h
  rw [run_bytesToString _ _ _ _ ns h, foldl_push]
  simp

/-- The bytes of a new row, as a text. -/
theorem run_convert_new {P : Program} (src dst e : TypeId) (hs : P.underlying src = some (.slice e)) (he : P.underlying e = some (.int .u8)) (hd : P.underlying dst = some .string) (ns : List Int) (cap : Nat) (w : World) (t : TypeId) :
    (convert src dst (.slice (some ⟨w.heap.size, 0, none⟩) ns.length cap)).run P (w.alloc (.cells (ns.map (Value.int .u8)).toArray t)) = .ok (.string ⟨(ns.map fun n => UInt8.ofNat n.toNat).toArray⟩) (w.alloc (.cells (ns.map (Value.int .u8)).toArray t)) := by
  rw [run_convert_bytes_string _ src dst e _ _ _ hs he hd]
  have h := run_loadCells_list (P := P) (w := w.alloc (.cells (ns.map (Value.int .u8)).toArray t)) ⟨w.heap.size, 0, none⟩ (ns.map (Value.int .u8)) (fun j v hj => by
    have : (Addr.add ⟨w.heap.size, 0, none⟩ j) = (⟨w.heap.size, j, none⟩ : Addr) := by simp [Addr.add]; omega
    rw [this, World.cell?_alloc_new]
    simpa using hj)
  rw [List.length_map] at h
  rw [run_bytesToString _ _ _ _ ns h, foldl_push]
  simp

theorem conv1 (a : Int) (w : World) : (convert 50 9 (.slice (some ⟨w.heap.size, 0, none⟩) 1 1)).run Tryd.prog (w.alloc (.cells #[.int .u8 a] 5)) = .ok (.string ⟨#[UInt8.ofNat a.toNat]⟩) (w.alloc (.cells #[.int .u8 a] 5)) :=
  run_convert_new 50 9 5 Tryd.underlying50 Tryd.underlying5 Tryd.underlying9 [a] 1 w 5
theorem conv2 (a b : Int) (w : World) : (convert 50 9 (.slice (some ⟨w.heap.size, 0, none⟩) 2 2)).run Tryd.prog (w.alloc (.cells #[.int .u8 a, .int .u8 b] 5)) = .ok (.string ⟨#[UInt8.ofNat a.toNat, UInt8.ofNat b.toNat]⟩) (w.alloc (.cells #[.int .u8 a, .int .u8 b] 5)) :=
  run_convert_new 50 9 5 Tryd.underlying50 Tryd.underlying5 Tryd.underlying9 [a, b] 2 w 5
theorem conv3 (a b c : Int) (w : World) : (convert 50 9 (.slice (some ⟨w.heap.size, 0, none⟩) 3 3)).run Tryd.prog (w.alloc (.cells #[.int .u8 a, .int .u8 b, .int .u8 c] 5)) = .ok (.string ⟨#[UInt8.ofNat a.toNat, UInt8.ofNat b.toNat, UInt8.ofNat c.toNat]⟩) (w.alloc (.cells #[.int .u8 a, .int .u8 b, .int .u8 c] 5)) :=
  run_convert_new 50 9 5 Tryd.underlying50 Tryd.underlying5 Tryd.underlying9 [a, b, c] 3 w 5
theorem conv4 (a b c d : Int) (w : World) : (convert 50 9 (.slice (some ⟨w.heap.size, 0, none⟩) 4 4)).run Tryd.prog (w.alloc (.cells #[.int .u8 a, .int .u8 b, .int .u8 c, .int .u8 d] 5)) = .ok (.string ⟨#[UInt8.ofNat a.toNat, UInt8.ofNat b.toNat, UInt8.ofNat c.toNat, UInt8.ofNat d.toNat]⟩) (w.alloc (.cells #[.int .u8 a, .int .u8 b, .int .u8 c, .int .u8 d] 5)) :=
  run_convert_new 50 9 5 Tryd.underlying50 Tryd.underlying5 Tryd.underlying9 [a, b, c, d] 4 w 5

/-- A number that is a character. -/
def charB (n : Int) : Bool := decide ((0 ≤ n ∧ n ≤ 55295) ∨ (57344 ≤ n ∧ n ≤ 1114111))
theorem charB_iff {n : Int} : charB n = true ↔ (0 ≤ n ∧ n ≤ 55295) ∨ (57344 ≤ n ∧ n ≤ 1114111) := by unfold charB; simp
theorem valid_of {c : Int} (h : charB c = true) : Utf8.valid c = true := by
  rw [charB_iff] at h
  unfold Utf8.valid
  simp
  omega

theorem enc1 {c : Int} (h : charB c = true) (h0 : 0 ≤ c) (h1 : c < 128) : Utf8.encode c = ⟨#[UInt8.ofNat c.toNat]⟩ := by
  unfold Utf8.encode
  rw [if_pos (valid_of h), if_pos (by omega)]
theorem enc2 {c : Int} (h : charB c = true) (h0 : 128 ≤ c) (h1 : c < 2048) : Utf8.encode c = ⟨#[UInt8.ofNat (192 + c / 64).toNat, UInt8.ofNat (128 + c % 64).toNat]⟩ := by
  unfold Utf8.encode
  obtain ⟨k, rfl⟩ := Int.eq_ofNat_of_zero_le (show 0 ≤ c by omega)
  rw [if_pos (valid_of h), if_neg (by omega), if_pos (by omega)]
  have e1 : (192 + (k : Int) / 64).toNat = 192 + (k : Int).toNat / 64 := by omega
  have e2 : (128 + (k : Int) % 64).toNat = 128 + (k : Int).toNat % 64 := by omega
  rw [e1, e2]
theorem enc3 {c : Int} (h : charB c = true) (h0 : 2048 ≤ c) (h1 : c < 65536) : Utf8.encode c = ⟨#[UInt8.ofNat (224 + c / 4096).toNat, UInt8.ofNat (128 + c / 64 % 64).toNat, UInt8.ofNat (128 + c % 64).toNat]⟩ := by
  unfold Utf8.encode
  obtain ⟨k, rfl⟩ := Int.eq_ofNat_of_zero_le (show 0 ≤ c by omega)
  rw [if_pos (valid_of h), if_neg (by omega), if_neg (by omega), if_pos (by omega)]
  have e1 : (224 + (k : Int) / 4096).toNat = 224 + (k : Int).toNat / 4096 := by omega
  have e2 : (128 + (k : Int) / 64 % 64).toNat = 128 + (k : Int).toNat / 64 % 64 := by omega
  have e3 : (128 + (k : Int) % 64).toNat = 128 + (k : Int).toNat % 64 := by omega
  rw [e1, e2, e3]
theorem enc4 {c : Int} (h : charB c = true) (h0 : 65536 ≤ c) (h1 : c ≤ 1114111) : Utf8.encode c = ⟨#[UInt8.ofNat (240 + c / 262144).toNat, UInt8.ofNat (128 + c / 4096 % 64).toNat, UInt8.ofNat (128 + c / 64 % 64).toNat, UInt8.ofNat (128 + c % 64).toNat]⟩ := by
  unfold Utf8.encode
  obtain ⟨k, rfl⟩ := Int.eq_ofNat_of_zero_le (show 0 ≤ c by omega)
  rw [if_pos (valid_of h), if_neg (by omega), if_neg (by omega), if_neg (by omega)]
  have e1 : (240 + (k : Int) / 262144).toNat = 240 + (k : Int).toNat / 262144 := by omega
  have e2 : (128 + (k : Int) / 4096 % 64).toNat = 128 + (k : Int).toNat / 4096 % 64 := by omega
  have e3 : (128 + (k : Int) / 64 % 64).toNat = 128 + (k : Int).toNat / 64 % 64 := by omega
  have e4 : (128 + (k : Int) % 64).toNat = 128 + (k : Int).toNat % 64 := by omega
  rw [e1, e2, e3, e4]

theorem ret_string {a b : ByteArray} (h : a = b) : Ending.returned (.string a) = .returned (.string b) := by rw [h]
set_option maxRecDepth 100000 in
set_option maxHeartbeats 1600000 in
theorem l01Utf8_any (c : Int) (w : World) (h : charB c = true) : Calls Tryd.prog 46 #[.int .i64 c] w fun e w' => e = .returned (.string (Utf8.encode c)) ∧ Below w.heap.size w w' := by
  have hr := charB_iff.1 h
  have H : Hid (charB c = true) := h
  clear h
  have k1 := conv1
  have k2 := conv2
  have k3 := conv3
  have k4 := conv4
  have b0 : 0 ≤ c := by omega
  have b1 : c ≤ 1114111 := by omega
  clear hr
  by_cases h1 : c < 128
  · go_enter Tryd.func46, Tryd.ntmps46
    go_wp2
    go_ret
    exact ⟨ret_string (enc1 H.out b0 h1).symm, (Below.refl _ _).alloc (Nat.le_refl _) _⟩
  by_cases h2 : c < 2048
  · go_enter Tryd.func46, Tryd.ntmps46
    go_wp2
    go_ret
    exact ⟨ret_string (enc2 H.out (by omega) h2).symm, (Below.refl _ _).alloc (Nat.le_refl _) _⟩
  by_cases h3 : c < 65536
  · go_enter Tryd.func46, Tryd.ntmps46
    go_wp2
    go_ret
    exact ⟨ret_string (enc3 H.out (by omega) h3).symm, (Below.refl _ _).alloc (Nat.le_refl _) _⟩
  · go_enter Tryd.func46, Tryd.ntmps46
    go_wp2
    go_ret
    exact ⟨ret_string (enc4 H.out (by omega) b1).symm, (Below.refl _ _).alloc (Nat.le_refl _) _⟩
end Go.Proofs.YtoocnpkhgnbepadDoor
