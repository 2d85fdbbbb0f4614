/- A row of bytes that the call has made, as a text. -/
import Derived.Test.YtpfceikohoncgaaDoorZBase
namespace Go.Proofs.YtpfceikohoncgaaDoor
open Go.RowKit

theorem foldl_push (ns : List Int) : ∀ r : ByteArray, ns.foldl (fun r n => r.push (UInt8.ofNat n.toNat)) r = ⟨r.data ++ (ns.map fun n => UInt8.ofNat n.toNat).toArray⟩ := by
  induction ns with
  | nil => intro r; simp
  | cons n ns ih =>
    intro r
    simp only [List.foldl_cons, ih, List.map_cons]
    simp [ByteArray.push]

/-- The bytes of a row, wherever it lies, as a text. -/
theorem run_convert_cells {P : Program} (src dst e : TypeId) (hs : P.underlying src = some (.slice e)) (he : P.underlying e = some (.int .u8)) (hd : P.underlying dst = some .string) (b off : Nat) (ns : List Int) (cap : Nat) (w : World)
    (hc : ∀ j (h : j < ns.length), w.cell? ⟨b, off + j, none⟩ = some (.int .u8 ns[j])) :
    (convert src dst (.slice (some ⟨b, off, none⟩) ns.length cap)).run P w = .ok (.string ⟨(ns.map fun n => UInt8.ofNat n.toNat).toArray⟩) w := by
  rw [run_convert_bytes_string _ src dst e _ _ _ hs he hd]
  have h := run_loadCells_list (P := P) (w := w) ⟨b, off, none⟩ (ns.map (Value.int .u8)) (fun j v hj => by
    have hl : j < ns.length := by
      have := (List.getElem?_eq_some_iff.1 hj).1
      simpa using this
    have e1 : (Addr.add ⟨b, off, none⟩ j) = (⟨b, off + j, none⟩ : Addr) := by simp [Addr.add]
    rw [e1, hc j hl]
    simpa [List.getElem?_eq_getElem hl] using hj)
  rw [List.length_map] at h
  rw [run_bytesToString _ _ _ _ ns h, foldl_push]
  simp

/-- The bytes of a new row, as a text. -/
theorem run_convert_new {P : Program} (src dst e : TypeId) (hs : P.underlying src = some (.slice e)) (he : P.underlying e = some (.int .u8)) (hd : P.underlying dst = some .string) (ns : List Int) (cap : Nat) (w : World) (t : TypeId) :
    (convert src dst (.slice (some ⟨w.heap.size, 0, none⟩) ns.length cap)).run P (w.alloc (.cells (ns.map (Value.int .u8)).toArray t)) = .ok (.string ⟨(ns.map fun n => UInt8.ofNat n.toNat).toArray⟩) (w.alloc (.cells (ns.map (Value.int .u8)).toArray t)) := by
  rw [run_convert_bytes_string _ src dst e _ _ _ hs he hd]
  have h := run_loadCells_list (P := P) (w := w.alloc (.cells (ns.map (Value.int .u8)).toArray t)) ⟨w.heap.size, 0, none⟩ (ns.map (Value.int .u8)) (fun j v hj => by
    have : (Addr.add ⟨w.heap.size, 0, none⟩ j) = (⟨w.heap.size, j, none⟩ : Addr) := by simp [Addr.add]; omega
    rw [this, World.cell?_alloc_new]
    simpa using hj)
  rw [List.length_map] at h
  rw [run_bytesToString _ _ _ _ ns h, foldl_push]
  simp

theorem conv1 (a : Int) (w : World) : (convert 65 9 (.slice (some ⟨w.heap.size, 0, none⟩) 1 1)).run Tryd.prog (w.alloc (.cells #[.int .u8 a] 5)) = .ok (.string ⟨#[UInt8.ofNat a.toNat]⟩) (w.alloc (.cells #[.int .u8 a] 5)) :=
  run_convert_new 65 9 5 Tryd.underlying65 Tryd.underlying5 Tryd.underlying9 [a] 1 w 5
theorem conv2 (a b : Int) (w : World) : (convert 65 9 (.slice (some ⟨w.heap.size, 0, none⟩) 2 2)).run Tryd.prog (w.alloc (.cells #[.int .u8 a, .int .u8 b] 5)) = .ok (.string ⟨#[UInt8.ofNat a.toNat, UInt8.ofNat b.toNat]⟩) (w.alloc (.cells #[.int .u8 a, .int .u8 b] 5)) :=
  run_convert_new 65 9 5 Tryd.underlying65 Tryd.underlying5 Tryd.underlying9 [a, b] 2 w 5
theorem conv3 (a b c : Int) (w : World) : (convert 65 9 (.slice (some ⟨w.heap.size, 0, none⟩) 3 3)).run Tryd.prog (w.alloc (.cells #[.int .u8 a, .int .u8 b, .int .u8 c] 5)) = .ok (.string ⟨#[UInt8.ofNat a.toNat, UInt8.ofNat b.toNat, UInt8.ofNat c.toNat]⟩) (w.alloc (.cells #[.int .u8 a, .int .u8 b, .int .u8 c] 5)) :=
  run_convert_new 65 9 5 Tryd.underlying65 Tryd.underlying5 Tryd.underlying9 [a, b, c] 3 w 5
theorem conv4 (a b c d : Int) (w : World) : (convert 65 9 (.slice (some ⟨w.heap.size, 0, none⟩) 4 4)).run Tryd.prog (w.alloc (.cells #[.int .u8 a, .int .u8 b, .int .u8 c, .int .u8 d] 5)) = .ok (.string ⟨#[UInt8.ofNat a.toNat, UInt8.ofNat b.toNat, UInt8.ofNat c.toNat, UInt8.ofNat d.toNat]⟩) (w.alloc (.cells #[.int .u8 a, .int .u8 b, .int .u8 c, .int .u8 d] 5)) :=
  run_convert_new 65 9 5 Tryd.underlying65 Tryd.underlying5 Tryd.underlying9 [a, b, c, d] 4 w 5

theorem ret_string {a b : ByteArray} (h : a = b) : Ending.returned (.string a) = .returned (.string b) := by rw [h]
end Go.Proofs.YtpfceikohoncgaaDoor
