/- Two rows of bytes held against each other by the library, off its own body. No condition. -/
import Derived.Test.YtoomnimbokbadaaDoorZRdFaceI
import Derived.Test.YtoomnimbokbadaaDoorZBytImpl
namespace Go.Proofs.YtoomnimbokbadaaDoor
open Go.ChangeShapes Go.WideShapes Go.ChangeAt Go.RowKit Go.Deep

theorem Own.slat {w : World} {B : Nat} {v : Value} {l : List Int} (h : Own w B v l) (hn : ∀ y ∈ l, 0 ≤ y ∧ y ≤ 255) : SlAt BAt 1 w ⟨B, w.heap.size, false⟩ v l := by
  by_cases hl : l.length = 0
  · obtain rfl := List.length_eq_zero_iff.1 hl
    rcases h.2 with ⟨e, -⟩ | ⟨g, cap, cur, e, -⟩
    · subst e; exact SlAt.nil
    · subst e; exact SlAt.nil
  · obtain ⟨g, cap, rfl, hg1, hg2⟩ := World.ownsRow.form h (by omega)
    have hc := World.ownsRow.cells (g := g) h rfl
    have hcap : l.length ≤ cap := by
      rcases h.2 with ⟨e, -⟩ | ⟨g', cap', cur, e, -, -, hcap, -⟩
      · cases e
      · cases e; exact hcap
    refine ⟨_, cap, rfl, fun i hi => ⟨g, 0, rfl, ⟨hg1, hcap⟩, hg2, (fun e => by cases e), ?_⟩⟩
    have c0 := hc i (.int .u8 l[i]) (by unfold bc; simp [hi])
    rw [add_plain] at c0
    exact ⟨by simpa using c0, hn _ (List.getElem_mem _)⟩
theorem u8_toNat {y : Int} (h : 0 ≤ y ∧ y ≤ 255) : ((UInt8.ofNat y.toNat).toNat : Int) = y := by
  have : (UInt8.ofNat y.toNat).toNat = y.toNat := by
    rw [UInt8.toNat_ofNat']
    exact Nat.mod_eq_of_lt (by omega)
  rw [this]
  omega
theorem bs_back {l : List Int} (h : ∀ y ∈ l, 0 ≤ y ∧ y ≤ 255) : (bs l).data.toList.map (fun b => (b.toNat : Int)) = l := by
  unfold bs
  simp only [List.map_map]
  refine (List.map_congr_left fun y hy => ?_).trans (List.map_id _)
  exact u8_toNat (h y hy)
theorem bs_inj {l r : List Int} (hl : ∀ y ∈ l, 0 ≤ y ∧ y ≤ 255) (hr : ∀ y ∈ r, 0 ≤ y ∧ y ≤ 255) : bs l = bs r ↔ l = r := by
  constructor
  · intro h
    rw [← bs_back hl, h, bs_back hr]
  · intro h; rw [h]
theorem toList_beq (s t : ByteArray) : (s.toList == t.toList) = decide (s = t) := by
  have e : s.toList = t.toList ↔ s = t := by
    rw [ByteArray.toList_eq, ByteArray.toList_eq]
    constructor
    · intro h
      have := congrArg List.toArray h
      cases s; cases t
      simpa using this
    · intro h; rw [h]
  by_cases h : s = t
  · rw [decide_eq_true h, h]; simp
  · rw [decide_eq_false h]
    have : s.toList ≠ t.toList := fun k => h (e.1 k)
    simp [this]
theorem bytesEqual_any (w : World) (g1 o1 n1 c1 g2 o2 n2 c2 : Nat) (s t : ByteArray) (h1 : (convert 22 9 (.slice (some ⟨g1, o1, none⟩) n1 c1)).run Tryd.prog w = .ok (.string s) w)
    (h2 : (convert 22 9 (.slice (some ⟨g2, o2, none⟩) n2 c2)).run Tryd.prog w = .ok (.string t) w) :
    Calls Tryd.prog 33 #[.slice (some ⟨g1, o1, none⟩) n1 c1, .slice (some ⟨g2, o2, none⟩) n2 c2] w fun e w' => e = .returned (.bool (decide (s = t))) ∧ w = w' := by
  rw [← toList_beq]
  go_enter Tryd.func33, Tryd.ntmps33
  go_wp2
  go_ret
  exact ⟨rfl, rfl⟩
end Go.Proofs.YtoomnimbokbadaaDoor
