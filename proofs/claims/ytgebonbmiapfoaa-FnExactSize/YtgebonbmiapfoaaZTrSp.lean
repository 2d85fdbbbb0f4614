/- The model's Size; where a list of kids lies. No condition. -/
import Derived.Test.YtgebonbmiapfoaaZKidM
namespace Go.Proofs.Ytgebonbmiapfoaa
open Go.ChangeShapes Go.WideShapes Go.ChangeAt Go.RowKit Go.Deep

def SpN (h : Nat) : Prop := ∀ (v : Value) (m : Md) (x : NodeD) (w : World), kidsSz x.kids ≤ 1048576 → NodeVal h w m v x → m.hi ≤ w.heap.size →
    Calls Try.prog 10 #[v] w fun e w' => e = .returned (.int .i64 (nodeSz x : Int)) ∧ Below w.heap.size w w'
theorem kidsSz_take_le (l : List NodeD) (k : Nat) : kidsSz (l.take k) ≤ kidsSz l := by
  have := kidsSz_app (l.take k) (l.drop k)
  rw [List.take_append_drop] at this
  omega
set_option maxHeartbeats 4000000 in
theorem spSize_of (h : Nat) (ih : ∀ k, h = k + 1 → SpN k) : SpN h := by
  intro v m x w hz hv hm
  obtain ⟨u4, rfl, hb, s4⟩ := hv
  have HS := hide s4
  obtain ⟨p4, c4, rfl, -⟩ := s4
  rw [nodeSz_eq]
  obtain ⟨kd, kn, nm, ofn, l⟩ := x
  simp only [NodeD.kind, NodeD.n, NodeD.name, NodeD.of, NodeD.kids] at *
  clear hb
  obtain ⟨n, hn⟩ : ∃ n, l.length = n := ⟨_, rfl⟩
  have HN := hide hn
  have hnz : n ≤ 1048576 := by have := kidsSz_len l; omega
  have HZ := hide hz
  obtain ⟨T, hT⟩ : ∃ T, kidsSz l = T := ⟨_, rfl⟩
  have HT := hide hT
  rw [hn] at HS ⊢
  rw [hT]
  clear hn hz hT
  obtain ⟨w0, hw0⟩ : ∃ w0, w0 = w.alloc (.cells #[.int .i64 kd, .int .i64 kn, .string nm, .string ofn, .slice p4 n c4] 29) := ⟨_, rfl⟩
  have b0 : Below w.heap.size w w0 := by rw [hw0]; exact (Below.refl _ _).alloc (Nat.le_refl _) _
  have HX : Hid (w0.heap[w.heap.size]? = some (.cells #[.int .i64 kd, .int .i64 kn, .string nm, .string ofn, .slice p4 n c4] 29 (0, 0))) := hide (by rw [hw0]; exact Deep.blk_alloc_new w _)
  have hs0 : w.heap.size < w0.heap.size := (Array.getElem?_eq_some_iff.1 HX.out).1
  have HB0 := hide b0
  clear b0
  go_enter Try.func10, Try.ntmps10
  go_wp2
  rw [← hw0]
  clear hw0
  go_loopw [3, 4] (fun q i wr => ∃ k : Nat, i = .int .i64 k ∧ q = .int .i64 (1 + (kidsSz (l.take k) : Int)) ∧ k ≤ n ∧ Below w0.heap.size w0 wr) (fun _ i _ => n - (intOf i).toNat)
  case atStart => exact ⟨0, rfl, by rw [List.take_zero, kidsSz_nil]; rfl, by omega, Below.refl _ _⟩
  case round =>
    obtain ⟨k, rfl, rfl, hk, hbw⟩ := hrel
    have b4 : wr.cell? ⟨w.heap.size, 4, none⟩ = some (.slice p4 n c4) := (heapCells ((hbw.block _ hs0).trans HX.out)).1 4
    by_cases hp : k < n
    · have i1 : (k : Int) < n := by omega
      have hkl : k < l.length := by rw [HN.out]; exact hp
      obtain ⟨y, hy⟩ : ∃ y, l[k] = y := ⟨_, rfl⟩
      obtain ⟨a', c', e', hrows⟩ := HS.out.on (NodeAt.stays h) ((HB0.out.trans (hbw.mono HB0.out.size)).mono hm)
      cases e'
      obtain ⟨b, o, rfl, hb1, hb2, -, he⟩ := hrows k hkl
      have HY := hide hy
      rw [hy] at he
      clear hy hrows
      rcases h with _ | h
      · exact he.elim
      obtain ⟨⟨d0, d1, d2, d3⟩, hbd, u4, d4, s4⟩ := he
      have HVal := hide (show NodeVal h _ _ (.agg #[.int .i64 y.kind, .int .i64 y.n, .string y.name, .string y.of, u4]) y from ⟨u4, rfl, hbd, s4⟩)
      obtain ⟨p5, c5, rfl, -⟩ := s4
      simp only [Nat.add_zero] at d0 d1 d2 d3 d4
      have hle := kidsSz_take_le l (k + 1)
      have htk := kidsSz_take l hkl
      rw [HY.out] at htk
      have hns := nodeSz_eq y
      have hzz := HZ.out
      have hq : kidsSz y.kids ≤ 1048576 := by omega
      have HTK := hide htk
      have hb7 : kidsSz (l.take k) + nodeSz y ≤ 1048576 := by omega
      obtain ⟨S, hS⟩ : ∃ S, kidsSz (l.take k) = S := ⟨_, rfl⟩
      obtain ⟨ns, hns2⟩ : ∃ s, nodeSz y = s := ⟨_, rfl⟩
      have HCall : Hid (∀ w', Below wr.heap.size wr w' → Calls Try.prog 10 #[.agg #[.int .i64 y.kind, .int .i64 y.n, .string y.name, .string y.of, .slice p5 y.kids.length c5]] w' fun e w2 => e = .returned (.int .i64 (ns : Int)) ∧ Below w'.heap.size w' w2) := hide fun w' bel => by
        have := ih h rfl _ (m.inner b) y w' hq (HVal.out.on (bel.mono (by rw [Md.inner_hi]; exact Nat.le_trans hm (HB0.out.trans (hbw.mono HB0.out.size)).size))) (by rw [Md.inner_hi]; exact Nat.le_trans hm (Nat.le_trans (HB0.out.trans (hbw.mono HB0.out.size)).size bel.size))
        rw [hns2] at this
        exact this
      rw [hS, hns2] at hb7
      rw [hS]
      have HEnd : Hid (kidsSz (l.take (k + 1)) = S + ns) := hide (by rw [← hS, ← hns2]; exact HTK.out)
      clear hbd htk hns hq hle hzz hS hns2
      go_wp2_with fail
      refine (HCall.out _ (Below.refl _ _)).mono ?_
      rintro e w2 ⟨rfl, bel⟩
      go_wp2
      go_roundw
      case rel => exact ⟨k + 1, by go_num, by rw [HEnd.out]; go_num, by omega, hbw.trans (bel.mono hbw.size)⟩
      case measure => simp [intOf]; omega
    · have i1 : ¬ (k : Int) < n := by omega
      obtain rfl : k = n := by omega
      have hl : l.take k = l := List.take_of_length_le (by have := HN.out; omega)
      rw [hl, HT.out]
      go_wp2
      go_ret
      exact ⟨by show Ending.returned (.int .i64 (1 + (T : Int))) = .returned (.int .i64 ((T : Int) + 1)); rw [show (1 + (T : Int)) = (T : Int) + 1 by omega], HB0.out.trans (hbw.mono HB0.out.size)⟩
theorem spSize_any : ∀ h, SpN h
  | 0 => spSize_of 0 fun k e => by cases e
  | h + 1 => spSize_of (h + 1) fun k e => by cases e; exact spSize_any h
def kidKey : Value → Option Addr × Nat
  | .slice a (n + 1) _ => (a, n + 1)
  | _ => (none, 0)
theorem listOf_any (h : Nat) (m : Md) (v : Value) (l : List NodeD) (w : World) (hl : l.length ≤ 1048576) (hv : SlAt (NodeAt h) 5 w m v l) :
    Calls Try.prog 12 #[v] w fun e w' => e = .returned (KK (kidKey v)) ∧ Below w.heap.size w w' := by
  obtain ⟨a, c, rfl, hr⟩ := hv
  obtain ⟨n, hn⟩ : ∃ n, l.length = n := ⟨_, rfl⟩
  have HN := hide hn
  rw [hn] at hl ⊢
  by_cases h0 : n = 0
  · subst h0
    clear hr hn
    go_enter Try.func12, Try.ntmps12
    go_wp2
    refine bodyPost_ret (v := .agg #[.pointer none, .int .i64 0]) (by simp [results, Try.results12, go_sem]) rfl ⟨rfl, ?_⟩
    repeat (refine Below.setCell ?_ (by simp <;> omega) _)
    exact (Below.refl _ _).alloc (Nat.le_refl _) _
  · obtain ⟨b, o, rfl, g1, g2, -, he⟩ := hr 0 (by omega)
    obtain ⟨n, rfl⟩ : ∃ k, n = k + 1 := ⟨n - 1, by omega⟩
    have i0 : ¬ ((n + 1 : Nat) : Int) = 0 := by omega
    have i1 : (0 : Int) < ((n + 1 : Nat) : Int) := by omega
    clear hr hn he h0
    go_enter Try.func12, Try.ntmps12
    go_wp2
    refine bodyPost_ret (v := .agg #[.pointer (some ⟨b, o, none⟩), .int .i64 ((n + 1 : Nat) : Int)]) (by simp [results, Try.results12, go_sem]) rfl ⟨rfl, ?_⟩
    repeat (refine Below.setCell ?_ (by simp <;> omega) _)
    exact (Below.refl _ _).alloc (Nat.le_refl _) _
end Go.Proofs.Ytgebonbmiapfoaa
