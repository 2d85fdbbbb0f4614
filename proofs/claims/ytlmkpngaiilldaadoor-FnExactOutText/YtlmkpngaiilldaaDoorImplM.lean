/- The program's OutText answers 'outA'. Listed: the library's tables. No other condition. -/
import Derived.Test.YtlmkpngaiilldaaDoorImplO
import Derived.Deep.LoopGhost
namespace Go.Proofs.YtlmkpngaiilldaaDoor
open Go.ChangeShapes Go.WideShapes Go.ChangeAt Go.RowKit Go.Deep

theorem line_sb (x : OutD) : sb (outT x ++ ⟨#[10]⟩) = nb (lineU x) := by
  rw [nb_sb]
  unfold ub lineU ub
  simp
theorem nl_size (tx : ByteArray) : (tx ++ ⟨#[10]⟩).size = tx.size + 1 := by
  rw [ByteArray.size_append]
  rfl
theorem writeLine_any (B b : Nat) (u : List UInt8) (x : OutD) (w : World) (h : Bld B b (nb u) w) (hu : u.length ≤ 100000) (ht : (outT x).size ≤ 20) (hB : B ≤ w.heap.size) :
    Calls Tryd.prog 33 #[.pointer (some ⟨b, 0, none⟩), .string (outT x ++ ⟨#[10]⟩)] w fun e w' => (∃ z : Int, e = .returned (.tuple #[.int .i64 z, .nilIface])) ∧ Bld B b (nb (u ++ lineU x)) w' ∧ Below B w w' := by
  have h1 : (nb u).length + (outT x ++ ⟨#[10]⟩).size ≤ 140737488355328 := by
    rw [nb_len, nl_size]
    omega
  obtain ⟨s, hs⟩ : ∃ s, outT x ++ ⟨#[10]⟩ = s := ⟨_, rfl⟩
  have hl := line_sb x
  rw [hs] at h1 hl ⊢
  have h5 := writeString_any B b (nb u) s w h h1 hB
  refine h5.mono ?_
  rintro e w' ⟨h1, h2, h3⟩
  have h4 := h2.bld
  rw [hl, ← nb_app] at h4
  exact ⟨⟨_, h1⟩, h4, h3⟩
set_option maxRecDepth 100000 in
set_option maxHeartbeats 2000000 in
theorem implOutText_any (v : Value) (m : Md) (l : List OutD) (w : World) (H : SlAt OutAt 2 w m v l) (hm : m.hi ≤ w.heap.size) (hT : Tabs w) :
    Calls Tryd.prog 13 #[v] w fun e w' => e = .returned (.tuple #[.string (outA l).1, .int .i64 (outA l).2]) ∧ Below w.heap.size w w' := by
  obtain ⟨a, c, rfl, hr⟩ := H
  have HR := hide hr
  have HM := hide hm
  have HT := hide hT
  obtain ⟨n, hn⟩ : ∃ n, l.length = n := ⟨_, rfl⟩
  have HN := hide hn
  obtain ⟨T, hA⟩ : ∃ T, outA l = T := ⟨_, rfl⟩
  have HA := hide hA
  rw [hn, hA]
  clear hr hm hT hn hA
  by_cases h0 : 4096 < n
  · have i0 : (4096 : Int) < n := by omega
    obtain rfl : T = (⟨#[]⟩, 2) := by rw [← HA.out]; exact outA_long (by rw [HN.out]; exact h0)
    go_enter Tryd.func13, Tryd.ntmps13
    go_wp2
    go_ret2
    exact ⟨rfl, Below.refl _ _⟩
  · have i0 : ¬ (4096 : Int) < n := by omega
    have HBad : Hid (∀ k (hk : k < l.length), outB l[k] = false → T = (⟨#[]⟩, 1)) := hide fun k hk hb => by rw [← HA.out]; exact outA_bad (by rw [HN.out]; exact h0) hk hb
    have HAll : Hid (OutUp l n → T = (⟨(linesU l).toArray⟩, 0)) := hide fun h => by rw [← HA.out]; exact outA_all (by rw [HN.out]; exact h0) (by rw [HN.out]; exact h)
    go_enter Tryd.func13, Tryd.ntmps13
    go_wp2_with fail
    go_loopg [12] n (fun q iv wr => ∃ k : Nat, iv = .int .i64 k ∧ k ≤ n ∧ q = n - k ∧ Hid (OutUp l k) ∧ Hid (Bld w.heap.size w.heap.size (nb (linesU (l.take k))) wr) ∧ Hid (Below w.heap.size w wr))
    case atStart => exact ⟨0, rfl, by omega, rfl, hide (fun j _ h => absurd h (by omega)), hide (Bld.fresh w), hide ((Below.refl _ _).alloc (Nat.le_refl _) _)⟩
    case round =>
      obtain ⟨k, rfl, hk, hq, HU, HBl, HB⟩ := hrel
      have HQ := hide hq
      clear hq
      by_cases hp : k < n
      · have i1 : (k : Int) < n := by omega
        have hkl : k < l.length := by rw [HN.out]; exact hp
        have hbad := HBad.out k hkl
        have hstep := HU.out.step hkl
        have htake := linesU_take hkl
        obtain ⟨b, o, rfl, hb1, hb2, -, he⟩ := rows_on OutAt.stays HR.out (HB.out.mono HM.out) k hkl
        have hcap : k ≤ c := by have := hb1.2; omega
        obtain ⟨x, hx⟩ : ∃ x, l[k] = x := ⟨_, rfl⟩
        rw [hx] at he hbad hstep htake
        have HBd := hide hbad
        have HSt := hide hstep
        have HTk := hide htake
        clear hx hb1 hbad hstep htake
        obtain ⟨t, vv⟩ := x
        obtain ⟨⟨c0, c1⟩, ⟨r0, r1⟩⟩ := he
        simp only [Nat.add_zero] at c0 c1 r1
        have HV := hide r1
        have hsz := HB.out.size
        have hlen : (linesU (l.take k)).length ≤ 21 * k := HU.out.len (by rw [HN.out]; omega)
        obtain ⟨wa, hwa⟩ : ∃ wa, wa = wr.alloc (.cells #[.int .i64 t, .int .i64 vv] 61) := ⟨_, rfl⟩
        have bA : Below wr.heap.size wr wa := by rw [hwa]; exact (Below.refl _ _).alloc (Nat.le_refl _) _
        have HVf : Hid (∀ w1, Calls Tryd.prog 32 #[.int .i64 t, .int .i64 vv] w1 fun e w' => e = .returned (.bool (outB ⟨t, vv⟩)) ∧ w1 = w') := hide fun w1 => valueFits_any ⟨t, vv⟩ w1
        clear r0 r1
        cases hb : outB ⟨t, vv⟩ with
        | false =>
          have HF := hide (HBd.out hb)
          go_wp2_with (go_at_call 32; refine (HVf.out _).mono ?_; rintro e w5 ⟨rfl, rfl⟩; rw [hb])
          go_ret2
          exact ⟨by rw [HF.out]; rfl, HB.out.alloc hsz _⟩
        | true =>
          have HS := hide (outT_size ⟨t, vv⟩ HV.out hb)
          have HTx : Hid (Calls Tryd.prog 34 #[.agg #[.int .i64 t, .int .i64 vv]] wa fun e w' => e = .returned (.string (outT ⟨t, vv⟩)) ∧ Below wa.heap.size wa w') := hide (outText_any ⟨t, vv⟩ HV.out hb wa ((HT.out.on HB.out).on bA))
          have HUp := hide (HSt.out HV.out hb)
          have HWS : Hid (∀ w5, Below wr.heap.size wr w5 → Calls Tryd.prog 33 #[.pointer (some ⟨w.heap.size, 0, none⟩), .string (outT ⟨t, vv⟩ ++ ⟨#[10]⟩)] w5 fun e w' => (∃ z : Int, e = .returned (.tuple #[.int .i64 z, .nilIface])) ∧ Bld w.heap.size w.heap.size (nb (linesU (l.take (k + 1)))) w' ∧ Below w.heap.size w5 w') := hide fun w5 b5 => by
            rw [HTk.out]
            exact writeLine_any w.heap.size w.heap.size _ ⟨t, vv⟩ w5 (HBl.out.on b5) (by omega) HS.out (Nat.le_trans hsz b5.size)
          generalize outT ⟨t, vv⟩ = tx at *
          have hs3 : ¬ 9223372036854775807 < tx.size + 1 := by
            have := HS.out
            omega
          clear HTk HSt HBd
          go_wp2_with (first
            | (go_at_call 32; refine (HVf.out _).mono ?_; rintro e w5 ⟨rfl, rfl⟩; rw [hb])
            | (go_at_call 34; rw [← hwa]; refine HTx.out.mono ?_; rintro e w6 ⟨rfl, b6⟩; have b7 := bA.trans (b6.mono bA.size))
            | (go_at_call 33; refine (HWS.out _ b7).mono ?_; rintro e w8 ⟨⟨z, rfl⟩, hbl, b8⟩))
          go_roundg (n - (k + 1))
          case measure => rw [HQ.out]; omega
          case rel => exact ⟨k + 1, by go_num, by omega, rfl, HUp, hide hbl, hide (HB.out.trans ((b7.mono hsz).trans b8))⟩
      · have i1 : ¬ (k : Int) < n := by omega
        obtain rfl : k = n := by omega
        have HF := hide (HAll.out HU.out)
        have HE : Hid (linesU (l.take k) = linesU l) := hide (by rw [List.take_of_length_le (by rw [HN.out]; omega)])
        have HSr : Hid (Calls Tryd.prog 35 #[.pointer (some ⟨w.heap.size, 0, none⟩)] wr fun e w' => e = .returned (.string ⟨(linesU l).toArray⟩) ∧ Below w.heap.size wr w') := hide (by
          have := HBl.out
          unfold Bld at this
          rw [bc_nb, HE.out] at this
          exact Tryd.Builder_String_any w.heap.size w.heap.size (linesU l) wr this HB.out.size)
        generalize (⟨(linesU l).toArray⟩ : ByteArray) = tx at *
        go_wp2_with (go_at_call 35; refine HSr.out.mono ?_; rintro e w6 ⟨rfl, b6⟩)
        go_ret2
        exact ⟨by rw [HF.out]; rfl, HB.out.trans b6⟩
end Go.Proofs.YtlmkpngaiilldaaDoor
