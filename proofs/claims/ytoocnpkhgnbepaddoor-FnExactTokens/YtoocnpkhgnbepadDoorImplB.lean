/- The program's remarks. -/
import Derived.Test.YtoocnpkhgnbepadDoorImplA
namespace Go.Proofs.YtoocnpkhgnbepadDoor
open Go.RowKit Go.PlainAid

/-- Where the scan of a remark stands: ahead of its second byte, or at least one deep. -/
def RemAt (r : ByteArray) (pos : Nat) (last : Int) (d : Nat) : Prop := pos ≤ r.size ∧ d ≤ pos ∧ remB r 0 0 0 = remB r pos last d ∧ ((pos = 0 ∧ last = 0 ∧ d = 0) ∨ (pos = 1 ∧ last = 40 ∧ d = 0) ∨ 1 ≤ d)

set_option maxHeartbeats 1600000 in
theorem remarkLength_any (r : ByteArray) (w : World) (hs : r.size ≤ maxLen) (b0 : bt r 0 = 40) (b1 : bt r 1 = 42) : Calls Tryd.prog 24 #[.string r] w fun e w' => e = .returned (.int .i64 (remB r 0 0 0)) ∧ Below w.heap.size w w' := by
  unfold maxLen at hs
  have B0 : Hid (bt r 0 = 40) := b0
  have B1 : Hid (bt r 1 = 42) := b1
  clear b0 b1
  go_enter Tryd.func24, Tryd.ntmps24
  go_wp2
  go_loopw [3, 4] (fun o l w' => ∃ (pos : Nat) (last : Int) (d : Nat), w' = w.iter r pos ∧ o = .int .i64 d ∧ l = .int .i32 last ∧ Hid (RemAt r pos last d)) (fun _ _ w' => r.size - w'.iterPos w.heap.size)
  case atStart => exact ⟨0, 0, 0, rfl, rfl, rfl, Nat.zero_le _, Nat.le_refl _, rfl, .inl ⟨rfl, rfl, rfl⟩⟩
  case round =>
    obtain ⟨pos, last, d, rfl, rfl, rfl, Hat⟩ := hrel
    have hd : d ≤ pos := Hat.out.2.1
    by_cases hp : pos < r.size
    · by_cases hlow : bt r pos < 128
      · have hnx := next_low (P := Tryd.prog) w r pos hp hlow
        generalize hx : bt r pos = x at *
        have Hx : Hid (bt r pos = x) := hx
        clear hx
        by_cases c1 : last = 40 ∧ x = 42
        · obtain ⟨rfl, rfl⟩ := c1
          go_wp2
          go_roundw
          case rel =>
            refine ⟨pos + 1, 0, d + 1, rfl, by go_num, rfl, by omega, by omega, Hat.out.2.2.1.trans (remB_open hp Hx.out), .inr (.inr (by omega))⟩
          case measure => simp; omega
        · by_cases c2 : last = 42 ∧ x = 41
          · obtain ⟨rfl, rfl⟩ := c2
            have hd1 : 1 ≤ d := by
              rcases Hat.out.2.2.2 with q | q | q
              · omega
              · omega
              · exact q
            by_cases c3 : d = 1
            · subst c3
              go_wp2
              go_ret
              exact ⟨ret_int (by rw [Hat.out.2.2.1, remB_shut hp Hx.out, if_pos rfl]; simp), iter_below _ _ _⟩
            · have c4 : ((d : Int) - 1 == 0) = false := by simp; omega
              go_wp2
              go_roundw
              case rel =>
                refine ⟨pos + 1, 41, d - 1, rfl, by congr 1; omega, rfl, by omega, by omega, Hat.out.2.2.1.trans ?_, .inr (.inr (by omega))⟩
                rw [remB_shut hp Hx.out, if_neg c3]
              case measure => simp; omega
          · have hnew : RemAt r (pos + 1) x d := by
              obtain ⟨q1, q2, q3, q4⟩ := Hat.out
              refine ⟨by omega, by omega, q3.trans ?_, ?_⟩
              · rw [remB_pass hp (by rw [Hx.out]; exact c1) (by rw [Hx.out]; exact c2), Hx.out]
              · rcases q4 with ⟨rfl, rfl, rfl⟩ | ⟨rfl, rfl, rfl⟩ | q
                · exact .inr (.inl ⟨rfl, by rw [← Hx.out]; exact B0.out, rfl⟩)
                · exact absurd ⟨rfl, by rw [← Hx.out]; exact B1.out⟩ c1
                · exact .inr (.inr q)
            have Hnew : Hid (RemAt r (pos + 1) x d) := hnew
            clear hnew
            by_cases l40 : last = 40
            · have x42 : (x == 42) = false := by simp; exact fun e => c1 ⟨l40, e⟩
              subst l40
              go_wp2
              go_roundw
              case rel => exact ⟨pos + 1, x, d, rfl, rfl, rfl, Hnew⟩
              case measure => simp; omega
            · have l40' : (last == 40) = false := by simp [l40]
              by_cases l42 : last = 42
              · have x41 : (x == 41) = false := by simp; exact fun e => c2 ⟨l42, e⟩
                subst l42
                go_wp2
                go_roundw
                case rel => exact ⟨pos + 1, x, d, rfl, rfl, rfl, Hnew⟩
                case measure => simp; omega
              · have l42' : (last == 42) = false := by simp [l42]
                go_wp2
                go_roundw
                case rel => exact ⟨pos + 1, x, d, rfl, rfl, rfl, Hnew⟩
                case measure => simp; omega
      · have hnx : ∀ ty, (Instr.next (.pointer (some ⟨w.heap.size, 0, none⟩)) true ty).run Tryd.prog (w.iter r pos) = _ := fun ty => run_next_any w r pos ty hp
        have hh := high_rune r pos hp hlow
        obtain ⟨u1, u2, u3⟩ := decode_run r pos hp hlow
        have hnew : RemAt r (pos + (Utf8.decode r pos).2) ((Utf8.decode r pos).1 : Int) d := by
          obtain ⟨q1, q2, q3, q4⟩ := Hat.out
          obtain ⟨n, hn⟩ : ∃ n, (Utf8.decode r pos).2 = n + 1 := ⟨(Utf8.decode r pos).2 - 1, by omega⟩
          refine ⟨u2, by omega, q3.trans ?_, ?_⟩
          · rw [hn] at u2 u3 ⊢
            exact remB_high r n pos last d _ u3 u2 (by omega)
          · rcases q4 with ⟨rfl, rfl, rfl⟩ | ⟨rfl, rfl, rfl⟩ | q
            · exact absurd (by rw [B0.out]; decide) hlow
            · exact absurd (by rw [B1.out]; decide) hlow
            · exact .inr (.inr q)
        have Hnew : Hid (RemAt r (pos + (Utf8.decode r pos).2) ((Utf8.decode r pos).1 : Int) d) := hnew
        clear hnew u3
        generalize ((Utf8.decode r pos).1 : Int) = x at *
        have x42 : (x == 42) = false := by simp; omega
        have x41 : (x == 41) = false := by simp; omega
        by_cases l40 : last = 40
        · subst l40
          go_wp2
          go_roundw
          case rel => exact ⟨_, x, d, rfl, rfl, rfl, Hnew⟩
          case measure => simp; omega
        · have l40' : (last == 40) = false := by simp [l40]
          by_cases l42 : last = 42
          · subst l42
            go_wp2
            go_roundw
            case rel => exact ⟨_, x, d, rfl, rfl, rfl, Hnew⟩
            case measure => simp; omega
          · have l42' : (last == 42) = false := by simp [l42]
            go_wp2
            go_roundw
            case rel => exact ⟨_, x, d, rfl, rfl, rfl, Hnew⟩
            case measure => simp; omega
    · have hnx : ∀ ty, (Instr.next (.pointer (some ⟨w.heap.size, 0, none⟩)) true ty).run Tryd.prog (w.iter r pos) = _ := fun ty => run_next_end w r pos ty hp
      go_wp2
      go_ret
      exact ⟨ret_int (by rw [Hat.out.2.2.1, remB_end (by omega)]; rfl), iter_below _ _ _⟩
end Go.Proofs.YtoocnpkhgnbepadDoor
