/- CharText at every number, by both ways. -/
import Derived.Test.YtapcogecimmkbaaDoorCharText
namespace Go.Proofs.YtapcogecimmkbaaDoor
open Go.RowKit Go.PlainAid

theorem specCharText_any (c : Int) (w : World) : Calls Tryd.prog 7 #[.int .i64 c] w fun e w' => e = .returned (.tuple #[.string (if charB c = true then charText c else ⟨#[]⟩), .int .i64 (if charB c = true then 0 else 11)]) ∧ Below w.heap.size w w' := by
  cases h : charB c
  · go_enter Tryd.func7, Tryd.ntmps7
    go_wp2_with (go_at_call 20; refine (charOK_spec _ _).mono ?_; rintro e w' ⟨rfl, rfl⟩)
    go_ret2
    exact ⟨rfl, Below.refl _ _⟩
  · have H : Hid (charB c = true) := h
    go_enter Tryd.func7, Tryd.ntmps7
    go_wp2_with (first | (go_at_call 20; refine (charOK_spec _ _).mono ?_; rintro e w' ⟨rfl, rfl⟩) | (go_at_call 21; refine (l01Char_any c _ H.out).mono ?_; rintro e w' ⟨rfl, bel⟩))
    go_ret2
    exact ⟨rfl, bel⟩

theorem implCharText_any (c : Int) (w : World) (hd : w.cell? ⟨7, 15, none⟩ = some (.int .u8 4)) :
    Calls Tryd.prog 6 #[.int .i64 c] w fun e w' => e = .returned (.tuple #[.string (if charB c = true then charText c else ⟨#[]⟩), .int .i64 (if charB c = true then 0 else 11)]) ∧ Below w.heap.size w w' := by
  cases h : charB c
  · clear hd
    go_enter Tryd.func6, Tryd.ntmps6
    go_wp2_with (go_at_call 9; refine (charOK_impl _ _).mono ?_; rintro e w' ⟨rfl, rfl⟩)
    go_ret2
    exact ⟨rfl, Below.refl _ _⟩
  · refine (implChar_any c w h hd).mono ?_
    rintro e w' ⟨rfl, bel⟩
    exact ⟨by simp, bel⟩

end Go.Proofs.YtapcogecimmkbaaDoor
