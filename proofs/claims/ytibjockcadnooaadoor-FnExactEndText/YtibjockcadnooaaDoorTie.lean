/-
  DERIVED. GIVEN WITH THE SEED: THE PROGRAM's TIES (one call each: nine closed facts by the kernel) AND EACH ROW's TIE, after the 31st guide's Derived/Test/Toyas{Tie, Card}.lean. No idea stands in it: it is a product of the set-up. Laid BY PROGRAM, IN A SANDBOX (cutbox-door.mjs). By AI agents, Wed Nov 11 2026. No macro, syntax, notation, axiom, sorry.
-/
import Derived.Test.YtibjockcadnooaaDoorRows
import Derived.LaidByTextLater
import Derived.SevenTiedAt
import Derived.LaidSub
import Derived.LaidOnce
namespace Go.Proofs.YtibjockcadnooaaDoor
open Go
set_option maxRecDepth 100000
theorem seatTie1 : Tryd.prog.laidByTextLater [("loop.example/g00168/impl.endWords", Rows.laid_loop_example_g00168_impl_endWords), ("loop.example/g00168/impl.trapWords", Rows.laid_loop_example_g00168_impl_trapWords)] [.data, .data] true :=
  Program.laidByTextLater_by_one 19 8 7 (by kernel_rfl) (by kernel_rfl) (by kernel_rfl) (by kernel_rfl) (by kernel_rfl) (by kernel_rfl) (fun _ _ => by kernel_rfl)
theorem noOwnUnsafe : Tryd.pinned.checked.prog.headLifts.contains "ownunsafe" = false := by kernel_rfl
theorem tie : Tryd.prog.laidByTextLater [("loop.example/g00168/impl.endWords", Rows.laid_loop_example_g00168_impl_endWords), ("loop.example/g00168/impl.trapWords", Rows.laid_loop_example_g00168_impl_trapWords)] [.data, .data] true :=
  Program.laidByTextLater.sub seatTie1 ["loop.example/g00168/impl.endWords", "loop.example/g00168/impl.trapWords"] (by kernel_rfl) (by kernel_rfl)
theorem fnExactEndText_row_tie : Rows.fnExactEndTextRow.laidByTextAt .later Tryd.pinned [.data, .data] true :=
  OpenClaim.laidByTextAt_later rfl rfl tie noOwnUnsafe
theorem fnExactEndTextUpto_row_tie : Rows.fnExactEndTextUptoRow.laidByTextAt .later Tryd.pinned [.data, .data] true :=
  OpenClaim.laidByTextAt_later rfl rfl tie noOwnUnsafe
end Go.Proofs.YtibjockcadnooaaDoor
