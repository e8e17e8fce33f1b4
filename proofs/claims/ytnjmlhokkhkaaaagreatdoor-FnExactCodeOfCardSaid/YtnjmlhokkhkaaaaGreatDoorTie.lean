/-
  DERIVED. GIVEN WITH THE SEED: THE PROGRAM's TIES (one call each: nine closed facts by the kernel) AND EACH ROW's TIE, after the 31st guide's Derived/Test/Toyas{Tie, Card}.lean. No idea stands in it: it is a product of the set-up. Laid BY PROGRAM, IN A SANDBOX (cutbox-door.mjs). By AI agents, Wed Nov 11 2026. No macro, syntax, notation, axiom, sorry.
-/
import Derived.Test.YtnjmlhokkhkaaaaGreatDoorRows
import Derived.LaidByTextLater
import Derived.SevenTiedAt
import Derived.LaidSub
import Derived.LaidOnce
namespace Go.Proofs.YtnjmlhokkhkaaaaGreatDoor
open Go
set_option maxRecDepth 100000
theorem seatTie1 : Tryz.prog.laidByTextLater [("errors.errorType", Rows.laid_errors_errorType), ("loop.example/g00823/impl.errBad", Rows.laid_loop_example_g00823_impl_errBad), ("loop.example/g00823/impl.errMoves", Rows.laid_loop_example_g00823_impl_errMoves), ("loop.example/g00823/impl.errLost", Rows.laid_loop_example_g00823_impl_errLost), ("loop.example/g00823/impl.errTwice", Rows.laid_loop_example_g00823_impl_errTwice), ("loop.example/g00823/impl.errLoose", Rows.laid_loop_example_g00823_impl_errLoose), ("loop.example/g00823/impl.errLarge", Rows.laid_loop_example_g00823_impl_errLarge)] [.handle, .sentinel, .sentinel, .sentinel, .sentinel, .sentinel, .sentinel] true :=
  Program.laidByTextLater_by_one 130 8 2 (by kernel_rfl) (by kernel_rfl) (by kernel_rfl) (by kernel_rfl) (by kernel_rfl) (by kernel_rfl) (fun _ _ => by kernel_rfl)
theorem noOwnUnsafe : Tryz.pinned.checked.prog.headLifts.contains "ownunsafe" = false := by kernel_rfl
theorem tie : Tryz.prog.laidByTextLater [("errors.errorType", Rows.laid_errors_errorType), ("loop.example/g00823/impl.errBad", Rows.laid_loop_example_g00823_impl_errBad), ("loop.example/g00823/impl.errMoves", Rows.laid_loop_example_g00823_impl_errMoves), ("loop.example/g00823/impl.errLost", Rows.laid_loop_example_g00823_impl_errLost), ("loop.example/g00823/impl.errTwice", Rows.laid_loop_example_g00823_impl_errTwice), ("loop.example/g00823/impl.errLoose", Rows.laid_loop_example_g00823_impl_errLoose), ("loop.example/g00823/impl.errLarge", Rows.laid_loop_example_g00823_impl_errLarge)] [.handle, .sentinel, .sentinel, .sentinel, .sentinel, .sentinel, .sentinel] true :=
  Program.laidByTextLater.sub seatTie1 ["errors.errorType", "loop.example/g00823/impl.errBad", "loop.example/g00823/impl.errMoves", "loop.example/g00823/impl.errLost", "loop.example/g00823/impl.errTwice", "loop.example/g00823/impl.errLoose", "loop.example/g00823/impl.errLarge"] (by kernel_rfl) (by kernel_rfl)
theorem fnStrict_row_tie : Rows.fnStrictRow.laidByTextAt .later Tryz.pinned [.handle, .sentinel, .sentinel, .sentinel, .sentinel, .sentinel, .sentinel] true :=
  OpenClaim.laidByTextAt_later rfl rfl tie noOwnUnsafe
theorem fnExactCodeOf_row_tie : Rows.fnExactCodeOfRow.laidByTextAt .later Tryz.pinned [.handle, .sentinel, .sentinel, .sentinel, .sentinel, .sentinel, .sentinel] true :=
  OpenClaim.laidByTextAt_later rfl rfl tie noOwnUnsafe
theorem fnStrictUpto_row_tie : Rows.fnStrictUptoRow.laidByTextAt .later Tryz.pinned [.handle, .sentinel, .sentinel, .sentinel, .sentinel, .sentinel, .sentinel] true :=
  OpenClaim.laidByTextAt_later rfl rfl tie noOwnUnsafe
theorem fnExactCodeOfUpto_row_tie : Rows.fnExactCodeOfUptoRow.laidByTextAt .later Tryz.pinned [.handle, .sentinel, .sentinel, .sentinel, .sentinel, .sentinel, .sentinel] true :=
  OpenClaim.laidByTextAt_later rfl rfl tie noOwnUnsafe
end Go.Proofs.YtnjmlhokkhkaaaaGreatDoor
