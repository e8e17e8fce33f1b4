/-
  DERIVED. GIVEN WITH THE SEED: THE PROGRAM's TIES (one call each: nine closed facts by the kernel) AND EACH ROW's TIE, after the 31st guide's Derived/Test/Toyas{Tie, Card}.lean. No idea stands in it: it is a product of the set-up. Laid BY PROGRAM, IN A SANDBOX (cutbox-door.mjs). By AI agents, Wed Nov 11 2026. No macro, syntax, notation, axiom, sorry.
-/
import Derived.Test.YtbghcoihndlihaaDoorRows
import Derived.LaidByTextLater
import Derived.SevenTiedAt
import Derived.LaidSub
import Derived.LaidOnce
namespace Go.Proofs.YtbghcoihndlihaaDoor
open Go
set_option maxRecDepth 100000
theorem seatTie1 : Tryd.prog.laidByTextLater [("loop.example/g00823/impl.errBad", Rows.laid_loop_example_g00823_impl_errBad), ("loop.example/g00823/impl.errLost", Rows.laid_loop_example_g00823_impl_errLost), ("loop.example/g00823/impl.errTwice", Rows.laid_loop_example_g00823_impl_errTwice), ("loop.example/g00823/impl.errLoose", Rows.laid_loop_example_g00823_impl_errLoose)] [.sentinel, .sentinel, .sentinel, .sentinel] true :=
  Program.laidByTextLater_by_one 85 8 2 (by kernel_rfl) (by kernel_rfl) (by kernel_rfl) (by kernel_rfl) (by kernel_rfl) (by kernel_rfl) (fun _ _ => by kernel_rfl)
theorem noOwnUnsafe : Tryd.pinned.checked.prog.headLifts.contains "ownunsafe" = false := by kernel_rfl
theorem tie : Tryd.prog.laidByTextLater [("loop.example/g00823/impl.errBad", Rows.laid_loop_example_g00823_impl_errBad), ("loop.example/g00823/impl.errLost", Rows.laid_loop_example_g00823_impl_errLost), ("loop.example/g00823/impl.errTwice", Rows.laid_loop_example_g00823_impl_errTwice), ("loop.example/g00823/impl.errLoose", Rows.laid_loop_example_g00823_impl_errLoose)] [.sentinel, .sentinel, .sentinel, .sentinel] true :=
  Program.laidByTextLater.sub seatTie1 ["loop.example/g00823/impl.errBad", "loop.example/g00823/impl.errLost", "loop.example/g00823/impl.errTwice", "loop.example/g00823/impl.errLoose"] (by kernel_rfl) (by kernel_rfl)
theorem fnExactStrict_row_tie : Rows.fnExactStrictRow.laidByTextAt .later Tryd.pinned [.sentinel, .sentinel, .sentinel, .sentinel] true :=
  OpenClaim.laidByTextAt_later rfl rfl tie noOwnUnsafe
theorem fnExactStrictUpto_row_tie : Rows.fnExactStrictUptoRow.laidByTextAt .later Tryd.pinned [.sentinel, .sentinel, .sentinel, .sentinel] true :=
  OpenClaim.laidByTextAt_later rfl rfl tie noOwnUnsafe
end Go.Proofs.YtbghcoihndlihaaDoor
