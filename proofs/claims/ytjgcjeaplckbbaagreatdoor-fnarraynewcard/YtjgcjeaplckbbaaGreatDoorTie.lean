/-
  DERIVED. GIVEN WITH THE SEED: THE PROGRAM's TIES (one call each: nine closed facts by the kernel) AND EACH ROW's TIE, after the 31st guide's Derived/Test/Toyas{Tie, Card}.lean. No idea stands in it: it is a product of the set-up. Laid BY PROGRAM, IN A SANDBOX (cutbox-door.mjs). By AI agents, Wed Nov 11 2026. No macro, syntax, notation, axiom, sorry.
-/
import Derived.Test.YtjgcjeaplckbbaaGreatDoorRows
import Derived.LaidByTextLater
import Derived.SevenTiedAt
import Derived.LaidSub
import Derived.LaidOnce
namespace Go.Proofs.YtjgcjeaplckbbaaGreatDoor
open Go
set_option maxRecDepth 100000
theorem seatTie1 : Tryz.prog.laidByTextLater [("errors.errorType", Rows.laid_errors_errorType), ("loop.example/g00374/impl.errForm", Rows.laid_loop_example_g00374_impl_errForm), ("loop.example/g00374/impl.errDown", Rows.laid_loop_example_g00374_impl_errDown), ("loop.example/g00374/impl.errUp", Rows.laid_loop_example_g00374_impl_errUp), ("loop.example/g00374/impl.errLost", Rows.laid_loop_example_g00374_impl_errLost), ("loop.example/g00374/impl.errWhole", Rows.laid_loop_example_g00374_impl_errWhole), ("loop.example/g00374/impl.errWorn", Rows.laid_loop_example_g00374_impl_errWorn), ("loop.example/g00374/impl.errStuck", Rows.laid_loop_example_g00374_impl_errStuck), ("loop.example/g00374/impl.errPower", Rows.laid_loop_example_g00374_impl_errPower)] [.handle, .sentinel, .sentinel, .sentinel, .sentinel, .sentinel, .sentinel, .sentinel, .sentinel] true :=
  Program.laidByTextLater_by_one 168 8 2 (by kernel_rfl) (by kernel_rfl) (by kernel_rfl) (by kernel_rfl) (by kernel_rfl) (by kernel_rfl) (fun _ _ => by kernel_rfl)
theorem noOwnUnsafe : Tryz.pinned.checked.prog.headLifts.contains "ownunsafe" = false := by kernel_rfl
theorem tie : Tryz.prog.laidByTextLater [("loop.example/g00374/impl.errForm", Rows.laid_loop_example_g00374_impl_errForm), ("loop.example/g00374/impl.errDown", Rows.laid_loop_example_g00374_impl_errDown), ("loop.example/g00374/impl.errUp", Rows.laid_loop_example_g00374_impl_errUp), ("loop.example/g00374/impl.errLost", Rows.laid_loop_example_g00374_impl_errLost), ("loop.example/g00374/impl.errWhole", Rows.laid_loop_example_g00374_impl_errWhole), ("loop.example/g00374/impl.errWorn", Rows.laid_loop_example_g00374_impl_errWorn), ("loop.example/g00374/impl.errStuck", Rows.laid_loop_example_g00374_impl_errStuck), ("loop.example/g00374/impl.errPower", Rows.laid_loop_example_g00374_impl_errPower)] [.sentinel, .sentinel, .sentinel, .sentinel, .sentinel, .sentinel, .sentinel, .sentinel] true :=
  Program.laidByTextLater.sub seatTie1 ["loop.example/g00374/impl.errForm", "loop.example/g00374/impl.errDown", "loop.example/g00374/impl.errUp", "loop.example/g00374/impl.errLost", "loop.example/g00374/impl.errWhole", "loop.example/g00374/impl.errWorn", "loop.example/g00374/impl.errStuck", "loop.example/g00374/impl.errPower"] (by kernel_rfl) (by kernel_rfl)
theorem fnArrayNew_row_tie : Rows.fnArrayNewRow.laidByTextAt .later Tryz.pinned [.sentinel, .sentinel, .sentinel, .sentinel, .sentinel, .sentinel, .sentinel, .sentinel] true :=
  OpenClaim.laidByTextAt_later rfl rfl tie noOwnUnsafe
theorem fnStripes_row_tie : Rows.fnStripesRow.laidByTextAt .later Tryz.pinned [.sentinel, .sentinel, .sentinel, .sentinel, .sentinel, .sentinel, .sentinel, .sentinel] true :=
  OpenClaim.laidByTextAt_later rfl rfl tie noOwnUnsafe
theorem fnExactBlockAt_row_tie : Rows.fnExactBlockAtRow.laidByTextAt .later Tryz.pinned [.sentinel, .sentinel, .sentinel, .sentinel, .sentinel, .sentinel, .sentinel, .sentinel] true :=
  OpenClaim.laidByTextAt_later rfl rfl tie noOwnUnsafe
theorem fnExactStripeOk_row_tie : Rows.fnExactStripeOkRow.laidByTextAt .later Tryz.pinned [.sentinel, .sentinel, .sentinel, .sentinel, .sentinel, .sentinel, .sentinel, .sentinel] true :=
  OpenClaim.laidByTextAt_later rfl rfl tie noOwnUnsafe
theorem tie2 : Tryz.prog.laidByTextLater [("errors.errorType", Rows.laid_errors_errorType), ("loop.example/g00374/impl.errForm", Rows.laid_loop_example_g00374_impl_errForm), ("loop.example/g00374/impl.errDown", Rows.laid_loop_example_g00374_impl_errDown), ("loop.example/g00374/impl.errUp", Rows.laid_loop_example_g00374_impl_errUp), ("loop.example/g00374/impl.errLost", Rows.laid_loop_example_g00374_impl_errLost), ("loop.example/g00374/impl.errWhole", Rows.laid_loop_example_g00374_impl_errWhole), ("loop.example/g00374/impl.errWorn", Rows.laid_loop_example_g00374_impl_errWorn), ("loop.example/g00374/impl.errStuck", Rows.laid_loop_example_g00374_impl_errStuck), ("loop.example/g00374/impl.errPower", Rows.laid_loop_example_g00374_impl_errPower)] [.handle, .sentinel, .sentinel, .sentinel, .sentinel, .sentinel, .sentinel, .sentinel, .sentinel] true :=
  Program.laidByTextLater.sub seatTie1 ["errors.errorType", "loop.example/g00374/impl.errForm", "loop.example/g00374/impl.errDown", "loop.example/g00374/impl.errUp", "loop.example/g00374/impl.errLost", "loop.example/g00374/impl.errWhole", "loop.example/g00374/impl.errWorn", "loop.example/g00374/impl.errStuck", "loop.example/g00374/impl.errPower"] (by kernel_rfl) (by kernel_rfl)
theorem fnArrayDone_row_tie : Rows.fnArrayDoneRow.laidByTextAt .later Tryz.pinned [.handle, .sentinel, .sentinel, .sentinel, .sentinel, .sentinel, .sentinel, .sentinel, .sentinel] true :=
  OpenClaim.laidByTextAt_later rfl rfl tie2 noOwnUnsafe
theorem fnLost_row_tie : Rows.fnLostRow.laidByTextAt .later Tryz.pinned [.handle, .sentinel, .sentinel, .sentinel, .sentinel, .sentinel, .sentinel, .sentinel, .sentinel] true :=
  OpenClaim.laidByTextAt_later rfl rfl tie2 noOwnUnsafe
theorem fnModel_row_tie : Rows.fnModelRow.laidByTextAt .later Tryz.pinned [.handle, .sentinel, .sentinel, .sentinel, .sentinel, .sentinel, .sentinel, .sentinel, .sentinel] true :=
  OpenClaim.laidByTextAt_later rfl rfl tie2 noOwnUnsafe
theorem fnPlayed_row_tie : Rows.fnPlayedRow.laidByTextAt .later Tryz.pinned [.handle, .sentinel, .sentinel, .sentinel, .sentinel, .sentinel, .sentinel, .sentinel, .sentinel] true :=
  OpenClaim.laidByTextAt_later rfl rfl tie2 noOwnUnsafe
theorem fnTwice_row_tie : Rows.fnTwiceRow.laidByTextAt .later Tryz.pinned [.handle, .sentinel, .sentinel, .sentinel, .sentinel, .sentinel, .sentinel, .sentinel, .sentinel] true :=
  OpenClaim.laidByTextAt_later rfl rfl tie2 noOwnUnsafe
theorem fnArrayNewUpto_row_tie : Rows.fnArrayNewUptoRow.laidByTextAt .later Tryz.pinned [.sentinel, .sentinel, .sentinel, .sentinel, .sentinel, .sentinel, .sentinel, .sentinel] true :=
  OpenClaim.laidByTextAt_later rfl rfl tie noOwnUnsafe
theorem fnArrayDoneUpto_row_tie : Rows.fnArrayDoneUptoRow.laidByTextAt .later Tryz.pinned [.handle, .sentinel, .sentinel, .sentinel, .sentinel, .sentinel, .sentinel, .sentinel, .sentinel] true :=
  OpenClaim.laidByTextAt_later rfl rfl tie2 noOwnUnsafe
theorem fnStripesUpto_row_tie : Rows.fnStripesUptoRow.laidByTextAt .later Tryz.pinned [.sentinel, .sentinel, .sentinel, .sentinel, .sentinel, .sentinel, .sentinel, .sentinel] true :=
  OpenClaim.laidByTextAt_later rfl rfl tie noOwnUnsafe
theorem fnLostUpto_row_tie : Rows.fnLostUptoRow.laidByTextAt .later Tryz.pinned [.handle, .sentinel, .sentinel, .sentinel, .sentinel, .sentinel, .sentinel, .sentinel, .sentinel] true :=
  OpenClaim.laidByTextAt_later rfl rfl tie2 noOwnUnsafe
theorem fnModelUpto_row_tie : Rows.fnModelUptoRow.laidByTextAt .later Tryz.pinned [.handle, .sentinel, .sentinel, .sentinel, .sentinel, .sentinel, .sentinel, .sentinel, .sentinel] true :=
  OpenClaim.laidByTextAt_later rfl rfl tie2 noOwnUnsafe
theorem fnPlayedUpto_row_tie : Rows.fnPlayedUptoRow.laidByTextAt .later Tryz.pinned [.handle, .sentinel, .sentinel, .sentinel, .sentinel, .sentinel, .sentinel, .sentinel, .sentinel] true :=
  OpenClaim.laidByTextAt_later rfl rfl tie2 noOwnUnsafe
theorem fnTwiceUpto_row_tie : Rows.fnTwiceUptoRow.laidByTextAt .later Tryz.pinned [.handle, .sentinel, .sentinel, .sentinel, .sentinel, .sentinel, .sentinel, .sentinel, .sentinel] true :=
  OpenClaim.laidByTextAt_later rfl rfl tie2 noOwnUnsafe
theorem fnExactBlockAtUpto_row_tie : Rows.fnExactBlockAtUptoRow.laidByTextAt .later Tryz.pinned [.sentinel, .sentinel, .sentinel, .sentinel, .sentinel, .sentinel, .sentinel, .sentinel] true :=
  OpenClaim.laidByTextAt_later rfl rfl tie noOwnUnsafe
theorem fnExactStripeOkUpto_row_tie : Rows.fnExactStripeOkUptoRow.laidByTextAt .later Tryz.pinned [.sentinel, .sentinel, .sentinel, .sentinel, .sentinel, .sentinel, .sentinel, .sentinel] true :=
  OpenClaim.laidByTextAt_later rfl rfl tie noOwnUnsafe
end Go.Proofs.YtjgcjeaplckbbaaGreatDoor
