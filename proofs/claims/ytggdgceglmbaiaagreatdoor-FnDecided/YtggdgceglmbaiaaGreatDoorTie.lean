/-
  DERIVED. GIVEN WITH THE SEED: THE PROGRAM's TIES (one call each: nine closed facts by the kernel) AND EACH ROW's TIE, after the 31st guide's Derived/Test/Toyas{Tie, Card}.lean. No idea stands in it: it is a product of the set-up. Laid BY PROGRAM, IN A SANDBOX (cutbox-door.mjs). By AI agents, Wed Nov 11 2026. No macro, syntax, notation, axiom, sorry.
-/
import Derived.Test.YtggdgceglmbaiaaGreatDoorRows
import Derived.LaidByTextLater
import Derived.SevenTiedAt
import Derived.LaidSub
import Derived.LaidOnce
namespace Go.Proofs.YtggdgceglmbaiaaGreatDoor
open Go
set_option maxRecDepth 100000
theorem seatTie1 : Tryz.prog.laidByTextLater [("loop.example/g00244/impl.errForm", Rows.laid_loop_example_g00244_impl_errForm), ("loop.example/g00244/impl.errHeld", Rows.laid_loop_example_g00244_impl_errHeld), ("loop.example/g00244/impl.errDone", Rows.laid_loop_example_g00244_impl_errDone), ("loop.example/g00244/impl.errGone", Rows.laid_loop_example_g00244_impl_errGone), ("loop.example/g00244/impl.errNone", Rows.laid_loop_example_g00244_impl_errNone), ("loop.example/g00244/impl.errRoom", Rows.laid_loop_example_g00244_impl_errRoom)] [.sentinel, .sentinel, .sentinel, .sentinel, .sentinel, .sentinel] true :=
  Program.laidByTextLater_by_one 123 8 2 (by kernel_rfl) (by kernel_rfl) (by kernel_rfl) (by kernel_rfl) (by kernel_rfl) (by kernel_rfl) (fun _ _ => by kernel_rfl)
theorem noOwnUnsafe : Tryz.pinned.checked.prog.headLifts.contains "ownunsafe" = false := by kernel_rfl
theorem tie : Tryz.prog.laidByTextLater [("loop.example/g00244/impl.errForm", Rows.laid_loop_example_g00244_impl_errForm), ("loop.example/g00244/impl.errHeld", Rows.laid_loop_example_g00244_impl_errHeld), ("loop.example/g00244/impl.errDone", Rows.laid_loop_example_g00244_impl_errDone), ("loop.example/g00244/impl.errGone", Rows.laid_loop_example_g00244_impl_errGone), ("loop.example/g00244/impl.errNone", Rows.laid_loop_example_g00244_impl_errNone), ("loop.example/g00244/impl.errRoom", Rows.laid_loop_example_g00244_impl_errRoom)] [.sentinel, .sentinel, .sentinel, .sentinel, .sentinel, .sentinel] true :=
  Program.laidByTextLater.sub seatTie1 ["loop.example/g00244/impl.errForm", "loop.example/g00244/impl.errHeld", "loop.example/g00244/impl.errDone", "loop.example/g00244/impl.errGone", "loop.example/g00244/impl.errNone", "loop.example/g00244/impl.errRoom"] (by kernel_rfl) (by kernel_rfl)
theorem fnDecided_row_tie : Rows.fnDecidedRow.laidByTextAt .later Tryz.pinned [.sentinel, .sentinel, .sentinel, .sentinel, .sentinel, .sentinel] true :=
  OpenClaim.laidByTextAt_later rfl rfl tie noOwnUnsafe
theorem fnDecidedUpto_row_tie : Rows.fnDecidedUptoRow.laidByTextAt .later Tryz.pinned [.sentinel, .sentinel, .sentinel, .sentinel, .sentinel, .sentinel] true :=
  OpenClaim.laidByTextAt_later rfl rfl tie noOwnUnsafe
end Go.Proofs.YtggdgceglmbaiaaGreatDoor
