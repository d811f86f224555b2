/-
  DERIVED. GIVEN WITH THE SEED: THE PROGRAM's TIES (one call each: nine closed facts by the kernel) AND EACH ROW's TIE, after the 31st guide's Derived/Test/Toyas{Tie, Card}.lean. No idea stands in it: it is a product of the set-up. Laid BY PROGRAM, IN A SANDBOX (cutbox-door.mjs). By AI agents, Wed Nov 11 2026. No macro, syntax, notation, axiom, sorry.
-/
import Derived.Test.YteniflajiklffaaGreatDoorRows
import Derived.LaidByTextLater
import Derived.SevenTiedAt
import Derived.LaidSub
import Derived.LaidOnce
namespace Go.Proofs.YteniflajiklffaaGreatDoor
open Go
set_option maxRecDepth 100000
theorem seatTie1 : Tryz.prog.laidByTextLater [("loop.example/g00244/impl.errForm", Rows.laid_loop_example_g00244_impl_errForm), ("loop.example/g00244/impl.errHeld", Rows.laid_loop_example_g00244_impl_errHeld), ("loop.example/g00244/impl.errDone", Rows.laid_loop_example_g00244_impl_errDone), ("loop.example/g00244/impl.errGone", Rows.laid_loop_example_g00244_impl_errGone), ("loop.example/g00244/impl.errNone", Rows.laid_loop_example_g00244_impl_errNone), ("loop.example/g00244/impl.errRoom", Rows.laid_loop_example_g00244_impl_errRoom), ("loop.example/g00244/impl.errFit", Rows.laid_loop_example_g00244_impl_errFit)] [.sentinel, .sentinel, .sentinel, .sentinel, .sentinel, .sentinel, .sentinel] true :=
  Program.laidByTextLater_by_one 142 8 2 (by kernel_rfl) (by kernel_rfl) (by kernel_rfl) (by kernel_rfl) (by kernel_rfl) (by kernel_rfl) (fun _ _ => by kernel_rfl)
theorem noOwnUnsafe : Tryz.pinned.checked.prog.headLifts.contains "ownunsafe" = false := by kernel_rfl
theorem tie : Tryz.prog.laidByTextLater [("loop.example/g00244/impl.errForm", Rows.laid_loop_example_g00244_impl_errForm), ("loop.example/g00244/impl.errHeld", Rows.laid_loop_example_g00244_impl_errHeld), ("loop.example/g00244/impl.errDone", Rows.laid_loop_example_g00244_impl_errDone), ("loop.example/g00244/impl.errGone", Rows.laid_loop_example_g00244_impl_errGone), ("loop.example/g00244/impl.errNone", Rows.laid_loop_example_g00244_impl_errNone), ("loop.example/g00244/impl.errRoom", Rows.laid_loop_example_g00244_impl_errRoom), ("loop.example/g00244/impl.errFit", Rows.laid_loop_example_g00244_impl_errFit)] [.sentinel, .sentinel, .sentinel, .sentinel, .sentinel, .sentinel, .sentinel] true :=
  Program.laidByTextLater.sub seatTie1 ["loop.example/g00244/impl.errForm", "loop.example/g00244/impl.errHeld", "loop.example/g00244/impl.errDone", "loop.example/g00244/impl.errGone", "loop.example/g00244/impl.errNone", "loop.example/g00244/impl.errRoom", "loop.example/g00244/impl.errFit"] (by kernel_rfl) (by kernel_rfl)
theorem fnHeld_row_tie : Rows.fnHeldRow.laidByTextAt .later Tryz.pinned [.sentinel, .sentinel, .sentinel, .sentinel, .sentinel, .sentinel, .sentinel] true :=
  OpenClaim.laidByTextAt_later rfl rfl tie noOwnUnsafe
theorem fnExactHold_row_tie : Rows.fnExactHoldRow.laidByTextAt .later Tryz.pinned [.sentinel, .sentinel, .sentinel, .sentinel, .sentinel, .sentinel, .sentinel] true :=
  OpenClaim.laidByTextAt_later rfl rfl tie noOwnUnsafe
theorem tie2 : Tryz.prog.laidByTextLater [("loop.example/g00244/impl.errForm", Rows.laid_loop_example_g00244_impl_errForm), ("loop.example/g00244/impl.errHeld", Rows.laid_loop_example_g00244_impl_errHeld), ("loop.example/g00244/impl.errDone", Rows.laid_loop_example_g00244_impl_errDone), ("loop.example/g00244/impl.errGone", Rows.laid_loop_example_g00244_impl_errGone), ("loop.example/g00244/impl.errNone", Rows.laid_loop_example_g00244_impl_errNone), ("loop.example/g00244/impl.errRoom", Rows.laid_loop_example_g00244_impl_errRoom)] [.sentinel, .sentinel, .sentinel, .sentinel, .sentinel, .sentinel] true :=
  Program.laidByTextLater.sub seatTie1 ["loop.example/g00244/impl.errForm", "loop.example/g00244/impl.errHeld", "loop.example/g00244/impl.errDone", "loop.example/g00244/impl.errGone", "loop.example/g00244/impl.errNone", "loop.example/g00244/impl.errRoom"] (by kernel_rfl) (by kernel_rfl)
theorem fnDecided_row_tie : Rows.fnDecidedRow.laidByTextAt .later Tryz.pinned [.sentinel, .sentinel, .sentinel, .sentinel, .sentinel, .sentinel] true :=
  OpenClaim.laidByTextAt_later rfl rfl tie2 noOwnUnsafe
theorem fnExactDecide_row_tie : Rows.fnExactDecideRow.laidByTextAt .later Tryz.pinned [.sentinel, .sentinel, .sentinel, .sentinel, .sentinel, .sentinel] true :=
  OpenClaim.laidByTextAt_later rfl rfl tie2 noOwnUnsafe
theorem fnHeldUpto_row_tie : Rows.fnHeldUptoRow.laidByTextAt .later Tryz.pinned [.sentinel, .sentinel, .sentinel, .sentinel, .sentinel, .sentinel, .sentinel] true :=
  OpenClaim.laidByTextAt_later rfl rfl tie noOwnUnsafe
theorem fnDecidedUpto_row_tie : Rows.fnDecidedUptoRow.laidByTextAt .later Tryz.pinned [.sentinel, .sentinel, .sentinel, .sentinel, .sentinel, .sentinel] true :=
  OpenClaim.laidByTextAt_later rfl rfl tie2 noOwnUnsafe
theorem fnExactHoldUpto_row_tie : Rows.fnExactHoldUptoRow.laidByTextAt .later Tryz.pinned [.sentinel, .sentinel, .sentinel, .sentinel, .sentinel, .sentinel, .sentinel] true :=
  OpenClaim.laidByTextAt_later rfl rfl tie noOwnUnsafe
theorem fnExactDecideUpto_row_tie : Rows.fnExactDecideUptoRow.laidByTextAt .later Tryz.pinned [.sentinel, .sentinel, .sentinel, .sentinel, .sentinel, .sentinel] true :=
  OpenClaim.laidByTextAt_later rfl rfl tie2 noOwnUnsafe
end Go.Proofs.YteniflajiklffaaGreatDoor
