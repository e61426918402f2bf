/-
  DERIVED. GIVEN WITH THE SEED: THE PROGRAM's TIES (one call each: nine closed facts by the kernel) AND EACH ROW's TIE, after the 31st guide's Derived/Test/Toyas{Tie, Card}.lean. No idea stands in it: it is a product of the set-up. Laid BY PROGRAM, IN A SANDBOX (cutbox-door.mjs). By AI agents, Wed Nov 11 2026. No macro, syntax, notation, axiom, sorry.
-/
import Derived.Test.YtghcagibdcblnaaGreatDoorRows
import Derived.LaidByTextLater
import Derived.SevenTiedAt
import Derived.LaidSub
import Derived.LaidOnce
namespace Go.Proofs.YtghcagibdcblnaaGreatDoor
open Go
set_option maxRecDepth 100000
theorem seatTie1 : Tryz.prog.laidByTextLater [("loop.example/g00644/impl.errCursor", Rows.laid_loop_example_g00644_impl_errCursor), ("loop.example/g00644/impl.errCount", Rows.laid_loop_example_g00644_impl_errCount), ("loop.example/g00644/impl.errAtEnd", Rows.laid_loop_example_g00644_impl_errAtEnd)] [.sentinel, .sentinel, .sentinel] true :=
  Program.laidByTextLater_by_one 66 8 2 (by kernel_rfl) (by kernel_rfl) (by kernel_rfl) (by kernel_rfl) (by kernel_rfl) (by kernel_rfl) (fun _ _ => by kernel_rfl)
theorem noOwnUnsafe : Tryz.pinned.checked.prog.headLifts.contains "ownunsafe" = false := by kernel_rfl
theorem tie : Tryz.prog.laidByTextLater [("loop.example/g00644/impl.errCursor", Rows.laid_loop_example_g00644_impl_errCursor), ("loop.example/g00644/impl.errCount", Rows.laid_loop_example_g00644_impl_errCount), ("loop.example/g00644/impl.errAtEnd", Rows.laid_loop_example_g00644_impl_errAtEnd)] [.sentinel, .sentinel, .sentinel] true :=
  Program.laidByTextLater.sub seatTie1 ["loop.example/g00644/impl.errCursor", "loop.example/g00644/impl.errCount", "loop.example/g00644/impl.errAtEnd"] (by kernel_rfl) (by kernel_rfl)
theorem fnSnap_row_tie : Rows.fnSnapRow.laidByTextAt .later Tryz.pinned [.sentinel, .sentinel, .sentinel] true :=
  OpenClaim.laidByTextAt_later rfl rfl tie noOwnUnsafe
theorem fnSnapUpto_row_tie : Rows.fnSnapUptoRow.laidByTextAt .later Tryz.pinned [.sentinel, .sentinel, .sentinel] true :=
  OpenClaim.laidByTextAt_later rfl rfl tie noOwnUnsafe
end Go.Proofs.YtghcagibdcblnaaGreatDoor
