/-
  DERIVED. GIVEN WITH THE SEED: THE PROGRAM's TIES (one call each: nine closed facts by the kernel) AND EACH ROW's TIE, after the 31st guide's Derived/Test/Toyas{Tie, Card}.lean. No idea stands in it: it is a product of the set-up. Laid BY PROGRAM, IN A SANDBOX (cutbox-door.mjs). By AI agents, Wed Nov 11 2026. No macro, syntax, notation, axiom, sorry.
-/
import Derived.Test.YtakdhmlegickmaaDoorRows
import Derived.LaidByTextLater
import Derived.SevenTiedAt
import Derived.LaidSub
import Derived.LaidOnce
namespace Go.Proofs.YtakdhmlegickmaaDoor
open Go
set_option maxRecDepth 100000
theorem seatTie1 : Tryd.prog.laidByTextLater [("loop.example/g00644/impl.errCursor", Rows.laid_loop_example_g00644_impl_errCursor), ("loop.example/g00644/impl.errCount", Rows.laid_loop_example_g00644_impl_errCount), ("loop.example/g00644/impl.errAtEnd", Rows.laid_loop_example_g00644_impl_errAtEnd), ("loop.example/g00644/impl.errBlockSize", Rows.laid_loop_example_g00644_impl_errBlockSize), ("loop.example/g00644/impl.errBlockSum", Rows.laid_loop_example_g00644_impl_errBlockSum), ("loop.example/g00644/impl.errManyBlocks", Rows.laid_loop_example_g00644_impl_errManyBlocks), ("loop.example/g00644/impl.errNoPilot", Rows.laid_loop_example_g00644_impl_errNoPilot), ("loop.example/g00644/impl.errNoSync", Rows.laid_loop_example_g00644_impl_errNoSync), ("loop.example/g00644/impl.errPartOfByte", Rows.laid_loop_example_g00644_impl_errPartOfByte), ("loop.example/g00644/impl.bitTimes", Rows.laid_loop_example_g00644_impl_bitTimes)] [.sentinel, .sentinel, .sentinel, .sentinel, .sentinel, .sentinel, .sentinel, .sentinel, .sentinel, .data] true :=
  Program.laidByTextLater_by_one 185 8 3 (by kernel_rfl) (by kernel_rfl) (by kernel_rfl) (by kernel_rfl) (by kernel_rfl) (by kernel_rfl) (fun _ _ => by kernel_rfl)
theorem noOwnUnsafe : Tryd.pinned.checked.prog.headLifts.contains "ownunsafe" = false := by kernel_rfl
theorem tie : Tryd.prog.laidByTextLater [("loop.example/g00644/impl.errCursor", Rows.laid_loop_example_g00644_impl_errCursor), ("loop.example/g00644/impl.errCount", Rows.laid_loop_example_g00644_impl_errCount), ("loop.example/g00644/impl.errAtEnd", Rows.laid_loop_example_g00644_impl_errAtEnd), ("loop.example/g00644/impl.errBlockSize", Rows.laid_loop_example_g00644_impl_errBlockSize), ("loop.example/g00644/impl.errBlockSum", Rows.laid_loop_example_g00644_impl_errBlockSum), ("loop.example/g00644/impl.errManyBlocks", Rows.laid_loop_example_g00644_impl_errManyBlocks)] [.sentinel, .sentinel, .sentinel, .sentinel, .sentinel, .sentinel] true :=
  Program.laidByTextLater.sub seatTie1 ["loop.example/g00644/impl.errCursor", "loop.example/g00644/impl.errCount", "loop.example/g00644/impl.errAtEnd", "loop.example/g00644/impl.errBlockSize", "loop.example/g00644/impl.errBlockSum", "loop.example/g00644/impl.errManyBlocks"] (by kernel_rfl) (by kernel_rfl)
theorem fnTap_row_tie : Rows.fnTapRow.laidByTextAt .later Tryd.pinned [.sentinel, .sentinel, .sentinel, .sentinel, .sentinel, .sentinel] true :=
  OpenClaim.laidByTextAt_later rfl rfl tie noOwnUnsafe
theorem fnExactReadTap_row_tie : Rows.fnExactReadTapRow.laidByTextAt .later Tryd.pinned [.sentinel, .sentinel, .sentinel, .sentinel, .sentinel, .sentinel] true :=
  OpenClaim.laidByTextAt_later rfl rfl tie noOwnUnsafe
theorem tie2 : Tryd.prog.laidByTextLater [("loop.example/g00644/impl.errCount", Rows.laid_loop_example_g00644_impl_errCount), ("loop.example/g00644/impl.errAtEnd", Rows.laid_loop_example_g00644_impl_errAtEnd), ("loop.example/g00644/impl.errBlockSize", Rows.laid_loop_example_g00644_impl_errBlockSize), ("loop.example/g00644/impl.errBlockSum", Rows.laid_loop_example_g00644_impl_errBlockSum), ("loop.example/g00644/impl.errManyBlocks", Rows.laid_loop_example_g00644_impl_errManyBlocks), ("loop.example/g00644/impl.errNoPilot", Rows.laid_loop_example_g00644_impl_errNoPilot), ("loop.example/g00644/impl.errNoSync", Rows.laid_loop_example_g00644_impl_errNoSync), ("loop.example/g00644/impl.errPartOfByte", Rows.laid_loop_example_g00644_impl_errPartOfByte), ("loop.example/g00644/impl.bitTimes", Rows.laid_loop_example_g00644_impl_bitTimes)] [.sentinel, .sentinel, .sentinel, .sentinel, .sentinel, .sentinel, .sentinel, .sentinel, .data] true :=
  Program.laidByTextLater.sub seatTie1 ["loop.example/g00644/impl.errCount", "loop.example/g00644/impl.errAtEnd", "loop.example/g00644/impl.errBlockSize", "loop.example/g00644/impl.errBlockSum", "loop.example/g00644/impl.errManyBlocks", "loop.example/g00644/impl.errNoPilot", "loop.example/g00644/impl.errNoSync", "loop.example/g00644/impl.errPartOfByte", "loop.example/g00644/impl.bitTimes"] (by kernel_rfl) (by kernel_rfl)
theorem fnPulses_row_tie : Rows.fnPulsesRow.laidByTextAt .later Tryd.pinned [.sentinel, .sentinel, .sentinel, .sentinel, .sentinel, .sentinel, .sentinel, .sentinel, .data] true :=
  OpenClaim.laidByTextAt_later rfl rfl tie2 noOwnUnsafe
theorem fnTapUpto_row_tie : Rows.fnTapUptoRow.laidByTextAt .later Tryd.pinned [.sentinel, .sentinel, .sentinel, .sentinel, .sentinel, .sentinel] true :=
  OpenClaim.laidByTextAt_later rfl rfl tie noOwnUnsafe
theorem fnPulsesUpto_row_tie : Rows.fnPulsesUptoRow.laidByTextAt .later Tryd.pinned [.sentinel, .sentinel, .sentinel, .sentinel, .sentinel, .sentinel, .sentinel, .sentinel, .data] true :=
  OpenClaim.laidByTextAt_later rfl rfl tie2 noOwnUnsafe
theorem fnExactReadTapUpto_row_tie : Rows.fnExactReadTapUptoRow.laidByTextAt .later Tryd.pinned [.sentinel, .sentinel, .sentinel, .sentinel, .sentinel, .sentinel] true :=
  OpenClaim.laidByTextAt_later rfl rfl tie noOwnUnsafe
end Go.Proofs.YtakdhmlegickmaaDoor
