/-
  DERIVED. GIVEN WITH THE SEED: THE PROGRAM's TIES (one call each: nine closed facts by the kernel) AND EACH ROW's TIE, after the 31st guide's Derived/Test/Toyas{Tie, Card}.lean. No idea stands in it: it is a product of the set-up. Laid BY PROGRAM, IN A SANDBOX (cutbox-door.mjs). By AI agents, Wed Nov 11 2026. No macro, syntax, notation, axiom, sorry.
-/
import Derived.Test.YtakdhmlegickmabDoorRows
import Derived.LaidByTextLater
import Derived.SevenTiedAt
import Derived.LaidSub
import Derived.LaidOnce
namespace Go.Proofs.YtakdhmlegickmabDoor
open Go
set_option maxRecDepth 100000
theorem seatTie1 : Tryd.prog.laidByTextLater [("loop.example/g00644/impl.errCount", Rows.laid_loop_example_g00644_impl_errCount), ("loop.example/g00644/impl.errAtEnd", Rows.laid_loop_example_g00644_impl_errAtEnd), ("loop.example/g00644/impl.errBlockSize", Rows.laid_loop_example_g00644_impl_errBlockSize), ("loop.example/g00644/impl.errBlockSum", Rows.laid_loop_example_g00644_impl_errBlockSum), ("loop.example/g00644/impl.errManyBlocks", Rows.laid_loop_example_g00644_impl_errManyBlocks), ("loop.example/g00644/impl.errNoPilot", Rows.laid_loop_example_g00644_impl_errNoPilot), ("loop.example/g00644/impl.errNoSync", Rows.laid_loop_example_g00644_impl_errNoSync), ("loop.example/g00644/impl.errPartOfByte", Rows.laid_loop_example_g00644_impl_errPartOfByte), ("loop.example/g00644/impl.bitTimes", Rows.laid_loop_example_g00644_impl_bitTimes)] [.sentinel, .sentinel, .sentinel, .sentinel, .sentinel, .sentinel, .sentinel, .sentinel, .data] true :=
  Program.laidByTextLater_by_one 166 8 3 (by kernel_rfl) (by kernel_rfl) (by kernel_rfl) (by kernel_rfl) (by kernel_rfl) (by kernel_rfl) (fun _ _ => by kernel_rfl)
theorem noOwnUnsafe : Tryd.pinned.checked.prog.headLifts.contains "ownunsafe" = false := by kernel_rfl
theorem tie : Tryd.prog.laidByTextLater [("loop.example/g00644/impl.bitTimes", Rows.laid_loop_example_g00644_impl_bitTimes)] [.data] true :=
  Program.laidByTextLater.sub seatTie1 ["loop.example/g00644/impl.bitTimes"] (by kernel_rfl) (by kernel_rfl)
theorem fnExactPulsesOf_row_tie : Rows.fnExactPulsesOfRow.laidByTextAt .later Tryd.pinned [.data] true :=
  OpenClaim.laidByTextAt_later rfl rfl tie noOwnUnsafe
theorem fnExactTapePulses_row_tie : Rows.fnExactTapePulsesRow.laidByTextAt .later Tryd.pinned [.data] true :=
  OpenClaim.laidByTextAt_later rfl rfl tie noOwnUnsafe
theorem tie2 : Tryd.prog.laidByTextLater [("loop.example/g00644/impl.errCount", Rows.laid_loop_example_g00644_impl_errCount), ("loop.example/g00644/impl.errAtEnd", Rows.laid_loop_example_g00644_impl_errAtEnd), ("loop.example/g00644/impl.errBlockSize", Rows.laid_loop_example_g00644_impl_errBlockSize), ("loop.example/g00644/impl.errBlockSum", Rows.laid_loop_example_g00644_impl_errBlockSum), ("loop.example/g00644/impl.errManyBlocks", Rows.laid_loop_example_g00644_impl_errManyBlocks), ("loop.example/g00644/impl.errNoPilot", Rows.laid_loop_example_g00644_impl_errNoPilot), ("loop.example/g00644/impl.errNoSync", Rows.laid_loop_example_g00644_impl_errNoSync), ("loop.example/g00644/impl.errPartOfByte", Rows.laid_loop_example_g00644_impl_errPartOfByte)] [.sentinel, .sentinel, .sentinel, .sentinel, .sentinel, .sentinel, .sentinel, .sentinel] true :=
  Program.laidByTextLater.sub seatTie1 ["loop.example/g00644/impl.errCount", "loop.example/g00644/impl.errAtEnd", "loop.example/g00644/impl.errBlockSize", "loop.example/g00644/impl.errBlockSum", "loop.example/g00644/impl.errManyBlocks", "loop.example/g00644/impl.errNoPilot", "loop.example/g00644/impl.errNoSync", "loop.example/g00644/impl.errPartOfByte"] (by kernel_rfl) (by kernel_rfl)
theorem fnExactDecodePulses_row_tie : Rows.fnExactDecodePulsesRow.laidByTextAt .later Tryd.pinned [.sentinel, .sentinel, .sentinel, .sentinel, .sentinel, .sentinel, .sentinel, .sentinel] true :=
  OpenClaim.laidByTextAt_later rfl rfl tie2 noOwnUnsafe
theorem fnExactPulsesOfUpto_row_tie : Rows.fnExactPulsesOfUptoRow.laidByTextAt .later Tryd.pinned [.data] true :=
  OpenClaim.laidByTextAt_later rfl rfl tie noOwnUnsafe
theorem fnExactTapePulsesUpto_row_tie : Rows.fnExactTapePulsesUptoRow.laidByTextAt .later Tryd.pinned [.data] true :=
  OpenClaim.laidByTextAt_later rfl rfl tie noOwnUnsafe
theorem fnExactDecodePulsesUpto_row_tie : Rows.fnExactDecodePulsesUptoRow.laidByTextAt .later Tryd.pinned [.sentinel, .sentinel, .sentinel, .sentinel, .sentinel, .sentinel, .sentinel, .sentinel] true :=
  OpenClaim.laidByTextAt_later rfl rfl tie2 noOwnUnsafe
end Go.Proofs.YtakdhmlegickmabDoor
