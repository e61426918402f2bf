/-
  DERIVED. GIVEN WITH THE SEED: THE PROGRAM's TIES (one call each: nine closed facts by the kernel) AND EACH ROW's TIE, after the 31st guide's Derived/Test/Toyas{Tie, Card}.lean. No idea stands in it: it is a product of the set-up. Laid BY PROGRAM, IN A SANDBOX (cutbox-door.mjs). By AI agents, Wed Nov 11 2026. No macro, syntax, notation, axiom, sorry.
-/
import Derived.Test.YthffhfafnohndaaDoorRows
import Derived.LaidByTextLater
import Derived.SevenTiedAt
import Derived.LaidSub
import Derived.LaidOnce
namespace Go.Proofs.YthffhfafnohndaaDoor
open Go
set_option maxRecDepth 100000
theorem seatTie1 : Tryd.prog.laidByTextLater [("loop.example/g00644/impl.errCursor", Rows.laid_loop_example_g00644_impl_errCursor), ("loop.example/g00644/impl.errCount", Rows.laid_loop_example_g00644_impl_errCount), ("loop.example/g00644/impl.errAtEnd", Rows.laid_loop_example_g00644_impl_errAtEnd), ("loop.example/g00644/impl.errBlockSize", Rows.laid_loop_example_g00644_impl_errBlockSize), ("loop.example/g00644/impl.errBlockSum", Rows.laid_loop_example_g00644_impl_errBlockSum), ("loop.example/g00644/impl.errManyBlocks", Rows.laid_loop_example_g00644_impl_errManyBlocks)] [.sentinel, .sentinel, .sentinel, .sentinel, .sentinel, .sentinel] true :=
  Program.laidByTextLater_by_one 123 8 2 (by kernel_rfl) (by kernel_rfl) (by kernel_rfl) (by kernel_rfl) (by kernel_rfl) (by kernel_rfl) (fun _ _ => by kernel_rfl)
theorem noOwnUnsafe : Tryd.pinned.checked.prog.headLifts.contains "ownunsafe" = false := by kernel_rfl
theorem tie : Tryd.prog.laidByTextLater [("loop.example/g00644/impl.errCursor", Rows.laid_loop_example_g00644_impl_errCursor), ("loop.example/g00644/impl.errCount", Rows.laid_loop_example_g00644_impl_errCount), ("loop.example/g00644/impl.errAtEnd", Rows.laid_loop_example_g00644_impl_errAtEnd)] [.sentinel, .sentinel, .sentinel] true :=
  Program.laidByTextLater.sub seatTie1 ["loop.example/g00644/impl.errCursor", "loop.example/g00644/impl.errCount", "loop.example/g00644/impl.errAtEnd"] (by kernel_rfl) (by kernel_rfl)
theorem fnWords_row_tie : Rows.fnWordsRow.laidByTextAt .later Tryd.pinned [.sentinel, .sentinel, .sentinel] true :=
  OpenClaim.laidByTextAt_later rfl rfl tie noOwnUnsafe
theorem fnExactTakeWord_row_tie : Rows.fnExactTakeWordRow.laidByTextAt .later Tryd.pinned [.sentinel, .sentinel, .sentinel] true :=
  OpenClaim.laidByTextAt_later rfl rfl tie noOwnUnsafe
theorem tie2 : Tryd.prog.laidByTextLater [("loop.example/g00644/impl.errCursor", Rows.laid_loop_example_g00644_impl_errCursor), ("loop.example/g00644/impl.errCount", Rows.laid_loop_example_g00644_impl_errCount), ("loop.example/g00644/impl.errAtEnd", Rows.laid_loop_example_g00644_impl_errAtEnd), ("loop.example/g00644/impl.errBlockSize", Rows.laid_loop_example_g00644_impl_errBlockSize), ("loop.example/g00644/impl.errBlockSum", Rows.laid_loop_example_g00644_impl_errBlockSum), ("loop.example/g00644/impl.errManyBlocks", Rows.laid_loop_example_g00644_impl_errManyBlocks)] [.sentinel, .sentinel, .sentinel, .sentinel, .sentinel, .sentinel] true :=
  Program.laidByTextLater.sub seatTie1 ["loop.example/g00644/impl.errCursor", "loop.example/g00644/impl.errCount", "loop.example/g00644/impl.errAtEnd", "loop.example/g00644/impl.errBlockSize", "loop.example/g00644/impl.errBlockSum", "loop.example/g00644/impl.errManyBlocks"] (by kernel_rfl) (by kernel_rfl)
theorem fnTap_row_tie : Rows.fnTapRow.laidByTextAt .later Tryd.pinned [.sentinel, .sentinel, .sentinel, .sentinel, .sentinel, .sentinel] true :=
  OpenClaim.laidByTextAt_later rfl rfl tie2 noOwnUnsafe
theorem fnWordsUpto_row_tie : Rows.fnWordsUptoRow.laidByTextAt .later Tryd.pinned [.sentinel, .sentinel, .sentinel] true :=
  OpenClaim.laidByTextAt_later rfl rfl tie noOwnUnsafe
theorem fnTapUpto_row_tie : Rows.fnTapUptoRow.laidByTextAt .later Tryd.pinned [.sentinel, .sentinel, .sentinel, .sentinel, .sentinel, .sentinel] true :=
  OpenClaim.laidByTextAt_later rfl rfl tie2 noOwnUnsafe
theorem fnExactTakeWordUpto_row_tie : Rows.fnExactTakeWordUptoRow.laidByTextAt .later Tryd.pinned [.sentinel, .sentinel, .sentinel] true :=
  OpenClaim.laidByTextAt_later rfl rfl tie noOwnUnsafe
end Go.Proofs.YthffhfafnohndaaDoor
