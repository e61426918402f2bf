/-
  DERIVED. GIVEN WITH THE SEED: THE PROGRAM's TIES (one call each: nine closed facts by the kernel) AND EACH ROW's TIE, after the 31st guide's Derived/Test/Toyas{Tie, Card}.lean. No idea stands in it: it is a product of the set-up. Laid BY PROGRAM, IN A SANDBOX (cutbox-door.mjs). By AI agents, Wed Nov 11 2026. No macro, syntax, notation, axiom, sorry.
-/
import Derived.Test.YtgpmpfikeindfaaGreatDoorRows
import Derived.LaidByTextLater
import Derived.SevenTiedAt
import Derived.LaidSub
import Derived.LaidOnce
namespace Go.Proofs.YtgpmpfikeindfaaGreatDoor
open Go
set_option maxRecDepth 100000
theorem seatTie1 : Tryz.prog.laidByTextLater [("loop.example/g00644/impl.copiedFlags", Rows.laid_loop_example_g00644_impl_copiedFlags), ("loop.example/g00644/impl.instrKinds", Rows.laid_loop_example_g00644_impl_instrKinds), ("loop.example/g00644/impl.cycleTimes", Rows.laid_loop_example_g00644_impl_cycleTimes), ("loop.example/g00644/impl.conditions", Rows.laid_loop_example_g00644_impl_conditions)] [.data, .data, .data, .data] true :=
  Program.laidByTextLater_by_one 61 8 121 (by kernel_rfl) (by kernel_rfl) (by kernel_rfl) (by kernel_rfl) (by kernel_rfl) (by kernel_rfl) (fun _ _ => by kernel_rfl)
theorem noOwnUnsafe : Tryz.pinned.checked.prog.headLifts.contains "ownunsafe" = false := by kernel_rfl
theorem tie : Tryz.prog.laidByTextLater [("loop.example/g00644/impl.copiedFlags", Rows.laid_loop_example_g00644_impl_copiedFlags), ("loop.example/g00644/impl.instrKinds", Rows.laid_loop_example_g00644_impl_instrKinds), ("loop.example/g00644/impl.cycleTimes", Rows.laid_loop_example_g00644_impl_cycleTimes), ("loop.example/g00644/impl.conditions", Rows.laid_loop_example_g00644_impl_conditions)] [.data, .data, .data, .data] true :=
  Program.laidByTextLater.sub seatTie1 ["loop.example/g00644/impl.copiedFlags", "loop.example/g00644/impl.instrKinds", "loop.example/g00644/impl.cycleTimes", "loop.example/g00644/impl.conditions"] (by kernel_rfl) (by kernel_rfl)
theorem fnStep_row_tie : Rows.fnStepRow.laidByTextAt .later Tryz.pinned [.data, .data, .data, .data] true :=
  OpenClaim.laidByTextAt_later rfl rfl tie noOwnUnsafe
theorem fnStepUpto_row_tie : Rows.fnStepUptoRow.laidByTextAt .later Tryz.pinned [.data, .data, .data, .data] true :=
  OpenClaim.laidByTextAt_later rfl rfl tie noOwnUnsafe
end Go.Proofs.YtgpmpfikeindfaaGreatDoor
