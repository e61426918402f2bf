/-
  DERIVED. GIVEN WITH THE SEED: THE PROGRAM's TIES (one call each: nine closed facts by the kernel) AND EACH ROW's TIE, after the 31st guide's Derived/Test/Toyas{Tie, Card}.lean. No idea stands in it: it is a product of the set-up. Laid BY PROGRAM, IN A SANDBOX (cutbox-door.mjs). By AI agents, Wed Nov 11 2026. No macro, syntax, notation, axiom, sorry.
-/
import Derived.Test.YtifcdojaocndhaaDoorRows
import Derived.LaidByTextLater
import Derived.SevenTiedAt
import Derived.LaidSub
import Derived.LaidOnce
namespace Go.Proofs.YtifcdojaocndhaaDoor
open Go
set_option maxRecDepth 100000
theorem seatTie1 : Tryd.prog.laidByTextLater [("loop.example/g00644/impl.waitPattern", Rows.laid_loop_example_g00644_impl_waitPattern), ("loop.example/g00644/impl.fetchPattern", Rows.laid_loop_example_g00644_impl_fetchPattern), ("loop.example/g00644/impl.cycleTimes", Rows.laid_loop_example_g00644_impl_cycleTimes), ("loop.example/g00644/impl.psgBits", Rows.laid_loop_example_g00644_impl_psgBits), ("loop.example/g00644/impl.bitTimes", Rows.laid_loop_example_g00644_impl_bitTimes)] [.data, .data, .data, .data, .data] true :=
  Program.laidByTextLater_by_one 34 8 9 (by kernel_rfl) (by kernel_rfl) (by kernel_rfl) (by kernel_rfl) (by kernel_rfl) (by kernel_rfl) (fun _ _ => by kernel_rfl)
theorem noOwnUnsafe : Tryd.pinned.checked.prog.headLifts.contains "ownunsafe" = false := by kernel_rfl
theorem tie : Tryd.prog.laidByTextLater [("loop.example/g00644/impl.psgBits", Rows.laid_loop_example_g00644_impl_psgBits), ("loop.example/g00644/impl.bitTimes", Rows.laid_loop_example_g00644_impl_bitTimes)] [.data, .data] true :=
  Program.laidByTextLater.sub seatTie1 ["loop.example/g00644/impl.psgBits", "loop.example/g00644/impl.bitTimes"] (by kernel_rfl) (by kernel_rfl)
theorem fnExactNewMachine_row_tie : Rows.fnExactNewMachineRow.laidByTextAt .later Tryd.pinned [.data, .data] true :=
  OpenClaim.laidByTextAt_later rfl rfl tie noOwnUnsafe
theorem tie2 : Tryd.prog.laidByTextLater [("loop.example/g00644/impl.waitPattern", Rows.laid_loop_example_g00644_impl_waitPattern), ("loop.example/g00644/impl.cycleTimes", Rows.laid_loop_example_g00644_impl_cycleTimes), ("loop.example/g00644/impl.psgBits", Rows.laid_loop_example_g00644_impl_psgBits)] [.data, .data, .data] true :=
  Program.laidByTextLater.sub seatTie1 ["loop.example/g00644/impl.waitPattern", "loop.example/g00644/impl.cycleTimes", "loop.example/g00644/impl.psgBits"] (by kernel_rfl) (by kernel_rfl)
theorem fnExactCyclesTime_row_tie : Rows.fnExactCyclesTimeRow.laidByTextAt .later Tryd.pinned [.data, .data, .data] true :=
  OpenClaim.laidByTextAt_later rfl rfl tie2 noOwnUnsafe
theorem tie3 : Tryd.prog.laidByTextLater [("loop.example/g00644/impl.fetchPattern", Rows.laid_loop_example_g00644_impl_fetchPattern), ("loop.example/g00644/impl.psgBits", Rows.laid_loop_example_g00644_impl_psgBits)] [.data, .data] true :=
  Program.laidByTextLater.sub seatTie1 ["loop.example/g00644/impl.fetchPattern", "loop.example/g00644/impl.psgBits"] (by kernel_rfl) (by kernel_rfl)
theorem fnExactPortValue_row_tie : Rows.fnExactPortValueRow.laidByTextAt .later Tryd.pinned [.data, .data] true :=
  OpenClaim.laidByTextAt_later rfl rfl tie3 noOwnUnsafe
theorem tie4 : Tryd.prog.laidByTextLater [("loop.example/g00644/impl.psgBits", Rows.laid_loop_example_g00644_impl_psgBits)] [.data] true :=
  Program.laidByTextLater.sub seatTie1 ["loop.example/g00644/impl.psgBits"] (by kernel_rfl) (by kernel_rfl)
theorem fnExactSameMachine_row_tie : Rows.fnExactSameMachineRow.laidByTextAt .later Tryd.pinned [.data] true :=
  OpenClaim.laidByTextAt_later rfl rfl tie4 noOwnUnsafe
theorem fnExactNewMachineUpto_row_tie : Rows.fnExactNewMachineUptoRow.laidByTextAt .later Tryd.pinned [.data, .data] true :=
  OpenClaim.laidByTextAt_later rfl rfl tie noOwnUnsafe
theorem fnExactCyclesTimeUpto_row_tie : Rows.fnExactCyclesTimeUptoRow.laidByTextAt .later Tryd.pinned [.data, .data, .data] true :=
  OpenClaim.laidByTextAt_later rfl rfl tie2 noOwnUnsafe
theorem fnExactPortValueUpto_row_tie : Rows.fnExactPortValueUptoRow.laidByTextAt .later Tryd.pinned [.data, .data] true :=
  OpenClaim.laidByTextAt_later rfl rfl tie3 noOwnUnsafe
theorem fnExactSameMachineUpto_row_tie : Rows.fnExactSameMachineUptoRow.laidByTextAt .later Tryd.pinned [.data] true :=
  OpenClaim.laidByTextAt_later rfl rfl tie4 noOwnUnsafe
end Go.Proofs.YtifcdojaocndhaaDoor
