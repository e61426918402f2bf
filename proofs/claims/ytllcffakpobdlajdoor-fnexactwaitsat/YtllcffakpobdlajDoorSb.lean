/- What the specification's LineOf, IsScreen, WaitsAt, FetchAt, CellOf and InWindow answer as they are asked. -/
import Derived.Test.YtllcffakpobdlajDoorSa
namespace Go.Proofs.YtllcffakpobdlajDoor
open Go.ChangeShapes Go.WideShapes Go.ChangeAt Go.RowKit
set_option linter.unusedVariables false

theorem wait_spec (t : Int) (w : World) : Calls Tryd.prog 10 #[.int .i64 t] w fun e w' => e = .returned (wait2 t) ∧ w' = w := by
  cases h : inB t 0 639
  · have e : wait2 t = .tuple #[.int .i64 0, .int .i64 4] := by unfold wait2; rw [h]; rfl
    rw [e]
    go_enter Tryd.func10, Tryd.ntmps10
    go_wp2_with (go_at_call 23; refine (frame_spec _ _).mono ?_; rintro e w' ⟨rfl, rfl⟩; rw [h])
    go_ret2
    exact ⟨rfl, rfl⟩
  · have e : wait2 t = .tuple #[.int .i64 (waitI t), .int .i64 0] := by unfold wait2; rw [h]; rfl
    rw [e]
    obtain ⟨h0, h1⟩ := fr_yes h
    go_enter Tryd.func10, Tryd.ntmps10
    go_wp2_with (first | (go_at_call 23; refine (frame_spec _ _).mono ?_; rintro e w' ⟨rfl, rfl⟩; rw [h]) | (go_at_call 24; refine (waits_spec _ _ h0 h1).mono ?_; rintro e w' ⟨rfl, rfl⟩))
    go_ret2
    exact ⟨rfl, rfl⟩
end Go.Proofs.YtllcffakpobdlajDoor
