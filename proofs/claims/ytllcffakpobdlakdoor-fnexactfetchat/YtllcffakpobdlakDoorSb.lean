/- What the specification's LineOf, IsScreen, WaitsAt, FetchAt, CellOf and InWindow answer as they are asked. -/
import Derived.Test.YtllcffakpobdlakDoorSa
namespace Go.Proofs.YtllcffakpobdlakDoor
open Go.ChangeShapes Go.WideShapes Go.ChangeAt Go.RowKit
set_option linter.unusedVariables false

theorem fet_spec (t : Int) (w : World) : Calls Tryd.prog 10 #[.int .i64 t] w fun e w' => e = .returned (fet2 t) ∧ w' = w := by
  cases h : inB t 0 639
  · have e : fet2 t = .tuple #[.int .i64 0, .int .i64 4] := by unfold fet2; rw [h]; rfl
    rw [e]
    go_enter Tryd.func10, Tryd.ntmps10
    go_wp2_with (go_at_call 15; refine (frame_spec _ _).mono ?_; rintro e w' ⟨rfl, rfl⟩; rw [h])
    go_ret2
    exact ⟨rfl, rfl⟩
  · have e : fet2 t = .tuple #[.int .i64 (fetI t), .int .i64 0] := by unfold fet2; rw [h]; rfl
    rw [e]
    obtain ⟨h0, h1⟩ := fr_yes h
    go_enter Tryd.func10, Tryd.ntmps10
    go_wp2_with (first | (go_at_call 15; refine (frame_spec _ _).mono ?_; rintro e w' ⟨rfl, rfl⟩; rw [h]) | (go_at_call 16; refine (fetch_spec _ _ h0 h1).mono ?_; rintro e w' ⟨rfl, rfl⟩))
    go_ret2
    exact ⟨rfl, rfl⟩
end Go.Proofs.YtllcffakpobdlakDoor
