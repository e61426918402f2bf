/- What the program's LineOf, IsScreen, WaitsAt, CellOf and InWindow answer as they are asked. -/
import Derived.Test.YtllcffakpobdlajDoorQa
namespace Go.Proofs.YtllcffakpobdlajDoor
open Go.ChangeShapes Go.WideShapes Go.ChangeAt Go.RowKit
set_option linter.unusedVariables false

theorem wait_impl (t : Int) (w : World) (hP : Pat w) : Calls Tryd.prog 11 #[.int .i64 t] w fun e w' => e = .returned (wait2 t) ∧ w' = w := by
  cases h : inB t 0 639
  · have e : wait2 t = .tuple #[.int .i64 0, .int .i64 4] := by unfold wait2; rw [h]; rfl
    rw [e]
    clear hP
    go_enter Tryd.func11, Tryd.ntmps11
    go_wp2_with (go_at_call 25; refine (frame_impl _ _).mono ?_; rintro e w' ⟨rfl, rfl⟩; rw [h])
    go_ret2
    exact ⟨rfl, rfl⟩
  · have e : wait2 t = .tuple #[.int .i64 (waitI t), .int .i64 0] := by unfold wait2; rw [h]; rfl
    rw [e]
    obtain ⟨h0, h1⟩ := fr_yes h
    replace hP : Hid (Pat w) := hP
    go_enter Tryd.func11, Tryd.ntmps11
    go_wp2_with (first | (go_at_call 25; refine (frame_impl _ _).mono ?_; rintro e w' ⟨rfl, rfl⟩; rw [h]) | (go_at_call 26; refine (waitof_impl _ _ h0 h1 hP.out).mono ?_; rintro e w' ⟨rfl, rfl⟩))
    go_ret2
    exact ⟨rfl, rfl⟩
end Go.Proofs.YtllcffakpobdlajDoor
