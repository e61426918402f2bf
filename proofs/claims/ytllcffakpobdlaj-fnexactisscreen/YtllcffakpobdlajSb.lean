/- What the specification's LineOf, IsScreen, WaitsAt, FetchAt, CellOf and InWindow answer as they are asked. -/
import Derived.Test.YtllcffakpobdlajSa
namespace Go.Proofs.Ytllcffakpobdlaj
open Go.ChangeShapes Go.WideShapes Go.ChangeAt Go.RowKit
set_option linter.unusedVariables false

theorem line_spec (t : Int) (w : World) : Calls Try.prog 8 #[.int .i64 t] w fun e w' => e = .returned (line3 t) ∧ w' = w := by
  cases h : inB t 0 639
  · have e : line3 t = .tuple #[.int .i64 0, .int .i64 0, .int .i64 4] := by unfold line3; rw [h]; rfl
    rw [e]
    go_enter Try.func8, Try.ntmps8
    go_wp2_with (go_at_call 18; refine (frame_spec _ _).mono ?_; rintro e w' ⟨rfl, rfl⟩; rw [h])
    go_ret3
    exact ⟨rfl, rfl⟩
  · have e : line3 t = .tuple #[.int .i64 (t / 32), .int .i64 (t % 32), .int .i64 0] := by unfold line3; rw [h]; rfl
    rw [e]
    obtain ⟨h0, h1⟩ := fr_yes h
    go_enter Try.func8, Try.ntmps8
    go_wp2_with (go_at_call 18; refine (frame_spec _ _).mono ?_; rintro e w' ⟨rfl, rfl⟩; rw [h])
    go_ret3
    exact ⟨rfl, rfl⟩
theorem isscr_spec (t : Int) (w : World) : Calls Try.prog 10 #[.int .i64 t] w fun e w' => e = .returned (scr2 t) ∧ w' = w := by
  cases h : inB t 0 639
  · have e : scr2 t = .tuple #[.bool false, .int .i64 4] := by unfold scr2; rw [h]; rfl
    rw [e]
    go_enter Try.func10, Try.ntmps10
    go_wp2_with (go_at_call 18; refine (frame_spec _ _).mono ?_; rintro e w' ⟨rfl, rfl⟩; rw [h])
    go_ret2
    exact ⟨rfl, rfl⟩
  · have e : scr2 t = .tuple #[.bool (scrI t), .int .i64 0] := by unfold scr2; rw [h]; rfl
    rw [e]
    obtain ⟨h0, h1⟩ := fr_yes h
    go_enter Try.func10, Try.ntmps10
    go_wp2_with (first | (go_at_call 18; refine (frame_spec _ _).mono ?_; rintro e w' ⟨rfl, rfl⟩; rw [h]) | (go_at_call 20; refine (screen_spec _ _ h0 h1).mono ?_; rintro e w' ⟨rfl, rfl⟩))
    go_ret2
    exact ⟨rfl, rfl⟩
end Go.Proofs.Ytllcffakpobdlaj
