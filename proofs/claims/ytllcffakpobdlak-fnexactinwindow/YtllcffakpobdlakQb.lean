/- What the program's LineOf, IsScreen, WaitsAt, CellOf and InWindow answer as they are asked. -/
import Derived.Test.YtllcffakpobdlakQa
namespace Go.Proofs.Ytllcffakpobdlak
open Go.ChangeShapes Go.WideShapes Go.ChangeAt Go.RowKit
set_option linter.unusedVariables false

theorem cell_impl (r c : Int) (w : World) : Calls Try.prog 7 #[.int .i64 r, .int .i64 c] w fun e w' => e = .returned (cell2 r c) ∧ w' = w := by
  cases h1 : inB r 0 7
  · have e : cell2 r c = .tuple #[.int .i64 0, .int .i64 4] := by unfold cell2; rw [h1]; rfl
    rw [e]
    go_enter Try.func7, Try.ntmps7
    go_wp2_with (go_at_call 17; refine (wi_impl _ _ _ _).mono ?_; rintro e w' ⟨rfl, rfl⟩; rw [h1])
    go_ret2
    exact ⟨rfl, rfl⟩
  · cases h2 : inB c 0 3
    · have e : cell2 r c = .tuple #[.int .i64 0, .int .i64 4] := by unfold cell2; rw [h1, h2]; rfl
      rw [e]
      go_enter Try.func7, Try.ntmps7
      go_wp2_with (go_at_call 17; refine (wi_impl _ _ _ _).mono ?_; rintro e w' ⟨rfl, rfl⟩; first | rw [h1] | rw [h2])
      go_ret2
      exact ⟨rfl, rfl⟩
    · have e : cell2 r c = .tuple #[.int .i64 (4 * r + c), .int .i64 0] := by unfold cell2; rw [h1, h2]; rfl
      rw [e]
      have k1 : 0 ≤ r ∧ r ≤ 7 := by simpa [inB] using h1
      have k2 : 0 ≤ c ∧ c ≤ 3 := by simpa [inB] using h2
      go_enter Try.func7, Try.ntmps7
      go_wp2_with (first | (go_at_call 17; refine (wi_impl _ _ _ _).mono ?_; rintro e w' ⟨rfl, rfl⟩; first | rw [h1] | rw [h2]) | go_in)
      go_ret2
      exact ⟨rfl, rfl⟩
theorem win_impl (t : Int) (w : World) : Calls Try.prog 9 #[.int .i64 t] w fun e w' => e = .returned (win2 t) ∧ w' = w := by
  cases h : inB t 0 639
  · have e : win2 t = .tuple #[.bool false, .int .i64 4] := by unfold win2; rw [h]; rfl
    rw [e]
    go_enter Try.func9, Try.ntmps9
    go_wp2_with (go_at_call 20; refine (frame_impl _ _).mono ?_; rintro e w' ⟨rfl, rfl⟩; rw [h])
    go_ret2
    exact ⟨rfl, rfl⟩
  · have e : win2 t = .tuple #[.bool (decide (t < 8)), .int .i64 0] := by unfold win2; rw [h]; rfl
    rw [e]
    go_enter Try.func9, Try.ntmps9
    go_wp2_with (go_at_call 20; refine (frame_impl _ _).mono ?_; rintro e w' ⟨rfl, rfl⟩; rw [h])
    go_ret2
    exact ⟨rfl, rfl⟩
end Go.Proofs.Ytllcffakpobdlak
