/- What the program's LineOf, IsScreen, WaitsAt, CellOf and InWindow answer as they are asked. -/
import Derived.Test.YtllcffakpobdlabDoorQa
namespace Go.Proofs.YtllcffakpobdlabDoor
open Go.ChangeShapes Go.WideShapes Go.ChangeAt Go.RowKit
set_option linter.unusedVariables false

theorem line_impl (t : Int) (w : World) : Calls Tryd.prog 11 #[.int .i64 t] w fun e w' => e = .returned (line3 t) ∧ w' = w := by
  cases h : inB t 0 639
  · have e : line3 t = .tuple #[.int .i64 0, .int .i64 0, .int .i64 4] := by unfold line3; rw [h]; rfl
    rw [e]
    go_enter Tryd.func11, Tryd.ntmps11
    go_wp2_with (go_at_call 28; refine (frame_impl _ _).mono ?_; rintro e w' ⟨rfl, rfl⟩; rw [h])
    go_ret3
    exact ⟨rfl, rfl⟩
  · have e : line3 t = .tuple #[.int .i64 (t / 32), .int .i64 (t % 32), .int .i64 0] := by unfold line3; rw [h]; rfl
    rw [e]
    obtain ⟨h0, h1⟩ := fr_yes h
    go_enter Tryd.func11, Tryd.ntmps11
    go_wp2_with (go_at_call 28; refine (frame_impl _ _).mono ?_; rintro e w' ⟨rfl, rfl⟩; rw [h])
    go_ret3
    exact ⟨rfl, rfl⟩
theorem isscr_impl (t : Int) (w : World) : Calls Tryd.prog 12 #[.int .i64 t] w fun e w' => e = .returned (scr2 t) ∧ w' = w := by
  cases h : inB t 0 639
  · have e : scr2 t = .tuple #[.bool false, .int .i64 4] := by unfold scr2; rw [h]; rfl
    rw [e]
    go_enter Tryd.func12, Tryd.ntmps12
    go_wp2_with (go_at_call 28; refine (frame_impl _ _).mono ?_; rintro e w' ⟨rfl, rfl⟩; rw [h])
    go_ret2
    exact ⟨rfl, rfl⟩
  · have e : scr2 t = .tuple #[.bool (scrI t), .int .i64 0] := by unfold scr2; rw [h]; rfl
    rw [e]
    obtain ⟨h0, h1⟩ := fr_yes h
    go_enter Tryd.func12, Tryd.ntmps12
    go_wp2_with (first | (go_at_call 28; refine (frame_impl _ _).mono ?_; rintro e w' ⟨rfl, rfl⟩; rw [h]) | (go_at_call 29; refine (place_impl _ _ h0 h1).mono ?_; rintro e w' ⟨rfl, rfl⟩))
    go_ret2
    exact ⟨rfl, rfl⟩
theorem wait_impl (t : Int) (w : World) (hP : Pat w) : Calls Tryd.prog 13 #[.int .i64 t] w fun e w' => e = .returned (wait2 t) ∧ w' = w := by
  cases h : inB t 0 639
  · have e : wait2 t = .tuple #[.int .i64 0, .int .i64 4] := by unfold wait2; rw [h]; rfl
    rw [e]
    clear hP
    go_enter Tryd.func13, Tryd.ntmps13
    go_wp2_with (go_at_call 28; refine (frame_impl _ _).mono ?_; rintro e w' ⟨rfl, rfl⟩; rw [h])
    go_ret2
    exact ⟨rfl, rfl⟩
  · have e : wait2 t = .tuple #[.int .i64 (waitI t), .int .i64 0] := by unfold wait2; rw [h]; rfl
    rw [e]
    obtain ⟨h0, h1⟩ := fr_yes h
    replace hP : Hid (Pat w) := hP
    go_enter Tryd.func13, Tryd.ntmps13
    go_wp2_with (first | (go_at_call 28; refine (frame_impl _ _).mono ?_; rintro e w' ⟨rfl, rfl⟩; rw [h]) | (go_at_call 30; refine (waitof_impl _ _ h0 h1 hP.out).mono ?_; rintro e w' ⟨rfl, rfl⟩))
    go_ret2
    exact ⟨rfl, rfl⟩
theorem cell_impl (r c : Int) (w : World) : Calls Tryd.prog 18 #[.int .i64 r, .int .i64 c] w fun e w' => e = .returned (cell2 r c) ∧ w' = w := by
  cases h1 : inB r 0 7
  · have e : cell2 r c = .tuple #[.int .i64 0, .int .i64 4] := by unfold cell2; rw [h1]; rfl
    rw [e]
    go_enter Tryd.func18, Tryd.ntmps18
    go_wp2_with (go_at_call 20; refine (wi_impl _ _ _ _).mono ?_; rintro e w' ⟨rfl, rfl⟩; rw [h1])
    go_ret2
    exact ⟨rfl, rfl⟩
  · cases h2 : inB c 0 3
    · have e : cell2 r c = .tuple #[.int .i64 0, .int .i64 4] := by unfold cell2; rw [h1, h2]; rfl
      rw [e]
      go_enter Tryd.func18, Tryd.ntmps18
      go_wp2_with (go_at_call 20; refine (wi_impl _ _ _ _).mono ?_; rintro e w' ⟨rfl, rfl⟩; first | rw [h1] | rw [h2])
      go_ret2
      exact ⟨rfl, rfl⟩
    · have e : cell2 r c = .tuple #[.int .i64 (4 * r + c), .int .i64 0] := by unfold cell2; rw [h1, h2]; rfl
      rw [e]
      have k1 : 0 ≤ r ∧ r ≤ 7 := by simpa [inB] using h1
      have k2 : 0 ≤ c ∧ c ≤ 3 := by simpa [inB] using h2
      go_enter Tryd.func18, Tryd.ntmps18
      go_wp2_with (first | (go_at_call 20; refine (wi_impl _ _ _ _).mono ?_; rintro e w' ⟨rfl, rfl⟩; first | rw [h1] | rw [h2]) | go_in)
      go_ret2
      exact ⟨rfl, rfl⟩
theorem win_impl (t : Int) (w : World) : Calls Tryd.prog 16 #[.int .i64 t] w fun e w' => e = .returned (win2 t) ∧ w' = w := by
  cases h : inB t 0 639
  · have e : win2 t = .tuple #[.bool false, .int .i64 4] := by unfold win2; rw [h]; rfl
    rw [e]
    go_enter Tryd.func16, Tryd.ntmps16
    go_wp2_with (go_at_call 28; refine (frame_impl _ _).mono ?_; rintro e w' ⟨rfl, rfl⟩; rw [h])
    go_ret2
    exact ⟨rfl, rfl⟩
  · have e : win2 t = .tuple #[.bool (decide (t < 8)), .int .i64 0] := by unfold win2; rw [h]; rfl
    rw [e]
    go_enter Tryd.func16, Tryd.ntmps16
    go_wp2_with (go_at_call 28; refine (frame_impl _ _).mono ?_; rintro e w' ⟨rfl, rfl⟩; rw [h])
    go_ret2
    exact ⟨rfl, rfl⟩
end Go.Proofs.YtllcffakpobdlabDoor
