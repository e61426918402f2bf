/- What the program's frame answers: where a T stands, its waits, its fetches; the two patterns being in their blocks. -/
import Derived.Test.YtllcffakpobdlajSa
namespace Go.Proofs.Ytllcffakpobdlaj
open Go.ChangeShapes Go.WideShapes Go.ChangeAt Go.RowKit
set_option linter.unusedVariables false

theorem scr_row (t : Int) : inB (t / 32 - 4) 0 7 = inB (t / 32) 4 11 := by
  unfold inB
  rw [decide_eq_decide]
  omega
theorem wi_impl (n a b : Int) (w : World) : Calls Try.prog 15 #[.int .i64 n, .int .i64 a, .int .i64 b] w fun e w' => e = .returned (.bool (inB n a b)) ∧ w' = w := by
  go_enter Try.func15, Try.ntmps15
  go_wp2
  all_goals go_ret
  all_goals exact ⟨ret_bool (by rw [Bool.eq_iff_iff]; simp [inB]; try omega), rfl⟩
theorem frame_impl (t : Int) (w : World) : Calls Try.prog 19 #[.int .i64 t] w fun e w' => e = .returned (.bool (inB t 0 639)) ∧ w' = w := by
  go_enter Try.func19, Try.ntmps19
  go_wp2_with (go_at_call 15; refine (wi_impl _ _ _ _).mono ?_; rintro e w' ⟨rfl, rfl⟩)
  go_ret
  exact ⟨rfl, rfl⟩
theorem place_impl (t : Int) (w : World) (h0 : 0 ≤ t) (h1 : t ≤ 639) : Calls Try.prog 21 #[.int .i64 t] w fun e w' => e = .returned (.tuple #[.int .i64 (t / 32 - 4), .int .i64 (t % 32), .bool (scrI t)]) ∧ w' = w := by
  cases h : inB (t / 32) 4 11
  all_goals
    have hr := scr_row t
    rw [h] at hr
    go_enter Try.func21, Try.ntmps21
    go_wp2_with (go_at_call 15; refine (wi_impl _ _ _ _).mono ?_; rintro e w' ⟨rfl, rfl⟩; rw [hr])
    go_ret3
    exact ⟨by simp [scrI, h], rfl⟩
end Go.Proofs.Ytllcffakpobdlaj
