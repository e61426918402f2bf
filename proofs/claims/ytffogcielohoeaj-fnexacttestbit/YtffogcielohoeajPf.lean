/- What the parts of the program's unit answer: its tests, its choice of a flag, its flags of a result. -/
import Derived.Test.YtffogcielohoeajAu
namespace Go.Proofs.Ytffogcielohoeaj
open Go.ChangeShapes Go.WideShapes Go.ChangeAt Go.RowKit
set_option linter.unusedVariables false

theorem within_impl (n a b : Int) (w : World) : Calls Try.prog 9 #[.int .i64 n, .int .i64 a, .int .i64 b] w fun e w' => e = .returned (.bool (inB n a b)) ∧ w' = w := by
  go_enter Try.func9, Try.ntmps9
  go_wp2
  all_goals go_ret
  all_goals exact ⟨ret_bool (by rw [Bool.eq_iff_iff]; simp [inB]; try omega), rfl⟩

theorem isbyte_impl (n : Int) (w : World) : Calls Try.prog 14 #[.int .i64 n] w fun e w' => e = .returned (.bool (inB n 0 255)) ∧ w' = w := by
  go_enter Try.func14, Try.ntmps14
  go_wp2
  all_goals go_ret
  all_goals exact ⟨ret_bool (by rw [Bool.eq_iff_iff]; simp [inB]; try omega), rfl⟩

theorem bytes_impl (a b : Int) (w : World) : Calls Try.prog 10 #[.int .i64 a, .int .i64 b] w fun e w' => e = .returned (.bool (inB a 0 255 && inB b 0 255)) ∧ w' = w := by
  cases h1 : inB a 0 255
  all_goals
    go_enter Try.func10, Try.ntmps10
    go_wp2_with (go_at_call 14; refine (isbyte_impl _ _).mono ?_; rintro e w' ⟨rfl, rfl⟩)
    go_ret
    exact ⟨ret_bool (by simp), rfl⟩

/-- a flag where a test holds -/
def whenI (b : Bool) (f : Int) : Int := cond b f 0
def whenN (b : Bool) (f : Nat) : Nat := cond b f 0
theorem when_nat (b : Bool) (f : Nat) : whenI b (f : Int) = (whenN b f : Nat) := by cases b <;> rfl
theorem whenN_lt (b : Bool) (f n : Nat) (h : f < n) : whenN b f < n := by cases b <;> simp [whenN] <;> omega
theorem when_impl (b : Bool) (f : Int) (w : World) : Calls Try.prog 11 #[.bool b, .int .i64 f] w fun e w' => e = .returned (.int .i64 (whenI b f)) ∧ w' = w := by
  cases b
  all_goals
    go_enter Try.func11, Try.ntmps11
    go_wp2
    go_ret
    exact ⟨rfl, rfl⟩

theorem eq0_nat (v : Nat) : ((v : Int) == 0) = Nat.beq v 0 := by cases v with | zero => rfl | succ n => rfl
end Go.Proofs.Ytffogcielohoeaj
