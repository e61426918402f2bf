/- Conditions, as the specification asks them. -/
import Derived.Test.YtiidkhfigifmjaaDoorCa
namespace Go.Proofs.YtiidkhfigifmjaaDoor
open Go.ChangeShapes Go.WideShapes Go.ChangeAt Go.RowKit
set_option linter.unusedVariables false
set_option linter.unusedSimpArgs false

theorem neq0 (m : Nat) : (((m : Nat) : Int) != 0) = (m != 0) := by
  rw [Bool.eq_iff_iff]
  simp
theorem holdsq_spec (f k : Nat) (w : World) (hf : f < 256) (hk : k < 8) :
    Calls Tryd.prog 14 #[.int .i64 (f : Int), .int .i64 (k : Int)] w fun e w' => e = .returned (.bool (holdN f k)) ∧ w' = w := by
  have r1 : bits .and .i64 (f : Int) 64 = ((Nat.land f 64 : Nat) : Int) := bAnd f 64 (by omega) (by omega)
  have r2 : bits .and .i64 (f : Int) 1 = ((Nat.land f 1 : Nat) : Int) := bAnd f 1 (by omega) (by omega)
  have r3 : bits .and .i64 (f : Int) 4 = ((Nat.land f 4 : Nat) : Int) := bAnd f 4 (by omega) (by omega)
  have r4 : bits .and .i64 (f : Int) 128 = ((Nat.land f 128 : Nat) : Int) := bAnd f 128 (by omega) (by omega)
  have n1 := neq0 (Nat.land f 64)
  have n2 := neq0 (Nat.land f 1)
  have n3 := neq0 (Nat.land f 4)
  have n4 := neq0 (Nat.land f 128)
  have hk8 : k = 0 ∨ k = 1 ∨ k = 2 ∨ k = 3 ∨ k = 4 ∨ k = 5 ∨ k = 6 ∨ k = 7 := by omega
  have e0 : holdN f 0 = ((Nat.land f 64 != 0) == false) := rfl
  have e1 : holdN f 1 = ((Nat.land f 64 != 0) == true) := rfl
  have e2 : holdN f 2 = ((Nat.land f 1 != 0) == false) := rfl
  have e3 : holdN f 3 = ((Nat.land f 1 != 0) == true) := rfl
  have e4 : holdN f 4 = ((Nat.land f 4 != 0) == false) := rfl
  have e5 : holdN f 5 = ((Nat.land f 4 != 0) == true) := rfl
  have e6 : holdN f 6 = (Nat.land f 128 != 0) := rfl
  have e7 : holdN f 7 = true := rfl
  generalize (Nat.land f 64 != 0) = b1 at *
  generalize (Nat.land f 1 != 0) = b2 at *
  generalize (Nat.land f 4 != 0) = b3 at *
  generalize (Nat.land f 128 != 0) = b4 at *
  generalize Nat.land f 64 = m1 at *
  generalize Nat.land f 1 = m2 at *
  generalize Nat.land f 4 = m3 at *
  generalize Nat.land f 128 = m4 at *
  rcases hk8 with rfl | rfl | rfl | rfl | rfl | rfl | rfl | rfl
  · rw [e0]
    clear e0 e1 e2 e3 e4 e5 e6 e7
    cases b1
    all_goals
      go_enter Tryd.func14, Tryd.ntmps14
      go_wp2
      go_ret
      exact ⟨rfl, rfl⟩
  · rw [e1]
    clear e0 e1 e2 e3 e4 e5 e6 e7
    cases b1
    all_goals
      go_enter Tryd.func14, Tryd.ntmps14
      go_wp2
      go_ret
      exact ⟨rfl, rfl⟩
  · rw [e2]
    clear e0 e1 e2 e3 e4 e5 e6 e7
    cases b2
    all_goals
      go_enter Tryd.func14, Tryd.ntmps14
      go_wp2
      go_ret
      exact ⟨rfl, rfl⟩
  · rw [e3]
    clear e0 e1 e2 e3 e4 e5 e6 e7
    cases b2
    all_goals
      go_enter Tryd.func14, Tryd.ntmps14
      go_wp2
      go_ret
      exact ⟨rfl, rfl⟩
  · rw [e4]
    clear e0 e1 e2 e3 e4 e5 e6 e7
    cases b3
    all_goals
      go_enter Tryd.func14, Tryd.ntmps14
      go_wp2
      go_ret
      exact ⟨rfl, rfl⟩
  · rw [e5]
    clear e0 e1 e2 e3 e4 e5 e6 e7
    cases b3
    all_goals
      go_enter Tryd.func14, Tryd.ntmps14
      go_wp2
      go_ret
      exact ⟨rfl, rfl⟩
  · rw [e6]
    clear e0 e1 e2 e3 e4 e5 e6 e7
    cases b4
    all_goals
      go_enter Tryd.func14, Tryd.ntmps14
      go_wp2
      go_ret
      exact ⟨rfl, rfl⟩
  · rw [e7]
    clear e0 e1 e2 e3 e4 e5 e6 e7
    go_enter Tryd.func14, Tryd.ntmps14
    go_wp2
    go_ret
    exact ⟨rfl, rfl⟩
end Go.Proofs.YtiidkhfigifmjaaDoor
