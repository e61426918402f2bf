/- Ticks of the sound chip's counters: the specification. -/
import Derived.Test.YtjdgfbaioafjcaaDoorYd
namespace Go.Proofs.YtjdgfbaioafjcaaDoor
open Go.ChangeShapes Go.WideShapes Go.ChangeAt Go.RowKit
set_option linter.unusedVariables false
set_option linter.unusedSimpArgs false

/-- a counter's turn -/
def tickB (c p : Nat) : Bool := decide (1 ≤ c + 1 ∧ p ≤ c + 1)
def tickV (c p : Nat) : Nat := if tickB c p = true then 0 else c + 1
theorem tickV_le (c p : Nat) (b : Nat) (hc : c ≤ b) (hp : p ≤ b) : tickV c p ≤ b := by
  unfold tickV tickB
  split
  · omega
  · rename_i h
    have : ¬ (1 ≤ c + 1 ∧ p ≤ c + 1) := by simpa using h
    omega
theorem tick_spec (c p : Nat) (w : World) (hc : c < 256) (hp : p < 256) : Calls Tryd.prog 54 #[.int .i64 (c : Int), .int .i64 (p : Int)] w fun e w' => e = .returned (.tuple #[.int .i64 (tickV c p : Nat), .bool (tickB c p)]) ∧ w' = w := by
  by_cases h : p ≤ c + 1
  · have hb : tickB c p = true := by unfold tickB; simp; omega
    have hv : tickV c p = 0 := by unfold tickV; rw [hb]; rfl
    rw [hb, hv]
    by_cases h1 : 1 ≤ p
    · have m1 : max (1 : Int) (p : Int) = (p : Int) := by omega
      go_enter Tryd.func54, Tryd.ntmps54
      go_wp2
      all_goals go_ret2
      all_goals exact ⟨rfl, rfl⟩
    · have m1 : max (1 : Int) (p : Int) = 1 := by omega
      go_enter Tryd.func54, Tryd.ntmps54
      go_wp2
      all_goals go_ret2
      all_goals exact ⟨rfl, rfl⟩
  · have hb : tickB c p = false := by unfold tickB; simp; omega
    have hv : tickV c p = c + 1 := by unfold tickV; rw [hb]; rfl
    rw [hb, hv]
    have m1 : max (1 : Int) (p : Int) = (p : Int) := by omega
    go_enter Tryd.func54, Tryd.ntmps54
    go_wp2
    all_goals go_ret2
    all_goals exact ⟨by go_num, rfl⟩
end Go.Proofs.YtjdgfbaioafjcaaDoor
