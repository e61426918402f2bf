/- What the specification's unit answers, part by part, as plain functions of natural numbers. -/
import Derived.Test.YtohnddjijedfkaaBtk
import Derived.Test.YtohnddjijedfkaaK21
import Derived.Test.YtohnddjijedfkaaK02
namespace Go.Proofs.Ytohnddjijedfkaa
open Go.ChangeShapes Go.WideShapes Go.ChangeAt Go.RowKit
set_option linter.unusedVariables false

def szN (v : Nat) : Nat := Nat.lor (Nat.land v 168) (Nat.mul 64 (btN (Nat.beq v 0)))
theorem szN_lt (v : Nat) (hv : v < 256) : szN v < 256 := by
  have h1 : Nat.land v 168 < 2 ^ 8 := Nat.and_lt_two_pow _ (by omega)
  have h2 : Nat.mul 64 (btN (Nat.beq v 0)) < 2 ^ 8 := by unfold btN; cases Nat.beq v 0 <;> decide
  exact Nat.or_lt_two_pow h1 h2
theorem sz_all : allB 256 (fun v => or (Nat.beq v 0) (decide (bits .or .i64 (bits .and .i64 (Int.ofNat v) 168) 0 = Int.ofNat (szN v)))) = true := by decide +kernel
theorem sz_end (v : Nat) (hv : v < 256) (h : v ≠ 0) : bits .or .i64 (bits .and .i64 (v : Int) 168) 0 = (szN v : Nat) := by
  have := allB_at sz_all v hv
  have h4 : Nat.beq v 0 = false := by cases v with | zero => omega | succ n => rfl
  rw [h4, Bool.false_or] at this
  exact of_decide_eq_true this

def szpN (v : Nat) : Nat := Nat.lor (szN v) (Nat.mul 4 (btN (!prf 8 v)))
theorem szpN_lt (v : Nat) (hv : v < 256) : szpN v < 256 := by
  have h2 : Nat.mul 4 (btN (!prf 8 v)) < 2 ^ 8 := by unfold btN; cases (!prf 8 v) <;> decide
  exact Nat.or_lt_two_pow (n := 8) (szN_lt v hv) h2
theorem szp_yes (v : Nat) (hv : v < 256) (h : prf 8 v = false) : bits .or .i64 ((szN v : Nat) : Int) 4 = (szpN v : Nat) := by
  have hl := szN_lt v hv
  have h2 : bits .or .i64 ((szN v : Nat) : Int) 4 = _ := bOr (szN v) 4 (by omega) (by omega)
  rw [h2]
  unfold szpN
  rw [h]
  rfl
theorem szp_no (v : Nat) (hv : v < 256) (h : prf 8 v = true) : bits .or .i64 ((szN v : Nat) : Int) 0 = (szpN v : Nat) := by
  have hl := szN_lt v hv
  have h2 : bits .or .i64 ((szN v : Nat) : Int) 0 = _ := bOr (szN v) 0 (by omega) (by omega)
  rw [h2]
  unfold szpN
  rw [h]
  rfl

theorem bit_spec (b : Bool) (w : World) : Calls Try.prog 60 #[.bool b] w fun e w' => e = .returned (.int .i64 (btN b)) ∧ w' = w := by
  cases b
  all_goals
    go_enter Try.func60, Try.ntmps60
    go_wp2
    go_ret
    exact ⟨rfl, rfl⟩

end Go.Proofs.Ytohnddjijedfkaa
