/- What the specification's turns answer, as plain functions of natural numbers. -/
import Derived.Test.YtiidkhfigifmjaaDoorAe
namespace Go.Proofs.YtiidkhfigifmjaaDoor
open Go.ChangeShapes Go.WideShapes Go.ChangeAt Go.RowKit
set_option linter.unusedVariables false

theorem orAnd (x y : Nat) (hx : x < 32768) (hy : y < 32768) : bits .and .i64 (bits .or .i64 (x : Int) (y : Int)) 255 = ((Nat.land (Nat.lor x y) 255 : Nat) : Int) := by
  have h1 : Nat.lor x y < 2 ^ 15 := Nat.or_lt_two_pow (by omega) (by omega)
  rw [bOr x y (by omega) (by omega)]
  exact bAnd _ 255 (by omega) (by omega)

def turnO (op a : Nat) : Nat := cond (Nat.beq (Nat.land op 1) 1) (Nat.land a 1) (Nat.div a 128)
def turnV : Nat → Nat → Nat → Nat
  | 0, a, _ => Nat.land (Nat.lor (Nat.mul a 2) (Nat.div a 128)) 255
  | 1, a, _ => Nat.land (Nat.lor (Nat.div a 2) (Nat.mul (Nat.land a 1) 128)) 255
  | 2, a, c => Nat.land (Nat.lor (Nat.mul a 2) c) 255
  | 3, a, c => Nat.land (Nat.lor (Nat.div a 2) (Nat.mul c 128)) 255
  | 4, a, _ => Nat.land (Nat.mul a 2) 255
  | 5, a, _ => Nat.land (Nat.lor (Nat.div a 2) (Nat.land a 128)) 255
  | 6, a, _ => Nat.land (Nat.lor (Nat.mul a 2) 1) 255
  | 7, a, _ => Nat.land (Nat.div a 2) 255
  | _, _, _ => 0
def turnF (op a c : Nat) : Nat := Nat.lor (szpN (turnV op a c)) (turnO op a)
def turnW (op a f : Nat) : Nat := turnV op a (Nat.land f 1)
def turnG (op a f : Nat) : Nat := turnF op a (Nat.land f 1)
end Go.Proofs.YtiidkhfigifmjaaDoor
