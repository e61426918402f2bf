/- What the specification's steps and logic answer, and its sum, difference, steps and logic as they are asked. -/
import Derived.Test.YtiidkhfigifmjaaDoorAd
namespace Go.Proofs.YtiidkhfigifmjaaDoor
open Go.ChangeShapes Go.WideShapes Go.ChangeAt Go.RowKit
set_option linter.unusedVariables false

def incV (a : Nat) : Nat := Nat.land (Nat.add a 1) 255
def incF (a f : Nat) : Nat := Nat.lor (Nat.lor (Nat.lor (Nat.land f 1) (szN (incV a))) (Nat.mul 16 (btN (Nat.beq (Nat.land a 15) 15)))) (Nat.mul 4 (btN (Nat.beq a 127)))
theorem incV_lt (a : Nat) : incV a < 256 := Nat.and_lt_two_pow (n := 8) _ (by decide)
theorem incV_int (a : Nat) (ha : a < 256) : bits .and .i64 ((a : Int) + 1) 255 = (incV a : Nat) := by
  have h : incV a = (a + 1) % 2 ^ 8 := Nat.and_two_pow_sub_one_eq_mod (a + 1) 8
  rw [i64_and255, h]
  omega

def decV (a : Nat) : Nat := Nat.land (Nat.add a 255) 255
def decF (a f : Nat) : Nat := Nat.lor (Nat.lor (Nat.lor (Nat.lor (Nat.land f 1) (szN (decV a))) 2) (Nat.mul 16 (btN (Nat.beq (Nat.land a 15) 0)))) (Nat.mul 4 (btN (Nat.beq a 128)))
theorem decV_lt (a : Nat) : decV a < 256 := Nat.and_lt_two_pow (n := 8) _ (by decide)
theorem decV_int (a : Nat) (ha : a < 256) : bits .and .i64 ((a : Int) - 1) 255 = (decV a : Nat) := by
  have h : decV a = (a + 255) % 2 ^ 8 := Nat.and_two_pow_sub_one_eq_mod (a + 255) 8
  rw [i64_and255, h]
  omega

def logV (op a b : Nat) : Nat := cond (Nat.beq op 0) (Nat.land a b) (cond (Nat.beq op 1) (Nat.xor a b) (Nat.lor a b))
def logF (op a b : Nat) : Nat := cond (Nat.beq op 0) (Nat.lor (szpN (Nat.land a b)) 16) (szpN (logV op a b))
end Go.Proofs.YtiidkhfigifmjaaDoor
