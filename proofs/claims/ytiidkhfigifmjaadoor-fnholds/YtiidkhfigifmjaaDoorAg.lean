/- What the specification's decimal adjustment and its test of a bit answer, as plain functions of natural numbers. -/
import Derived.Test.YtiidkhfigifmjaaDoorAf
namespace Go.Proofs.YtiidkhfigifmjaaDoor
open Go.ChangeShapes Go.WideShapes Go.ChangeAt Go.RowKit
set_option linter.unusedVariables false

def tstF (bit a f : Nat) : Nat :=
  Nat.lor (Nat.lor (Nat.lor (Nat.lor (Nat.land f 1) 16) (Nat.land a 40)) (Nat.land (Nat.land a (Nat.pow 2 bit)) 128)) (Nat.mul 68 (btN (Nat.beq (Nat.land a (Nat.pow 2 bit)) 0)))

def daaX (a f : Nat) : Nat := Nat.add (cond (or (not (Nat.beq (Nat.land f 16) 0)) (Nat.ble 10 (Nat.land a 15))) 6 0) (cond (or (Nat.beq (Nat.land f 1) 1) (Nat.ble 154 a)) 96 0)
def daaV (a f : Nat) : Nat := cond (Nat.beq (Nat.land f 2) 0) (Nat.land (Nat.add a (daaX a f)) 255) (Nat.land (Nat.sub (Nat.add a 512) (daaX a f)) 255)
def daaC (a f : Nat) : Nat := cond (or (Nat.beq (Nat.land f 1) 1) (Nat.ble 154 a)) 1 0
def daaH (a f : Nat) : Nat := cond (Nat.beq (Nat.land f 2) 0) (btN (Nat.ble 10 (Nat.land a 15))) (btN (and (not (Nat.beq (Nat.land f 16) 0)) (Nat.ble (Nat.add (Nat.land a 15) 1) 6)))
def daaF (a f : Nat) : Nat := Nat.lor (Nat.lor (Nat.lor (szpN (daaV a f)) (Nat.land f 2)) (daaC a f)) (Nat.mul 16 (daaH a f))
end Go.Proofs.YtiidkhfigifmjaaDoor
