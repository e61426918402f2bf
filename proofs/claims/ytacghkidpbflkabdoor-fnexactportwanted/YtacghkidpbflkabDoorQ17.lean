/- What the specification's steps and logic answer, and its sum, difference, steps and logic as they are asked. -/
import Derived.Test.YtacghkidpbflkabDoorAdq
namespace Go.Proofs.YtacghkidpbflkabDoor
open Go.ChangeShapes Go.WideShapes Go.ChangeAt Go.RowKit
set_option linter.unusedVariables false

def incV (a : Nat) : Nat := Nat.land (Nat.add a 1) 255
def incF (a f : Nat) : Nat := Nat.lor (Nat.lor (Nat.lor (Nat.land f 1) (szN (incV a))) (Nat.mul 16 (btN (Nat.beq (Nat.land a 15) 15)))) (Nat.mul 4 (btN (Nat.beq a 127)))
theorem incV_lt (a : Nat) : incV a < 256 := Nat.and_lt_two_pow (n := 8) _ (by decide)
theorem incV_int (a : Nat) (ha : a < 256) : bits .and .i64 ((a : Int) + 1) 255 = (incV a : Nat) := by
  have h : incV a = (a + 1) % 2 ^ 8 := Nat.and_two_pow_sub_one_eq_mod (a + 1) 8
  rw [i64_and255, h]
  omega

def decV (a : Nat) : Nat := Nat.land (Nat.add a 255) 255
def decF (a f : Nat) : Nat := Nat.lor (Nat.lor (Nat.lor (Nat.lor (Nat.land f 1) (szN (decV a))) 2) (Nat.mul 16 (btN (Nat.beq (Nat.land a 15) 0)))) (Nat.mul 4 (btN (Nat.beq a 128)))
theorem decV_lt (a : Nat) : decV a < 256 := Nat.and_lt_two_pow (n := 8) _ (by decide)
theorem decV_int (a : Nat) (ha : a < 256) : bits .and .i64 ((a : Int) - 1) 255 = (decV a : Nat) := by
  have h : decV a = (a + 255) % 2 ^ 8 := Nat.and_two_pow_sub_one_eq_mod (a + 255) 8
  rw [i64_and255, h]
  omega

def logV (op a b : Nat) : Nat := cond (Nat.beq op 0) (Nat.land a b) (cond (Nat.beq op 1) (Nat.xor a b) (Nat.lor a b))
def logF (op a b : Nat) : Nat := cond (Nat.beq op 0) (Nat.lor (szpN (Nat.land a b)) 16) (szpN (logV op a b))
end Go.Proofs.YtacghkidpbflkabDoor

/- What the specification's turns answer, as plain functions of natural numbers. -/
namespace Go.Proofs.YtacghkidpbflkabDoor
open Go.ChangeShapes Go.WideShapes Go.ChangeAt Go.RowKit
set_option linter.unusedVariables false

theorem orAnd (x y : Nat) (hx : x < 32768) (hy : y < 32768) : bits .and .i64 (bits .or .i64 (x : Int) (y : Int)) 255 = ((Nat.land (Nat.lor x y) 255 : Nat) : Int) := by
  have h1 : Nat.lor x y < 2 ^ 15 := Nat.or_lt_two_pow (by omega) (by omega)
  rw [bOr x y (by omega) (by omega)]
  exact bAnd _ 255 (by omega) (by omega)

def turnO (op a : Nat) : Nat := cond (Nat.beq (Nat.land op 1) 1) (Nat.land a 1) (Nat.div a 128)
def turnV : Nat → Nat → Nat → Nat
  | 0, a, _ => Nat.land (Nat.lor (Nat.mul a 2) (Nat.div a 128)) 255
  | 1, a, _ => Nat.land (Nat.lor (Nat.div a 2) (Nat.mul (Nat.land a 1) 128)) 255
  | 2, a, c => Nat.land (Nat.lor (Nat.mul a 2) c) 255
  | 3, a, c => Nat.land (Nat.lor (Nat.div a 2) (Nat.mul c 128)) 255
  | 4, a, _ => Nat.land (Nat.mul a 2) 255
  | 5, a, _ => Nat.land (Nat.lor (Nat.div a 2) (Nat.land a 128)) 255
  | 6, a, _ => Nat.land (Nat.lor (Nat.mul a 2) 1) 255
  | 7, a, _ => Nat.land (Nat.div a 2) 255
  | _, _, _ => 0
def turnF (op a c : Nat) : Nat := Nat.lor (szpN (turnV op a c)) (turnO op a)
def turnW (op a f : Nat) : Nat := turnV op a (Nat.land f 1)
def turnG (op a f : Nat) : Nat := turnF op a (Nat.land f 1)
end Go.Proofs.YtacghkidpbflkabDoor

/- What the specification's decimal adjustment and its test of a bit answer, as plain functions of natural numbers. -/
namespace Go.Proofs.YtacghkidpbflkabDoor
open Go.ChangeShapes Go.WideShapes Go.ChangeAt Go.RowKit
set_option linter.unusedVariables false

def tstF (bit a f : Nat) : Nat :=
  Nat.lor (Nat.lor (Nat.lor (Nat.lor (Nat.land f 1) 16) (Nat.land a 40)) (Nat.land (Nat.land a (Nat.pow 2 bit)) 128)) (Nat.mul 68 (btN (Nat.beq (Nat.land a (Nat.pow 2 bit)) 0)))

def daaX (a f : Nat) : Nat := Nat.add (cond (or (not (Nat.beq (Nat.land f 16) 0)) (Nat.ble 10 (Nat.land a 15))) 6 0) (cond (or (Nat.beq (Nat.land f 1) 1) (Nat.ble 154 a)) 96 0)
def daaV (a f : Nat) : Nat := cond (Nat.beq (Nat.land f 2) 0) (Nat.land (Nat.add a (daaX a f)) 255) (Nat.land (Nat.sub (Nat.add a 512) (daaX a f)) 255)
def daaC (a f : Nat) : Nat := cond (or (Nat.beq (Nat.land f 1) 1) (Nat.ble 154 a)) 1 0
def daaH (a f : Nat) : Nat := cond (Nat.beq (Nat.land f 2) 0) (btN (Nat.ble 10 (Nat.land a 15))) (btN (and (not (Nat.beq (Nat.land f 16) 0)) (Nat.ble (Nat.add (Nat.land a 15) 1) 6)))
def daaF (a f : Nat) : Nat := Nat.lor (Nat.lor (Nat.lor (szpN (daaV a f)) (Nat.land f 2)) (daaC a f)) (Nat.mul 16 (daaH a f))
end Go.Proofs.YtacghkidpbflkabDoor
