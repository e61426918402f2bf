/- What the specification's sum and difference answer, as plain functions of natural numbers. -/
import Derived.Test.YtghcagibdcblnaaS19
namespace Go.Proofs.Ytghcagibdcblnaa
open Go.ChangeShapes Go.WideShapes Go.ChangeAt Go.RowKit
set_option linter.unusedVariables false

theorem or4 (s c h p : Nat) (hs : s < 256) (hc : c < 256) (hh : h < 256) (hp : p < 256) :
    bits .or .i64 (bits .or .i64 (bits .or .i64 (s : Int) (c : Int)) (h : Int)) (p : Int) = ((Nat.lor (Nat.lor (Nat.lor s c) h) p : Nat) : Int) := by
  have h1 : Nat.lor s c < 2 ^ 8 := Nat.or_lt_two_pow hs hc
  have h2 : Nat.lor (Nat.lor s c) h < 2 ^ 8 := Nat.or_lt_two_pow h1 hh
  rw [bOr s c (by omega) (by omega), bOr _ h (by omega) (by omega), bOr _ p (by omega) (by omega)]

/-- the sum's byte and its flags -/
def addV (a b c : Nat) : Nat := Nat.land (Nat.add (Nat.add a b) c) 255
def addF (a b c : Nat) : Nat :=
  Nat.lor (Nat.lor (Nat.lor (szN (addV a b c)) (btN (Nat.ble 256 (Nat.add (Nat.add a b) c)))) (Nat.mul 16 (btN (Nat.ble 16 (Nat.add (Nat.add (Nat.land a 15) (Nat.land b 15)) c)))))
    (Nat.mul 4 (btN (and (Nat.beq (Nat.land (Nat.xor a b) 128) 0) (not (Nat.beq (Nat.land (Nat.xor a (addV a b c)) 128) 0)))))
theorem addV_lt (a b c : Nat) : addV a b c < 256 := Nat.and_lt_two_pow (n := 8) _ (by decide)

theorem i64_and255 (n : Int) : bits .and .i64 n 255 = n % 256 := by
  have h255 : (BitVec.ofInt 64 255).toNat = 2 ^ 8 - 1 := by decide
  have key : (BitVec.ofInt 64 n &&& BitVec.ofInt 64 255).toNat = (n % ((2 ^ 64 : Nat) : Int)).toNat % 2 ^ 8 := by
    rw [BitVec.toNat_and, BitVec.toNat_ofInt, h255, Nat.and_two_pow_sub_one_eq_mod]
  show IntKind.i64.wrap ((BitVec.ofInt 64 n &&& BitVec.ofInt 64 255).toNat : Nat) = n % 256
  rw [key, IntKind.wrap_i64]
  omega
theorem or5 (s n c h p : Nat) (hs : s < 256) (hn : n < 256) (hc : c < 256) (hh : h < 256) (hp : p < 256) :
    bits .or .i64 (bits .or .i64 (bits .or .i64 (bits .or .i64 (s : Int) (n : Int)) (c : Int)) (h : Int)) (p : Int) = ((Nat.lor (Nat.lor (Nat.lor (Nat.lor s n) c) h) p : Nat) : Int) := by
  have h1 : Nat.lor s n < 2 ^ 8 := Nat.or_lt_two_pow hs hn
  rw [bOr s n (by omega) (by omega)]
  exact or4 (Nat.lor s n) c h p h1 hc hh hp
/-- the difference's byte and its flags -/
def subV (a b c : Nat) : Nat := Nat.land (Nat.sub (Nat.sub (Nat.add a 512) b) c) 255
def subF (a b c : Nat) : Nat :=
  Nat.lor (Nat.lor (Nat.lor (Nat.lor (szN (subV a b c)) 2) (btN (Nat.ble (Nat.add a 1) (Nat.add b c)))) (Nat.mul 16 (btN (Nat.ble (Nat.add (Nat.land a 15) 1) (Nat.add (Nat.land b 15) c)))))
    (Nat.mul 4 (btN (and (not (Nat.beq (Nat.land (Nat.xor a b) 128) 0)) (not (Nat.beq (Nat.land (Nat.xor a (subV a b c)) 128) 0)))))
theorem subV_lt (a b c : Nat) : subV a b c < 256 := Nat.and_lt_two_pow (n := 8) _ (by decide)
theorem subV_int (a b c : Nat) (ha : a < 256) (hb : b < 256) (hc : c < 2) : bits .and .i64 ((a : Int) - b - c) 255 = (subV a b c : Nat) := by
  have h : subV a b c = (a + 512 - b - c) % 2 ^ 8 := Nat.and_two_pow_sub_one_eq_mod (a + 512 - b - c) 8
  rw [i64_and255, h]
  omega

end Go.Proofs.Ytghcagibdcblnaa

/- What the specification's steps and logic answer, and its sum, difference, steps and logic as they are asked. -/
namespace Go.Proofs.Ytghcagibdcblnaa
open Go.ChangeShapes Go.WideShapes Go.ChangeAt Go.RowKit
set_option linter.unusedVariables false

def incV (a : Nat) : Nat := Nat.land (Nat.add a 1) 255
def incF (a f : Nat) : Nat := Nat.lor (Nat.lor (Nat.lor (Nat.land f 1) (szN (incV a))) (Nat.mul 16 (btN (Nat.beq (Nat.land a 15) 15)))) (Nat.mul 4 (btN (Nat.beq a 127)))
theorem incV_lt (a : Nat) : incV a < 256 := Nat.and_lt_two_pow (n := 8) _ (by decide)
theorem incV_int (a : Nat) (ha : a < 256) : bits .and .i64 ((a : Int) + 1) 255 = (incV a : Nat) := by
  have h : incV a = (a + 1) % 2 ^ 8 := Nat.and_two_pow_sub_one_eq_mod (a + 1) 8
  rw [i64_and255, h]
  omega

def decV (a : Nat) : Nat := Nat.land (Nat.add a 255) 255
def decF (a f : Nat) : Nat := Nat.lor (Nat.lor (Nat.lor (Nat.lor (Nat.land f 1) (szN (decV a))) 2) (Nat.mul 16 (btN (Nat.beq (Nat.land a 15) 0)))) (Nat.mul 4 (btN (Nat.beq a 128)))
theorem decV_lt (a : Nat) : decV a < 256 := Nat.and_lt_two_pow (n := 8) _ (by decide)
theorem decV_int (a : Nat) (ha : a < 256) : bits .and .i64 ((a : Int) - 1) 255 = (decV a : Nat) := by
  have h : decV a = (a + 255) % 2 ^ 8 := Nat.and_two_pow_sub_one_eq_mod (a + 255) 8
  rw [i64_and255, h]
  omega

def logV (op a b : Nat) : Nat := cond (Nat.beq op 0) (Nat.land a b) (cond (Nat.beq op 1) (Nat.xor a b) (Nat.lor a b))
def logF (op a b : Nat) : Nat := cond (Nat.beq op 0) (Nat.lor (szpN (Nat.land a b)) 16) (szpN (logV op a b))
end Go.Proofs.Ytghcagibdcblnaa

/- What the specification's turns answer, as plain functions of natural numbers. -/
namespace Go.Proofs.Ytghcagibdcblnaa
open Go.ChangeShapes Go.WideShapes Go.ChangeAt Go.RowKit
set_option linter.unusedVariables false

theorem orAnd (x y : Nat) (hx : x < 32768) (hy : y < 32768) : bits .and .i64 (bits .or .i64 (x : Int) (y : Int)) 255 = ((Nat.land (Nat.lor x y) 255 : Nat) : Int) := by
  have h1 : Nat.lor x y < 2 ^ 15 := Nat.or_lt_two_pow (by omega) (by omega)
  rw [bOr x y (by omega) (by omega)]
  exact bAnd _ 255 (by omega) (by omega)

def turnO (op a : Nat) : Nat := cond (Nat.beq (Nat.land op 1) 1) (Nat.land a 1) (Nat.div a 128)
def turnV : Nat → Nat → Nat → Nat
  | 0, a, _ => Nat.land (Nat.lor (Nat.mul a 2) (Nat.div a 128)) 255
  | 1, a, _ => Nat.land (Nat.lor (Nat.div a 2) (Nat.mul (Nat.land a 1) 128)) 255
  | 2, a, c => Nat.land (Nat.lor (Nat.mul a 2) c) 255
  | 3, a, c => Nat.land (Nat.lor (Nat.div a 2) (Nat.mul c 128)) 255
  | 4, a, _ => Nat.land (Nat.mul a 2) 255
  | 5, a, _ => Nat.land (Nat.lor (Nat.div a 2) (Nat.land a 128)) 255
  | 6, a, _ => Nat.land (Nat.lor (Nat.mul a 2) 1) 255
  | 7, a, _ => Nat.land (Nat.div a 2) 255
  | _, _, _ => 0
def turnF (op a c : Nat) : Nat := Nat.lor (szpN (turnV op a c)) (turnO op a)
def turnW (op a f : Nat) : Nat := turnV op a (Nat.land f 1)
def turnG (op a f : Nat) : Nat := turnF op a (Nat.land f 1)
end Go.Proofs.Ytghcagibdcblnaa

/- What the specification's decimal adjustment and its test of a bit answer, as plain functions of natural numbers. -/
namespace Go.Proofs.Ytghcagibdcblnaa
open Go.ChangeShapes Go.WideShapes Go.ChangeAt Go.RowKit
set_option linter.unusedVariables false

def tstF (bit a f : Nat) : Nat :=
  Nat.lor (Nat.lor (Nat.lor (Nat.lor (Nat.land f 1) 16) (Nat.land a 40)) (Nat.land (Nat.land a (Nat.pow 2 bit)) 128)) (Nat.mul 68 (btN (Nat.beq (Nat.land a (Nat.pow 2 bit)) 0)))

def daaX (a f : Nat) : Nat := Nat.add (cond (or (not (Nat.beq (Nat.land f 16) 0)) (Nat.ble 10 (Nat.land a 15))) 6 0) (cond (or (Nat.beq (Nat.land f 1) 1) (Nat.ble 154 a)) 96 0)
def daaV (a f : Nat) : Nat := cond (Nat.beq (Nat.land f 2) 0) (Nat.land (Nat.add a (daaX a f)) 255) (Nat.land (Nat.sub (Nat.add a 512) (daaX a f)) 255)
def daaC (a f : Nat) : Nat := cond (or (Nat.beq (Nat.land f 1) 1) (Nat.ble 154 a)) 1 0
def daaH (a f : Nat) : Nat := cond (Nat.beq (Nat.land f 2) 0) (btN (Nat.ble 10 (Nat.land a 15))) (btN (and (not (Nat.beq (Nat.land f 16) 0)) (Nat.ble (Nat.add (Nat.land a 15) 1) 6)))
def daaF (a f : Nat) : Nat := Nat.lor (Nat.lor (Nat.lor (szpN (daaV a f)) (Nat.land f 2)) (daaC a f)) (Nat.mul 16 (daaH a f))
end Go.Proofs.Ytghcagibdcblnaa
