/- What the specification's sum and difference answer, as plain functions of natural numbers. -/
import Derived.Test.YtacghkidpbflkabDoorQ15
namespace Go.Proofs.YtacghkidpbflkabDoor
open Go.ChangeShapes Go.WideShapes Go.ChangeAt Go.RowKit
set_option linter.unusedVariables false

theorem or4 (s c h p : Nat) (hs : s < 256) (hc : c < 256) (hh : h < 256) (hp : p < 256) :
    bits .or .i64 (bits .or .i64 (bits .or .i64 (s : Int) (c : Int)) (h : Int)) (p : Int) = ((Nat.lor (Nat.lor (Nat.lor s c) h) p : Nat) : Int) := by
  have h1 : Nat.lor s c < 2 ^ 8 := Nat.or_lt_two_pow hs hc
  have h2 : Nat.lor (Nat.lor s c) h < 2 ^ 8 := Nat.or_lt_two_pow h1 hh
  rw [bOr s c (by omega) (by omega), bOr _ h (by omega) (by omega), bOr _ p (by omega) (by omega)]

/-- the sum's byte and its flags -/
def addV (a b c : Nat) : Nat := Nat.land (Nat.add (Nat.add a b) c) 255
def addF (a b c : Nat) : Nat :=
  Nat.lor (Nat.lor (Nat.lor (szN (addV a b c)) (btN (Nat.ble 256 (Nat.add (Nat.add a b) c)))) (Nat.mul 16 (btN (Nat.ble 16 (Nat.add (Nat.add (Nat.land a 15) (Nat.land b 15)) c)))))
    (Nat.mul 4 (btN (and (Nat.beq (Nat.land (Nat.xor a b) 128) 0) (not (Nat.beq (Nat.land (Nat.xor a (addV a b c)) 128) 0)))))
theorem addV_lt (a b c : Nat) : addV a b c < 256 := Nat.and_lt_two_pow (n := 8) _ (by decide)

theorem i64_and255 (n : Int) : bits .and .i64 n 255 = n % 256 := by
  have h255 : (BitVec.ofInt 64 255).toNat = 2 ^ 8 - 1 := by decide
  have key : (BitVec.ofInt 64 n &&& BitVec.ofInt 64 255).toNat = (n % ((2 ^ 64 : Nat) : Int)).toNat % 2 ^ 8 := by
    rw [BitVec.toNat_and, BitVec.toNat_ofInt, h255, Nat.and_two_pow_sub_one_eq_mod]
  show IntKind.i64.wrap ((BitVec.ofInt 64 n &&& BitVec.ofInt 64 255).toNat : Nat) = n % 256
  rw [key, IntKind.wrap_i64]
  omega
theorem or5 (s n c h p : Nat) (hs : s < 256) (hn : n < 256) (hc : c < 256) (hh : h < 256) (hp : p < 256) :
    bits .or .i64 (bits .or .i64 (bits .or .i64 (bits .or .i64 (s : Int) (n : Int)) (c : Int)) (h : Int)) (p : Int) = ((Nat.lor (Nat.lor (Nat.lor (Nat.lor s n) c) h) p : Nat) : Int) := by
  have h1 : Nat.lor s n < 2 ^ 8 := Nat.or_lt_two_pow hs hn
  rw [bOr s n (by omega) (by omega)]
  exact or4 (Nat.lor s n) c h p h1 hc hh hp
/-- the difference's byte and its flags -/
def subV (a b c : Nat) : Nat := Nat.land (Nat.sub (Nat.sub (Nat.add a 512) b) c) 255
def subF (a b c : Nat) : Nat :=
  Nat.lor (Nat.lor (Nat.lor (Nat.lor (szN (subV a b c)) 2) (btN (Nat.ble (Nat.add a 1) (Nat.add b c)))) (Nat.mul 16 (btN (Nat.ble (Nat.add (Nat.land a 15) 1) (Nat.add (Nat.land b 15) c)))))
    (Nat.mul 4 (btN (and (not (Nat.beq (Nat.land (Nat.xor a b) 128) 0)) (not (Nat.beq (Nat.land (Nat.xor a (subV a b c)) 128) 0)))))
theorem subV_lt (a b c : Nat) : subV a b c < 256 := Nat.and_lt_two_pow (n := 8) _ (by decide)
theorem subV_int (a b c : Nat) (ha : a < 256) (hb : b < 256) (hc : c < 2) : bits .and .i64 ((a : Int) - b - c) 255 = (subV a b c : Nat) := by
  have h : subV a b c = (a + 512 - b - c) % 2 ^ 8 := Nat.and_two_pow_sub_one_eq_mod (a + 512 - b - c) 8
  rw [i64_and255, h]
  omega

end Go.Proofs.YtacghkidpbflkabDoor
