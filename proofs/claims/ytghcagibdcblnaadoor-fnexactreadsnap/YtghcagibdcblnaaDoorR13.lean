/- What impl.Parity and spec.Parity answer, and the functions that they call: both are the one test parB, in every world, which stays as it was. -/
import Derived.Test.YtghcagibdcblnaaDoorR00
import Derived.WalkKit
import Derived.ProofKit
import Derived.Lib.Tables
import Derived.Laws.BitsAllLaws
import Derived.Test.YtghcagibdcblnaaDoorR06
namespace Go.Proofs.YtghcagibdcblnaaDoor
open Go.ChangeShapes Go.WideShapes Go.ChangeAt Go.RowKit
set_option linter.unusedVariables false

def prf : Nat → Nat → Bool
  | 0, _ => false
  | f + 1, n => (n % 2 == 1) != prf f (n / 2)
theorem prf_zero (f : Nat) : prf f 0 = false := by
  induction f with
  | zero => rfl
  | succ f ih => simp [prf, ih]
theorem i64_and1 (n : Nat) (h : n < 256) : bits .and .i64 (n : Int) 1 = ((n % 2 : Nat) : Int) := by
  show IntKind.i64.wrap ((BitVec.ofInt 64 (n : Int) &&& BitVec.ofInt 64 1).toNat : Nat) = _
  have h1 : (BitVec.ofInt 64 1).toNat = 1 := by decide
  rw [BitVec.toNat_and, BitVec.toNat_ofInt, h1, Nat.and_one_is_mod, IntKind.wrap_i64]
  omega
theorem pop8_par : ∀ v : Fin 256, (Lib.pop8 (v.val : Int) % 2 == 0) = !prf 8 v.val := by decide +kernel

theorem round_par {e : Bool} {f n : Nat} (h : 0 < n) (hn : n < 2 ^ f) (hn2 : n < 256) {B : Bool} (H : (e != prf f n) = B) :
    ∃ (f' n' : Nat) (e' : Bool), n' < 2 ^ f' ∧ n' < 256 ∧ Value.int .i64 ((n : Int) / 2) = .int .i64 n' ∧ Value.bool (!(e == (bits BinOp.and IntKind.i64 (n : Int) 1 == 1))) = .bool e' ∧ (e' != prf f' n') = B := by
  cases f with
  | zero => simp at hn; omega
  | succ f =>
    refine ⟨f, n / 2, _, by rw [Nat.pow_succ] at hn; omega, by omega, by simp, rfl, ?_⟩
    rw [← H, i64_and1 n hn2]
    simp only [prf]
    have : (((n % 2 : Nat) : Int) == 1) = (n % 2 == 1) := by rw [Bool.eq_iff_iff]; simp; omega
    rw [this]
    cases e <;> cases (n % 2 == 1) <;> cases prf f (n / 2) <;> rfl
theorem pop8_wrap : ∀ v : Fin 256, wrap64 (Lib.pop8 (v.val : Int)) = Lib.pop8 (v.val : Int) ∧ 0 ≤ Lib.pop8 (v.val : Int) ∧ Lib.pop8 (v.val : Int) ≤ 8 := by decide +kernel
def parB (v : Int) : Bool := decide (0 ≤ v ∧ v ≤ 255) && !prf 8 v.toNat
theorem parB_no {v : Int} (h : ¬ (0 ≤ v ∧ v ≤ 255)) : false = parB v := by unfold parB; rw [decide_eq_false h]; rfl
end Go.Proofs.YtghcagibdcblnaaDoor

/- What the specification's unit answers, part by part, as plain functions of natural numbers. -/
namespace Go.Proofs.YtghcagibdcblnaaDoor
open Go.ChangeShapes Go.WideShapes Go.ChangeAt Go.RowKit
set_option linter.unusedVariables false

def szN (v : Nat) : Nat := Nat.lor (Nat.land v 168) (Nat.mul 64 (btN (Nat.beq v 0)))
theorem szN_lt (v : Nat) (hv : v < 256) : szN v < 256 := by
  have h1 : Nat.land v 168 < 2 ^ 8 := Nat.and_lt_two_pow _ (by omega)
  have h2 : Nat.mul 64 (btN (Nat.beq v 0)) < 2 ^ 8 := by unfold btN; cases Nat.beq v 0 <;> decide
  exact Nat.or_lt_two_pow h1 h2
theorem sz_all : allB 256 (fun v => or (Nat.beq v 0) (decide (bits .or .i64 (bits .and .i64 (Int.ofNat v) 168) 0 = Int.ofNat (szN v)))) = true := by decide +kernel
theorem sz_end (v : Nat) (hv : v < 256) (h : v ≠ 0) : bits .or .i64 (bits .and .i64 (v : Int) 168) 0 = (szN v : Nat) := by
  have := allB_at sz_all v hv
  have h4 : Nat.beq v 0 = false := by cases v with | zero => omega | succ n => rfl
  rw [h4, Bool.false_or] at this
  exact of_decide_eq_true this

def szpN (v : Nat) : Nat := Nat.lor (szN v) (Nat.mul 4 (btN (!prf 8 v)))
theorem szpN_lt (v : Nat) (hv : v < 256) : szpN v < 256 := by
  have h2 : Nat.mul 4 (btN (!prf 8 v)) < 2 ^ 8 := by unfold btN; cases (!prf 8 v) <;> decide
  exact Nat.or_lt_two_pow (n := 8) (szN_lt v hv) h2
theorem szp_yes (v : Nat) (hv : v < 256) (h : prf 8 v = false) : bits .or .i64 ((szN v : Nat) : Int) 4 = (szpN v : Nat) := by
  have hl := szN_lt v hv
  have h2 : bits .or .i64 ((szN v : Nat) : Int) 4 = _ := bOr (szN v) 4 (by omega) (by omega)
  rw [h2]
  unfold szpN
  rw [h]
  rfl
theorem szp_no (v : Nat) (hv : v < 256) (h : prf 8 v = true) : bits .or .i64 ((szN v : Nat) : Int) 0 = (szpN v : Nat) := by
  have hl := szN_lt v hv
  have h2 : bits .or .i64 ((szN v : Nat) : Int) 0 = _ := bOr (szN v) 0 (by omega) (by omega)
  rw [h2]
  unfold szpN
  rw [h]
  rfl


end Go.Proofs.YtghcagibdcblnaaDoor

/- What the specification's sum and difference answer, as plain functions of natural numbers. -/
namespace Go.Proofs.YtghcagibdcblnaaDoor
open Go.ChangeShapes Go.WideShapes Go.ChangeAt Go.RowKit
set_option linter.unusedVariables false

theorem or4 (s c h p : Nat) (hs : s < 256) (hc : c < 256) (hh : h < 256) (hp : p < 256) :
    bits .or .i64 (bits .or .i64 (bits .or .i64 (s : Int) (c : Int)) (h : Int)) (p : Int) = ((Nat.lor (Nat.lor (Nat.lor s c) h) p : Nat) : Int) := by
  have h1 : Nat.lor s c < 2 ^ 8 := Nat.or_lt_two_pow hs hc
  have h2 : Nat.lor (Nat.lor s c) h < 2 ^ 8 := Nat.or_lt_two_pow h1 hh
  rw [bOr s c (by omega) (by omega), bOr _ h (by omega) (by omega), bOr _ p (by omega) (by omega)]

/-- the sum's byte and its flags -/
def addV (a b c : Nat) : Nat := Nat.land (Nat.add (Nat.add a b) c) 255
def addF (a b c : Nat) : Nat :=
  Nat.lor (Nat.lor (Nat.lor (szN (addV a b c)) (btN (Nat.ble 256 (Nat.add (Nat.add a b) c)))) (Nat.mul 16 (btN (Nat.ble 16 (Nat.add (Nat.add (Nat.land a 15) (Nat.land b 15)) c)))))
    (Nat.mul 4 (btN (and (Nat.beq (Nat.land (Nat.xor a b) 128) 0) (not (Nat.beq (Nat.land (Nat.xor a (addV a b c)) 128) 0)))))
theorem addV_lt (a b c : Nat) : addV a b c < 256 := Nat.and_lt_two_pow (n := 8) _ (by decide)

theorem i64_and255 (n : Int) : bits .and .i64 n 255 = n % 256 := by
  have h255 : (BitVec.ofInt 64 255).toNat = 2 ^ 8 - 1 := by decide
  have key : (BitVec.ofInt 64 n &&& BitVec.ofInt 64 255).toNat = (n % ((2 ^ 64 : Nat) : Int)).toNat % 2 ^ 8 := by
    rw [BitVec.toNat_and, BitVec.toNat_ofInt, h255, Nat.and_two_pow_sub_one_eq_mod]
  show IntKind.i64.wrap ((BitVec.ofInt 64 n &&& BitVec.ofInt 64 255).toNat : Nat) = n % 256
  rw [key, IntKind.wrap_i64]
  omega
theorem or5 (s n c h p : Nat) (hs : s < 256) (hn : n < 256) (hc : c < 256) (hh : h < 256) (hp : p < 256) :
    bits .or .i64 (bits .or .i64 (bits .or .i64 (bits .or .i64 (s : Int) (n : Int)) (c : Int)) (h : Int)) (p : Int) = ((Nat.lor (Nat.lor (Nat.lor (Nat.lor s n) c) h) p : Nat) : Int) := by
  have h1 : Nat.lor s n < 2 ^ 8 := Nat.or_lt_two_pow hs hn
  rw [bOr s n (by omega) (by omega)]
  exact or4 (Nat.lor s n) c h p h1 hc hh hp
/-- the difference's byte and its flags -/
def subV (a b c : Nat) : Nat := Nat.land (Nat.sub (Nat.sub (Nat.add a 512) b) c) 255
def subF (a b c : Nat) : Nat :=
  Nat.lor (Nat.lor (Nat.lor (Nat.lor (szN (subV a b c)) 2) (btN (Nat.ble (Nat.add a 1) (Nat.add b c)))) (Nat.mul 16 (btN (Nat.ble (Nat.add (Nat.land a 15) 1) (Nat.add (Nat.land b 15) c)))))
    (Nat.mul 4 (btN (and (not (Nat.beq (Nat.land (Nat.xor a b) 128) 0)) (not (Nat.beq (Nat.land (Nat.xor a (subV a b c)) 128) 0)))))
theorem subV_lt (a b c : Nat) : subV a b c < 256 := Nat.and_lt_two_pow (n := 8) _ (by decide)
theorem subV_int (a b c : Nat) (ha : a < 256) (hb : b < 256) (hc : c < 2) : bits .and .i64 ((a : Int) - b - c) 255 = (subV a b c : Nat) := by
  have h : subV a b c = (a + 512 - b - c) % 2 ^ 8 := Nat.and_two_pow_sub_one_eq_mod (a + 512 - b - c) 8
  rw [i64_and255, h]
  omega

end Go.Proofs.YtghcagibdcblnaaDoor

/- What the specification's steps and logic answer, and its sum, difference, steps and logic as they are asked. -/
namespace Go.Proofs.YtghcagibdcblnaaDoor
open Go.ChangeShapes Go.WideShapes Go.ChangeAt Go.RowKit
set_option linter.unusedVariables false

def incV (a : Nat) : Nat := Nat.land (Nat.add a 1) 255
def incF (a f : Nat) : Nat := Nat.lor (Nat.lor (Nat.lor (Nat.land f 1) (szN (incV a))) (Nat.mul 16 (btN (Nat.beq (Nat.land a 15) 15)))) (Nat.mul 4 (btN (Nat.beq a 127)))
theorem incV_lt (a : Nat) : incV a < 256 := Nat.and_lt_two_pow (n := 8) _ (by decide)
theorem incV_int (a : Nat) (ha : a < 256) : bits .and .i64 ((a : Int) + 1) 255 = (incV a : Nat) := by
  have h : incV a = (a + 1) % 2 ^ 8 := Nat.and_two_pow_sub_one_eq_mod (a + 1) 8
  rw [i64_and255, h]
  omega

def decV (a : Nat) : Nat := Nat.land (Nat.add a 255) 255
def decF (a f : Nat) : Nat := Nat.lor (Nat.lor (Nat.lor (Nat.lor (Nat.land f 1) (szN (decV a))) 2) (Nat.mul 16 (btN (Nat.beq (Nat.land a 15) 0)))) (Nat.mul 4 (btN (Nat.beq a 128)))
theorem decV_lt (a : Nat) : decV a < 256 := Nat.and_lt_two_pow (n := 8) _ (by decide)
theorem decV_int (a : Nat) (ha : a < 256) : bits .and .i64 ((a : Int) - 1) 255 = (decV a : Nat) := by
  have h : decV a = (a + 255) % 2 ^ 8 := Nat.and_two_pow_sub_one_eq_mod (a + 255) 8
  rw [i64_and255, h]
  omega

def logV (op a b : Nat) : Nat := cond (Nat.beq op 0) (Nat.land a b) (cond (Nat.beq op 1) (Nat.xor a b) (Nat.lor a b))
def logF (op a b : Nat) : Nat := cond (Nat.beq op 0) (Nat.lor (szpN (Nat.land a b)) 16) (szpN (logV op a b))
end Go.Proofs.YtghcagibdcblnaaDoor

/- What the specification's turns answer, as plain functions of natural numbers. -/
namespace Go.Proofs.YtghcagibdcblnaaDoor
open Go.ChangeShapes Go.WideShapes Go.ChangeAt Go.RowKit
set_option linter.unusedVariables false

theorem orAnd (x y : Nat) (hx : x < 32768) (hy : y < 32768) : bits .and .i64 (bits .or .i64 (x : Int) (y : Int)) 255 = ((Nat.land (Nat.lor x y) 255 : Nat) : Int) := by
  have h1 : Nat.lor x y < 2 ^ 15 := Nat.or_lt_two_pow (by omega) (by omega)
  rw [bOr x y (by omega) (by omega)]
  exact bAnd _ 255 (by omega) (by omega)

def turnO (op a : Nat) : Nat := cond (Nat.beq (Nat.land op 1) 1) (Nat.land a 1) (Nat.div a 128)
def turnV : Nat → Nat → Nat → Nat
  | 0, a, _ => Nat.land (Nat.lor (Nat.mul a 2) (Nat.div a 128)) 255
  | 1, a, _ => Nat.land (Nat.lor (Nat.div a 2) (Nat.mul (Nat.land a 1) 128)) 255
  | 2, a, c => Nat.land (Nat.lor (Nat.mul a 2) c) 255
  | 3, a, c => Nat.land (Nat.lor (Nat.div a 2) (Nat.mul c 128)) 255
  | 4, a, _ => Nat.land (Nat.mul a 2) 255
  | 5, a, _ => Nat.land (Nat.lor (Nat.div a 2) (Nat.land a 128)) 255
  | 6, a, _ => Nat.land (Nat.lor (Nat.mul a 2) 1) 255
  | 7, a, _ => Nat.land (Nat.div a 2) 255
  | _, _, _ => 0
def turnF (op a c : Nat) : Nat := Nat.lor (szpN (turnV op a c)) (turnO op a)
def turnW (op a f : Nat) : Nat := turnV op a (Nat.land f 1)
def turnG (op a f : Nat) : Nat := turnF op a (Nat.land f 1)
end Go.Proofs.YtghcagibdcblnaaDoor

/- What the specification's decimal adjustment and its test of a bit answer, as plain functions of natural numbers. -/
namespace Go.Proofs.YtghcagibdcblnaaDoor
open Go.ChangeShapes Go.WideShapes Go.ChangeAt Go.RowKit
set_option linter.unusedVariables false

def tstF (bit a f : Nat) : Nat :=
  Nat.lor (Nat.lor (Nat.lor (Nat.lor (Nat.land f 1) 16) (Nat.land a 40)) (Nat.land (Nat.land a (Nat.pow 2 bit)) 128)) (Nat.mul 68 (btN (Nat.beq (Nat.land a (Nat.pow 2 bit)) 0)))

def daaX (a f : Nat) : Nat := Nat.add (cond (or (not (Nat.beq (Nat.land f 16) 0)) (Nat.ble 10 (Nat.land a 15))) 6 0) (cond (or (Nat.beq (Nat.land f 1) 1) (Nat.ble 154 a)) 96 0)
def daaV (a f : Nat) : Nat := cond (Nat.beq (Nat.land f 2) 0) (Nat.land (Nat.add a (daaX a f)) 255) (Nat.land (Nat.sub (Nat.add a 512) (daaX a f)) 255)
def daaC (a f : Nat) : Nat := cond (or (Nat.beq (Nat.land f 1) 1) (Nat.ble 154 a)) 1 0
def daaH (a f : Nat) : Nat := cond (Nat.beq (Nat.land f 2) 0) (btN (Nat.ble 10 (Nat.land a 15))) (btN (and (not (Nat.beq (Nat.land f 16) 0)) (Nat.ble (Nat.add (Nat.land a 15) 1) 6)))
def daaF (a f : Nat) : Nat := Nat.lor (Nat.lor (Nat.lor (szpN (daaV a f)) (Nat.land f 2)) (daaC a f)) (Nat.mul 16 (daaH a f))
end Go.Proofs.YtghcagibdcblnaaDoor
