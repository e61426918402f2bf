/- What the specification's decimal adjustment and its test of a bit answer, as plain functions of natural numbers. -/
import Derived.Test.YtffogcielohoeaaDoorAf
namespace Go.Proofs.YtffogcielohoeaaDoor
open Go.ChangeShapes Go.WideShapes Go.ChangeAt Go.RowKit
set_option linter.unusedVariables false

def tstF (bit a f : Nat) : Nat :=
  Nat.lor (Nat.lor (Nat.lor (Nat.lor (Nat.land f 1) 16) (Nat.land a 40)) (Nat.land (Nat.land a (Nat.pow 2 bit)) 128)) (Nat.mul 68 (btN (Nat.beq (Nat.land a (Nat.pow 2 bit)) 0)))
theorem test_spec (bit a f : Nat) (w : World) (ho : bit < 8) (ha : a < 256) (hf : f < 256) :
    Calls Tryd.prog 44 #[.int .i64 bit, .int .i64 a, .int .i64 f] w fun e w' => e = .returned (.int .i64 (tstF bit a f)) ∧ w' = w := by
  have rc : bits .and .i64 (f : Int) 1 = (Nat.land f 1 : Nat) := bAnd f 1 (by omega) (by omega)
  have hc : Nat.land f 1 < 2 ^ 1 := Nat.and_lt_two_pow _ (by decide)
  have r4 : bits .and .i64 (a : Int) 40 = (Nat.land a 40 : Nat) := bAnd a 40 (by omega) (by omega)
  have h4 : Nat.land a 40 < 2 ^ 8 := Nat.and_lt_two_pow _ (by decide)
  have hp : Nat.pow 2 bit < 256 := by have h := Nat.pow_lt_pow_right (a := 2) (by decide) ho; exact h
  have hV : Nat.land a (Nat.pow 2 bit) < 2 ^ 8 := Nat.and_lt_two_pow _ hp
  have rV := bAnd a (Nat.pow 2 bit) (by omega) (by omega)
  have r8 : bits .and .i64 ((Nat.land a (Nat.pow 2 bit) : Nat) : Int) 128 = (Nat.land (Nat.land a (Nat.pow 2 bit)) 128 : Nat) := bAnd _ 128 (by omega) (by omega)
  have h8 : Nat.land (Nat.land a (Nat.pow 2 bit)) 128 < 2 ^ 8 := Nat.and_lt_two_pow _ (by decide)
  have hF : tstF bit a f = Nat.lor (Nat.lor (Nat.lor (Nat.lor (Nat.land f 1) 16) (Nat.land a 40)) (Nat.land (Nat.land a (Nat.pow 2 bit)) 128)) (Nat.mul 68 (btN (Nat.beq (Nat.land a (Nat.pow 2 bit)) 0))) := rfl
  generalize tstF bit a f = F at hF ⊢
  have HF : Hid (F = _) := hF
  clear hF hp
  have h3 : bit = 0 ∨ bit = 1 ∨ bit = 2 ∨ bit = 3 ∨ bit = 4 ∨ bit = 5 ∨ bit = 6 ∨ bit = 7 := by omega
  rcases h3 with rfl | rfl | rfl | rfl | rfl | rfl | rfl | rfl
  · replace rV : bits .and .i64 (a : Int) 1 = (Nat.land a (Nat.pow 2 0) : Nat) := rV
    generalize Nat.land (Nat.land a (Nat.pow 2 0)) 128 = V8 at *
    generalize Nat.land a (Nat.pow 2 0) = V at *
    generalize Nat.land a 40 = A4 at *
    generalize Nat.land f 1 = C1 at *
    by_cases kz : V = 0
    · have b1 : Nat.beq V 0 = true := by rw [kz]; rfl
      have kz' : ((V : Int) == 0) = true := by simp; omega
      have E : Hid (bits .or .i64 (bits .or .i64 (bits .or .i64 (bits .or .i64 (C1 : Int) 16) (A4 : Int)) (V8 : Int)) 68 = (F : Int)) := by
        unfold Hid
        rw [HF.out, b1]
        exact or5 C1 16 A4 V8 68 (by omega) (by omega) (by omega) (by omega) (by omega)
      clear b1 HF kz
      go_enter Tryd.func44, Tryd.ntmps44
      go_wp2
      go_ret
      exact ⟨by rw [E.out]; rfl, rfl⟩
    · have b1 : Nat.beq V 0 = false := by rw [Bool.eq_false_iff]; intro h; exact kz (Nat.eq_of_beq_eq_true h)
      have kz' : ((V : Int) == 0) = false := by simp; omega
      have E : Hid (bits .or .i64 (bits .or .i64 (bits .or .i64 (bits .or .i64 (C1 : Int) 16) (A4 : Int)) (V8 : Int)) 0 = (F : Int)) := by
        unfold Hid
        rw [HF.out, b1]
        exact or5 C1 16 A4 V8 0 (by omega) (by omega) (by omega) (by omega) (by omega)
      clear b1 HF kz
      go_enter Tryd.func44, Tryd.ntmps44
      go_wp2
      go_ret
      exact ⟨by rw [E.out]; rfl, rfl⟩
  · replace rV : bits .and .i64 (a : Int) 2 = (Nat.land a (Nat.pow 2 1) : Nat) := rV
    generalize Nat.land (Nat.land a (Nat.pow 2 1)) 128 = V8 at *
    generalize Nat.land a (Nat.pow 2 1) = V at *
    generalize Nat.land a 40 = A4 at *
    generalize Nat.land f 1 = C1 at *
    by_cases kz : V = 0
    · have b1 : Nat.beq V 0 = true := by rw [kz]; rfl
      have kz' : ((V : Int) == 0) = true := by simp; omega
      have E : Hid (bits .or .i64 (bits .or .i64 (bits .or .i64 (bits .or .i64 (C1 : Int) 16) (A4 : Int)) (V8 : Int)) 68 = (F : Int)) := by
        unfold Hid
        rw [HF.out, b1]
        exact or5 C1 16 A4 V8 68 (by omega) (by omega) (by omega) (by omega) (by omega)
      clear b1 HF kz
      go_enter Tryd.func44, Tryd.ntmps44
      go_wp2
      go_ret
      exact ⟨by rw [E.out]; rfl, rfl⟩
    · have b1 : Nat.beq V 0 = false := by rw [Bool.eq_false_iff]; intro h; exact kz (Nat.eq_of_beq_eq_true h)
      have kz' : ((V : Int) == 0) = false := by simp; omega
      have E : Hid (bits .or .i64 (bits .or .i64 (bits .or .i64 (bits .or .i64 (C1 : Int) 16) (A4 : Int)) (V8 : Int)) 0 = (F : Int)) := by
        unfold Hid
        rw [HF.out, b1]
        exact or5 C1 16 A4 V8 0 (by omega) (by omega) (by omega) (by omega) (by omega)
      clear b1 HF kz
      go_enter Tryd.func44, Tryd.ntmps44
      go_wp2
      go_ret
      exact ⟨by rw [E.out]; rfl, rfl⟩
  · replace rV : bits .and .i64 (a : Int) 4 = (Nat.land a (Nat.pow 2 2) : Nat) := rV
    generalize Nat.land (Nat.land a (Nat.pow 2 2)) 128 = V8 at *
    generalize Nat.land a (Nat.pow 2 2) = V at *
    generalize Nat.land a 40 = A4 at *
    generalize Nat.land f 1 = C1 at *
    by_cases kz : V = 0
    · have b1 : Nat.beq V 0 = true := by rw [kz]; rfl
      have kz' : ((V : Int) == 0) = true := by simp; omega
      have E : Hid (bits .or .i64 (bits .or .i64 (bits .or .i64 (bits .or .i64 (C1 : Int) 16) (A4 : Int)) (V8 : Int)) 68 = (F : Int)) := by
        unfold Hid
        rw [HF.out, b1]
        exact or5 C1 16 A4 V8 68 (by omega) (by omega) (by omega) (by omega) (by omega)
      clear b1 HF kz
      go_enter Tryd.func44, Tryd.ntmps44
      go_wp2
      go_ret
      exact ⟨by rw [E.out]; rfl, rfl⟩
    · have b1 : Nat.beq V 0 = false := by rw [Bool.eq_false_iff]; intro h; exact kz (Nat.eq_of_beq_eq_true h)
      have kz' : ((V : Int) == 0) = false := by simp; omega
      have E : Hid (bits .or .i64 (bits .or .i64 (bits .or .i64 (bits .or .i64 (C1 : Int) 16) (A4 : Int)) (V8 : Int)) 0 = (F : Int)) := by
        unfold Hid
        rw [HF.out, b1]
        exact or5 C1 16 A4 V8 0 (by omega) (by omega) (by omega) (by omega) (by omega)
      clear b1 HF kz
      go_enter Tryd.func44, Tryd.ntmps44
      go_wp2
      go_ret
      exact ⟨by rw [E.out]; rfl, rfl⟩
  · replace rV : bits .and .i64 (a : Int) 8 = (Nat.land a (Nat.pow 2 3) : Nat) := rV
    generalize Nat.land (Nat.land a (Nat.pow 2 3)) 128 = V8 at *
    generalize Nat.land a (Nat.pow 2 3) = V at *
    generalize Nat.land a 40 = A4 at *
    generalize Nat.land f 1 = C1 at *
    by_cases kz : V = 0
    · have b1 : Nat.beq V 0 = true := by rw [kz]; rfl
      have kz' : ((V : Int) == 0) = true := by simp; omega
      have E : Hid (bits .or .i64 (bits .or .i64 (bits .or .i64 (bits .or .i64 (C1 : Int) 16) (A4 : Int)) (V8 : Int)) 68 = (F : Int)) := by
        unfold Hid
        rw [HF.out, b1]
        exact or5 C1 16 A4 V8 68 (by omega) (by omega) (by omega) (by omega) (by omega)
      clear b1 HF kz
      go_enter Tryd.func44, Tryd.ntmps44
      go_wp2
      go_ret
      exact ⟨by rw [E.out]; rfl, rfl⟩
    · have b1 : Nat.beq V 0 = false := by rw [Bool.eq_false_iff]; intro h; exact kz (Nat.eq_of_beq_eq_true h)
      have kz' : ((V : Int) == 0) = false := by simp; omega
      have E : Hid (bits .or .i64 (bits .or .i64 (bits .or .i64 (bits .or .i64 (C1 : Int) 16) (A4 : Int)) (V8 : Int)) 0 = (F : Int)) := by
        unfold Hid
        rw [HF.out, b1]
        exact or5 C1 16 A4 V8 0 (by omega) (by omega) (by omega) (by omega) (by omega)
      clear b1 HF kz
      go_enter Tryd.func44, Tryd.ntmps44
      go_wp2
      go_ret
      exact ⟨by rw [E.out]; rfl, rfl⟩
  · replace rV : bits .and .i64 (a : Int) 16 = (Nat.land a (Nat.pow 2 4) : Nat) := rV
    generalize Nat.land (Nat.land a (Nat.pow 2 4)) 128 = V8 at *
    generalize Nat.land a (Nat.pow 2 4) = V at *
    generalize Nat.land a 40 = A4 at *
    generalize Nat.land f 1 = C1 at *
    by_cases kz : V = 0
    · have b1 : Nat.beq V 0 = true := by rw [kz]; rfl
      have kz' : ((V : Int) == 0) = true := by simp; omega
      have E : Hid (bits .or .i64 (bits .or .i64 (bits .or .i64 (bits .or .i64 (C1 : Int) 16) (A4 : Int)) (V8 : Int)) 68 = (F : Int)) := by
        unfold Hid
        rw [HF.out, b1]
        exact or5 C1 16 A4 V8 68 (by omega) (by omega) (by omega) (by omega) (by omega)
      clear b1 HF kz
      go_enter Tryd.func44, Tryd.ntmps44
      go_wp2
      go_ret
      exact ⟨by rw [E.out]; rfl, rfl⟩
    · have b1 : Nat.beq V 0 = false := by rw [Bool.eq_false_iff]; intro h; exact kz (Nat.eq_of_beq_eq_true h)
      have kz' : ((V : Int) == 0) = false := by simp; omega
      have E : Hid (bits .or .i64 (bits .or .i64 (bits .or .i64 (bits .or .i64 (C1 : Int) 16) (A4 : Int)) (V8 : Int)) 0 = (F : Int)) := by
        unfold Hid
        rw [HF.out, b1]
        exact or5 C1 16 A4 V8 0 (by omega) (by omega) (by omega) (by omega) (by omega)
      clear b1 HF kz
      go_enter Tryd.func44, Tryd.ntmps44
      go_wp2
      go_ret
      exact ⟨by rw [E.out]; rfl, rfl⟩
  · replace rV : bits .and .i64 (a : Int) 32 = (Nat.land a (Nat.pow 2 5) : Nat) := rV
    generalize Nat.land (Nat.land a (Nat.pow 2 5)) 128 = V8 at *
    generalize Nat.land a (Nat.pow 2 5) = V at *
    generalize Nat.land a 40 = A4 at *
    generalize Nat.land f 1 = C1 at *
    by_cases kz : V = 0
    · have b1 : Nat.beq V 0 = true := by rw [kz]; rfl
      have kz' : ((V : Int) == 0) = true := by simp; omega
      have E : Hid (bits .or .i64 (bits .or .i64 (bits .or .i64 (bits .or .i64 (C1 : Int) 16) (A4 : Int)) (V8 : Int)) 68 = (F : Int)) := by
        unfold Hid
        rw [HF.out, b1]
        exact or5 C1 16 A4 V8 68 (by omega) (by omega) (by omega) (by omega) (by omega)
      clear b1 HF kz
      go_enter Tryd.func44, Tryd.ntmps44
      go_wp2
      go_ret
      exact ⟨by rw [E.out]; rfl, rfl⟩
    · have b1 : Nat.beq V 0 = false := by rw [Bool.eq_false_iff]; intro h; exact kz (Nat.eq_of_beq_eq_true h)
      have kz' : ((V : Int) == 0) = false := by simp; omega
      have E : Hid (bits .or .i64 (bits .or .i64 (bits .or .i64 (bits .or .i64 (C1 : Int) 16) (A4 : Int)) (V8 : Int)) 0 = (F : Int)) := by
        unfold Hid
        rw [HF.out, b1]
        exact or5 C1 16 A4 V8 0 (by omega) (by omega) (by omega) (by omega) (by omega)
      clear b1 HF kz
      go_enter Tryd.func44, Tryd.ntmps44
      go_wp2
      go_ret
      exact ⟨by rw [E.out]; rfl, rfl⟩
  · replace rV : bits .and .i64 (a : Int) 64 = (Nat.land a (Nat.pow 2 6) : Nat) := rV
    generalize Nat.land (Nat.land a (Nat.pow 2 6)) 128 = V8 at *
    generalize Nat.land a (Nat.pow 2 6) = V at *
    generalize Nat.land a 40 = A4 at *
    generalize Nat.land f 1 = C1 at *
    by_cases kz : V = 0
    · have b1 : Nat.beq V 0 = true := by rw [kz]; rfl
      have kz' : ((V : Int) == 0) = true := by simp; omega
      have E : Hid (bits .or .i64 (bits .or .i64 (bits .or .i64 (bits .or .i64 (C1 : Int) 16) (A4 : Int)) (V8 : Int)) 68 = (F : Int)) := by
        unfold Hid
        rw [HF.out, b1]
        exact or5 C1 16 A4 V8 68 (by omega) (by omega) (by omega) (by omega) (by omega)
      clear b1 HF kz
      go_enter Tryd.func44, Tryd.ntmps44
      go_wp2
      go_ret
      exact ⟨by rw [E.out]; rfl, rfl⟩
    · have b1 : Nat.beq V 0 = false := by rw [Bool.eq_false_iff]; intro h; exact kz (Nat.eq_of_beq_eq_true h)
      have kz' : ((V : Int) == 0) = false := by simp; omega
      have E : Hid (bits .or .i64 (bits .or .i64 (bits .or .i64 (bits .or .i64 (C1 : Int) 16) (A4 : Int)) (V8 : Int)) 0 = (F : Int)) := by
        unfold Hid
        rw [HF.out, b1]
        exact or5 C1 16 A4 V8 0 (by omega) (by omega) (by omega) (by omega) (by omega)
      clear b1 HF kz
      go_enter Tryd.func44, Tryd.ntmps44
      go_wp2
      go_ret
      exact ⟨by rw [E.out]; rfl, rfl⟩
  · replace rV : bits .and .i64 (a : Int) 128 = (Nat.land a (Nat.pow 2 7) : Nat) := rV
    generalize Nat.land (Nat.land a (Nat.pow 2 7)) 128 = V8 at *
    generalize Nat.land a (Nat.pow 2 7) = V at *
    generalize Nat.land a 40 = A4 at *
    generalize Nat.land f 1 = C1 at *
    by_cases kz : V = 0
    · have b1 : Nat.beq V 0 = true := by rw [kz]; rfl
      have kz' : ((V : Int) == 0) = true := by simp; omega
      have E : Hid (bits .or .i64 (bits .or .i64 (bits .or .i64 (bits .or .i64 (C1 : Int) 16) (A4 : Int)) (V8 : Int)) 68 = (F : Int)) := by
        unfold Hid
        rw [HF.out, b1]
        exact or5 C1 16 A4 V8 68 (by omega) (by omega) (by omega) (by omega) (by omega)
      clear b1 HF kz
      go_enter Tryd.func44, Tryd.ntmps44
      go_wp2
      go_ret
      exact ⟨by rw [E.out]; rfl, rfl⟩
    · have b1 : Nat.beq V 0 = false := by rw [Bool.eq_false_iff]; intro h; exact kz (Nat.eq_of_beq_eq_true h)
      have kz' : ((V : Int) == 0) = false := by simp; omega
      have E : Hid (bits .or .i64 (bits .or .i64 (bits .or .i64 (bits .or .i64 (C1 : Int) 16) (A4 : Int)) (V8 : Int)) 0 = (F : Int)) := by
        unfold Hid
        rw [HF.out, b1]
        exact or5 C1 16 A4 V8 0 (by omega) (by omega) (by omega) (by omega) (by omega)
      clear b1 HF kz
      go_enter Tryd.func44, Tryd.ntmps44
      go_wp2
      go_ret
      exact ⟨by rw [E.out]; rfl, rfl⟩

def daaX (a f : Nat) : Nat := Nat.add (cond (or (not (Nat.beq (Nat.land f 16) 0)) (Nat.ble 10 (Nat.land a 15))) 6 0) (cond (or (Nat.beq (Nat.land f 1) 1) (Nat.ble 154 a)) 96 0)
def daaV (a f : Nat) : Nat := cond (Nat.beq (Nat.land f 2) 0) (Nat.land (Nat.add a (daaX a f)) 255) (Nat.land (Nat.sub (Nat.add a 512) (daaX a f)) 255)
def daaC (a f : Nat) : Nat := cond (or (Nat.beq (Nat.land f 1) 1) (Nat.ble 154 a)) 1 0
def daaH (a f : Nat) : Nat := cond (Nat.beq (Nat.land f 2) 0) (btN (Nat.ble 10 (Nat.land a 15))) (btN (and (not (Nat.beq (Nat.land f 16) 0)) (Nat.ble (Nat.add (Nat.land a 15) 1) 6)))
def daaF (a f : Nat) : Nat := Nat.lor (Nat.lor (Nat.lor (szpN (daaV a f)) (Nat.land f 2)) (daaC a f)) (Nat.mul 16 (daaH a f))
end Go.Proofs.YtffogcielohoeaaDoor
