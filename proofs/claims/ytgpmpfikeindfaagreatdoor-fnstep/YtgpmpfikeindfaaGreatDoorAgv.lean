/- What the specification's decimal adjustment and its test of a bit answer, as plain functions of natural numbers. -/
import Derived.Test.YtgpmpfikeindfaaGreatDoorV06
namespace Go.Proofs.YtgpmpfikeindfaaGreatDoor
open Go.ChangeShapes Go.WideShapes Go.ChangeAt Go.RowKit
set_option linter.unusedVariables false

def tstF (bit a f : Nat) : Nat :=
  Nat.lor (Nat.lor (Nat.lor (Nat.lor (Nat.land f 1) 16) (Nat.land a 40)) (Nat.land (Nat.land a (Nat.pow 2 bit)) 128)) (Nat.mul 68 (btN (Nat.beq (Nat.land a (Nat.pow 2 bit)) 0)))
theorem test_spec (bit a f : Nat) (w : World) (ho : bit < 8) (ha : a < 256) (hf : f < 256) :
    Calls Tryz.prog 112 #[.int .i64 bit, .int .i64 a, .int .i64 f] w fun e w' => e = .returned (.int .i64 (tstF bit a f)) ∧ w' = w := by
  have rc : bits .and .i64 (f : Int) 1 = (Nat.land f 1 : Nat) := bAnd f 1 (by omega) (by omega)
  have hc : Nat.land f 1 < 2 ^ 1 := Nat.and_lt_two_pow _ (by decide)
  have r4 : bits .and .i64 (a : Int) 40 = (Nat.land a 40 : Nat) := bAnd a 40 (by omega) (by omega)
  have h4 : Nat.land a 40 < 2 ^ 8 := Nat.and_lt_two_pow _ (by decide)
  have hp : Nat.pow 2 bit < 256 := by have h := Nat.pow_lt_pow_right (a := 2) (by decide) ho; exact h
  have hV : Nat.land a (Nat.pow 2 bit) < 2 ^ 8 := Nat.and_lt_two_pow _ hp
  have rV := bAnd a (Nat.pow 2 bit) (by omega) (by omega)
  have r8 : bits .and .i64 ((Nat.land a (Nat.pow 2 bit) : Nat) : Int) 128 = (Nat.land (Nat.land a (Nat.pow 2 bit)) 128 : Nat) := bAnd _ 128 (by omega) (by omega)
  have h8 : Nat.land (Nat.land a (Nat.pow 2 bit)) 128 < 2 ^ 8 := Nat.and_lt_two_pow _ (by decide)
  have hF : tstF bit a f = Nat.lor (Nat.lor (Nat.lor (Nat.lor (Nat.land f 1) 16) (Nat.land a 40)) (Nat.land (Nat.land a (Nat.pow 2 bit)) 128)) (Nat.mul 68 (btN (Nat.beq (Nat.land a (Nat.pow 2 bit)) 0))) := rfl
  generalize tstF bit a f = F at hF ⊢
  have HF : Hid (F = _) := hF
  clear hF hp
  have h3 : bit = 0 ∨ bit = 1 ∨ bit = 2 ∨ bit = 3 ∨ bit = 4 ∨ bit = 5 ∨ bit = 6 ∨ bit = 7 := by omega
  rcases h3 with rfl | rfl | rfl | rfl | rfl | rfl | rfl | rfl
  · replace rV : bits .and .i64 (a : Int) 1 = (Nat.land a (Nat.pow 2 0) : Nat) := rV
    generalize Nat.land (Nat.land a (Nat.pow 2 0)) 128 = V8 at *
    generalize Nat.land a (Nat.pow 2 0) = V at *
    generalize Nat.land a 40 = A4 at *
    generalize Nat.land f 1 = C1 at *
    by_cases kz : V = 0
    · have b1 : Nat.beq V 0 = true := by rw [kz]; rfl
      have kz' : ((V : Int) == 0) = true := by simp; omega
      have E : Hid (bits .or .i64 (bits .or .i64 (bits .or .i64 (bits .or .i64 (C1 : Int) 16) (A4 : Int)) (V8 : Int)) 68 = (F : Int)) := by
        unfold Hid
        rw [HF.out, b1]
        exact or5 C1 16 A4 V8 68 (by omega) (by omega) (by omega) (by omega) (by omega)
      clear b1 HF kz
      go_enter Tryz.func112, Tryz.ntmps112
      go_wp2
      go_ret
      exact ⟨by rw [E.out]; rfl, rfl⟩
    · have b1 : Nat.beq V 0 = false := by rw [Bool.eq_false_iff]; intro h; exact kz (Nat.eq_of_beq_eq_true h)
      have kz' : ((V : Int) == 0) = false := by simp; omega
      have E : Hid (bits .or .i64 (bits .or .i64 (bits .or .i64 (bits .or .i64 (C1 : Int) 16) (A4 : Int)) (V8 : Int)) 0 = (F : Int)) := by
        unfold Hid
        rw [HF.out, b1]
        exact or5 C1 16 A4 V8 0 (by omega) (by omega) (by omega) (by omega) (by omega)
      clear b1 HF kz
      go_enter Tryz.func112, Tryz.ntmps112
      go_wp2
      go_ret
      exact ⟨by rw [E.out]; rfl, rfl⟩
  · replace rV : bits .and .i64 (a : Int) 2 = (Nat.land a (Nat.pow 2 1) : Nat) := rV
    generalize Nat.land (Nat.land a (Nat.pow 2 1)) 128 = V8 at *
    generalize Nat.land a (Nat.pow 2 1) = V at *
    generalize Nat.land a 40 = A4 at *
    generalize Nat.land f 1 = C1 at *
    by_cases kz : V = 0
    · have b1 : Nat.beq V 0 = true := by rw [kz]; rfl
      have kz' : ((V : Int) == 0) = true := by simp; omega
      have E : Hid (bits .or .i64 (bits .or .i64 (bits .or .i64 (bits .or .i64 (C1 : Int) 16) (A4 : Int)) (V8 : Int)) 68 = (F : Int)) := by
        unfold Hid
        rw [HF.out, b1]
        exact or5 C1 16 A4 V8 68 (by omega) (by omega) (by omega) (by omega) (by omega)
      clear b1 HF kz
      go_enter Tryz.func112, Tryz.ntmps112
      go_wp2
      go_ret
      exact ⟨by rw [E.out]; rfl, rfl⟩
    · have b1 : Nat.beq V 0 = false := by rw [Bool.eq_false_iff]; intro h; exact kz (Nat.eq_of_beq_eq_true h)
      have kz' : ((V : Int) == 0) = false := by simp; omega
      have E : Hid (bits .or .i64 (bits .or .i64 (bits .or .i64 (bits .or .i64 (C1 : Int) 16) (A4 : Int)) (V8 : Int)) 0 = (F : Int)) := by
        unfold Hid
        rw [HF.out, b1]
        exact or5 C1 16 A4 V8 0 (by omega) (by omega) (by omega) (by omega) (by omega)
      clear b1 HF kz
      go_enter Tryz.func112, Tryz.ntmps112
      go_wp2
      go_ret
      exact ⟨by rw [E.out]; rfl, rfl⟩
  · replace rV : bits .and .i64 (a : Int) 4 = (Nat.land a (Nat.pow 2 2) : Nat) := rV
    generalize Nat.land (Nat.land a (Nat.pow 2 2)) 128 = V8 at *
    generalize Nat.land a (Nat.pow 2 2) = V at *
    generalize Nat.land a 40 = A4 at *
    generalize Nat.land f 1 = C1 at *
    by_cases kz : V = 0
    · have b1 : Nat.beq V 0 = true := by rw [kz]; rfl
      have kz' : ((V : Int) == 0) = true := by simp; omega
      have E : Hid (bits .or .i64 (bits .or .i64 (bits .or .i64 (bits .or .i64 (C1 : Int) 16) (A4 : Int)) (V8 : Int)) 68 = (F : Int)) := by
        unfold Hid
        rw [HF.out, b1]
        exact or5 C1 16 A4 V8 68 (by omega) (by omega) (by omega) (by omega) (by omega)
      clear b1 HF kz
      go_enter Tryz.func112, Tryz.ntmps112
      go_wp2
      go_ret
      exact ⟨by rw [E.out]; rfl, rfl⟩
    · have b1 : Nat.beq V 0 = false := by rw [Bool.eq_false_iff]; intro h; exact kz (Nat.eq_of_beq_eq_true h)
      have kz' : ((V : Int) == 0) = false := by simp; omega
      have E : Hid (bits .or .i64 (bits .or .i64 (bits .or .i64 (bits .or .i64 (C1 : Int) 16) (A4 : Int)) (V8 : Int)) 0 = (F : Int)) := by
        unfold Hid
        rw [HF.out, b1]
        exact or5 C1 16 A4 V8 0 (by omega) (by omega) (by omega) (by omega) (by omega)
      clear b1 HF kz
      go_enter Tryz.func112, Tryz.ntmps112
      go_wp2
      go_ret
      exact ⟨by rw [E.out]; rfl, rfl⟩
  · replace rV : bits .and .i64 (a : Int) 8 = (Nat.land a (Nat.pow 2 3) : Nat) := rV
    generalize Nat.land (Nat.land a (Nat.pow 2 3)) 128 = V8 at *
    generalize Nat.land a (Nat.pow 2 3) = V at *
    generalize Nat.land a 40 = A4 at *
    generalize Nat.land f 1 = C1 at *
    by_cases kz : V = 0
    · have b1 : Nat.beq V 0 = true := by rw [kz]; rfl
      have kz' : ((V : Int) == 0) = true := by simp; omega
      have E : Hid (bits .or .i64 (bits .or .i64 (bits .or .i64 (bits .or .i64 (C1 : Int) 16) (A4 : Int)) (V8 : Int)) 68 = (F : Int)) := by
        unfold Hid
        rw [HF.out, b1]
        exact or5 C1 16 A4 V8 68 (by omega) (by omega) (by omega) (by omega) (by omega)
      clear b1 HF kz
      go_enter Tryz.func112, Tryz.ntmps112
      go_wp2
      go_ret
      exact ⟨by rw [E.out]; rfl, rfl⟩
    · have b1 : Nat.beq V 0 = false := by rw [Bool.eq_false_iff]; intro h; exact kz (Nat.eq_of_beq_eq_true h)
      have kz' : ((V : Int) == 0) = false := by simp; omega
      have E : Hid (bits .or .i64 (bits .or .i64 (bits .or .i64 (bits .or .i64 (C1 : Int) 16) (A4 : Int)) (V8 : Int)) 0 = (F : Int)) := by
        unfold Hid
        rw [HF.out, b1]
        exact or5 C1 16 A4 V8 0 (by omega) (by omega) (by omega) (by omega) (by omega)
      clear b1 HF kz
      go_enter Tryz.func112, Tryz.ntmps112
      go_wp2
      go_ret
      exact ⟨by rw [E.out]; rfl, rfl⟩
  · replace rV : bits .and .i64 (a : Int) 16 = (Nat.land a (Nat.pow 2 4) : Nat) := rV
    generalize Nat.land (Nat.land a (Nat.pow 2 4)) 128 = V8 at *
    generalize Nat.land a (Nat.pow 2 4) = V at *
    generalize Nat.land a 40 = A4 at *
    generalize Nat.land f 1 = C1 at *
    by_cases kz : V = 0
    · have b1 : Nat.beq V 0 = true := by rw [kz]; rfl
      have kz' : ((V : Int) == 0) = true := by simp; omega
      have E : Hid (bits .or .i64 (bits .or .i64 (bits .or .i64 (bits .or .i64 (C1 : Int) 16) (A4 : Int)) (V8 : Int)) 68 = (F : Int)) := by
        unfold Hid
        rw [HF.out, b1]
        exact or5 C1 16 A4 V8 68 (by omega) (by omega) (by omega) (by omega) (by omega)
      clear b1 HF kz
      go_enter Tryz.func112, Tryz.ntmps112
      go_wp2
      go_ret
      exact ⟨by rw [E.out]; rfl, rfl⟩
    · have b1 : Nat.beq V 0 = false := by rw [Bool.eq_false_iff]; intro h; exact kz (Nat.eq_of_beq_eq_true h)
      have kz' : ((V : Int) == 0) = false := by simp; omega
      have E : Hid (bits .or .i64 (bits .or .i64 (bits .or .i64 (bits .or .i64 (C1 : Int) 16) (A4 : Int)) (V8 : Int)) 0 = (F : Int)) := by
        unfold Hid
        rw [HF.out, b1]
        exact or5 C1 16 A4 V8 0 (by omega) (by omega) (by omega) (by omega) (by omega)
      clear b1 HF kz
      go_enter Tryz.func112, Tryz.ntmps112
      go_wp2
      go_ret
      exact ⟨by rw [E.out]; rfl, rfl⟩
  · replace rV : bits .and .i64 (a : Int) 32 = (Nat.land a (Nat.pow 2 5) : Nat) := rV
    generalize Nat.land (Nat.land a (Nat.pow 2 5)) 128 = V8 at *
    generalize Nat.land a (Nat.pow 2 5) = V at *
    generalize Nat.land a 40 = A4 at *
    generalize Nat.land f 1 = C1 at *
    by_cases kz : V = 0
    · have b1 : Nat.beq V 0 = true := by rw [kz]; rfl
      have kz' : ((V : Int) == 0) = true := by simp; omega
      have E : Hid (bits .or .i64 (bits .or .i64 (bits .or .i64 (bits .or .i64 (C1 : Int) 16) (A4 : Int)) (V8 : Int)) 68 = (F : Int)) := by
        unfold Hid
        rw [HF.out, b1]
        exact or5 C1 16 A4 V8 68 (by omega) (by omega) (by omega) (by omega) (by omega)
      clear b1 HF kz
      go_enter Tryz.func112, Tryz.ntmps112
      go_wp2
      go_ret
      exact ⟨by rw [E.out]; rfl, rfl⟩
    · have b1 : Nat.beq V 0 = false := by rw [Bool.eq_false_iff]; intro h; exact kz (Nat.eq_of_beq_eq_true h)
      have kz' : ((V : Int) == 0) = false := by simp; omega
      have E : Hid (bits .or .i64 (bits .or .i64 (bits .or .i64 (bits .or .i64 (C1 : Int) 16) (A4 : Int)) (V8 : Int)) 0 = (F : Int)) := by
        unfold Hid
        rw [HF.out, b1]
        exact or5 C1 16 A4 V8 0 (by omega) (by omega) (by omega) (by omega) (by omega)
      clear b1 HF kz
      go_enter Tryz.func112, Tryz.ntmps112
      go_wp2
      go_ret
      exact ⟨by rw [E.out]; rfl, rfl⟩
  · replace rV : bits .and .i64 (a : Int) 64 = (Nat.land a (Nat.pow 2 6) : Nat) := rV
    generalize Nat.land (Nat.land a (Nat.pow 2 6)) 128 = V8 at *
    generalize Nat.land a (Nat.pow 2 6) = V at *
    generalize Nat.land a 40 = A4 at *
    generalize Nat.land f 1 = C1 at *
    by_cases kz : V = 0
    · have b1 : Nat.beq V 0 = true := by rw [kz]; rfl
      have kz' : ((V : Int) == 0) = true := by simp; omega
      have E : Hid (bits .or .i64 (bits .or .i64 (bits .or .i64 (bits .or .i64 (C1 : Int) 16) (A4 : Int)) (V8 : Int)) 68 = (F : Int)) := by
        unfold Hid
        rw [HF.out, b1]
        exact or5 C1 16 A4 V8 68 (by omega) (by omega) (by omega) (by omega) (by omega)
      clear b1 HF kz
      go_enter Tryz.func112, Tryz.ntmps112
      go_wp2
      go_ret
      exact ⟨by rw [E.out]; rfl, rfl⟩
    · have b1 : Nat.beq V 0 = false := by rw [Bool.eq_false_iff]; intro h; exact kz (Nat.eq_of_beq_eq_true h)
      have kz' : ((V : Int) == 0) = false := by simp; omega
      have E : Hid (bits .or .i64 (bits .or .i64 (bits .or .i64 (bits .or .i64 (C1 : Int) 16) (A4 : Int)) (V8 : Int)) 0 = (F : Int)) := by
        unfold Hid
        rw [HF.out, b1]
        exact or5 C1 16 A4 V8 0 (by omega) (by omega) (by omega) (by omega) (by omega)
      clear b1 HF kz
      go_enter Tryz.func112, Tryz.ntmps112
      go_wp2
      go_ret
      exact ⟨by rw [E.out]; rfl, rfl⟩
  · replace rV : bits .and .i64 (a : Int) 128 = (Nat.land a (Nat.pow 2 7) : Nat) := rV
    generalize Nat.land (Nat.land a (Nat.pow 2 7)) 128 = V8 at *
    generalize Nat.land a (Nat.pow 2 7) = V at *
    generalize Nat.land a 40 = A4 at *
    generalize Nat.land f 1 = C1 at *
    by_cases kz : V = 0
    · have b1 : Nat.beq V 0 = true := by rw [kz]; rfl
      have kz' : ((V : Int) == 0) = true := by simp; omega
      have E : Hid (bits .or .i64 (bits .or .i64 (bits .or .i64 (bits .or .i64 (C1 : Int) 16) (A4 : Int)) (V8 : Int)) 68 = (F : Int)) := by
        unfold Hid
        rw [HF.out, b1]
        exact or5 C1 16 A4 V8 68 (by omega) (by omega) (by omega) (by omega) (by omega)
      clear b1 HF kz
      go_enter Tryz.func112, Tryz.ntmps112
      go_wp2
      go_ret
      exact ⟨by rw [E.out]; rfl, rfl⟩
    · have b1 : Nat.beq V 0 = false := by rw [Bool.eq_false_iff]; intro h; exact kz (Nat.eq_of_beq_eq_true h)
      have kz' : ((V : Int) == 0) = false := by simp; omega
      have E : Hid (bits .or .i64 (bits .or .i64 (bits .or .i64 (bits .or .i64 (C1 : Int) 16) (A4 : Int)) (V8 : Int)) 0 = (F : Int)) := by
        unfold Hid
        rw [HF.out, b1]
        exact or5 C1 16 A4 V8 0 (by omega) (by omega) (by omega) (by omega) (by omega)
      clear b1 HF kz
      go_enter Tryz.func112, Tryz.ntmps112
      go_wp2
      go_ret
      exact ⟨by rw [E.out]; rfl, rfl⟩

def daaX (a f : Nat) : Nat := Nat.add (cond (or (not (Nat.beq (Nat.land f 16) 0)) (Nat.ble 10 (Nat.land a 15))) 6 0) (cond (or (Nat.beq (Nat.land f 1) 1) (Nat.ble 154 a)) 96 0)
def daaV (a f : Nat) : Nat := cond (Nat.beq (Nat.land f 2) 0) (Nat.land (Nat.add a (daaX a f)) 255) (Nat.land (Nat.sub (Nat.add a 512) (daaX a f)) 255)
def daaC (a f : Nat) : Nat := cond (or (Nat.beq (Nat.land f 1) 1) (Nat.ble 154 a)) 1 0
def daaH (a f : Nat) : Nat := cond (Nat.beq (Nat.land f 2) 0) (btN (Nat.ble 10 (Nat.land a 15))) (btN (and (not (Nat.beq (Nat.land f 16) 0)) (Nat.ble (Nat.add (Nat.land a 15) 1) 6)))
def daaF (a f : Nat) : Nat := Nat.lor (Nat.lor (Nat.lor (szpN (daaV a f)) (Nat.land f 2)) (daaC a f)) (Nat.mul 16 (daaH a f))
set_option maxHeartbeats 6000000 in
theorem daa_spec (a f : Nat) (w : World) (ha : a < 256) (hf : f < 256) :
    Calls Tryz.prog 113 #[.int .i64 a, .int .i64 f] w fun e w' => e = .returned (.tuple #[.int .i64 (daaV a f), .int .i64 (daaF a f)]) ∧ w' = w := by
  have hF : daaF a f = Nat.lor (Nat.lor (Nat.lor (szpN (daaV a f)) (Nat.land f 2)) (daaC a f)) (Nat.mul 16 (daaH a f)) := rfl
  have hVd : daaV a f = cond (Nat.beq (Nat.land f 2) 0) (Nat.land (Nat.add a (daaX a f)) 255) (Nat.land (Nat.sub (Nat.add a 512) (daaX a f)) 255) := rfl
  have hXd : daaX a f = Nat.add (cond (or (not (Nat.beq (Nat.land f 16) 0)) (Nat.ble 10 (Nat.land a 15))) 6 0) (cond (or (Nat.beq (Nat.land f 1) 1) (Nat.ble 154 a)) 96 0) := rfl
  have hCd : daaC a f = cond (or (Nat.beq (Nat.land f 1) 1) (Nat.ble 154 a)) 1 0 := rfl
  have hHd : daaH a f = cond (Nat.beq (Nat.land f 2) 0) (btN (Nat.ble 10 (Nat.land a 15))) (btN (and (not (Nat.beq (Nat.land f 16) 0)) (Nat.ble (Nat.add (Nat.land a 15) 1) 6))) := rfl
  have rc : bits .and .i64 (f : Int) 1 = (Nat.land f 1 : Nat) := bAnd f 1 (by omega) (by omega)
  have hc : Nat.land f 1 < 2 ^ 1 := Nat.and_lt_two_pow _ (by decide)
  have rh : bits .and .i64 (f : Int) 16 = (Nat.land f 16 : Nat) := bAnd f 16 (by omega) (by omega)
  have hh : Nat.land f 16 < 2 ^ 5 := Nat.and_lt_two_pow _ (by decide)
  have rn : bits .and .i64 (f : Int) 2 = (Nat.land f 2 : Nat) := bAnd f 2 (by omega) (by omega)
  have hn : Nat.land f 2 < 2 ^ 2 := Nat.and_lt_two_pow _ (by decide)
  have rl : bits .and .i64 (a : Int) 15 = (Nat.land a 15 : Nat) := bAnd a 15 (by omega) (by omega)
  have hl : Nat.land a 15 < 2 ^ 4 := Nat.and_lt_two_pow _ (by decide)
  have vp : ∀ x : Nat, x < 200 → bits .and .i64 ((a : Int) + x) 255 = (Nat.land (a + x) 255 : Nat) := fun x hx => bAnd (a + x) 255 (by omega) (by omega)
  have vm : ∀ x : Nat, x < 200 → bits .and .i64 ((a : Int) - x) 255 = (Nat.land (a + 512 - x) 255 : Nat) := fun x hx => by
    have h : Nat.land (a + 512 - x) 255 = (a + 512 - x) % 2 ^ 8 := Nat.and_two_pow_sub_one_eq_mod (a + 512 - x) 8
    rw [i64_and255, h]
    omega
  have vlt : ∀ x : Nat, Nat.land x 255 < 256 := fun x => Nat.and_lt_two_pow (n := 8) _ (by decide)
  generalize daaF a f = F at *
  generalize daaV a f = V at *
  generalize daaX a f = X at *
  generalize daaC a f = C at *
  generalize daaH a f = H at *
  generalize Nat.land f 1 = FC at *
  generalize Nat.land f 16 = FH at *
  generalize Nat.land f 2 = FN at *
  generalize Nat.land a 15 = L at *
  have KF : Hid (F = _) := hF
  have KV : Hid (V = _) := hVd
  have KX : Hid (X = _) := hXd
  have KC : Hid (C = _) := hCd
  have KH : Hid (H = _) := hHd
  have VP : Hid (∀ x : Nat, x < 200 → bits .and .i64 ((a : Int) + x) 255 = (Nat.land (a + x) 255 : Nat)) := vp
  have VM : Hid (∀ x : Nat, x < 200 → bits .and .i64 ((a : Int) - x) 255 = (Nat.land (a + 512 - x) 255 : Nat)) := vm
  have VL : Hid (∀ x : Nat, Nat.land x 255 < 256) := vlt
  clear hF hVd hXd hCd hHd vp vm vlt
  by_cases kFH : FH = 0
  · have bFH : Nat.beq FH 0 = true := by rw [kFH]; rfl
    have kFH' : ((FH : Int) != 0) = false := by simp; omega
    clear kFH
    rcases (show L < 6 ∨ (6 ≤ L ∧ L ≤ 9) ∨ 10 ≤ L by omega) with kL | ⟨kL, kM⟩ | kL
    · have bL : Nat.ble 10 L = false := by rw [Bool.eq_false_iff]; intro h; have := Nat.le_of_ble_eq_true h; omega
      have bM : Nat.ble (Nat.add L 1) 6 = true := Nat.ble_eq_true_of_le (show L + 1 ≤ 6 by omega)
      by_cases kFC : FC = 1
      · have bFC : Nat.beq FC 1 = true := by rw [kFC]; rfl
        have kFC' : ((FC : Int) == 1) = true := by simp; omega
        clear kFC
        by_cases kA : 153 < a
        · have bA : Nat.ble 154 a = true := Nat.ble_eq_true_of_le (by omega)
          by_cases kFN : FN = 0
          · have bFN : Nat.beq FN 0 = true := by rw [kFN]; rfl
            have kFN' : ((FN : Int) != 0) = false := by simp; omega
            clear kFN
            have e1 : V = Nat.land (a + 96) 255 := by rw [KV.out, KX.out, bFN, bFH, bL, bFC, bA]; rfl
            have rV : bits .and .i64 ((a : Int) + 96) 255 = (V : Nat) := by rw [e1]; exact VP.out 96 (by omega)
            have hV : V < 256 := by rw [e1]; exact VL.out _
            have hz := szpN_lt V hV
            have E : Hid (bits .or .i64 (bits .or .i64 (bits .or .i64 ((szpN V : Nat) : Int) (FN : Int)) 1) 0 = (F : Int)) := by
              unfold Hid
              rw [KF.out, KC.out, KH.out, bFC, bA, bFN, bL, bFH, bM]
              exact or4 (szpN V) FN 1 0 hz (by omega) (by omega) (by omega)
            clear e1 bFH bL bM bFC bA bFN KF KV KX KC KH VP VM VL
            go_enter Tryz.func113, Tryz.ntmps113
            go_wp2_with (first | (go_at_call 117; refine (szp_spec _ _ hV).mono ?_; rintro e w' ⟨rfl, rfl⟩) | go_in)
            go_ret2
            exact ⟨by rw [E.out]; rfl, rfl⟩
          · have bFN : Nat.beq FN 0 = false := by rw [Bool.eq_false_iff]; intro h; exact kFN (Nat.eq_of_beq_eq_true h)
            have kFN' : ((FN : Int) != 0) = true := by simp; omega
            clear kFN
            have e1 : V = Nat.land (a + 512 - 96) 255 := by rw [KV.out, KX.out, bFN, bFH, bL, bFC, bA]; rfl
            have rV : bits .and .i64 ((a : Int) - 96) 255 = (V : Nat) := by rw [e1]; exact VM.out 96 (by omega)
            have hV : V < 256 := by rw [e1]; exact VL.out _
            have hz := szpN_lt V hV
            have E : Hid (bits .or .i64 (bits .or .i64 (bits .or .i64 ((szpN V : Nat) : Int) (FN : Int)) 1) 0 = (F : Int)) := by
              unfold Hid
              rw [KF.out, KC.out, KH.out, bFC, bA, bFN, bL, bFH, bM]
              exact or4 (szpN V) FN 1 0 hz (by omega) (by omega) (by omega)
            clear e1 bFH bL bM bFC bA bFN KF KV KX KC KH VP VM VL
            go_enter Tryz.func113, Tryz.ntmps113
            go_wp2_with (first | (go_at_call 117; refine (szp_spec _ _ hV).mono ?_; rintro e w' ⟨rfl, rfl⟩) | go_in)
            go_ret2
            exact ⟨by rw [E.out]; rfl, rfl⟩
        · have bA : Nat.ble 154 a = false := by rw [Bool.eq_false_iff]; intro h; have := Nat.le_of_ble_eq_true h; omega
          by_cases kFN : FN = 0
          · have bFN : Nat.beq FN 0 = true := by rw [kFN]; rfl
            have kFN' : ((FN : Int) != 0) = false := by simp; omega
            clear kFN
            have e1 : V = Nat.land (a + 96) 255 := by rw [KV.out, KX.out, bFN, bFH, bL, bFC, bA]; rfl
            have rV : bits .and .i64 ((a : Int) + 96) 255 = (V : Nat) := by rw [e1]; exact VP.out 96 (by omega)
            have hV : V < 256 := by rw [e1]; exact VL.out _
            have hz := szpN_lt V hV
            have E : Hid (bits .or .i64 (bits .or .i64 (bits .or .i64 ((szpN V : Nat) : Int) (FN : Int)) 1) 0 = (F : Int)) := by
              unfold Hid
              rw [KF.out, KC.out, KH.out, bFC, bA, bFN, bL, bFH, bM]
              exact or4 (szpN V) FN 1 0 hz (by omega) (by omega) (by omega)
            clear e1 bFH bL bM bFC bA bFN KF KV KX KC KH VP VM VL
            go_enter Tryz.func113, Tryz.ntmps113
            go_wp2_with (first | (go_at_call 117; refine (szp_spec _ _ hV).mono ?_; rintro e w' ⟨rfl, rfl⟩) | go_in)
            go_ret2
            exact ⟨by rw [E.out]; rfl, rfl⟩
          · have bFN : Nat.beq FN 0 = false := by rw [Bool.eq_false_iff]; intro h; exact kFN (Nat.eq_of_beq_eq_true h)
            have kFN' : ((FN : Int) != 0) = true := by simp; omega
            clear kFN
            have e1 : V = Nat.land (a + 512 - 96) 255 := by rw [KV.out, KX.out, bFN, bFH, bL, bFC, bA]; rfl
            have rV : bits .and .i64 ((a : Int) - 96) 255 = (V : Nat) := by rw [e1]; exact VM.out 96 (by omega)
            have hV : V < 256 := by rw [e1]; exact VL.out _
            have hz := szpN_lt V hV
            have E : Hid (bits .or .i64 (bits .or .i64 (bits .or .i64 ((szpN V : Nat) : Int) (FN : Int)) 1) 0 = (F : Int)) := by
              unfold Hid
              rw [KF.out, KC.out, KH.out, bFC, bA, bFN, bL, bFH, bM]
              exact or4 (szpN V) FN 1 0 hz (by omega) (by omega) (by omega)
            clear e1 bFH bL bM bFC bA bFN KF KV KX KC KH VP VM VL
            go_enter Tryz.func113, Tryz.ntmps113
            go_wp2_with (first | (go_at_call 117; refine (szp_spec _ _ hV).mono ?_; rintro e w' ⟨rfl, rfl⟩) | go_in)
            go_ret2
            exact ⟨by rw [E.out]; rfl, rfl⟩
      · have bFC : Nat.beq FC 1 = false := by rw [Bool.eq_false_iff]; intro h; exact kFC (Nat.eq_of_beq_eq_true h)
        have kFC' : ((FC : Int) == 1) = false := by simp; omega
        have kF0 : Hid (FC = 0) := show FC = 0 by omega
        clear kFC
        by_cases kA : 153 < a
        · have bA : Nat.ble 154 a = true := Nat.ble_eq_true_of_le (by omega)
          by_cases kFN : FN = 0
          · have bFN : Nat.beq FN 0 = true := by rw [kFN]; rfl
            have kFN' : ((FN : Int) != 0) = false := by simp; omega
            clear kFN
            have e1 : V = Nat.land (a + 96) 255 := by rw [KV.out, KX.out, bFN, bFH, bL, bFC, bA]; rfl
            have rV : bits .and .i64 ((a : Int) + 96) 255 = (V : Nat) := by rw [e1]; exact VP.out 96 (by omega)
            have hV : V < 256 := by rw [e1]; exact VL.out _
            have hz := szpN_lt V hV
            have E : Hid (bits .or .i64 (bits .or .i64 (bits .or .i64 ((szpN V : Nat) : Int) (FN : Int)) 1) 0 = (F : Int)) := by
              unfold Hid
              rw [KF.out, KC.out, KH.out, bFC, bA, bFN, bL, bFH, bM]
              exact or4 (szpN V) FN 1 0 hz (by omega) (by omega) (by omega)
            clear e1 bFH bL bM bFC bA bFN KF KV KX KC KH VP VM VL kF0
            go_enter Tryz.func113, Tryz.ntmps113
            go_wp2_with (first | (go_at_call 117; refine (szp_spec _ _ hV).mono ?_; rintro e w' ⟨rfl, rfl⟩) | go_in)
            go_ret2
            exact ⟨by rw [E.out]; rfl, rfl⟩
          · have bFN : Nat.beq FN 0 = false := by rw [Bool.eq_false_iff]; intro h; exact kFN (Nat.eq_of_beq_eq_true h)
            have kFN' : ((FN : Int) != 0) = true := by simp; omega
            clear kFN
            have e1 : V = Nat.land (a + 512 - 96) 255 := by rw [KV.out, KX.out, bFN, bFH, bL, bFC, bA]; rfl
            have rV : bits .and .i64 ((a : Int) - 96) 255 = (V : Nat) := by rw [e1]; exact VM.out 96 (by omega)
            have hV : V < 256 := by rw [e1]; exact VL.out _
            have hz := szpN_lt V hV
            have E : Hid (bits .or .i64 (bits .or .i64 (bits .or .i64 ((szpN V : Nat) : Int) (FN : Int)) 1) 0 = (F : Int)) := by
              unfold Hid
              rw [KF.out, KC.out, KH.out, bFC, bA, bFN, bL, bFH, bM]
              exact or4 (szpN V) FN 1 0 hz (by omega) (by omega) (by omega)
            clear e1 bFH bL bM bFC bA bFN KF KV KX KC KH VP VM VL kF0
            go_enter Tryz.func113, Tryz.ntmps113
            go_wp2_with (first | (go_at_call 117; refine (szp_spec _ _ hV).mono ?_; rintro e w' ⟨rfl, rfl⟩) | go_in)
            go_ret2
            exact ⟨by rw [E.out]; rfl, rfl⟩
        · have bA : Nat.ble 154 a = false := by rw [Bool.eq_false_iff]; intro h; have := Nat.le_of_ble_eq_true h; omega
          by_cases kFN : FN = 0
          · have bFN : Nat.beq FN 0 = true := by rw [kFN]; rfl
            have kFN' : ((FN : Int) != 0) = false := by simp; omega
            clear kFN
            have e1 : V = Nat.land (a + 0) 255 := by rw [KV.out, KX.out, bFN, bFH, bL, bFC, bA]; rfl
            have rV : bits .and .i64 (a : Int) 255 = (V : Nat) := by rw [e1]; have h := VP.out 0 (by omega); rw [show (a : Int) + ((0 : Nat) : Int) = (a : Int) by omega] at h; exact h
            have hV : V < 256 := by rw [e1]; exact VL.out _
            have hz := szpN_lt V hV
            have E : Hid (bits .or .i64 (bits .or .i64 (bits .or .i64 ((szpN V : Nat) : Int) (FN : Int)) (FC : Int)) 0 = (F : Int)) := by
              unfold Hid
              rw [kF0.out]
              rw [KF.out, KC.out, KH.out, bFC, bA, bFN, bL, bFH, bM]
              exact or4 (szpN V) FN 0 0 hz (by omega) (by omega) (by omega)
            clear e1 bFH bL bM bFC bA bFN KF KV KX KC KH VP VM VL kF0
            go_enter Tryz.func113, Tryz.ntmps113
            go_wp2_with (first | (go_at_call 117; refine (szp_spec _ _ hV).mono ?_; rintro e w' ⟨rfl, rfl⟩) | go_in)
            go_ret2
            exact ⟨by rw [E.out]; rfl, rfl⟩
          · have bFN : Nat.beq FN 0 = false := by rw [Bool.eq_false_iff]; intro h; exact kFN (Nat.eq_of_beq_eq_true h)
            have kFN' : ((FN : Int) != 0) = true := by simp; omega
            clear kFN
            have e1 : V = Nat.land (a + 512 - 0) 255 := by rw [KV.out, KX.out, bFN, bFH, bL, bFC, bA]; rfl
            have rV : bits .and .i64 (a : Int) 255 = (V : Nat) := by rw [e1]; have h := VM.out 0 (by omega); rw [show (a : Int) - ((0 : Nat) : Int) = (a : Int) by omega] at h; exact h
            have hV : V < 256 := by rw [e1]; exact VL.out _
            have hz := szpN_lt V hV
            have E : Hid (bits .or .i64 (bits .or .i64 (bits .or .i64 ((szpN V : Nat) : Int) (FN : Int)) (FC : Int)) 0 = (F : Int)) := by
              unfold Hid
              rw [kF0.out]
              rw [KF.out, KC.out, KH.out, bFC, bA, bFN, bL, bFH, bM]
              exact or4 (szpN V) FN 0 0 hz (by omega) (by omega) (by omega)
            clear e1 bFH bL bM bFC bA bFN KF KV KX KC KH VP VM VL kF0
            go_enter Tryz.func113, Tryz.ntmps113
            go_wp2_with (first | (go_at_call 117; refine (szp_spec _ _ hV).mono ?_; rintro e w' ⟨rfl, rfl⟩) | go_in)
            go_ret2
            exact ⟨by rw [E.out]; rfl, rfl⟩
    · have bL : Nat.ble 10 L = false := by rw [Bool.eq_false_iff]; intro h; have := Nat.le_of_ble_eq_true h; omega
      have bM : Nat.ble (Nat.add L 1) 6 = false := by rw [Bool.eq_false_iff]; intro h; have h2 : L + 1 ≤ 6 := Nat.le_of_ble_eq_true h; omega
      by_cases kFC : FC = 1
      · have bFC : Nat.beq FC 1 = true := by rw [kFC]; rfl
        have kFC' : ((FC : Int) == 1) = true := by simp; omega
        clear kFC
        by_cases kA : 153 < a
        · have bA : Nat.ble 154 a = true := Nat.ble_eq_true_of_le (by omega)
          by_cases kFN : FN = 0
          · have bFN : Nat.beq FN 0 = true := by rw [kFN]; rfl
            have kFN' : ((FN : Int) != 0) = false := by simp; omega
            clear kFN
            have e1 : V = Nat.land (a + 96) 255 := by rw [KV.out, KX.out, bFN, bFH, bL, bFC, bA]; rfl
            have rV : bits .and .i64 ((a : Int) + 96) 255 = (V : Nat) := by rw [e1]; exact VP.out 96 (by omega)
            have hV : V < 256 := by rw [e1]; exact VL.out _
            have hz := szpN_lt V hV
            have E : Hid (bits .or .i64 (bits .or .i64 (bits .or .i64 ((szpN V : Nat) : Int) (FN : Int)) 1) 0 = (F : Int)) := by
              unfold Hid
              rw [KF.out, KC.out, KH.out, bFC, bA, bFN, bL, bFH, bM]
              exact or4 (szpN V) FN 1 0 hz (by omega) (by omega) (by omega)
            clear e1 bFH bL bM bFC bA bFN KF KV KX KC KH VP VM VL
            go_enter Tryz.func113, Tryz.ntmps113
            go_wp2_with (first | (go_at_call 117; refine (szp_spec _ _ hV).mono ?_; rintro e w' ⟨rfl, rfl⟩) | go_in)
            go_ret2
            exact ⟨by rw [E.out]; rfl, rfl⟩
          · have bFN : Nat.beq FN 0 = false := by rw [Bool.eq_false_iff]; intro h; exact kFN (Nat.eq_of_beq_eq_true h)
            have kFN' : ((FN : Int) != 0) = true := by simp; omega
            clear kFN
            have e1 : V = Nat.land (a + 512 - 96) 255 := by rw [KV.out, KX.out, bFN, bFH, bL, bFC, bA]; rfl
            have rV : bits .and .i64 ((a : Int) - 96) 255 = (V : Nat) := by rw [e1]; exact VM.out 96 (by omega)
            have hV : V < 256 := by rw [e1]; exact VL.out _
            have hz := szpN_lt V hV
            have E : Hid (bits .or .i64 (bits .or .i64 (bits .or .i64 ((szpN V : Nat) : Int) (FN : Int)) 1) 0 = (F : Int)) := by
              unfold Hid
              rw [KF.out, KC.out, KH.out, bFC, bA, bFN, bL, bFH, bM]
              exact or4 (szpN V) FN 1 0 hz (by omega) (by omega) (by omega)
            clear e1 bFH bL bM bFC bA bFN KF KV KX KC KH VP VM VL
            go_enter Tryz.func113, Tryz.ntmps113
            go_wp2_with (first | (go_at_call 117; refine (szp_spec _ _ hV).mono ?_; rintro e w' ⟨rfl, rfl⟩) | go_in)
            go_ret2
            exact ⟨by rw [E.out]; rfl, rfl⟩
        · have bA : Nat.ble 154 a = false := by rw [Bool.eq_false_iff]; intro h; have := Nat.le_of_ble_eq_true h; omega
          by_cases kFN : FN = 0
          · have bFN : Nat.beq FN 0 = true := by rw [kFN]; rfl
            have kFN' : ((FN : Int) != 0) = false := by simp; omega
            clear kFN
            have e1 : V = Nat.land (a + 96) 255 := by rw [KV.out, KX.out, bFN, bFH, bL, bFC, bA]; rfl
            have rV : bits .and .i64 ((a : Int) + 96) 255 = (V : Nat) := by rw [e1]; exact VP.out 96 (by omega)
            have hV : V < 256 := by rw [e1]; exact VL.out _
            have hz := szpN_lt V hV
            have E : Hid (bits .or .i64 (bits .or .i64 (bits .or .i64 ((szpN V : Nat) : Int) (FN : Int)) 1) 0 = (F : Int)) := by
              unfold Hid
              rw [KF.out, KC.out, KH.out, bFC, bA, bFN, bL, bFH, bM]
              exact or4 (szpN V) FN 1 0 hz (by omega) (by omega) (by omega)
            clear e1 bFH bL bM bFC bA bFN KF KV KX KC KH VP VM VL
            go_enter Tryz.func113, Tryz.ntmps113
            go_wp2_with (first | (go_at_call 117; refine (szp_spec _ _ hV).mono ?_; rintro e w' ⟨rfl, rfl⟩) | go_in)
            go_ret2
            exact ⟨by rw [E.out]; rfl, rfl⟩
          · have bFN : Nat.beq FN 0 = false := by rw [Bool.eq_false_iff]; intro h; exact kFN (Nat.eq_of_beq_eq_true h)
            have kFN' : ((FN : Int) != 0) = true := by simp; omega
            clear kFN
            have e1 : V = Nat.land (a + 512 - 96) 255 := by rw [KV.out, KX.out, bFN, bFH, bL, bFC, bA]; rfl
            have rV : bits .and .i64 ((a : Int) - 96) 255 = (V : Nat) := by rw [e1]; exact VM.out 96 (by omega)
            have hV : V < 256 := by rw [e1]; exact VL.out _
            have hz := szpN_lt V hV
            have E : Hid (bits .or .i64 (bits .or .i64 (bits .or .i64 ((szpN V : Nat) : Int) (FN : Int)) 1) 0 = (F : Int)) := by
              unfold Hid
              rw [KF.out, KC.out, KH.out, bFC, bA, bFN, bL, bFH, bM]
              exact or4 (szpN V) FN 1 0 hz (by omega) (by omega) (by omega)
            clear e1 bFH bL bM bFC bA bFN KF KV KX KC KH VP VM VL
            go_enter Tryz.func113, Tryz.ntmps113
            go_wp2_with (first | (go_at_call 117; refine (szp_spec _ _ hV).mono ?_; rintro e w' ⟨rfl, rfl⟩) | go_in)
            go_ret2
            exact ⟨by rw [E.out]; rfl, rfl⟩
      · have bFC : Nat.beq FC 1 = false := by rw [Bool.eq_false_iff]; intro h; exact kFC (Nat.eq_of_beq_eq_true h)
        have kFC' : ((FC : Int) == 1) = false := by simp; omega
        have kF0 : Hid (FC = 0) := show FC = 0 by omega
        clear kFC
        by_cases kA : 153 < a
        · have bA : Nat.ble 154 a = true := Nat.ble_eq_true_of_le (by omega)
          by_cases kFN : FN = 0
          · have bFN : Nat.beq FN 0 = true := by rw [kFN]; rfl
            have kFN' : ((FN : Int) != 0) = false := by simp; omega
            clear kFN
            have e1 : V = Nat.land (a + 96) 255 := by rw [KV.out, KX.out, bFN, bFH, bL, bFC, bA]; rfl
            have rV : bits .and .i64 ((a : Int) + 96) 255 = (V : Nat) := by rw [e1]; exact VP.out 96 (by omega)
            have hV : V < 256 := by rw [e1]; exact VL.out _
            have hz := szpN_lt V hV
            have E : Hid (bits .or .i64 (bits .or .i64 (bits .or .i64 ((szpN V : Nat) : Int) (FN : Int)) 1) 0 = (F : Int)) := by
              unfold Hid
              rw [KF.out, KC.out, KH.out, bFC, bA, bFN, bL, bFH, bM]
              exact or4 (szpN V) FN 1 0 hz (by omega) (by omega) (by omega)
            clear e1 bFH bL bM bFC bA bFN KF KV KX KC KH VP VM VL kF0
            go_enter Tryz.func113, Tryz.ntmps113
            go_wp2_with (first | (go_at_call 117; refine (szp_spec _ _ hV).mono ?_; rintro e w' ⟨rfl, rfl⟩) | go_in)
            go_ret2
            exact ⟨by rw [E.out]; rfl, rfl⟩
          · have bFN : Nat.beq FN 0 = false := by rw [Bool.eq_false_iff]; intro h; exact kFN (Nat.eq_of_beq_eq_true h)
            have kFN' : ((FN : Int) != 0) = true := by simp; omega
            clear kFN
            have e1 : V = Nat.land (a + 512 - 96) 255 := by rw [KV.out, KX.out, bFN, bFH, bL, bFC, bA]; rfl
            have rV : bits .and .i64 ((a : Int) - 96) 255 = (V : Nat) := by rw [e1]; exact VM.out 96 (by omega)
            have hV : V < 256 := by rw [e1]; exact VL.out _
            have hz := szpN_lt V hV
            have E : Hid (bits .or .i64 (bits .or .i64 (bits .or .i64 ((szpN V : Nat) : Int) (FN : Int)) 1) 0 = (F : Int)) := by
              unfold Hid
              rw [KF.out, KC.out, KH.out, bFC, bA, bFN, bL, bFH, bM]
              exact or4 (szpN V) FN 1 0 hz (by omega) (by omega) (by omega)
            clear e1 bFH bL bM bFC bA bFN KF KV KX KC KH VP VM VL kF0
            go_enter Tryz.func113, Tryz.ntmps113
            go_wp2_with (first | (go_at_call 117; refine (szp_spec _ _ hV).mono ?_; rintro e w' ⟨rfl, rfl⟩) | go_in)
            go_ret2
            exact ⟨by rw [E.out]; rfl, rfl⟩
        · have bA : Nat.ble 154 a = false := by rw [Bool.eq_false_iff]; intro h; have := Nat.le_of_ble_eq_true h; omega
          by_cases kFN : FN = 0
          · have bFN : Nat.beq FN 0 = true := by rw [kFN]; rfl
            have kFN' : ((FN : Int) != 0) = false := by simp; omega
            clear kFN
            have e1 : V = Nat.land (a + 0) 255 := by rw [KV.out, KX.out, bFN, bFH, bL, bFC, bA]; rfl
            have rV : bits .and .i64 (a : Int) 255 = (V : Nat) := by rw [e1]; have h := VP.out 0 (by omega); rw [show (a : Int) + ((0 : Nat) : Int) = (a : Int) by omega] at h; exact h
            have hV : V < 256 := by rw [e1]; exact VL.out _
            have hz := szpN_lt V hV
            have E : Hid (bits .or .i64 (bits .or .i64 (bits .or .i64 ((szpN V : Nat) : Int) (FN : Int)) (FC : Int)) 0 = (F : Int)) := by
              unfold Hid
              rw [kF0.out]
              rw [KF.out, KC.out, KH.out, bFC, bA, bFN, bL, bFH, bM]
              exact or4 (szpN V) FN 0 0 hz (by omega) (by omega) (by omega)
            clear e1 bFH bL bM bFC bA bFN KF KV KX KC KH VP VM VL kF0
            go_enter Tryz.func113, Tryz.ntmps113
            go_wp2_with (first | (go_at_call 117; refine (szp_spec _ _ hV).mono ?_; rintro e w' ⟨rfl, rfl⟩) | go_in)
            go_ret2
            exact ⟨by rw [E.out]; rfl, rfl⟩
          · have bFN : Nat.beq FN 0 = false := by rw [Bool.eq_false_iff]; intro h; exact kFN (Nat.eq_of_beq_eq_true h)
            have kFN' : ((FN : Int) != 0) = true := by simp; omega
            clear kFN
            have e1 : V = Nat.land (a + 512 - 0) 255 := by rw [KV.out, KX.out, bFN, bFH, bL, bFC, bA]; rfl
            have rV : bits .and .i64 (a : Int) 255 = (V : Nat) := by rw [e1]; have h := VM.out 0 (by omega); rw [show (a : Int) - ((0 : Nat) : Int) = (a : Int) by omega] at h; exact h
            have hV : V < 256 := by rw [e1]; exact VL.out _
            have hz := szpN_lt V hV
            have E : Hid (bits .or .i64 (bits .or .i64 (bits .or .i64 ((szpN V : Nat) : Int) (FN : Int)) (FC : Int)) 0 = (F : Int)) := by
              unfold Hid
              rw [kF0.out]
              rw [KF.out, KC.out, KH.out, bFC, bA, bFN, bL, bFH, bM]
              exact or4 (szpN V) FN 0 0 hz (by omega) (by omega) (by omega)
            clear e1 bFH bL bM bFC bA bFN KF KV KX KC KH VP VM VL kF0
            go_enter Tryz.func113, Tryz.ntmps113
            go_wp2_with (first | (go_at_call 117; refine (szp_spec _ _ hV).mono ?_; rintro e w' ⟨rfl, rfl⟩) | go_in)
            go_ret2
            exact ⟨by rw [E.out]; rfl, rfl⟩
    · have bL : Nat.ble 10 L = true := Nat.ble_eq_true_of_le (by omega)
      have bM : Nat.ble (Nat.add L 1) 6 = false := by rw [Bool.eq_false_iff]; intro h; have h2 : L + 1 ≤ 6 := Nat.le_of_ble_eq_true h; omega
      by_cases kFC : FC = 1
      · have bFC : Nat.beq FC 1 = true := by rw [kFC]; rfl
        have kFC' : ((FC : Int) == 1) = true := by simp; omega
        clear kFC
        by_cases kA : 153 < a
        · have bA : Nat.ble 154 a = true := Nat.ble_eq_true_of_le (by omega)
          by_cases kFN : FN = 0
          · have bFN : Nat.beq FN 0 = true := by rw [kFN]; rfl
            have kFN' : ((FN : Int) != 0) = false := by simp; omega
            clear kFN
            have e1 : V = Nat.land (a + 102) 255 := by rw [KV.out, KX.out, bFN, bFH, bL, bFC, bA]; rfl
            have rV : bits .and .i64 ((a : Int) + 102) 255 = (V : Nat) := by rw [e1]; exact VP.out 102 (by omega)
            have hV : V < 256 := by rw [e1]; exact VL.out _
            have hz := szpN_lt V hV
            have E : Hid (bits .or .i64 (bits .or .i64 (bits .or .i64 ((szpN V : Nat) : Int) (FN : Int)) 1) 16 = (F : Int)) := by
              unfold Hid
              rw [KF.out, KC.out, KH.out, bFC, bA, bFN, bL, bFH, bM]
              exact or4 (szpN V) FN 1 16 hz (by omega) (by omega) (by omega)
            clear e1 bFH bL bM bFC bA bFN KF KV KX KC KH VP VM VL
            go_enter Tryz.func113, Tryz.ntmps113
            go_wp2_with (first | (go_at_call 117; refine (szp_spec _ _ hV).mono ?_; rintro e w' ⟨rfl, rfl⟩) | go_in)
            go_ret2
            exact ⟨by rw [E.out]; rfl, rfl⟩
          · have bFN : Nat.beq FN 0 = false := by rw [Bool.eq_false_iff]; intro h; exact kFN (Nat.eq_of_beq_eq_true h)
            have kFN' : ((FN : Int) != 0) = true := by simp; omega
            clear kFN
            have e1 : V = Nat.land (a + 512 - 102) 255 := by rw [KV.out, KX.out, bFN, bFH, bL, bFC, bA]; rfl
            have rV : bits .and .i64 ((a : Int) - 102) 255 = (V : Nat) := by rw [e1]; exact VM.out 102 (by omega)
            have hV : V < 256 := by rw [e1]; exact VL.out _
            have hz := szpN_lt V hV
            have E : Hid (bits .or .i64 (bits .or .i64 (bits .or .i64 ((szpN V : Nat) : Int) (FN : Int)) 1) 0 = (F : Int)) := by
              unfold Hid
              rw [KF.out, KC.out, KH.out, bFC, bA, bFN, bL, bFH, bM]
              exact or4 (szpN V) FN 1 0 hz (by omega) (by omega) (by omega)
            clear e1 bFH bL bM bFC bA bFN KF KV KX KC KH VP VM VL
            go_enter Tryz.func113, Tryz.ntmps113
            go_wp2_with (first | (go_at_call 117; refine (szp_spec _ _ hV).mono ?_; rintro e w' ⟨rfl, rfl⟩) | go_in)
            go_ret2
            exact ⟨by rw [E.out]; rfl, rfl⟩
        · have bA : Nat.ble 154 a = false := by rw [Bool.eq_false_iff]; intro h; have := Nat.le_of_ble_eq_true h; omega
          by_cases kFN : FN = 0
          · have bFN : Nat.beq FN 0 = true := by rw [kFN]; rfl
            have kFN' : ((FN : Int) != 0) = false := by simp; omega
            clear kFN
            have e1 : V = Nat.land (a + 102) 255 := by rw [KV.out, KX.out, bFN, bFH, bL, bFC, bA]; rfl
            have rV : bits .and .i64 ((a : Int) + 102) 255 = (V : Nat) := by rw [e1]; exact VP.out 102 (by omega)
            have hV : V < 256 := by rw [e1]; exact VL.out _
            have hz := szpN_lt V hV
            have E : Hid (bits .or .i64 (bits .or .i64 (bits .or .i64 ((szpN V : Nat) : Int) (FN : Int)) 1) 16 = (F : Int)) := by
              unfold Hid
              rw [KF.out, KC.out, KH.out, bFC, bA, bFN, bL, bFH, bM]
              exact or4 (szpN V) FN 1 16 hz (by omega) (by omega) (by omega)
            clear e1 bFH bL bM bFC bA bFN KF KV KX KC KH VP VM VL
            go_enter Tryz.func113, Tryz.ntmps113
            go_wp2_with (first | (go_at_call 117; refine (szp_spec _ _ hV).mono ?_; rintro e w' ⟨rfl, rfl⟩) | go_in)
            go_ret2
            exact ⟨by rw [E.out]; rfl, rfl⟩
          · have bFN : Nat.beq FN 0 = false := by rw [Bool.eq_false_iff]; intro h; exact kFN (Nat.eq_of_beq_eq_true h)
            have kFN' : ((FN : Int) != 0) = true := by simp; omega
            clear kFN
            have e1 : V = Nat.land (a + 512 - 102) 255 := by rw [KV.out, KX.out, bFN, bFH, bL, bFC, bA]; rfl
            have rV : bits .and .i64 ((a : Int) - 102) 255 = (V : Nat) := by rw [e1]; exact VM.out 102 (by omega)
            have hV : V < 256 := by rw [e1]; exact VL.out _
            have hz := szpN_lt V hV
            have E : Hid (bits .or .i64 (bits .or .i64 (bits .or .i64 ((szpN V : Nat) : Int) (FN : Int)) 1) 0 = (F : Int)) := by
              unfold Hid
              rw [KF.out, KC.out, KH.out, bFC, bA, bFN, bL, bFH, bM]
              exact or4 (szpN V) FN 1 0 hz (by omega) (by omega) (by omega)
            clear e1 bFH bL bM bFC bA bFN KF KV KX KC KH VP VM VL
            go_enter Tryz.func113, Tryz.ntmps113
            go_wp2_with (first | (go_at_call 117; refine (szp_spec _ _ hV).mono ?_; rintro e w' ⟨rfl, rfl⟩) | go_in)
            go_ret2
            exact ⟨by rw [E.out]; rfl, rfl⟩
      · have bFC : Nat.beq FC 1 = false := by rw [Bool.eq_false_iff]; intro h; exact kFC (Nat.eq_of_beq_eq_true h)
        have kFC' : ((FC : Int) == 1) = false := by simp; omega
        have kF0 : Hid (FC = 0) := show FC = 0 by omega
        clear kFC
        by_cases kA : 153 < a
        · have bA : Nat.ble 154 a = true := Nat.ble_eq_true_of_le (by omega)
          by_cases kFN : FN = 0
          · have bFN : Nat.beq FN 0 = true := by rw [kFN]; rfl
            have kFN' : ((FN : Int) != 0) = false := by simp; omega
            clear kFN
            have e1 : V = Nat.land (a + 102) 255 := by rw [KV.out, KX.out, bFN, bFH, bL, bFC, bA]; rfl
            have rV : bits .and .i64 ((a : Int) + 102) 255 = (V : Nat) := by rw [e1]; exact VP.out 102 (by omega)
            have hV : V < 256 := by rw [e1]; exact VL.out _
            have hz := szpN_lt V hV
            have E : Hid (bits .or .i64 (bits .or .i64 (bits .or .i64 ((szpN V : Nat) : Int) (FN : Int)) 1) 16 = (F : Int)) := by
              unfold Hid
              rw [KF.out, KC.out, KH.out, bFC, bA, bFN, bL, bFH, bM]
              exact or4 (szpN V) FN 1 16 hz (by omega) (by omega) (by omega)
            clear e1 bFH bL bM bFC bA bFN KF KV KX KC KH VP VM VL kF0
            go_enter Tryz.func113, Tryz.ntmps113
            go_wp2_with (first | (go_at_call 117; refine (szp_spec _ _ hV).mono ?_; rintro e w' ⟨rfl, rfl⟩) | go_in)
            go_ret2
            exact ⟨by rw [E.out]; rfl, rfl⟩
          · have bFN : Nat.beq FN 0 = false := by rw [Bool.eq_false_iff]; intro h; exact kFN (Nat.eq_of_beq_eq_true h)
            have kFN' : ((FN : Int) != 0) = true := by simp; omega
            clear kFN
            have e1 : V = Nat.land (a + 512 - 102) 255 := by rw [KV.out, KX.out, bFN, bFH, bL, bFC, bA]; rfl
            have rV : bits .and .i64 ((a : Int) - 102) 255 = (V : Nat) := by rw [e1]; exact VM.out 102 (by omega)
            have hV : V < 256 := by rw [e1]; exact VL.out _
            have hz := szpN_lt V hV
            have E : Hid (bits .or .i64 (bits .or .i64 (bits .or .i64 ((szpN V : Nat) : Int) (FN : Int)) 1) 0 = (F : Int)) := by
              unfold Hid
              rw [KF.out, KC.out, KH.out, bFC, bA, bFN, bL, bFH, bM]
              exact or4 (szpN V) FN 1 0 hz (by omega) (by omega) (by omega)
            clear e1 bFH bL bM bFC bA bFN KF KV KX KC KH VP VM VL kF0
            go_enter Tryz.func113, Tryz.ntmps113
            go_wp2_with (first | (go_at_call 117; refine (szp_spec _ _ hV).mono ?_; rintro e w' ⟨rfl, rfl⟩) | go_in)
            go_ret2
            exact ⟨by rw [E.out]; rfl, rfl⟩
        · have bA : Nat.ble 154 a = false := by rw [Bool.eq_false_iff]; intro h; have := Nat.le_of_ble_eq_true h; omega
          by_cases kFN : FN = 0
          · have bFN : Nat.beq FN 0 = true := by rw [kFN]; rfl
            have kFN' : ((FN : Int) != 0) = false := by simp; omega
            clear kFN
            have e1 : V = Nat.land (a + 6) 255 := by rw [KV.out, KX.out, bFN, bFH, bL, bFC, bA]; rfl
            have rV : bits .and .i64 ((a : Int) + 6) 255 = (V : Nat) := by rw [e1]; exact VP.out 6 (by omega)
            have hV : V < 256 := by rw [e1]; exact VL.out _
            have hz := szpN_lt V hV
            have E : Hid (bits .or .i64 (bits .or .i64 (bits .or .i64 ((szpN V : Nat) : Int) (FN : Int)) (FC : Int)) 16 = (F : Int)) := by
              unfold Hid
              rw [kF0.out]
              rw [KF.out, KC.out, KH.out, bFC, bA, bFN, bL, bFH, bM]
              exact or4 (szpN V) FN 0 16 hz (by omega) (by omega) (by omega)
            clear e1 bFH bL bM bFC bA bFN KF KV KX KC KH VP VM VL kF0
            go_enter Tryz.func113, Tryz.ntmps113
            go_wp2_with (first | (go_at_call 117; refine (szp_spec _ _ hV).mono ?_; rintro e w' ⟨rfl, rfl⟩) | go_in)
            go_ret2
            exact ⟨by rw [E.out]; rfl, rfl⟩
          · have bFN : Nat.beq FN 0 = false := by rw [Bool.eq_false_iff]; intro h; exact kFN (Nat.eq_of_beq_eq_true h)
            have kFN' : ((FN : Int) != 0) = true := by simp; omega
            clear kFN
            have e1 : V = Nat.land (a + 512 - 6) 255 := by rw [KV.out, KX.out, bFN, bFH, bL, bFC, bA]; rfl
            have rV : bits .and .i64 ((a : Int) - 6) 255 = (V : Nat) := by rw [e1]; exact VM.out 6 (by omega)
            have hV : V < 256 := by rw [e1]; exact VL.out _
            have hz := szpN_lt V hV
            have E : Hid (bits .or .i64 (bits .or .i64 (bits .or .i64 ((szpN V : Nat) : Int) (FN : Int)) (FC : Int)) 0 = (F : Int)) := by
              unfold Hid
              rw [kF0.out]
              rw [KF.out, KC.out, KH.out, bFC, bA, bFN, bL, bFH, bM]
              exact or4 (szpN V) FN 0 0 hz (by omega) (by omega) (by omega)
            clear e1 bFH bL bM bFC bA bFN KF KV KX KC KH VP VM VL kF0
            go_enter Tryz.func113, Tryz.ntmps113
            go_wp2_with (first | (go_at_call 117; refine (szp_spec _ _ hV).mono ?_; rintro e w' ⟨rfl, rfl⟩) | go_in)
            go_ret2
            exact ⟨by rw [E.out]; rfl, rfl⟩
  · have bFH : Nat.beq FH 0 = false := by rw [Bool.eq_false_iff]; intro h; exact kFH (Nat.eq_of_beq_eq_true h)
    have kFH' : ((FH : Int) != 0) = true := by simp; omega
    clear kFH
    rcases (show L < 6 ∨ (6 ≤ L ∧ L ≤ 9) ∨ 10 ≤ L by omega) with kL | ⟨kL, kM⟩ | kL
    · have bL : Nat.ble 10 L = false := by rw [Bool.eq_false_iff]; intro h; have := Nat.le_of_ble_eq_true h; omega
      have bM : Nat.ble (Nat.add L 1) 6 = true := Nat.ble_eq_true_of_le (show L + 1 ≤ 6 by omega)
      by_cases kFC : FC = 1
      · have bFC : Nat.beq FC 1 = true := by rw [kFC]; rfl
        have kFC' : ((FC : Int) == 1) = true := by simp; omega
        clear kFC
        by_cases kA : 153 < a
        · have bA : Nat.ble 154 a = true := Nat.ble_eq_true_of_le (by omega)
          by_cases kFN : FN = 0
          · have bFN : Nat.beq FN 0 = true := by rw [kFN]; rfl
            have kFN' : ((FN : Int) != 0) = false := by simp; omega
            clear kFN
            have e1 : V = Nat.land (a + 102) 255 := by rw [KV.out, KX.out, bFN, bFH, bL, bFC, bA]; rfl
            have rV : bits .and .i64 ((a : Int) + 102) 255 = (V : Nat) := by rw [e1]; exact VP.out 102 (by omega)
            have hV : V < 256 := by rw [e1]; exact VL.out _
            have hz := szpN_lt V hV
            have E : Hid (bits .or .i64 (bits .or .i64 (bits .or .i64 ((szpN V : Nat) : Int) (FN : Int)) 1) 0 = (F : Int)) := by
              unfold Hid
              rw [KF.out, KC.out, KH.out, bFC, bA, bFN, bL, bFH, bM]
              exact or4 (szpN V) FN 1 0 hz (by omega) (by omega) (by omega)
            clear e1 bFH bL bM bFC bA bFN KF KV KX KC KH VP VM VL
            go_enter Tryz.func113, Tryz.ntmps113
            go_wp2_with (first | (go_at_call 117; refine (szp_spec _ _ hV).mono ?_; rintro e w' ⟨rfl, rfl⟩) | go_in)
            go_ret2
            exact ⟨by rw [E.out]; rfl, rfl⟩
          · have bFN : Nat.beq FN 0 = false := by rw [Bool.eq_false_iff]; intro h; exact kFN (Nat.eq_of_beq_eq_true h)
            have kFN' : ((FN : Int) != 0) = true := by simp; omega
            clear kFN
            have e1 : V = Nat.land (a + 512 - 102) 255 := by rw [KV.out, KX.out, bFN, bFH, bL, bFC, bA]; rfl
            have rV : bits .and .i64 ((a : Int) - 102) 255 = (V : Nat) := by rw [e1]; exact VM.out 102 (by omega)
            have hV : V < 256 := by rw [e1]; exact VL.out _
            have hz := szpN_lt V hV
            have E : Hid (bits .or .i64 (bits .or .i64 (bits .or .i64 ((szpN V : Nat) : Int) (FN : Int)) 1) 16 = (F : Int)) := by
              unfold Hid
              rw [KF.out, KC.out, KH.out, bFC, bA, bFN, bL, bFH, bM]
              exact or4 (szpN V) FN 1 16 hz (by omega) (by omega) (by omega)
            clear e1 bFH bL bM bFC bA bFN KF KV KX KC KH VP VM VL
            go_enter Tryz.func113, Tryz.ntmps113
            go_wp2_with (first | (go_at_call 117; refine (szp_spec _ _ hV).mono ?_; rintro e w' ⟨rfl, rfl⟩) | go_in)
            go_ret2
            exact ⟨by rw [E.out]; rfl, rfl⟩
        · have bA : Nat.ble 154 a = false := by rw [Bool.eq_false_iff]; intro h; have := Nat.le_of_ble_eq_true h; omega
          by_cases kFN : FN = 0
          · have bFN : Nat.beq FN 0 = true := by rw [kFN]; rfl
            have kFN' : ((FN : Int) != 0) = false := by simp; omega
            clear kFN
            have e1 : V = Nat.land (a + 102) 255 := by rw [KV.out, KX.out, bFN, bFH, bL, bFC, bA]; rfl
            have rV : bits .and .i64 ((a : Int) + 102) 255 = (V : Nat) := by rw [e1]; exact VP.out 102 (by omega)
            have hV : V < 256 := by rw [e1]; exact VL.out _
            have hz := szpN_lt V hV
            have E : Hid (bits .or .i64 (bits .or .i64 (bits .or .i64 ((szpN V : Nat) : Int) (FN : Int)) 1) 0 = (F : Int)) := by
              unfold Hid
              rw [KF.out, KC.out, KH.out, bFC, bA, bFN, bL, bFH, bM]
              exact or4 (szpN V) FN 1 0 hz (by omega) (by omega) (by omega)
            clear e1 bFH bL bM bFC bA bFN KF KV KX KC KH VP VM VL
            go_enter Tryz.func113, Tryz.ntmps113
            go_wp2_with (first | (go_at_call 117; refine (szp_spec _ _ hV).mono ?_; rintro e w' ⟨rfl, rfl⟩) | go_in)
            go_ret2
            exact ⟨by rw [E.out]; rfl, rfl⟩
          · have bFN : Nat.beq FN 0 = false := by rw [Bool.eq_false_iff]; intro h; exact kFN (Nat.eq_of_beq_eq_true h)
            have kFN' : ((FN : Int) != 0) = true := by simp; omega
            clear kFN
            have e1 : V = Nat.land (a + 512 - 102) 255 := by rw [KV.out, KX.out, bFN, bFH, bL, bFC, bA]; rfl
            have rV : bits .and .i64 ((a : Int) - 102) 255 = (V : Nat) := by rw [e1]; exact VM.out 102 (by omega)
            have hV : V < 256 := by rw [e1]; exact VL.out _
            have hz := szpN_lt V hV
            have E : Hid (bits .or .i64 (bits .or .i64 (bits .or .i64 ((szpN V : Nat) : Int) (FN : Int)) 1) 16 = (F : Int)) := by
              unfold Hid
              rw [KF.out, KC.out, KH.out, bFC, bA, bFN, bL, bFH, bM]
              exact or4 (szpN V) FN 1 16 hz (by omega) (by omega) (by omega)
            clear e1 bFH bL bM bFC bA bFN KF KV KX KC KH VP VM VL
            go_enter Tryz.func113, Tryz.ntmps113
            go_wp2_with (first | (go_at_call 117; refine (szp_spec _ _ hV).mono ?_; rintro e w' ⟨rfl, rfl⟩) | go_in)
            go_ret2
            exact ⟨by rw [E.out]; rfl, rfl⟩
      · have bFC : Nat.beq FC 1 = false := by rw [Bool.eq_false_iff]; intro h; exact kFC (Nat.eq_of_beq_eq_true h)
        have kFC' : ((FC : Int) == 1) = false := by simp; omega
        have kF0 : Hid (FC = 0) := show FC = 0 by omega
        clear kFC
        by_cases kA : 153 < a
        · have bA : Nat.ble 154 a = true := Nat.ble_eq_true_of_le (by omega)
          by_cases kFN : FN = 0
          · have bFN : Nat.beq FN 0 = true := by rw [kFN]; rfl
            have kFN' : ((FN : Int) != 0) = false := by simp; omega
            clear kFN
            have e1 : V = Nat.land (a + 102) 255 := by rw [KV.out, KX.out, bFN, bFH, bL, bFC, bA]; rfl
            have rV : bits .and .i64 ((a : Int) + 102) 255 = (V : Nat) := by rw [e1]; exact VP.out 102 (by omega)
            have hV : V < 256 := by rw [e1]; exact VL.out _
            have hz := szpN_lt V hV
            have E : Hid (bits .or .i64 (bits .or .i64 (bits .or .i64 ((szpN V : Nat) : Int) (FN : Int)) 1) 0 = (F : Int)) := by
              unfold Hid
              rw [KF.out, KC.out, KH.out, bFC, bA, bFN, bL, bFH, bM]
              exact or4 (szpN V) FN 1 0 hz (by omega) (by omega) (by omega)
            clear e1 bFH bL bM bFC bA bFN KF KV KX KC KH VP VM VL kF0
            go_enter Tryz.func113, Tryz.ntmps113
            go_wp2_with (first | (go_at_call 117; refine (szp_spec _ _ hV).mono ?_; rintro e w' ⟨rfl, rfl⟩) | go_in)
            go_ret2
            exact ⟨by rw [E.out]; rfl, rfl⟩
          · have bFN : Nat.beq FN 0 = false := by rw [Bool.eq_false_iff]; intro h; exact kFN (Nat.eq_of_beq_eq_true h)
            have kFN' : ((FN : Int) != 0) = true := by simp; omega
            clear kFN
            have e1 : V = Nat.land (a + 512 - 102) 255 := by rw [KV.out, KX.out, bFN, bFH, bL, bFC, bA]; rfl
            have rV : bits .and .i64 ((a : Int) - 102) 255 = (V : Nat) := by rw [e1]; exact VM.out 102 (by omega)
            have hV : V < 256 := by rw [e1]; exact VL.out _
            have hz := szpN_lt V hV
            have E : Hid (bits .or .i64 (bits .or .i64 (bits .or .i64 ((szpN V : Nat) : Int) (FN : Int)) 1) 16 = (F : Int)) := by
              unfold Hid
              rw [KF.out, KC.out, KH.out, bFC, bA, bFN, bL, bFH, bM]
              exact or4 (szpN V) FN 1 16 hz (by omega) (by omega) (by omega)
            clear e1 bFH bL bM bFC bA bFN KF KV KX KC KH VP VM VL kF0
            go_enter Tryz.func113, Tryz.ntmps113
            go_wp2_with (first | (go_at_call 117; refine (szp_spec _ _ hV).mono ?_; rintro e w' ⟨rfl, rfl⟩) | go_in)
            go_ret2
            exact ⟨by rw [E.out]; rfl, rfl⟩
        · have bA : Nat.ble 154 a = false := by rw [Bool.eq_false_iff]; intro h; have := Nat.le_of_ble_eq_true h; omega
          by_cases kFN : FN = 0
          · have bFN : Nat.beq FN 0 = true := by rw [kFN]; rfl
            have kFN' : ((FN : Int) != 0) = false := by simp; omega
            clear kFN
            have e1 : V = Nat.land (a + 6) 255 := by rw [KV.out, KX.out, bFN, bFH, bL, bFC, bA]; rfl
            have rV : bits .and .i64 ((a : Int) + 6) 255 = (V : Nat) := by rw [e1]; exact VP.out 6 (by omega)
            have hV : V < 256 := by rw [e1]; exact VL.out _
            have hz := szpN_lt V hV
            have E : Hid (bits .or .i64 (bits .or .i64 (bits .or .i64 ((szpN V : Nat) : Int) (FN : Int)) (FC : Int)) 0 = (F : Int)) := by
              unfold Hid
              rw [kF0.out]
              rw [KF.out, KC.out, KH.out, bFC, bA, bFN, bL, bFH, bM]
              exact or4 (szpN V) FN 0 0 hz (by omega) (by omega) (by omega)
            clear e1 bFH bL bM bFC bA bFN KF KV KX KC KH VP VM VL kF0
            go_enter Tryz.func113, Tryz.ntmps113
            go_wp2_with (first | (go_at_call 117; refine (szp_spec _ _ hV).mono ?_; rintro e w' ⟨rfl, rfl⟩) | go_in)
            go_ret2
            exact ⟨by rw [E.out]; rfl, rfl⟩
          · have bFN : Nat.beq FN 0 = false := by rw [Bool.eq_false_iff]; intro h; exact kFN (Nat.eq_of_beq_eq_true h)
            have kFN' : ((FN : Int) != 0) = true := by simp; omega
            clear kFN
            have e1 : V = Nat.land (a + 512 - 6) 255 := by rw [KV.out, KX.out, bFN, bFH, bL, bFC, bA]; rfl
            have rV : bits .and .i64 ((a : Int) - 6) 255 = (V : Nat) := by rw [e1]; exact VM.out 6 (by omega)
            have hV : V < 256 := by rw [e1]; exact VL.out _
            have hz := szpN_lt V hV
            have E : Hid (bits .or .i64 (bits .or .i64 (bits .or .i64 ((szpN V : Nat) : Int) (FN : Int)) (FC : Int)) 16 = (F : Int)) := by
              unfold Hid
              rw [kF0.out]
              rw [KF.out, KC.out, KH.out, bFC, bA, bFN, bL, bFH, bM]
              exact or4 (szpN V) FN 0 16 hz (by omega) (by omega) (by omega)
            clear e1 bFH bL bM bFC bA bFN KF KV KX KC KH VP VM VL kF0
            go_enter Tryz.func113, Tryz.ntmps113
            go_wp2_with (first | (go_at_call 117; refine (szp_spec _ _ hV).mono ?_; rintro e w' ⟨rfl, rfl⟩) | go_in)
            go_ret2
            exact ⟨by rw [E.out]; rfl, rfl⟩
    · have bL : Nat.ble 10 L = false := by rw [Bool.eq_false_iff]; intro h; have := Nat.le_of_ble_eq_true h; omega
      have bM : Nat.ble (Nat.add L 1) 6 = false := by rw [Bool.eq_false_iff]; intro h; have h2 : L + 1 ≤ 6 := Nat.le_of_ble_eq_true h; omega
      by_cases kFC : FC = 1
      · have bFC : Nat.beq FC 1 = true := by rw [kFC]; rfl
        have kFC' : ((FC : Int) == 1) = true := by simp; omega
        clear kFC
        by_cases kA : 153 < a
        · have bA : Nat.ble 154 a = true := Nat.ble_eq_true_of_le (by omega)
          by_cases kFN : FN = 0
          · have bFN : Nat.beq FN 0 = true := by rw [kFN]; rfl
            have kFN' : ((FN : Int) != 0) = false := by simp; omega
            clear kFN
            have e1 : V = Nat.land (a + 102) 255 := by rw [KV.out, KX.out, bFN, bFH, bL, bFC, bA]; rfl
            have rV : bits .and .i64 ((a : Int) + 102) 255 = (V : Nat) := by rw [e1]; exact VP.out 102 (by omega)
            have hV : V < 256 := by rw [e1]; exact VL.out _
            have hz := szpN_lt V hV
            have E : Hid (bits .or .i64 (bits .or .i64 (bits .or .i64 ((szpN V : Nat) : Int) (FN : Int)) 1) 0 = (F : Int)) := by
              unfold Hid
              rw [KF.out, KC.out, KH.out, bFC, bA, bFN, bL, bFH, bM]
              exact or4 (szpN V) FN 1 0 hz (by omega) (by omega) (by omega)
            clear e1 bFH bL bM bFC bA bFN KF KV KX KC KH VP VM VL
            go_enter Tryz.func113, Tryz.ntmps113
            go_wp2_with (first | (go_at_call 117; refine (szp_spec _ _ hV).mono ?_; rintro e w' ⟨rfl, rfl⟩) | go_in)
            go_ret2
            exact ⟨by rw [E.out]; rfl, rfl⟩
          · have bFN : Nat.beq FN 0 = false := by rw [Bool.eq_false_iff]; intro h; exact kFN (Nat.eq_of_beq_eq_true h)
            have kFN' : ((FN : Int) != 0) = true := by simp; omega
            clear kFN
            have e1 : V = Nat.land (a + 512 - 102) 255 := by rw [KV.out, KX.out, bFN, bFH, bL, bFC, bA]; rfl
            have rV : bits .and .i64 ((a : Int) - 102) 255 = (V : Nat) := by rw [e1]; exact VM.out 102 (by omega)
            have hV : V < 256 := by rw [e1]; exact VL.out _
            have hz := szpN_lt V hV
            have E : Hid (bits .or .i64 (bits .or .i64 (bits .or .i64 ((szpN V : Nat) : Int) (FN : Int)) 1) 0 = (F : Int)) := by
              unfold Hid
              rw [KF.out, KC.out, KH.out, bFC, bA, bFN, bL, bFH, bM]
              exact or4 (szpN V) FN 1 0 hz (by omega) (by omega) (by omega)
            clear e1 bFH bL bM bFC bA bFN KF KV KX KC KH VP VM VL
            go_enter Tryz.func113, Tryz.ntmps113
            go_wp2_with (first | (go_at_call 117; refine (szp_spec _ _ hV).mono ?_; rintro e w' ⟨rfl, rfl⟩) | go_in)
            go_ret2
            exact ⟨by rw [E.out]; rfl, rfl⟩
        · have bA : Nat.ble 154 a = false := by rw [Bool.eq_false_iff]; intro h; have := Nat.le_of_ble_eq_true h; omega
          by_cases kFN : FN = 0
          · have bFN : Nat.beq FN 0 = true := by rw [kFN]; rfl
            have kFN' : ((FN : Int) != 0) = false := by simp; omega
            clear kFN
            have e1 : V = Nat.land (a + 102) 255 := by rw [KV.out, KX.out, bFN, bFH, bL, bFC, bA]; rfl
            have rV : bits .and .i64 ((a : Int) + 102) 255 = (V : Nat) := by rw [e1]; exact VP.out 102 (by omega)
            have hV : V < 256 := by rw [e1]; exact VL.out _
            have hz := szpN_lt V hV
            have E : Hid (bits .or .i64 (bits .or .i64 (bits .or .i64 ((szpN V : Nat) : Int) (FN : Int)) 1) 0 = (F : Int)) := by
              unfold Hid
              rw [KF.out, KC.out, KH.out, bFC, bA, bFN, bL, bFH, bM]
              exact or4 (szpN V) FN 1 0 hz (by omega) (by omega) (by omega)
            clear e1 bFH bL bM bFC bA bFN KF KV KX KC KH VP VM VL
            go_enter Tryz.func113, Tryz.ntmps113
            go_wp2_with (first | (go_at_call 117; refine (szp_spec _ _ hV).mono ?_; rintro e w' ⟨rfl, rfl⟩) | go_in)
            go_ret2
            exact ⟨by rw [E.out]; rfl, rfl⟩
          · have bFN : Nat.beq FN 0 = false := by rw [Bool.eq_false_iff]; intro h; exact kFN (Nat.eq_of_beq_eq_true h)
            have kFN' : ((FN : Int) != 0) = true := by simp; omega
            clear kFN
            have e1 : V = Nat.land (a + 512 - 102) 255 := by rw [KV.out, KX.out, bFN, bFH, bL, bFC, bA]; rfl
            have rV : bits .and .i64 ((a : Int) - 102) 255 = (V : Nat) := by rw [e1]; exact VM.out 102 (by omega)
            have hV : V < 256 := by rw [e1]; exact VL.out _
            have hz := szpN_lt V hV
            have E : Hid (bits .or .i64 (bits .or .i64 (bits .or .i64 ((szpN V : Nat) : Int) (FN : Int)) 1) 0 = (F : Int)) := by
              unfold Hid
              rw [KF.out, KC.out, KH.out, bFC, bA, bFN, bL, bFH, bM]
              exact or4 (szpN V) FN 1 0 hz (by omega) (by omega) (by omega)
            clear e1 bFH bL bM bFC bA bFN KF KV KX KC KH VP VM VL
            go_enter Tryz.func113, Tryz.ntmps113
            go_wp2_with (first | (go_at_call 117; refine (szp_spec _ _ hV).mono ?_; rintro e w' ⟨rfl, rfl⟩) | go_in)
            go_ret2
            exact ⟨by rw [E.out]; rfl, rfl⟩
      · have bFC : Nat.beq FC 1 = false := by rw [Bool.eq_false_iff]; intro h; exact kFC (Nat.eq_of_beq_eq_true h)
        have kFC' : ((FC : Int) == 1) = false := by simp; omega
        have kF0 : Hid (FC = 0) := show FC = 0 by omega
        clear kFC
        by_cases kA : 153 < a
        · have bA : Nat.ble 154 a = true := Nat.ble_eq_true_of_le (by omega)
          by_cases kFN : FN = 0
          · have bFN : Nat.beq FN 0 = true := by rw [kFN]; rfl
            have kFN' : ((FN : Int) != 0) = false := by simp; omega
            clear kFN
            have e1 : V = Nat.land (a + 102) 255 := by rw [KV.out, KX.out, bFN, bFH, bL, bFC, bA]; rfl
            have rV : bits .and .i64 ((a : Int) + 102) 255 = (V : Nat) := by rw [e1]; exact VP.out 102 (by omega)
            have hV : V < 256 := by rw [e1]; exact VL.out _
            have hz := szpN_lt V hV
            have E : Hid (bits .or .i64 (bits .or .i64 (bits .or .i64 ((szpN V : Nat) : Int) (FN : Int)) 1) 0 = (F : Int)) := by
              unfold Hid
              rw [KF.out, KC.out, KH.out, bFC, bA, bFN, bL, bFH, bM]
              exact or4 (szpN V) FN 1 0 hz (by omega) (by omega) (by omega)
            clear e1 bFH bL bM bFC bA bFN KF KV KX KC KH VP VM VL kF0
            go_enter Tryz.func113, Tryz.ntmps113
            go_wp2_with (first | (go_at_call 117; refine (szp_spec _ _ hV).mono ?_; rintro e w' ⟨rfl, rfl⟩) | go_in)
            go_ret2
            exact ⟨by rw [E.out]; rfl, rfl⟩
          · have bFN : Nat.beq FN 0 = false := by rw [Bool.eq_false_iff]; intro h; exact kFN (Nat.eq_of_beq_eq_true h)
            have kFN' : ((FN : Int) != 0) = true := by simp; omega
            clear kFN
            have e1 : V = Nat.land (a + 512 - 102) 255 := by rw [KV.out, KX.out, bFN, bFH, bL, bFC, bA]; rfl
            have rV : bits .and .i64 ((a : Int) - 102) 255 = (V : Nat) := by rw [e1]; exact VM.out 102 (by omega)
            have hV : V < 256 := by rw [e1]; exact VL.out _
            have hz := szpN_lt V hV
            have E : Hid (bits .or .i64 (bits .or .i64 (bits .or .i64 ((szpN V : Nat) : Int) (FN : Int)) 1) 0 = (F : Int)) := by
              unfold Hid
              rw [KF.out, KC.out, KH.out, bFC, bA, bFN, bL, bFH, bM]
              exact or4 (szpN V) FN 1 0 hz (by omega) (by omega) (by omega)
            clear e1 bFH bL bM bFC bA bFN KF KV KX KC KH VP VM VL kF0
            go_enter Tryz.func113, Tryz.ntmps113
            go_wp2_with (first | (go_at_call 117; refine (szp_spec _ _ hV).mono ?_; rintro e w' ⟨rfl, rfl⟩) | go_in)
            go_ret2
            exact ⟨by rw [E.out]; rfl, rfl⟩
        · have bA : Nat.ble 154 a = false := by rw [Bool.eq_false_iff]; intro h; have := Nat.le_of_ble_eq_true h; omega
          by_cases kFN : FN = 0
          · have bFN : Nat.beq FN 0 = true := by rw [kFN]; rfl
            have kFN' : ((FN : Int) != 0) = false := by simp; omega
            clear kFN
            have e1 : V = Nat.land (a + 6) 255 := by rw [KV.out, KX.out, bFN, bFH, bL, bFC, bA]; rfl
            have rV : bits .and .i64 ((a : Int) + 6) 255 = (V : Nat) := by rw [e1]; exact VP.out 6 (by omega)
            have hV : V < 256 := by rw [e1]; exact VL.out _
            have hz := szpN_lt V hV
            have E : Hid (bits .or .i64 (bits .or .i64 (bits .or .i64 ((szpN V : Nat) : Int) (FN : Int)) (FC : Int)) 0 = (F : Int)) := by
              unfold Hid
              rw [kF0.out]
              rw [KF.out, KC.out, KH.out, bFC, bA, bFN, bL, bFH, bM]
              exact or4 (szpN V) FN 0 0 hz (by omega) (by omega) (by omega)
            clear e1 bFH bL bM bFC bA bFN KF KV KX KC KH VP VM VL kF0
            go_enter Tryz.func113, Tryz.ntmps113
            go_wp2_with (first | (go_at_call 117; refine (szp_spec _ _ hV).mono ?_; rintro e w' ⟨rfl, rfl⟩) | go_in)
            go_ret2
            exact ⟨by rw [E.out]; rfl, rfl⟩
          · have bFN : Nat.beq FN 0 = false := by rw [Bool.eq_false_iff]; intro h; exact kFN (Nat.eq_of_beq_eq_true h)
            have kFN' : ((FN : Int) != 0) = true := by simp; omega
            clear kFN
            have e1 : V = Nat.land (a + 512 - 6) 255 := by rw [KV.out, KX.out, bFN, bFH, bL, bFC, bA]; rfl
            have rV : bits .and .i64 ((a : Int) - 6) 255 = (V : Nat) := by rw [e1]; exact VM.out 6 (by omega)
            have hV : V < 256 := by rw [e1]; exact VL.out _
            have hz := szpN_lt V hV
            have E : Hid (bits .or .i64 (bits .or .i64 (bits .or .i64 ((szpN V : Nat) : Int) (FN : Int)) (FC : Int)) 0 = (F : Int)) := by
              unfold Hid
              rw [kF0.out]
              rw [KF.out, KC.out, KH.out, bFC, bA, bFN, bL, bFH, bM]
              exact or4 (szpN V) FN 0 0 hz (by omega) (by omega) (by omega)
            clear e1 bFH bL bM bFC bA bFN KF KV KX KC KH VP VM VL kF0
            go_enter Tryz.func113, Tryz.ntmps113
            go_wp2_with (first | (go_at_call 117; refine (szp_spec _ _ hV).mono ?_; rintro e w' ⟨rfl, rfl⟩) | go_in)
            go_ret2
            exact ⟨by rw [E.out]; rfl, rfl⟩
    · have bL : Nat.ble 10 L = true := Nat.ble_eq_true_of_le (by omega)
      have bM : Nat.ble (Nat.add L 1) 6 = false := by rw [Bool.eq_false_iff]; intro h; have h2 : L + 1 ≤ 6 := Nat.le_of_ble_eq_true h; omega
      by_cases kFC : FC = 1
      · have bFC : Nat.beq FC 1 = true := by rw [kFC]; rfl
        have kFC' : ((FC : Int) == 1) = true := by simp; omega
        clear kFC
        by_cases kA : 153 < a
        · have bA : Nat.ble 154 a = true := Nat.ble_eq_true_of_le (by omega)
          by_cases kFN : FN = 0
          · have bFN : Nat.beq FN 0 = true := by rw [kFN]; rfl
            have kFN' : ((FN : Int) != 0) = false := by simp; omega
            clear kFN
            have e1 : V = Nat.land (a + 102) 255 := by rw [KV.out, KX.out, bFN, bFH, bL, bFC, bA]; rfl
            have rV : bits .and .i64 ((a : Int) + 102) 255 = (V : Nat) := by rw [e1]; exact VP.out 102 (by omega)
            have hV : V < 256 := by rw [e1]; exact VL.out _
            have hz := szpN_lt V hV
            have E : Hid (bits .or .i64 (bits .or .i64 (bits .or .i64 ((szpN V : Nat) : Int) (FN : Int)) 1) 16 = (F : Int)) := by
              unfold Hid
              rw [KF.out, KC.out, KH.out, bFC, bA, bFN, bL, bFH, bM]
              exact or4 (szpN V) FN 1 16 hz (by omega) (by omega) (by omega)
            clear e1 bFH bL bM bFC bA bFN KF KV KX KC KH VP VM VL
            go_enter Tryz.func113, Tryz.ntmps113
            go_wp2_with (first | (go_at_call 117; refine (szp_spec _ _ hV).mono ?_; rintro e w' ⟨rfl, rfl⟩) | go_in)
            go_ret2
            exact ⟨by rw [E.out]; rfl, rfl⟩
          · have bFN : Nat.beq FN 0 = false := by rw [Bool.eq_false_iff]; intro h; exact kFN (Nat.eq_of_beq_eq_true h)
            have kFN' : ((FN : Int) != 0) = true := by simp; omega
            clear kFN
            have e1 : V = Nat.land (a + 512 - 102) 255 := by rw [KV.out, KX.out, bFN, bFH, bL, bFC, bA]; rfl
            have rV : bits .and .i64 ((a : Int) - 102) 255 = (V : Nat) := by rw [e1]; exact VM.out 102 (by omega)
            have hV : V < 256 := by rw [e1]; exact VL.out _
            have hz := szpN_lt V hV
            have E : Hid (bits .or .i64 (bits .or .i64 (bits .or .i64 ((szpN V : Nat) : Int) (FN : Int)) 1) 0 = (F : Int)) := by
              unfold Hid
              rw [KF.out, KC.out, KH.out, bFC, bA, bFN, bL, bFH, bM]
              exact or4 (szpN V) FN 1 0 hz (by omega) (by omega) (by omega)
            clear e1 bFH bL bM bFC bA bFN KF KV KX KC KH VP VM VL
            go_enter Tryz.func113, Tryz.ntmps113
            go_wp2_with (first | (go_at_call 117; refine (szp_spec _ _ hV).mono ?_; rintro e w' ⟨rfl, rfl⟩) | go_in)
            go_ret2
            exact ⟨by rw [E.out]; rfl, rfl⟩
        · have bA : Nat.ble 154 a = false := by rw [Bool.eq_false_iff]; intro h; have := Nat.le_of_ble_eq_true h; omega
          by_cases kFN : FN = 0
          · have bFN : Nat.beq FN 0 = true := by rw [kFN]; rfl
            have kFN' : ((FN : Int) != 0) = false := by simp; omega
            clear kFN
            have e1 : V = Nat.land (a + 102) 255 := by rw [KV.out, KX.out, bFN, bFH, bL, bFC, bA]; rfl
            have rV : bits .and .i64 ((a : Int) + 102) 255 = (V : Nat) := by rw [e1]; exact VP.out 102 (by omega)
            have hV : V < 256 := by rw [e1]; exact VL.out _
            have hz := szpN_lt V hV
            have E : Hid (bits .or .i64 (bits .or .i64 (bits .or .i64 ((szpN V : Nat) : Int) (FN : Int)) 1) 16 = (F : Int)) := by
              unfold Hid
              rw [KF.out, KC.out, KH.out, bFC, bA, bFN, bL, bFH, bM]
              exact or4 (szpN V) FN 1 16 hz (by omega) (by omega) (by omega)
            clear e1 bFH bL bM bFC bA bFN KF KV KX KC KH VP VM VL
            go_enter Tryz.func113, Tryz.ntmps113
            go_wp2_with (first | (go_at_call 117; refine (szp_spec _ _ hV).mono ?_; rintro e w' ⟨rfl, rfl⟩) | go_in)
            go_ret2
            exact ⟨by rw [E.out]; rfl, rfl⟩
          · have bFN : Nat.beq FN 0 = false := by rw [Bool.eq_false_iff]; intro h; exact kFN (Nat.eq_of_beq_eq_true h)
            have kFN' : ((FN : Int) != 0) = true := by simp; omega
            clear kFN
            have e1 : V = Nat.land (a + 512 - 102) 255 := by rw [KV.out, KX.out, bFN, bFH, bL, bFC, bA]; rfl
            have rV : bits .and .i64 ((a : Int) - 102) 255 = (V : Nat) := by rw [e1]; exact VM.out 102 (by omega)
            have hV : V < 256 := by rw [e1]; exact VL.out _
            have hz := szpN_lt V hV
            have E : Hid (bits .or .i64 (bits .or .i64 (bits .or .i64 ((szpN V : Nat) : Int) (FN : Int)) 1) 0 = (F : Int)) := by
              unfold Hid
              rw [KF.out, KC.out, KH.out, bFC, bA, bFN, bL, bFH, bM]
              exact or4 (szpN V) FN 1 0 hz (by omega) (by omega) (by omega)
            clear e1 bFH bL bM bFC bA bFN KF KV KX KC KH VP VM VL
            go_enter Tryz.func113, Tryz.ntmps113
            go_wp2_with (first | (go_at_call 117; refine (szp_spec _ _ hV).mono ?_; rintro e w' ⟨rfl, rfl⟩) | go_in)
            go_ret2
            exact ⟨by rw [E.out]; rfl, rfl⟩
      · have bFC : Nat.beq FC 1 = false := by rw [Bool.eq_false_iff]; intro h; exact kFC (Nat.eq_of_beq_eq_true h)
        have kFC' : ((FC : Int) == 1) = false := by simp; omega
        have kF0 : Hid (FC = 0) := show FC = 0 by omega
        clear kFC
        by_cases kA : 153 < a
        · have bA : Nat.ble 154 a = true := Nat.ble_eq_true_of_le (by omega)
          by_cases kFN : FN = 0
          · have bFN : Nat.beq FN 0 = true := by rw [kFN]; rfl
            have kFN' : ((FN : Int) != 0) = false := by simp; omega
            clear kFN
            have e1 : V = Nat.land (a + 102) 255 := by rw [KV.out, KX.out, bFN, bFH, bL, bFC, bA]; rfl
            have rV : bits .and .i64 ((a : Int) + 102) 255 = (V : Nat) := by rw [e1]; exact VP.out 102 (by omega)
            have hV : V < 256 := by rw [e1]; exact VL.out _
            have hz := szpN_lt V hV
            have E : Hid (bits .or .i64 (bits .or .i64 (bits .or .i64 ((szpN V : Nat) : Int) (FN : Int)) 1) 16 = (F : Int)) := by
              unfold Hid
              rw [KF.out, KC.out, KH.out, bFC, bA, bFN, bL, bFH, bM]
              exact or4 (szpN V) FN 1 16 hz (by omega) (by omega) (by omega)
            clear e1 bFH bL bM bFC bA bFN KF KV KX KC KH VP VM VL kF0
            go_enter Tryz.func113, Tryz.ntmps113
            go_wp2_with (first | (go_at_call 117; refine (szp_spec _ _ hV).mono ?_; rintro e w' ⟨rfl, rfl⟩) | go_in)
            go_ret2
            exact ⟨by rw [E.out]; rfl, rfl⟩
          · have bFN : Nat.beq FN 0 = false := by rw [Bool.eq_false_iff]; intro h; exact kFN (Nat.eq_of_beq_eq_true h)
            have kFN' : ((FN : Int) != 0) = true := by simp; omega
            clear kFN
            have e1 : V = Nat.land (a + 512 - 102) 255 := by rw [KV.out, KX.out, bFN, bFH, bL, bFC, bA]; rfl
            have rV : bits .and .i64 ((a : Int) - 102) 255 = (V : Nat) := by rw [e1]; exact VM.out 102 (by omega)
            have hV : V < 256 := by rw [e1]; exact VL.out _
            have hz := szpN_lt V hV
            have E : Hid (bits .or .i64 (bits .or .i64 (bits .or .i64 ((szpN V : Nat) : Int) (FN : Int)) 1) 0 = (F : Int)) := by
              unfold Hid
              rw [KF.out, KC.out, KH.out, bFC, bA, bFN, bL, bFH, bM]
              exact or4 (szpN V) FN 1 0 hz (by omega) (by omega) (by omega)
            clear e1 bFH bL bM bFC bA bFN KF KV KX KC KH VP VM VL kF0
            go_enter Tryz.func113, Tryz.ntmps113
            go_wp2_with (first | (go_at_call 117; refine (szp_spec _ _ hV).mono ?_; rintro e w' ⟨rfl, rfl⟩) | go_in)
            go_ret2
            exact ⟨by rw [E.out]; rfl, rfl⟩
        · have bA : Nat.ble 154 a = false := by rw [Bool.eq_false_iff]; intro h; have := Nat.le_of_ble_eq_true h; omega
          by_cases kFN : FN = 0
          · have bFN : Nat.beq FN 0 = true := by rw [kFN]; rfl
            have kFN' : ((FN : Int) != 0) = false := by simp; omega
            clear kFN
            have e1 : V = Nat.land (a + 6) 255 := by rw [KV.out, KX.out, bFN, bFH, bL, bFC, bA]; rfl
            have rV : bits .and .i64 ((a : Int) + 6) 255 = (V : Nat) := by rw [e1]; exact VP.out 6 (by omega)
            have hV : V < 256 := by rw [e1]; exact VL.out _
            have hz := szpN_lt V hV
            have E : Hid (bits .or .i64 (bits .or .i64 (bits .or .i64 ((szpN V : Nat) : Int) (FN : Int)) (FC : Int)) 16 = (F : Int)) := by
              unfold Hid
              rw [kF0.out]
              rw [KF.out, KC.out, KH.out, bFC, bA, bFN, bL, bFH, bM]
              exact or4 (szpN V) FN 0 16 hz (by omega) (by omega) (by omega)
            clear e1 bFH bL bM bFC bA bFN KF KV KX KC KH VP VM VL kF0
            go_enter Tryz.func113, Tryz.ntmps113
            go_wp2_with (first | (go_at_call 117; refine (szp_spec _ _ hV).mono ?_; rintro e w' ⟨rfl, rfl⟩) | go_in)
            go_ret2
            exact ⟨by rw [E.out]; rfl, rfl⟩
          · have bFN : Nat.beq FN 0 = false := by rw [Bool.eq_false_iff]; intro h; exact kFN (Nat.eq_of_beq_eq_true h)
            have kFN' : ((FN : Int) != 0) = true := by simp; omega
            clear kFN
            have e1 : V = Nat.land (a + 512 - 6) 255 := by rw [KV.out, KX.out, bFN, bFH, bL, bFC, bA]; rfl
            have rV : bits .and .i64 ((a : Int) - 6) 255 = (V : Nat) := by rw [e1]; exact VM.out 6 (by omega)
            have hV : V < 256 := by rw [e1]; exact VL.out _
            have hz := szpN_lt V hV
            have E : Hid (bits .or .i64 (bits .or .i64 (bits .or .i64 ((szpN V : Nat) : Int) (FN : Int)) (FC : Int)) 0 = (F : Int)) := by
              unfold Hid
              rw [kF0.out]
              rw [KF.out, KC.out, KH.out, bFC, bA, bFN, bL, bFH, bM]
              exact or4 (szpN V) FN 0 0 hz (by omega) (by omega) (by omega)
            clear e1 bFH bL bM bFC bA bFN KF KV KX KC KH VP VM VL kF0
            go_enter Tryz.func113, Tryz.ntmps113
            go_wp2_with (first | (go_at_call 117; refine (szp_spec _ _ hV).mono ?_; rintro e w' ⟨rfl, rfl⟩) | go_in)
            go_ret2
            exact ⟨by rw [E.out]; rfl, rfl⟩
end Go.Proofs.YtgpmpfikeindfaaGreatDoor
