/- What the specification's steps and logic answer, and its sum, difference, steps and logic as they are asked. -/
import Derived.Test.YtgpmpfikeindfaaGreatDoorAdv
namespace Go.Proofs.YtgpmpfikeindfaaGreatDoor
open Go.ChangeShapes Go.WideShapes Go.ChangeAt Go.RowKit
set_option linter.unusedVariables false

def incV (a : Nat) : Nat := Nat.land (Nat.add a 1) 255
def incF (a f : Nat) : Nat := Nat.lor (Nat.lor (Nat.lor (Nat.land f 1) (szN (incV a))) (Nat.mul 16 (btN (Nat.beq (Nat.land a 15) 15)))) (Nat.mul 4 (btN (Nat.beq a 127)))
theorem incV_lt (a : Nat) : incV a < 256 := Nat.and_lt_two_pow (n := 8) _ (by decide)
theorem incV_int (a : Nat) (ha : a < 256) : bits .and .i64 ((a : Int) + 1) 255 = (incV a : Nat) := by
  have h : incV a = (a + 1) % 2 ^ 8 := Nat.and_two_pow_sub_one_eq_mod (a + 1) 8
  rw [i64_and255, h]
  omega
set_option maxHeartbeats 1000000 in
theorem inc_spec (a f : Nat) (w : World) (ha : a < 256) (hf : f < 256) :
    Calls Tryz.prog 109 #[.int .i64 a, .int .i64 f] w fun e w' => e = .returned (.tuple #[.int .i64 (incV a), .int .i64 (incF a f)]) ∧ w' = w := by
  have hV := incV_lt a
  have hA : Nat.land a 15 < 2 ^ 4 := Nat.and_lt_two_pow _ (by decide)
  have hC : Nat.land f 1 < 2 ^ 1 := Nat.and_lt_two_pow _ (by decide)
  have r1 := incV_int a ha
  have r2 : bits .and .i64 (a : Int) 15 = (Nat.land a 15 : Nat) := bAnd a 15 (by omega) (by omega)
  have r3 : bits .and .i64 (f : Int) 1 = (Nat.land f 1 : Nat) := bAnd f 1 (by omega) (by omega)
  have hF : incF a f = Nat.lor (Nat.lor (Nat.lor (Nat.land f 1) (szN (incV a))) (Nat.mul 16 (btN (Nat.beq (Nat.land a 15) 15)))) (Nat.mul 4 (btN (Nat.beq a 127))) := rfl
  generalize incF a f = F at hF ⊢
  generalize incV a = V at *
  generalize Nat.land a 15 = A1 at *
  generalize Nat.land f 1 = C1 at *
  have hz := szN_lt V hV
  have HF : Hid (F = _) := hF
  clear hF
  by_cases k1 : A1 = 15
  · have b1 : Nat.beq A1 15 = true := by rw [k1]; rfl
    have k1' : ((A1 : Int) == 15) = true := by simp; omega
    clear k1
    by_cases k2 : a = 127
    · have b2 : Nat.beq a 127 = true := by rw [k2]; rfl
      have k2' : ((a : Int) == 127) = true := by simp; omega
      clear k2
      have E : Hid (bits .or .i64 (bits .or .i64 (bits .or .i64 ((C1 : Nat) : Int) ((szN V : Nat) : Int)) 16) 4 = (F : Int)) := by
        unfold Hid
        rw [HF.out, b1, b2]
        exact or4 C1 (szN V) 16 4 (by omega) hz (by omega) (by omega)
      clear b1 b2 HF
      go_enter Tryz.func109, Tryz.ntmps109
      go_wp2_with (first | (go_at_call 138; refine (sz_spec _ _ hV).mono ?_; rintro e w' ⟨rfl, rfl⟩) | go_in)
      go_ret2
      exact ⟨by rw [E.out]; rfl, rfl⟩
    · have b2 : Nat.beq a 127 = false := by rw [Bool.eq_false_iff]; intro h; exact k2 (Nat.eq_of_beq_eq_true h)
      have k2' : ((a : Int) == 127) = false := by simp; omega
      clear k2
      have E : Hid (bits .or .i64 (bits .or .i64 (bits .or .i64 ((C1 : Nat) : Int) ((szN V : Nat) : Int)) 16) 0 = (F : Int)) := by
        unfold Hid
        rw [HF.out, b1, b2]
        exact or4 C1 (szN V) 16 0 (by omega) hz (by omega) (by omega)
      clear b1 b2 HF
      go_enter Tryz.func109, Tryz.ntmps109
      go_wp2_with (first | (go_at_call 138; refine (sz_spec _ _ hV).mono ?_; rintro e w' ⟨rfl, rfl⟩) | go_in)
      go_ret2
      exact ⟨by rw [E.out]; rfl, rfl⟩
  · have b1 : Nat.beq A1 15 = false := by rw [Bool.eq_false_iff]; intro h; exact k1 (Nat.eq_of_beq_eq_true h)
    have k1' : ((A1 : Int) == 15) = false := by simp; omega
    clear k1
    by_cases k2 : a = 127
    · have b2 : Nat.beq a 127 = true := by rw [k2]; rfl
      have k2' : ((a : Int) == 127) = true := by simp; omega
      clear k2
      have E : Hid (bits .or .i64 (bits .or .i64 (bits .or .i64 ((C1 : Nat) : Int) ((szN V : Nat) : Int)) 0) 4 = (F : Int)) := by
        unfold Hid
        rw [HF.out, b1, b2]
        exact or4 C1 (szN V) 0 4 (by omega) hz (by omega) (by omega)
      clear b1 b2 HF
      go_enter Tryz.func109, Tryz.ntmps109
      go_wp2_with (first | (go_at_call 138; refine (sz_spec _ _ hV).mono ?_; rintro e w' ⟨rfl, rfl⟩) | go_in)
      go_ret2
      exact ⟨by rw [E.out]; rfl, rfl⟩
    · have b2 : Nat.beq a 127 = false := by rw [Bool.eq_false_iff]; intro h; exact k2 (Nat.eq_of_beq_eq_true h)
      have k2' : ((a : Int) == 127) = false := by simp; omega
      clear k2
      have E : Hid (bits .or .i64 (bits .or .i64 (bits .or .i64 ((C1 : Nat) : Int) ((szN V : Nat) : Int)) 0) 0 = (F : Int)) := by
        unfold Hid
        rw [HF.out, b1, b2]
        exact or4 C1 (szN V) 0 0 (by omega) hz (by omega) (by omega)
      clear b1 b2 HF
      go_enter Tryz.func109, Tryz.ntmps109
      go_wp2_with (first | (go_at_call 138; refine (sz_spec _ _ hV).mono ?_; rintro e w' ⟨rfl, rfl⟩) | go_in)
      go_ret2
      exact ⟨by rw [E.out]; rfl, rfl⟩

def decV (a : Nat) : Nat := Nat.land (Nat.add a 255) 255
def decF (a f : Nat) : Nat := Nat.lor (Nat.lor (Nat.lor (Nat.lor (Nat.land f 1) (szN (decV a))) 2) (Nat.mul 16 (btN (Nat.beq (Nat.land a 15) 0)))) (Nat.mul 4 (btN (Nat.beq a 128)))
theorem decV_lt (a : Nat) : decV a < 256 := Nat.and_lt_two_pow (n := 8) _ (by decide)
theorem decV_int (a : Nat) (ha : a < 256) : bits .and .i64 ((a : Int) - 1) 255 = (decV a : Nat) := by
  have h : decV a = (a + 255) % 2 ^ 8 := Nat.and_two_pow_sub_one_eq_mod (a + 255) 8
  rw [i64_and255, h]
  omega
set_option maxHeartbeats 1000000 in
theorem dec_spec (a f : Nat) (w : World) (ha : a < 256) (hf : f < 256) :
    Calls Tryz.prog 110 #[.int .i64 a, .int .i64 f] w fun e w' => e = .returned (.tuple #[.int .i64 (decV a), .int .i64 (decF a f)]) ∧ w' = w := by
  have hV := decV_lt a
  have hA : Nat.land a 15 < 2 ^ 4 := Nat.and_lt_two_pow _ (by decide)
  have hC : Nat.land f 1 < 2 ^ 1 := Nat.and_lt_two_pow _ (by decide)
  have r1 := decV_int a ha
  have r2 : bits .and .i64 (a : Int) 15 = (Nat.land a 15 : Nat) := bAnd a 15 (by omega) (by omega)
  have r3 : bits .and .i64 (f : Int) 1 = (Nat.land f 1 : Nat) := bAnd f 1 (by omega) (by omega)
  have hF : decF a f = Nat.lor (Nat.lor (Nat.lor (Nat.lor (Nat.land f 1) (szN (decV a))) 2) (Nat.mul 16 (btN (Nat.beq (Nat.land a 15) 0)))) (Nat.mul 4 (btN (Nat.beq a 128))) := rfl
  generalize decF a f = F at hF ⊢
  generalize decV a = V at *
  generalize Nat.land a 15 = A1 at *
  generalize Nat.land f 1 = C1 at *
  have hz := szN_lt V hV
  have HF : Hid (F = _) := hF
  clear hF
  by_cases k1 : A1 = 0
  · have b1 : Nat.beq A1 0 = true := by rw [k1]; rfl
    have k1' : ((A1 : Int) == 0) = true := by simp; omega
    clear k1
    by_cases k2 : a = 128
    · have b2 : Nat.beq a 128 = true := by rw [k2]; rfl
      have k2' : ((a : Int) == 128) = true := by simp; omega
      clear k2
      have E : Hid (bits .or .i64 (bits .or .i64 (bits .or .i64 (bits .or .i64 ((C1 : Nat) : Int) ((szN V : Nat) : Int)) 2) 16) 4 = (F : Int)) := by
        unfold Hid
        rw [HF.out, b1, b2]
        exact or5 C1 (szN V) 2 16 4 (by omega) hz (by omega) (by omega) (by omega)
      clear b1 b2 HF
      go_enter Tryz.func110, Tryz.ntmps110
      go_wp2_with (first | (go_at_call 138; refine (sz_spec _ _ hV).mono ?_; rintro e w' ⟨rfl, rfl⟩) | go_in)
      go_ret2
      exact ⟨by rw [E.out]; rfl, rfl⟩
    · have b2 : Nat.beq a 128 = false := by rw [Bool.eq_false_iff]; intro h; exact k2 (Nat.eq_of_beq_eq_true h)
      have k2' : ((a : Int) == 128) = false := by simp; omega
      clear k2
      have E : Hid (bits .or .i64 (bits .or .i64 (bits .or .i64 (bits .or .i64 ((C1 : Nat) : Int) ((szN V : Nat) : Int)) 2) 16) 0 = (F : Int)) := by
        unfold Hid
        rw [HF.out, b1, b2]
        exact or5 C1 (szN V) 2 16 0 (by omega) hz (by omega) (by omega) (by omega)
      clear b1 b2 HF
      go_enter Tryz.func110, Tryz.ntmps110
      go_wp2_with (first | (go_at_call 138; refine (sz_spec _ _ hV).mono ?_; rintro e w' ⟨rfl, rfl⟩) | go_in)
      go_ret2
      exact ⟨by rw [E.out]; rfl, rfl⟩
  · have b1 : Nat.beq A1 0 = false := by rw [Bool.eq_false_iff]; intro h; exact k1 (Nat.eq_of_beq_eq_true h)
    have k1' : ((A1 : Int) == 0) = false := by simp; omega
    clear k1
    by_cases k2 : a = 128
    · have b2 : Nat.beq a 128 = true := by rw [k2]; rfl
      have k2' : ((a : Int) == 128) = true := by simp; omega
      clear k2
      have E : Hid (bits .or .i64 (bits .or .i64 (bits .or .i64 (bits .or .i64 ((C1 : Nat) : Int) ((szN V : Nat) : Int)) 2) 0) 4 = (F : Int)) := by
        unfold Hid
        rw [HF.out, b1, b2]
        exact or5 C1 (szN V) 2 0 4 (by omega) hz (by omega) (by omega) (by omega)
      clear b1 b2 HF
      go_enter Tryz.func110, Tryz.ntmps110
      go_wp2_with (first | (go_at_call 138; refine (sz_spec _ _ hV).mono ?_; rintro e w' ⟨rfl, rfl⟩) | go_in)
      go_ret2
      exact ⟨by rw [E.out]; rfl, rfl⟩
    · have b2 : Nat.beq a 128 = false := by rw [Bool.eq_false_iff]; intro h; exact k2 (Nat.eq_of_beq_eq_true h)
      have k2' : ((a : Int) == 128) = false := by simp; omega
      clear k2
      have E : Hid (bits .or .i64 (bits .or .i64 (bits .or .i64 (bits .or .i64 ((C1 : Nat) : Int) ((szN V : Nat) : Int)) 2) 0) 0 = (F : Int)) := by
        unfold Hid
        rw [HF.out, b1, b2]
        exact or5 C1 (szN V) 2 0 0 (by omega) hz (by omega) (by omega) (by omega)
      clear b1 b2 HF
      go_enter Tryz.func110, Tryz.ntmps110
      go_wp2_with (first | (go_at_call 138; refine (sz_spec _ _ hV).mono ?_; rintro e w' ⟨rfl, rfl⟩) | go_in)
      go_ret2
      exact ⟨by rw [E.out]; rfl, rfl⟩

def logV (op a b : Nat) : Nat := cond (Nat.beq op 0) (Nat.land a b) (cond (Nat.beq op 1) (Nat.xor a b) (Nat.lor a b))
def logF (op a b : Nat) : Nat := cond (Nat.beq op 0) (Nat.lor (szpN (Nat.land a b)) 16) (szpN (logV op a b))
theorem logic_spec (op a b : Nat) (w : World) (ho : op < 3) (ha : a < 256) (hb : b < 256) :
    Calls Tryz.prog 137 #[.int .i64 op, .int .i64 a, .int .i64 b] w fun e w' => e = .returned (.tuple #[.int .i64 (logV op a b), .int .i64 (logF op a b)]) ∧ w' = w := by
  have h3 : op = 0 ∨ op = 1 ∨ op = 2 := by omega
  rcases h3 with rfl | rfl | rfl
  · have hV : Nat.land a b < 256 := Nat.and_lt_two_pow (n := 8) _ hb
    have hz := szpN_lt _ hV
    have r1 : bits .and .i64 (a : Int) (b : Int) = (Nat.land a b : Nat) := bAnd a b (by omega) (by omega)
    show Calls _ _ _ _ fun e w' => e = .returned (.tuple #[.int .i64 (Nat.land a b : Nat), .int .i64 (Nat.lor (szpN (Nat.land a b)) 16 : Nat)]) ∧ w' = w
    generalize Nat.land a b = V at *
    have E : Hid (bits .or .i64 ((szpN V : Nat) : Int) 16 = (Nat.lor (szpN V) 16 : Nat)) := bOr (szpN V) 16 (by omega) (by omega)
    generalize Nat.lor (szpN V) 16 = F at *
    go_enter Tryz.func137, Tryz.ntmps137
    go_wp2_with (first | (go_at_call 117; refine (szp_spec _ _ hV).mono ?_; rintro e w' ⟨rfl, rfl⟩) | go_in)
    go_ret2
    exact ⟨by rw [E.out]; rfl, rfl⟩
  · have hV : Nat.xor a b < 256 := Nat.xor_lt_two_pow (n := 8) ha hb
    have r1 : bits .xor .i64 (a : Int) (b : Int) = (Nat.xor a b : Nat) := bXor a b (by omega) (by omega)
    show Calls _ _ _ _ fun e w' => e = .returned (.tuple #[.int .i64 (Nat.xor a b : Nat), .int .i64 (szpN (Nat.xor a b) : Nat)]) ∧ w' = w
    generalize Nat.xor a b = V at *
    go_enter Tryz.func137, Tryz.ntmps137
    go_wp2_with (first | (go_at_call 117; refine (szp_spec _ _ hV).mono ?_; rintro e w' ⟨rfl, rfl⟩) | go_in)
    go_ret2
    exact ⟨rfl, rfl⟩
  · have hV : Nat.lor a b < 256 := Nat.or_lt_two_pow (n := 8) ha hb
    have r1 : bits .or .i64 (a : Int) (b : Int) = (Nat.lor a b : Nat) := bOr a b (by omega) (by omega)
    show Calls _ _ _ _ fun e w' => e = .returned (.tuple #[.int .i64 (Nat.lor a b : Nat), .int .i64 (szpN (Nat.lor a b) : Nat)]) ∧ w' = w
    generalize Nat.lor a b = V at *
    go_enter Tryz.func137, Tryz.ntmps137
    go_wp2_with (first | (go_at_call 117; refine (szp_spec _ _ hV).mono ?_; rintro e w' ⟨rfl, rfl⟩) | go_in)
    go_ret2
    exact ⟨rfl, rfl⟩
end Go.Proofs.YtgpmpfikeindfaaGreatDoor

/- What the specification's turns answer, as plain functions of natural numbers. -/
namespace Go.Proofs.YtgpmpfikeindfaaGreatDoor
open Go.ChangeShapes Go.WideShapes Go.ChangeAt Go.RowKit
set_option linter.unusedVariables false

theorem orAnd (x y : Nat) (hx : x < 32768) (hy : y < 32768) : bits .and .i64 (bits .or .i64 (x : Int) (y : Int)) 255 = ((Nat.land (Nat.lor x y) 255 : Nat) : Int) := by
  have h1 : Nat.lor x y < 2 ^ 15 := Nat.or_lt_two_pow (by omega) (by omega)
  rw [bOr x y (by omega) (by omega)]
  exact bAnd _ 255 (by omega) (by omega)

def turnO (op a : Nat) : Nat := cond (Nat.beq (Nat.land op 1) 1) (Nat.land a 1) (Nat.div a 128)
def turnV : Nat → Nat → Nat → Nat
  | 0, a, _ => Nat.land (Nat.lor (Nat.mul a 2) (Nat.div a 128)) 255
  | 1, a, _ => Nat.land (Nat.lor (Nat.div a 2) (Nat.mul (Nat.land a 1) 128)) 255
  | 2, a, c => Nat.land (Nat.lor (Nat.mul a 2) c) 255
  | 3, a, c => Nat.land (Nat.lor (Nat.div a 2) (Nat.mul c 128)) 255
  | 4, a, _ => Nat.land (Nat.mul a 2) 255
  | 5, a, _ => Nat.land (Nat.lor (Nat.div a 2) (Nat.land a 128)) 255
  | 6, a, _ => Nat.land (Nat.lor (Nat.mul a 2) 1) 255
  | 7, a, _ => Nat.land (Nat.div a 2) 255
  | _, _, _ => 0
def turnF (op a c : Nat) : Nat := Nat.lor (szpN (turnV op a c)) (turnO op a)
def turnW (op a f : Nat) : Nat := turnV op a (Nat.land f 1)
def turnG (op a f : Nat) : Nat := turnF op a (Nat.land f 1)
theorem turn_spec (op a f : Nat) (w : World) (ho : op < 8) (ha : a < 256) (hf : f < 256) :
    Calls Tryz.prog 111 #[.int .i64 op, .int .i64 a, .int .i64 f] w fun e w' => e = .returned (.tuple #[.int .i64 (turnV op a (Nat.land f 1)), .int .i64 (turnF op a (Nat.land f 1))]) ∧ w' = w := by
  have h3 : op = 0 ∨ op = 1 ∨ op = 2 ∨ op = 3 ∨ op = 4 ∨ op = 5 ∨ op = 6 ∨ op = 7 := by omega
  have rc : bits .and .i64 (f : Int) 1 = (Nat.land f 1 : Nat) := bAnd f 1 (by omega) (by omega)
  have hc : Nat.land f 1 < 2 ^ 1 := Nat.and_lt_two_pow _ (by decide)
  have r0 : bits .and .i64 (a : Int) 1 = (Nat.land a 1 : Nat) := bAnd a 1 (by omega) (by omega)
  have h0 : Nat.land a 1 < 2 ^ 1 := Nat.and_lt_two_pow _ (by decide)
  have r7 : bits .and .i64 (a : Int) 128 = (Nat.land a 128 : Nat) := bAnd a 128 (by omega) (by omega)
  have h7 : Nat.land a 128 < 2 ^ 8 := Nat.and_lt_two_pow _ (by decide)
  have hF : ∀ o, turnF o a (Nat.land f 1) = Nat.lor (szpN (turnV o a (Nat.land f 1))) (turnO o a) := fun _ => rfl
  rcases h3 with rfl | rfl | rfl | rfl | rfl | rfl | rfl | rfl
  · have rV : bits .and .i64 (bits .or .i64 ((a : Int) * 2) ((a : Int) / 128)) 255 = (Nat.land (Nat.lor (Nat.mul a 2) (Nat.div a 128)) 255 : Nat) := orAnd (a * 2) (a / 128) (by omega) (by omega)
    have hV : Nat.land (Nat.lor (Nat.mul a 2) (Nat.div a 128)) 255 < 256 := Nat.and_lt_two_pow (n := 8) _ (by decide)
    have hz := szpN_lt _ hV
    have E : Hid (bits .or .i64 ((szpN (Nat.land (Nat.lor (Nat.mul a 2) (Nat.div a 128)) 255) : Nat) : Int) ((a : Int) / 128) = (Nat.lor (szpN (Nat.land (Nat.lor (Nat.mul a 2) (Nat.div a 128)) 255)) (Nat.div a 128) : Nat)) := bOr (szpN (Nat.land (Nat.lor (Nat.mul a 2) (Nat.div a 128)) 255)) (a / 128) (by omega) (by omega)
    show Calls _ _ _ _ fun e w' => e = .returned (.tuple #[.int .i64 (Nat.land (Nat.lor (Nat.mul a 2) (Nat.div a 128)) 255 : Nat), .int .i64 (Nat.lor (szpN (Nat.land (Nat.lor (Nat.mul a 2) (Nat.div a 128)) 255)) (Nat.div a 128) : Nat)]) ∧ w' = w
    clear hF
    generalize Nat.lor (szpN (Nat.land (Nat.lor (Nat.mul a 2) (Nat.div a 128)) 255)) (Nat.div a 128) = F at *
    generalize Nat.land (Nat.lor (Nat.mul a 2) (Nat.div a 128)) 255 = V at *
    generalize Nat.land a 1 = A0 at *
    generalize Nat.land a 128 = A7 at *
    generalize Nat.land f 1 = C1 at *
    go_enter Tryz.func111, Tryz.ntmps111
    go_wp2_with (first | (go_at_call 117; refine (szp_spec _ _ hV).mono ?_; rintro e w' ⟨rfl, rfl⟩) | go_in)
    go_ret2
    exact ⟨by rw [E.out]; rfl, rfl⟩
  · have rV : bits .and .i64 (bits .or .i64 ((a : Int) / 2) (((Nat.land a 1 : Nat) : Int) * 128)) 255 = (Nat.land (Nat.lor (Nat.div a 2) (Nat.mul (Nat.land a 1) 128)) 255 : Nat) := orAnd (a / 2) (Nat.land a 1 * 128) (by omega) (by omega)
    have hV : Nat.land (Nat.lor (Nat.div a 2) (Nat.mul (Nat.land a 1) 128)) 255 < 256 := Nat.and_lt_two_pow (n := 8) _ (by decide)
    have hz := szpN_lt _ hV
    have E : Hid (bits .or .i64 ((szpN (Nat.land (Nat.lor (Nat.div a 2) (Nat.mul (Nat.land a 1) 128)) 255) : Nat) : Int) ((Nat.land a 1 : Nat) : Int) = (Nat.lor (szpN (Nat.land (Nat.lor (Nat.div a 2) (Nat.mul (Nat.land a 1) 128)) 255)) (Nat.land a 1) : Nat)) := bOr (szpN (Nat.land (Nat.lor (Nat.div a 2) (Nat.mul (Nat.land a 1) 128)) 255)) (Nat.land a 1) (by omega) (by omega)
    show Calls _ _ _ _ fun e w' => e = .returned (.tuple #[.int .i64 (Nat.land (Nat.lor (Nat.div a 2) (Nat.mul (Nat.land a 1) 128)) 255 : Nat), .int .i64 (Nat.lor (szpN (Nat.land (Nat.lor (Nat.div a 2) (Nat.mul (Nat.land a 1) 128)) 255)) (Nat.land a 1) : Nat)]) ∧ w' = w
    clear hF
    generalize Nat.lor (szpN (Nat.land (Nat.lor (Nat.div a 2) (Nat.mul (Nat.land a 1) 128)) 255)) (Nat.land a 1) = F at *
    generalize Nat.land (Nat.lor (Nat.div a 2) (Nat.mul (Nat.land a 1) 128)) 255 = V at *
    generalize Nat.land a 1 = A0 at *
    generalize Nat.land a 128 = A7 at *
    generalize Nat.land f 1 = C1 at *
    go_enter Tryz.func111, Tryz.ntmps111
    go_wp2_with (first | (go_at_call 117; refine (szp_spec _ _ hV).mono ?_; rintro e w' ⟨rfl, rfl⟩) | go_in)
    go_ret2
    exact ⟨by rw [E.out]; rfl, rfl⟩
  · have rV : bits .and .i64 (bits .or .i64 ((a : Int) * 2) (((Nat.land f 1 : Nat) : Int))) 255 = (Nat.land (Nat.lor (Nat.mul a 2) (Nat.land f 1)) 255 : Nat) := orAnd (a * 2) (Nat.land f 1) (by omega) (by omega)
    have hV : Nat.land (Nat.lor (Nat.mul a 2) (Nat.land f 1)) 255 < 256 := Nat.and_lt_two_pow (n := 8) _ (by decide)
    have hz := szpN_lt _ hV
    have E : Hid (bits .or .i64 ((szpN (Nat.land (Nat.lor (Nat.mul a 2) (Nat.land f 1)) 255) : Nat) : Int) ((a : Int) / 128) = (Nat.lor (szpN (Nat.land (Nat.lor (Nat.mul a 2) (Nat.land f 1)) 255)) (Nat.div a 128) : Nat)) := bOr (szpN (Nat.land (Nat.lor (Nat.mul a 2) (Nat.land f 1)) 255)) (a / 128) (by omega) (by omega)
    show Calls _ _ _ _ fun e w' => e = .returned (.tuple #[.int .i64 (Nat.land (Nat.lor (Nat.mul a 2) (Nat.land f 1)) 255 : Nat), .int .i64 (Nat.lor (szpN (Nat.land (Nat.lor (Nat.mul a 2) (Nat.land f 1)) 255)) (Nat.div a 128) : Nat)]) ∧ w' = w
    clear hF
    generalize Nat.lor (szpN (Nat.land (Nat.lor (Nat.mul a 2) (Nat.land f 1)) 255)) (Nat.div a 128) = F at *
    generalize Nat.land (Nat.lor (Nat.mul a 2) (Nat.land f 1)) 255 = V at *
    generalize Nat.land a 1 = A0 at *
    generalize Nat.land a 128 = A7 at *
    generalize Nat.land f 1 = C1 at *
    go_enter Tryz.func111, Tryz.ntmps111
    go_wp2_with (first | (go_at_call 117; refine (szp_spec _ _ hV).mono ?_; rintro e w' ⟨rfl, rfl⟩) | go_in)
    go_ret2
    exact ⟨by rw [E.out]; rfl, rfl⟩
  · have rV : bits .and .i64 (bits .or .i64 ((a : Int) / 2) (((Nat.land f 1 : Nat) : Int) * 128)) 255 = (Nat.land (Nat.lor (Nat.div a 2) (Nat.mul (Nat.land f 1) 128)) 255 : Nat) := orAnd (a / 2) (Nat.land f 1 * 128) (by omega) (by omega)
    have hV : Nat.land (Nat.lor (Nat.div a 2) (Nat.mul (Nat.land f 1) 128)) 255 < 256 := Nat.and_lt_two_pow (n := 8) _ (by decide)
    have hz := szpN_lt _ hV
    have E : Hid (bits .or .i64 ((szpN (Nat.land (Nat.lor (Nat.div a 2) (Nat.mul (Nat.land f 1) 128)) 255) : Nat) : Int) ((Nat.land a 1 : Nat) : Int) = (Nat.lor (szpN (Nat.land (Nat.lor (Nat.div a 2) (Nat.mul (Nat.land f 1) 128)) 255)) (Nat.land a 1) : Nat)) := bOr (szpN (Nat.land (Nat.lor (Nat.div a 2) (Nat.mul (Nat.land f 1) 128)) 255)) (Nat.land a 1) (by omega) (by omega)
    show Calls _ _ _ _ fun e w' => e = .returned (.tuple #[.int .i64 (Nat.land (Nat.lor (Nat.div a 2) (Nat.mul (Nat.land f 1) 128)) 255 : Nat), .int .i64 (Nat.lor (szpN (Nat.land (Nat.lor (Nat.div a 2) (Nat.mul (Nat.land f 1) 128)) 255)) (Nat.land a 1) : Nat)]) ∧ w' = w
    clear hF
    generalize Nat.lor (szpN (Nat.land (Nat.lor (Nat.div a 2) (Nat.mul (Nat.land f 1) 128)) 255)) (Nat.land a 1) = F at *
    generalize Nat.land (Nat.lor (Nat.div a 2) (Nat.mul (Nat.land f 1) 128)) 255 = V at *
    generalize Nat.land a 1 = A0 at *
    generalize Nat.land a 128 = A7 at *
    generalize Nat.land f 1 = C1 at *
    go_enter Tryz.func111, Tryz.ntmps111
    go_wp2_with (first | (go_at_call 117; refine (szp_spec _ _ hV).mono ?_; rintro e w' ⟨rfl, rfl⟩) | go_in)
    go_ret2
    exact ⟨by rw [E.out]; rfl, rfl⟩
  · have rV : bits .and .i64 ((a : Int) * 2) 255 = (Nat.land (Nat.mul a 2) 255 : Nat) := bAnd (a * 2) 255 (by omega) (by omega)
    have hV : Nat.land (Nat.mul a 2) 255 < 256 := Nat.and_lt_two_pow (n := 8) _ (by decide)
    have hz := szpN_lt _ hV
    have E : Hid (bits .or .i64 ((szpN (Nat.land (Nat.mul a 2) 255) : Nat) : Int) ((a : Int) / 128) = (Nat.lor (szpN (Nat.land (Nat.mul a 2) 255)) (Nat.div a 128) : Nat)) := bOr (szpN (Nat.land (Nat.mul a 2) 255)) (a / 128) (by omega) (by omega)
    show Calls _ _ _ _ fun e w' => e = .returned (.tuple #[.int .i64 (Nat.land (Nat.mul a 2) 255 : Nat), .int .i64 (Nat.lor (szpN (Nat.land (Nat.mul a 2) 255)) (Nat.div a 128) : Nat)]) ∧ w' = w
    clear hF
    generalize Nat.lor (szpN (Nat.land (Nat.mul a 2) 255)) (Nat.div a 128) = F at *
    generalize Nat.land (Nat.mul a 2) 255 = V at *
    generalize Nat.land a 1 = A0 at *
    generalize Nat.land a 128 = A7 at *
    generalize Nat.land f 1 = C1 at *
    go_enter Tryz.func111, Tryz.ntmps111
    go_wp2_with (first | (go_at_call 117; refine (szp_spec _ _ hV).mono ?_; rintro e w' ⟨rfl, rfl⟩) | go_in)
    go_ret2
    exact ⟨by rw [E.out]; rfl, rfl⟩
  · have rV : bits .and .i64 (bits .or .i64 ((a : Int) / 2) (((Nat.land a 128 : Nat) : Int))) 255 = (Nat.land (Nat.lor (Nat.div a 2) (Nat.land a 128)) 255 : Nat) := orAnd (a / 2) (Nat.land a 128) (by omega) (by omega)
    have hV : Nat.land (Nat.lor (Nat.div a 2) (Nat.land a 128)) 255 < 256 := Nat.and_lt_two_pow (n := 8) _ (by decide)
    have hz := szpN_lt _ hV
    have E : Hid (bits .or .i64 ((szpN (Nat.land (Nat.lor (Nat.div a 2) (Nat.land a 128)) 255) : Nat) : Int) ((Nat.land a 1 : Nat) : Int) = (Nat.lor (szpN (Nat.land (Nat.lor (Nat.div a 2) (Nat.land a 128)) 255)) (Nat.land a 1) : Nat)) := bOr (szpN (Nat.land (Nat.lor (Nat.div a 2) (Nat.land a 128)) 255)) (Nat.land a 1) (by omega) (by omega)
    show Calls _ _ _ _ fun e w' => e = .returned (.tuple #[.int .i64 (Nat.land (Nat.lor (Nat.div a 2) (Nat.land a 128)) 255 : Nat), .int .i64 (Nat.lor (szpN (Nat.land (Nat.lor (Nat.div a 2) (Nat.land a 128)) 255)) (Nat.land a 1) : Nat)]) ∧ w' = w
    clear hF
    generalize Nat.lor (szpN (Nat.land (Nat.lor (Nat.div a 2) (Nat.land a 128)) 255)) (Nat.land a 1) = F at *
    generalize Nat.land (Nat.lor (Nat.div a 2) (Nat.land a 128)) 255 = V at *
    generalize Nat.land a 1 = A0 at *
    generalize Nat.land a 128 = A7 at *
    generalize Nat.land f 1 = C1 at *
    go_enter Tryz.func111, Tryz.ntmps111
    go_wp2_with (first | (go_at_call 117; refine (szp_spec _ _ hV).mono ?_; rintro e w' ⟨rfl, rfl⟩) | go_in)
    go_ret2
    exact ⟨by rw [E.out]; rfl, rfl⟩
  · have rV : bits .and .i64 (bits .or .i64 ((a : Int) * 2) (1)) 255 = (Nat.land (Nat.lor (Nat.mul a 2) 1) 255 : Nat) := orAnd (a * 2) (1) (by omega) (by omega)
    have hV : Nat.land (Nat.lor (Nat.mul a 2) 1) 255 < 256 := Nat.and_lt_two_pow (n := 8) _ (by decide)
    have hz := szpN_lt _ hV
    have E : Hid (bits .or .i64 ((szpN (Nat.land (Nat.lor (Nat.mul a 2) 1) 255) : Nat) : Int) ((a : Int) / 128) = (Nat.lor (szpN (Nat.land (Nat.lor (Nat.mul a 2) 1) 255)) (Nat.div a 128) : Nat)) := bOr (szpN (Nat.land (Nat.lor (Nat.mul a 2) 1) 255)) (a / 128) (by omega) (by omega)
    show Calls _ _ _ _ fun e w' => e = .returned (.tuple #[.int .i64 (Nat.land (Nat.lor (Nat.mul a 2) 1) 255 : Nat), .int .i64 (Nat.lor (szpN (Nat.land (Nat.lor (Nat.mul a 2) 1) 255)) (Nat.div a 128) : Nat)]) ∧ w' = w
    clear hF
    generalize Nat.lor (szpN (Nat.land (Nat.lor (Nat.mul a 2) 1) 255)) (Nat.div a 128) = F at *
    generalize Nat.land (Nat.lor (Nat.mul a 2) 1) 255 = V at *
    generalize Nat.land a 1 = A0 at *
    generalize Nat.land a 128 = A7 at *
    generalize Nat.land f 1 = C1 at *
    go_enter Tryz.func111, Tryz.ntmps111
    go_wp2_with (first | (go_at_call 117; refine (szp_spec _ _ hV).mono ?_; rintro e w' ⟨rfl, rfl⟩) | go_in)
    go_ret2
    exact ⟨by rw [E.out]; rfl, rfl⟩
  · have rV : bits .and .i64 ((a : Int) / 2) 255 = (Nat.land (Nat.div a 2) 255 : Nat) := bAnd (a / 2) 255 (by omega) (by omega)
    have hV : Nat.land (Nat.div a 2) 255 < 256 := Nat.and_lt_two_pow (n := 8) _ (by decide)
    have hz := szpN_lt _ hV
    have E : Hid (bits .or .i64 ((szpN (Nat.land (Nat.div a 2) 255) : Nat) : Int) ((Nat.land a 1 : Nat) : Int) = (Nat.lor (szpN (Nat.land (Nat.div a 2) 255)) (Nat.land a 1) : Nat)) := bOr (szpN (Nat.land (Nat.div a 2) 255)) (Nat.land a 1) (by omega) (by omega)
    show Calls _ _ _ _ fun e w' => e = .returned (.tuple #[.int .i64 (Nat.land (Nat.div a 2) 255 : Nat), .int .i64 (Nat.lor (szpN (Nat.land (Nat.div a 2) 255)) (Nat.land a 1) : Nat)]) ∧ w' = w
    clear hF
    generalize Nat.lor (szpN (Nat.land (Nat.div a 2) 255)) (Nat.land a 1) = F at *
    generalize Nat.land (Nat.div a 2) 255 = V at *
    generalize Nat.land a 1 = A0 at *
    generalize Nat.land a 128 = A7 at *
    generalize Nat.land f 1 = C1 at *
    go_enter Tryz.func111, Tryz.ntmps111
    go_wp2_with (first | (go_at_call 117; refine (szp_spec _ _ hV).mono ?_; rintro e w' ⟨rfl, rfl⟩) | go_in)
    go_ret2
    exact ⟨by rw [E.out]; rfl, rfl⟩
theorem turnw_spec (op a f : Nat) (w : World) (ho : op < 8) (ha : a < 256) (hf : f < 256) :
    Calls Tryz.prog 111 #[.int .i64 op, .int .i64 a, .int .i64 f] w fun e w' => e = .returned (.tuple #[.int .i64 (turnW op a f), .int .i64 (turnG op a f)]) ∧ w' = w := turn_spec op a f w ho ha hf
end Go.Proofs.YtgpmpfikeindfaaGreatDoor
