/- What the specification's steps and logic answer, and its sum, difference, steps and logic as they are asked. -/
import Derived.Test.YtffogcielohoeaaDoorAd
namespace Go.Proofs.YtffogcielohoeaaDoor
open Go.ChangeShapes Go.WideShapes Go.ChangeAt Go.RowKit
set_option linter.unusedVariables false

def incV (a : Nat) : Nat := Nat.land (Nat.add a 1) 255
def incF (a f : Nat) : Nat := Nat.lor (Nat.lor (Nat.lor (Nat.land f 1) (szN (incV a))) (Nat.mul 16 (btN (Nat.beq (Nat.land a 15) 15)))) (Nat.mul 4 (btN (Nat.beq a 127)))
theorem incV_lt (a : Nat) : incV a < 256 := Nat.and_lt_two_pow (n := 8) _ (by decide)
theorem incV_int (a : Nat) (ha : a < 256) : bits .and .i64 ((a : Int) + 1) 255 = (incV a : Nat) := by
  have h : incV a = (a + 1) % 2 ^ 8 := Nat.and_two_pow_sub_one_eq_mod (a + 1) 8
  rw [i64_and255, h]
  omega
set_option maxHeartbeats 1000000 in
theorem inc_spec (a f : Nat) (w : World) (ha : a < 256) (hf : f < 256) :
    Calls Tryd.prog 48 #[.int .i64 a, .int .i64 f] w fun e w' => e = .returned (.tuple #[.int .i64 (incV a), .int .i64 (incF a f)]) ∧ w' = w := by
  have hV := incV_lt a
  have hA : Nat.land a 15 < 2 ^ 4 := Nat.and_lt_two_pow _ (by decide)
  have hC : Nat.land f 1 < 2 ^ 1 := Nat.and_lt_two_pow _ (by decide)
  have r1 := incV_int a ha
  have r2 : bits .and .i64 (a : Int) 15 = (Nat.land a 15 : Nat) := bAnd a 15 (by omega) (by omega)
  have r3 : bits .and .i64 (f : Int) 1 = (Nat.land f 1 : Nat) := bAnd f 1 (by omega) (by omega)
  have hF : incF a f = Nat.lor (Nat.lor (Nat.lor (Nat.land f 1) (szN (incV a))) (Nat.mul 16 (btN (Nat.beq (Nat.land a 15) 15)))) (Nat.mul 4 (btN (Nat.beq a 127))) := rfl
  generalize incF a f = F at hF ⊢
  generalize incV a = V at *
  generalize Nat.land a 15 = A1 at *
  generalize Nat.land f 1 = C1 at *
  have hz := szN_lt V hV
  have HF : Hid (F = _) := hF
  clear hF
  by_cases k1 : A1 = 15
  · have b1 : Nat.beq A1 15 = true := by rw [k1]; rfl
    have k1' : ((A1 : Int) == 15) = true := by simp; omega
    clear k1
    by_cases k2 : a = 127
    · have b2 : Nat.beq a 127 = true := by rw [k2]; rfl
      have k2' : ((a : Int) == 127) = true := by simp; omega
      clear k2
      have E : Hid (bits .or .i64 (bits .or .i64 (bits .or .i64 ((C1 : Nat) : Int) ((szN V : Nat) : Int)) 16) 4 = (F : Int)) := by
        unfold Hid
        rw [HF.out, b1, b2]
        exact or4 C1 (szN V) 16 4 (by omega) hz (by omega) (by omega)
      clear b1 b2 HF
      go_enter Tryd.func48, Tryd.ntmps48
      go_wp2_with (first | (go_at_call 58; refine (sz_spec _ _ hV).mono ?_; rintro e w' ⟨rfl, rfl⟩) | go_in)
      go_ret2
      exact ⟨by rw [E.out]; rfl, rfl⟩
    · have b2 : Nat.beq a 127 = false := by rw [Bool.eq_false_iff]; intro h; exact k2 (Nat.eq_of_beq_eq_true h)
      have k2' : ((a : Int) == 127) = false := by simp; omega
      clear k2
      have E : Hid (bits .or .i64 (bits .or .i64 (bits .or .i64 ((C1 : Nat) : Int) ((szN V : Nat) : Int)) 16) 0 = (F : Int)) := by
        unfold Hid
        rw [HF.out, b1, b2]
        exact or4 C1 (szN V) 16 0 (by omega) hz (by omega) (by omega)
      clear b1 b2 HF
      go_enter Tryd.func48, Tryd.ntmps48
      go_wp2_with (first | (go_at_call 58; refine (sz_spec _ _ hV).mono ?_; rintro e w' ⟨rfl, rfl⟩) | go_in)
      go_ret2
      exact ⟨by rw [E.out]; rfl, rfl⟩
  · have b1 : Nat.beq A1 15 = false := by rw [Bool.eq_false_iff]; intro h; exact k1 (Nat.eq_of_beq_eq_true h)
    have k1' : ((A1 : Int) == 15) = false := by simp; omega
    clear k1
    by_cases k2 : a = 127
    · have b2 : Nat.beq a 127 = true := by rw [k2]; rfl
      have k2' : ((a : Int) == 127) = true := by simp; omega
      clear k2
      have E : Hid (bits .or .i64 (bits .or .i64 (bits .or .i64 ((C1 : Nat) : Int) ((szN V : Nat) : Int)) 0) 4 = (F : Int)) := by
        unfold Hid
        rw [HF.out, b1, b2]
        exact or4 C1 (szN V) 0 4 (by omega) hz (by omega) (by omega)
      clear b1 b2 HF
      go_enter Tryd.func48, Tryd.ntmps48
      go_wp2_with (first | (go_at_call 58; refine (sz_spec _ _ hV).mono ?_; rintro e w' ⟨rfl, rfl⟩) | go_in)
      go_ret2
      exact ⟨by rw [E.out]; rfl, rfl⟩
    · have b2 : Nat.beq a 127 = false := by rw [Bool.eq_false_iff]; intro h; exact k2 (Nat.eq_of_beq_eq_true h)
      have k2' : ((a : Int) == 127) = false := by simp; omega
      clear k2
      have E : Hid (bits .or .i64 (bits .or .i64 (bits .or .i64 ((C1 : Nat) : Int) ((szN V : Nat) : Int)) 0) 0 = (F : Int)) := by
        unfold Hid
        rw [HF.out, b1, b2]
        exact or4 C1 (szN V) 0 0 (by omega) hz (by omega) (by omega)
      clear b1 b2 HF
      go_enter Tryd.func48, Tryd.ntmps48
      go_wp2_with (first | (go_at_call 58; refine (sz_spec _ _ hV).mono ?_; rintro e w' ⟨rfl, rfl⟩) | go_in)
      go_ret2
      exact ⟨by rw [E.out]; rfl, rfl⟩

def decV (a : Nat) : Nat := Nat.land (Nat.add a 255) 255
def decF (a f : Nat) : Nat := Nat.lor (Nat.lor (Nat.lor (Nat.lor (Nat.land f 1) (szN (decV a))) 2) (Nat.mul 16 (btN (Nat.beq (Nat.land a 15) 0)))) (Nat.mul 4 (btN (Nat.beq a 128)))
theorem decV_lt (a : Nat) : decV a < 256 := Nat.and_lt_two_pow (n := 8) _ (by decide)
theorem decV_int (a : Nat) (ha : a < 256) : bits .and .i64 ((a : Int) - 1) 255 = (decV a : Nat) := by
  have h : decV a = (a + 255) % 2 ^ 8 := Nat.and_two_pow_sub_one_eq_mod (a + 255) 8
  rw [i64_and255, h]
  omega
set_option maxHeartbeats 1000000 in
theorem dec_spec (a f : Nat) (w : World) (ha : a < 256) (hf : f < 256) :
    Calls Tryd.prog 49 #[.int .i64 a, .int .i64 f] w fun e w' => e = .returned (.tuple #[.int .i64 (decV a), .int .i64 (decF a f)]) ∧ w' = w := by
  have hV := decV_lt a
  have hA : Nat.land a 15 < 2 ^ 4 := Nat.and_lt_two_pow _ (by decide)
  have hC : Nat.land f 1 < 2 ^ 1 := Nat.and_lt_two_pow _ (by decide)
  have r1 := decV_int a ha
  have r2 : bits .and .i64 (a : Int) 15 = (Nat.land a 15 : Nat) := bAnd a 15 (by omega) (by omega)
  have r3 : bits .and .i64 (f : Int) 1 = (Nat.land f 1 : Nat) := bAnd f 1 (by omega) (by omega)
  have hF : decF a f = Nat.lor (Nat.lor (Nat.lor (Nat.lor (Nat.land f 1) (szN (decV a))) 2) (Nat.mul 16 (btN (Nat.beq (Nat.land a 15) 0)))) (Nat.mul 4 (btN (Nat.beq a 128))) := rfl
  generalize decF a f = F at hF ⊢
  generalize decV a = V at *
  generalize Nat.land a 15 = A1 at *
  generalize Nat.land f 1 = C1 at *
  have hz := szN_lt V hV
  have HF : Hid (F = _) := hF
  clear hF
  by_cases k1 : A1 = 0
  · have b1 : Nat.beq A1 0 = true := by rw [k1]; rfl
    have k1' : ((A1 : Int) == 0) = true := by simp; omega
    clear k1
    by_cases k2 : a = 128
    · have b2 : Nat.beq a 128 = true := by rw [k2]; rfl
      have k2' : ((a : Int) == 128) = true := by simp; omega
      clear k2
      have E : Hid (bits .or .i64 (bits .or .i64 (bits .or .i64 (bits .or .i64 ((C1 : Nat) : Int) ((szN V : Nat) : Int)) 2) 16) 4 = (F : Int)) := by
        unfold Hid
        rw [HF.out, b1, b2]
        exact or5 C1 (szN V) 2 16 4 (by omega) hz (by omega) (by omega) (by omega)
      clear b1 b2 HF
      go_enter Tryd.func49, Tryd.ntmps49
      go_wp2_with (first | (go_at_call 58; refine (sz_spec _ _ hV).mono ?_; rintro e w' ⟨rfl, rfl⟩) | go_in)
      go_ret2
      exact ⟨by rw [E.out]; rfl, rfl⟩
    · have b2 : Nat.beq a 128 = false := by rw [Bool.eq_false_iff]; intro h; exact k2 (Nat.eq_of_beq_eq_true h)
      have k2' : ((a : Int) == 128) = false := by simp; omega
      clear k2
      have E : Hid (bits .or .i64 (bits .or .i64 (bits .or .i64 (bits .or .i64 ((C1 : Nat) : Int) ((szN V : Nat) : Int)) 2) 16) 0 = (F : Int)) := by
        unfold Hid
        rw [HF.out, b1, b2]
        exact or5 C1 (szN V) 2 16 0 (by omega) hz (by omega) (by omega) (by omega)
      clear b1 b2 HF
      go_enter Tryd.func49, Tryd.ntmps49
      go_wp2_with (first | (go_at_call 58; refine (sz_spec _ _ hV).mono ?_; rintro e w' ⟨rfl, rfl⟩) | go_in)
      go_ret2
      exact ⟨by rw [E.out]; rfl, rfl⟩
  · have b1 : Nat.beq A1 0 = false := by rw [Bool.eq_false_iff]; intro h; exact k1 (Nat.eq_of_beq_eq_true h)
    have k1' : ((A1 : Int) == 0) = false := by simp; omega
    clear k1
    by_cases k2 : a = 128
    · have b2 : Nat.beq a 128 = true := by rw [k2]; rfl
      have k2' : ((a : Int) == 128) = true := by simp; omega
      clear k2
      have E : Hid (bits .or .i64 (bits .or .i64 (bits .or .i64 (bits .or .i64 ((C1 : Nat) : Int) ((szN V : Nat) : Int)) 2) 0) 4 = (F : Int)) := by
        unfold Hid
        rw [HF.out, b1, b2]
        exact or5 C1 (szN V) 2 0 4 (by omega) hz (by omega) (by omega) (by omega)
      clear b1 b2 HF
      go_enter Tryd.func49, Tryd.ntmps49
      go_wp2_with (first | (go_at_call 58; refine (sz_spec _ _ hV).mono ?_; rintro e w' ⟨rfl, rfl⟩) | go_in)
      go_ret2
      exact ⟨by rw [E.out]; rfl, rfl⟩
    · have b2 : Nat.beq a 128 = false := by rw [Bool.eq_false_iff]; intro h; exact k2 (Nat.eq_of_beq_eq_true h)
      have k2' : ((a : Int) == 128) = false := by simp; omega
      clear k2
      have E : Hid (bits .or .i64 (bits .or .i64 (bits .or .i64 (bits .or .i64 ((C1 : Nat) : Int) ((szN V : Nat) : Int)) 2) 0) 0 = (F : Int)) := by
        unfold Hid
        rw [HF.out, b1, b2]
        exact or5 C1 (szN V) 2 0 0 (by omega) hz (by omega) (by omega) (by omega)
      clear b1 b2 HF
      go_enter Tryd.func49, Tryd.ntmps49
      go_wp2_with (first | (go_at_call 58; refine (sz_spec _ _ hV).mono ?_; rintro e w' ⟨rfl, rfl⟩) | go_in)
      go_ret2
      exact ⟨by rw [E.out]; rfl, rfl⟩

def logV (op a b : Nat) : Nat := cond (Nat.beq op 0) (Nat.land a b) (cond (Nat.beq op 1) (Nat.xor a b) (Nat.lor a b))
def logF (op a b : Nat) : Nat := cond (Nat.beq op 0) (Nat.lor (szpN (Nat.land a b)) 16) (szpN (logV op a b))
end Go.Proofs.YtffogcielohoeaaDoor
