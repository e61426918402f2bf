/- What the specification's sum and difference answer, as plain functions of natural numbers. -/
import Derived.Test.YtgpmpfikeindfaaGreatDoorV04
namespace Go.Proofs.YtgpmpfikeindfaaGreatDoor
open Go.ChangeShapes Go.WideShapes Go.ChangeAt Go.RowKit
set_option linter.unusedVariables false

theorem or4 (s c h p : Nat) (hs : s < 256) (hc : c < 256) (hh : h < 256) (hp : p < 256) :
    bits .or .i64 (bits .or .i64 (bits .or .i64 (s : Int) (c : Int)) (h : Int)) (p : Int) = ((Nat.lor (Nat.lor (Nat.lor s c) h) p : Nat) : Int) := by
  have h1 : Nat.lor s c < 2 ^ 8 := Nat.or_lt_two_pow hs hc
  have h2 : Nat.lor (Nat.lor s c) h < 2 ^ 8 := Nat.or_lt_two_pow h1 hh
  rw [bOr s c (by omega) (by omega), bOr _ h (by omega) (by omega), bOr _ p (by omega) (by omega)]

/-- the sum's byte and its flags -/
def addV (a b c : Nat) : Nat := Nat.land (Nat.add (Nat.add a b) c) 255
def addF (a b c : Nat) : Nat :=
  Nat.lor (Nat.lor (Nat.lor (szN (addV a b c)) (btN (Nat.ble 256 (Nat.add (Nat.add a b) c)))) (Nat.mul 16 (btN (Nat.ble 16 (Nat.add (Nat.add (Nat.land a 15) (Nat.land b 15)) c)))))
    (Nat.mul 4 (btN (and (Nat.beq (Nat.land (Nat.xor a b) 128) 0) (not (Nat.beq (Nat.land (Nat.xor a (addV a b c)) 128) 0)))))
theorem addV_lt (a b c : Nat) : addV a b c < 256 := Nat.and_lt_two_pow (n := 8) _ (by decide)

theorem add_spec (a b c : Nat) (w : World) (ha : a < 256) (hb : b < 256) (hc : c < 2) :
    Calls Tryz.prog 135 #[.int .i64 a, .int .i64 b, .int .i64 c] w fun e w' => e = .returned (.tuple #[.int .i64 (addV a b c), .int .i64 (addF a b c)]) ∧ w' = w := by
  have hV := addV_lt a b c
  have hA : Nat.land a 15 < 2 ^ 4 := Nat.and_lt_two_pow _ (by decide)
  have hB : Nat.land b 15 < 2 ^ 4 := Nat.and_lt_two_pow _ (by decide)
  have hX : Nat.xor a b < 2 ^ 8 := Nat.xor_lt_two_pow ha hb
  have hY : Nat.xor a (addV a b c) < 2 ^ 8 := Nat.xor_lt_two_pow ha hV
  have r1 : bits .and .i64 ((a : Int) + b + c) 255 = (addV a b c : Nat) := bAnd (a + b + c) 255 (by omega) (by omega)
  have r2 : bits .and .i64 (a : Int) 15 = (Nat.land a 15 : Nat) := bAnd a 15 (by omega) (by omega)
  have r3 : bits .and .i64 (b : Int) 15 = (Nat.land b 15 : Nat) := bAnd b 15 (by omega) (by omega)
  have r4 : bits .xor .i64 (a : Int) (b : Int) = (Nat.xor a b : Nat) := bXor a b (by omega) (by omega)
  have r5 : bits .and .i64 ((Nat.xor a b : Nat) : Int) 128 = (Nat.land (Nat.xor a b) 128 : Nat) := bAnd (Nat.xor a b) 128 (by omega) (by omega)
  have r6 : bits .xor .i64 (a : Int) ((addV a b c : Nat) : Int) = (Nat.xor a (addV a b c) : Nat) := bXor a (addV a b c) (by omega) (by omega)
  have r7 : bits .and .i64 ((Nat.xor a (addV a b c) : Nat) : Int) 128 = (Nat.land (Nat.xor a (addV a b c)) 128 : Nat) := bAnd (Nat.xor a (addV a b c)) 128 (by omega) (by omega)
  have hF : addF a b c = Nat.lor (Nat.lor (Nat.lor (szN (addV a b c)) (btN (Nat.ble 256 (a + b + c)))) (Nat.mul 16 (btN (Nat.ble 16 (Nat.land a 15 + Nat.land b 15 + c)))))
    (Nat.mul 4 (btN (and (Nat.beq (Nat.land (Nat.xor a b) 128) 0) (not (Nat.beq (Nat.land (Nat.xor a (addV a b c)) 128) 0))))) := rfl
  generalize addF a b c = F at hF ⊢
  generalize addV a b c = V at *
  generalize Nat.land a 15 = A1 at *
  generalize Nat.land b 15 = B1 at *
  generalize Nat.land (Nat.xor a V) 128 = Y7 at *
  generalize Nat.xor a V = Y at *
  generalize Nat.land (Nat.xor a b) 128 = X7 at *
  generalize Nat.xor a b = X at *
  have hz := szN_lt V hV
  have HF := hF
  replace HF : Hid (F = _) := hF
  clear hF
  by_cases k1 : 255 < (a : Int) + b + c
  · have b1 : Nat.ble 256 (a + b + c) = true := Nat.ble_eq_true_of_le (by omega)
    by_cases k2 : 15 < (A1 : Int) + B1 + c
    · have b2 : Nat.ble 16 (A1 + B1 + c) = true := Nat.ble_eq_true_of_le (by omega)
      by_cases k3 : X7 = 0
      · have b3 : Nat.beq X7 0 = true := by rw [k3]; rfl
        have k3' : ((X7 : Int) == 0) = true := by simp; omega
        by_cases k4 : Y7 = 0
        · have b4 : Nat.beq Y7 0 = true := by rw [k4]; rfl
          have k4' : ((Y7 : Int) != 0) = false := by simp; omega
          have E : Hid (bits .or .i64 (bits .or .i64 (bits .or .i64 ((szN V : Nat) : Int) 1) 16) 0 = (F : Int)) := by
            unfold Hid
            rw [HF.out, b1, b2, b3, b4]
            exact or4 (szN V) 1 16 0 hz (by omega) (by omega) (by omega)
          clear b1 b2 b3 b4 HF
          go_enter Tryz.func135, Tryz.ntmps135
          go_wp2_with (first | (go_at_call 138; refine (sz_spec _ _ hV).mono ?_; rintro e w' ⟨rfl, rfl⟩) | go_in)
          go_ret2
          exact ⟨by rw [E.out]; rfl, rfl⟩
        · have b4 : Nat.beq Y7 0 = false := by cases Y7 with | zero => omega | succ n => rfl
          have k4' : ((Y7 : Int) != 0) = true := by simp; omega
          have E : Hid (bits .or .i64 (bits .or .i64 (bits .or .i64 ((szN V : Nat) : Int) 1) 16) 4 = (F : Int)) := by
            unfold Hid
            rw [HF.out, b1, b2, b3, b4]
            exact or4 (szN V) 1 16 4 hz (by omega) (by omega) (by omega)
          clear b1 b2 b3 b4 HF
          go_enter Tryz.func135, Tryz.ntmps135
          go_wp2_with (first | (go_at_call 138; refine (sz_spec _ _ hV).mono ?_; rintro e w' ⟨rfl, rfl⟩) | go_in)
          go_ret2
          exact ⟨by rw [E.out]; rfl, rfl⟩
      · have b3 : Nat.beq X7 0 = false := by cases X7 with | zero => omega | succ n => rfl
        have k3' : ((X7 : Int) == 0) = false := by simp; omega
        have E : Hid (bits .or .i64 (bits .or .i64 (bits .or .i64 ((szN V : Nat) : Int) 1) 16) 0 = (F : Int)) := by
          unfold Hid
          rw [HF.out, b1, b2, b3]
          exact or4 (szN V) 1 16 0 hz (by omega) (by omega) (by omega)
        clear b1 b2 b3 HF
        go_enter Tryz.func135, Tryz.ntmps135
        go_wp2_with (first | (go_at_call 138; refine (sz_spec _ _ hV).mono ?_; rintro e w' ⟨rfl, rfl⟩) | go_in)
        go_ret2
        exact ⟨by rw [E.out]; rfl, rfl⟩
    · have b2 : Nat.ble 16 (A1 + B1 + c) = false := by rw [Bool.eq_false_iff]; intro h; have := Nat.le_of_ble_eq_true h; omega
      by_cases k3 : X7 = 0
      · have b3 : Nat.beq X7 0 = true := by rw [k3]; rfl
        have k3' : ((X7 : Int) == 0) = true := by simp; omega
        by_cases k4 : Y7 = 0
        · have b4 : Nat.beq Y7 0 = true := by rw [k4]; rfl
          have k4' : ((Y7 : Int) != 0) = false := by simp; omega
          have E : Hid (bits .or .i64 (bits .or .i64 (bits .or .i64 ((szN V : Nat) : Int) 1) 0) 0 = (F : Int)) := by
            unfold Hid
            rw [HF.out, b1, b2, b3, b4]
            exact or4 (szN V) 1 0 0 hz (by omega) (by omega) (by omega)
          clear b1 b2 b3 b4 HF
          go_enter Tryz.func135, Tryz.ntmps135
          go_wp2_with (first | (go_at_call 138; refine (sz_spec _ _ hV).mono ?_; rintro e w' ⟨rfl, rfl⟩) | go_in)
          go_ret2
          exact ⟨by rw [E.out]; rfl, rfl⟩
        · have b4 : Nat.beq Y7 0 = false := by cases Y7 with | zero => omega | succ n => rfl
          have k4' : ((Y7 : Int) != 0) = true := by simp; omega
          have E : Hid (bits .or .i64 (bits .or .i64 (bits .or .i64 ((szN V : Nat) : Int) 1) 0) 4 = (F : Int)) := by
            unfold Hid
            rw [HF.out, b1, b2, b3, b4]
            exact or4 (szN V) 1 0 4 hz (by omega) (by omega) (by omega)
          clear b1 b2 b3 b4 HF
          go_enter Tryz.func135, Tryz.ntmps135
          go_wp2_with (first | (go_at_call 138; refine (sz_spec _ _ hV).mono ?_; rintro e w' ⟨rfl, rfl⟩) | go_in)
          go_ret2
          exact ⟨by rw [E.out]; rfl, rfl⟩
      · have b3 : Nat.beq X7 0 = false := by cases X7 with | zero => omega | succ n => rfl
        have k3' : ((X7 : Int) == 0) = false := by simp; omega
        have E : Hid (bits .or .i64 (bits .or .i64 (bits .or .i64 ((szN V : Nat) : Int) 1) 0) 0 = (F : Int)) := by
          unfold Hid
          rw [HF.out, b1, b2, b3]
          exact or4 (szN V) 1 0 0 hz (by omega) (by omega) (by omega)
        clear b1 b2 b3 HF
        go_enter Tryz.func135, Tryz.ntmps135
        go_wp2_with (first | (go_at_call 138; refine (sz_spec _ _ hV).mono ?_; rintro e w' ⟨rfl, rfl⟩) | go_in)
        go_ret2
        exact ⟨by rw [E.out]; rfl, rfl⟩
  · have b1 : Nat.ble 256 (a + b + c) = false := by rw [Bool.eq_false_iff]; intro h; have := Nat.le_of_ble_eq_true h; omega
    by_cases k2 : 15 < (A1 : Int) + B1 + c
    · have b2 : Nat.ble 16 (A1 + B1 + c) = true := Nat.ble_eq_true_of_le (by omega)
      by_cases k3 : X7 = 0
      · have b3 : Nat.beq X7 0 = true := by rw [k3]; rfl
        have k3' : ((X7 : Int) == 0) = true := by simp; omega
        by_cases k4 : Y7 = 0
        · have b4 : Nat.beq Y7 0 = true := by rw [k4]; rfl
          have k4' : ((Y7 : Int) != 0) = false := by simp; omega
          have E : Hid (bits .or .i64 (bits .or .i64 (bits .or .i64 ((szN V : Nat) : Int) 0) 16) 0 = (F : Int)) := by
            unfold Hid
            rw [HF.out, b1, b2, b3, b4]
            exact or4 (szN V) 0 16 0 hz (by omega) (by omega) (by omega)
          clear b1 b2 b3 b4 HF
          go_enter Tryz.func135, Tryz.ntmps135
          go_wp2_with (first | (go_at_call 138; refine (sz_spec _ _ hV).mono ?_; rintro e w' ⟨rfl, rfl⟩) | go_in)
          go_ret2
          exact ⟨by rw [E.out]; rfl, rfl⟩
        · have b4 : Nat.beq Y7 0 = false := by cases Y7 with | zero => omega | succ n => rfl
          have k4' : ((Y7 : Int) != 0) = true := by simp; omega
          have E : Hid (bits .or .i64 (bits .or .i64 (bits .or .i64 ((szN V : Nat) : Int) 0) 16) 4 = (F : Int)) := by
            unfold Hid
            rw [HF.out, b1, b2, b3, b4]
            exact or4 (szN V) 0 16 4 hz (by omega) (by omega) (by omega)
          clear b1 b2 b3 b4 HF
          go_enter Tryz.func135, Tryz.ntmps135
          go_wp2_with (first | (go_at_call 138; refine (sz_spec _ _ hV).mono ?_; rintro e w' ⟨rfl, rfl⟩) | go_in)
          go_ret2
          exact ⟨by rw [E.out]; rfl, rfl⟩
      · have b3 : Nat.beq X7 0 = false := by cases X7 with | zero => omega | succ n => rfl
        have k3' : ((X7 : Int) == 0) = false := by simp; omega
        have E : Hid (bits .or .i64 (bits .or .i64 (bits .or .i64 ((szN V : Nat) : Int) 0) 16) 0 = (F : Int)) := by
          unfold Hid
          rw [HF.out, b1, b2, b3]
          exact or4 (szN V) 0 16 0 hz (by omega) (by omega) (by omega)
        clear b1 b2 b3 HF
        go_enter Tryz.func135, Tryz.ntmps135
        go_wp2_with (first | (go_at_call 138; refine (sz_spec _ _ hV).mono ?_; rintro e w' ⟨rfl, rfl⟩) | go_in)
        go_ret2
        exact ⟨by rw [E.out]; rfl, rfl⟩
    · have b2 : Nat.ble 16 (A1 + B1 + c) = false := by rw [Bool.eq_false_iff]; intro h; have := Nat.le_of_ble_eq_true h; omega
      by_cases k3 : X7 = 0
      · have b3 : Nat.beq X7 0 = true := by rw [k3]; rfl
        have k3' : ((X7 : Int) == 0) = true := by simp; omega
        by_cases k4 : Y7 = 0
        · have b4 : Nat.beq Y7 0 = true := by rw [k4]; rfl
          have k4' : ((Y7 : Int) != 0) = false := by simp; omega
          have E : Hid (bits .or .i64 (bits .or .i64 (bits .or .i64 ((szN V : Nat) : Int) 0) 0) 0 = (F : Int)) := by
            unfold Hid
            rw [HF.out, b1, b2, b3, b4]
            exact or4 (szN V) 0 0 0 hz (by omega) (by omega) (by omega)
          clear b1 b2 b3 b4 HF
          go_enter Tryz.func135, Tryz.ntmps135
          go_wp2_with (first | (go_at_call 138; refine (sz_spec _ _ hV).mono ?_; rintro e w' ⟨rfl, rfl⟩) | go_in)
          go_ret2
          exact ⟨by rw [E.out]; rfl, rfl⟩
        · have b4 : Nat.beq Y7 0 = false := by cases Y7 with | zero => omega | succ n => rfl
          have k4' : ((Y7 : Int) != 0) = true := by simp; omega
          have E : Hid (bits .or .i64 (bits .or .i64 (bits .or .i64 ((szN V : Nat) : Int) 0) 0) 4 = (F : Int)) := by
            unfold Hid
            rw [HF.out, b1, b2, b3, b4]
            exact or4 (szN V) 0 0 4 hz (by omega) (by omega) (by omega)
          clear b1 b2 b3 b4 HF
          go_enter Tryz.func135, Tryz.ntmps135
          go_wp2_with (first | (go_at_call 138; refine (sz_spec _ _ hV).mono ?_; rintro e w' ⟨rfl, rfl⟩) | go_in)
          go_ret2
          exact ⟨by rw [E.out]; rfl, rfl⟩
      · have b3 : Nat.beq X7 0 = false := by cases X7 with | zero => omega | succ n => rfl
        have k3' : ((X7 : Int) == 0) = false := by simp; omega
        have E : Hid (bits .or .i64 (bits .or .i64 (bits .or .i64 ((szN V : Nat) : Int) 0) 0) 0 = (F : Int)) := by
          unfold Hid
          rw [HF.out, b1, b2, b3]
          exact or4 (szN V) 0 0 0 hz (by omega) (by omega) (by omega)
        clear b1 b2 b3 HF
        go_enter Tryz.func135, Tryz.ntmps135
        go_wp2_with (first | (go_at_call 138; refine (sz_spec _ _ hV).mono ?_; rintro e w' ⟨rfl, rfl⟩) | go_in)
        go_ret2
        exact ⟨by rw [E.out]; rfl, rfl⟩
theorem i64_and255 (n : Int) : bits .and .i64 n 255 = n % 256 := by
  have h255 : (BitVec.ofInt 64 255).toNat = 2 ^ 8 - 1 := by decide
  have key : (BitVec.ofInt 64 n &&& BitVec.ofInt 64 255).toNat = (n % ((2 ^ 64 : Nat) : Int)).toNat % 2 ^ 8 := by
    rw [BitVec.toNat_and, BitVec.toNat_ofInt, h255, Nat.and_two_pow_sub_one_eq_mod]
  show IntKind.i64.wrap ((BitVec.ofInt 64 n &&& BitVec.ofInt 64 255).toNat : Nat) = n % 256
  rw [key, IntKind.wrap_i64]
  omega
theorem or5 (s n c h p : Nat) (hs : s < 256) (hn : n < 256) (hc : c < 256) (hh : h < 256) (hp : p < 256) :
    bits .or .i64 (bits .or .i64 (bits .or .i64 (bits .or .i64 (s : Int) (n : Int)) (c : Int)) (h : Int)) (p : Int) = ((Nat.lor (Nat.lor (Nat.lor (Nat.lor s n) c) h) p : Nat) : Int) := by
  have h1 : Nat.lor s n < 2 ^ 8 := Nat.or_lt_two_pow hs hn
  rw [bOr s n (by omega) (by omega)]
  exact or4 (Nat.lor s n) c h p h1 hc hh hp
/-- the difference's byte and its flags -/
def subV (a b c : Nat) : Nat := Nat.land (Nat.sub (Nat.sub (Nat.add a 512) b) c) 255
def subF (a b c : Nat) : Nat :=
  Nat.lor (Nat.lor (Nat.lor (Nat.lor (szN (subV a b c)) 2) (btN (Nat.ble (Nat.add a 1) (Nat.add b c)))) (Nat.mul 16 (btN (Nat.ble (Nat.add (Nat.land a 15) 1) (Nat.add (Nat.land b 15) c)))))
    (Nat.mul 4 (btN (and (not (Nat.beq (Nat.land (Nat.xor a b) 128) 0)) (not (Nat.beq (Nat.land (Nat.xor a (subV a b c)) 128) 0)))))
theorem subV_lt (a b c : Nat) : subV a b c < 256 := Nat.and_lt_two_pow (n := 8) _ (by decide)
theorem subV_int (a b c : Nat) (ha : a < 256) (hb : b < 256) (hc : c < 2) : bits .and .i64 ((a : Int) - b - c) 255 = (subV a b c : Nat) := by
  have h : subV a b c = (a + 512 - b - c) % 2 ^ 8 := Nat.and_two_pow_sub_one_eq_mod (a + 512 - b - c) 8
  rw [i64_and255, h]
  omega

theorem sub_spec (a b c : Nat) (w : World) (ha : a < 256) (hb : b < 256) (hc : c < 2) :
    Calls Tryz.prog 136 #[.int .i64 a, .int .i64 b, .int .i64 c] w fun e w' => e = .returned (.tuple #[.int .i64 (subV a b c), .int .i64 (subF a b c)]) ∧ w' = w := by
  have hV := subV_lt a b c
  have hA : Nat.land a 15 < 2 ^ 4 := Nat.and_lt_two_pow _ (by decide)
  have hB : Nat.land b 15 < 2 ^ 4 := Nat.and_lt_two_pow _ (by decide)
  have hX : Nat.xor a b < 2 ^ 8 := Nat.xor_lt_two_pow ha hb
  have hY : Nat.xor a (subV a b c) < 2 ^ 8 := Nat.xor_lt_two_pow ha hV
  have r1 := subV_int a b c ha hb hc
  have r2 : bits .and .i64 (a : Int) 15 = (Nat.land a 15 : Nat) := bAnd a 15 (by omega) (by omega)
  have r3 : bits .and .i64 (b : Int) 15 = (Nat.land b 15 : Nat) := bAnd b 15 (by omega) (by omega)
  have r4 : bits .xor .i64 (a : Int) (b : Int) = (Nat.xor a b : Nat) := bXor a b (by omega) (by omega)
  have r5 : bits .and .i64 ((Nat.xor a b : Nat) : Int) 128 = (Nat.land (Nat.xor a b) 128 : Nat) := bAnd (Nat.xor a b) 128 (by omega) (by omega)
  have r6 : bits .xor .i64 (a : Int) ((subV a b c : Nat) : Int) = (Nat.xor a (subV a b c) : Nat) := bXor a (subV a b c) (by omega) (by omega)
  have r7 : bits .and .i64 ((Nat.xor a (subV a b c) : Nat) : Int) 128 = (Nat.land (Nat.xor a (subV a b c)) 128 : Nat) := bAnd (Nat.xor a (subV a b c)) 128 (by omega) (by omega)
  have hF : subF a b c = Nat.lor (Nat.lor (Nat.lor (Nat.lor (szN (subV a b c)) 2) (btN (Nat.ble (a + 1) (b + c)))) (Nat.mul 16 (btN (Nat.ble (Nat.land a 15 + 1) (Nat.land b 15 + c)))))
    (Nat.mul 4 (btN (and (not (Nat.beq (Nat.land (Nat.xor a b) 128) 0)) (not (Nat.beq (Nat.land (Nat.xor a (subV a b c)) 128) 0))))) := rfl
  generalize subF a b c = F at hF ⊢
  generalize subV a b c = V at *
  generalize Nat.land a 15 = A1 at *
  generalize Nat.land b 15 = B1 at *
  generalize Nat.land (Nat.xor a V) 128 = Y7 at *
  generalize Nat.xor a V = Y at *
  generalize Nat.land (Nat.xor a b) 128 = X7 at *
  generalize Nat.xor a b = X at *
  have hz := szN_lt V hV
  have HF : Hid (F = _) := hF
  clear hF
  by_cases k1 : (a : Int) - b - c < 0
  · have b1 : Nat.ble (a + 1) (b + c) = true := Nat.ble_eq_true_of_le (by omega)
    by_cases k2 : (A1 : Int) - B1 - c < 0
    · have b2 : Nat.ble (A1 + 1) (B1 + c) = true := Nat.ble_eq_true_of_le (by omega)
      by_cases k3 : X7 = 0
      · have b3 : Nat.beq X7 0 = true := by rw [k3]; rfl
        have k3' : ((X7 : Int) != 0) = false := by simp; omega
        have E : Hid (bits .or .i64 (bits .or .i64 (bits .or .i64 (bits .or .i64 ((szN V : Nat) : Int) 2) 1) 16) 0 = (F : Int)) := by
          unfold Hid
          rw [HF.out, b1, b2, b3]
          exact or5 (szN V) 2 1 16 0 hz (by omega) (by omega) (by omega) (by omega)
        clear b1 b2 b3 HF
        go_enter Tryz.func136, Tryz.ntmps136
        go_wp2_with (first | (go_at_call 138; refine (sz_spec _ _ hV).mono ?_; rintro e w' ⟨rfl, rfl⟩) | go_in)
        go_ret2
        exact ⟨by rw [E.out]; rfl, rfl⟩
      · have b3 : Nat.beq X7 0 = false := by cases X7 with | zero => omega | succ n => rfl
        have k3' : ((X7 : Int) != 0) = true := by simp; omega
        by_cases k4 : Y7 = 0
        · have b4 : Nat.beq Y7 0 = true := by rw [k4]; rfl
          have k4' : ((Y7 : Int) != 0) = false := by simp; omega
          have E : Hid (bits .or .i64 (bits .or .i64 (bits .or .i64 (bits .or .i64 ((szN V : Nat) : Int) 2) 1) 16) 0 = (F : Int)) := by
            unfold Hid
            rw [HF.out, b1, b2, b3, b4]
            exact or5 (szN V) 2 1 16 0 hz (by omega) (by omega) (by omega) (by omega)
          clear b1 b2 b3 b4 HF
          go_enter Tryz.func136, Tryz.ntmps136
          go_wp2_with (first | (go_at_call 138; refine (sz_spec _ _ hV).mono ?_; rintro e w' ⟨rfl, rfl⟩) | go_in)
          go_ret2
          exact ⟨by rw [E.out]; rfl, rfl⟩
        · have b4 : Nat.beq Y7 0 = false := by cases Y7 with | zero => omega | succ n => rfl
          have k4' : ((Y7 : Int) != 0) = true := by simp; omega
          have E : Hid (bits .or .i64 (bits .or .i64 (bits .or .i64 (bits .or .i64 ((szN V : Nat) : Int) 2) 1) 16) 4 = (F : Int)) := by
            unfold Hid
            rw [HF.out, b1, b2, b3, b4]
            exact or5 (szN V) 2 1 16 4 hz (by omega) (by omega) (by omega) (by omega)
          clear b1 b2 b3 b4 HF
          go_enter Tryz.func136, Tryz.ntmps136
          go_wp2_with (first | (go_at_call 138; refine (sz_spec _ _ hV).mono ?_; rintro e w' ⟨rfl, rfl⟩) | go_in)
          go_ret2
          exact ⟨by rw [E.out]; rfl, rfl⟩
    · have b2 : Nat.ble (A1 + 1) (B1 + c) = false := by rw [Bool.eq_false_iff]; intro h; have := Nat.le_of_ble_eq_true h; omega
      by_cases k3 : X7 = 0
      · have b3 : Nat.beq X7 0 = true := by rw [k3]; rfl
        have k3' : ((X7 : Int) != 0) = false := by simp; omega
        have E : Hid (bits .or .i64 (bits .or .i64 (bits .or .i64 (bits .or .i64 ((szN V : Nat) : Int) 2) 1) 0) 0 = (F : Int)) := by
          unfold Hid
          rw [HF.out, b1, b2, b3]
          exact or5 (szN V) 2 1 0 0 hz (by omega) (by omega) (by omega) (by omega)
        clear b1 b2 b3 HF
        go_enter Tryz.func136, Tryz.ntmps136
        go_wp2_with (first | (go_at_call 138; refine (sz_spec _ _ hV).mono ?_; rintro e w' ⟨rfl, rfl⟩) | go_in)
        go_ret2
        exact ⟨by rw [E.out]; rfl, rfl⟩
      · have b3 : Nat.beq X7 0 = false := by cases X7 with | zero => omega | succ n => rfl
        have k3' : ((X7 : Int) != 0) = true := by simp; omega
        by_cases k4 : Y7 = 0
        · have b4 : Nat.beq Y7 0 = true := by rw [k4]; rfl
          have k4' : ((Y7 : Int) != 0) = false := by simp; omega
          have E : Hid (bits .or .i64 (bits .or .i64 (bits .or .i64 (bits .or .i64 ((szN V : Nat) : Int) 2) 1) 0) 0 = (F : Int)) := by
            unfold Hid
            rw [HF.out, b1, b2, b3, b4]
            exact or5 (szN V) 2 1 0 0 hz (by omega) (by omega) (by omega) (by omega)
          clear b1 b2 b3 b4 HF
          go_enter Tryz.func136, Tryz.ntmps136
          go_wp2_with (first | (go_at_call 138; refine (sz_spec _ _ hV).mono ?_; rintro e w' ⟨rfl, rfl⟩) | go_in)
          go_ret2
          exact ⟨by rw [E.out]; rfl, rfl⟩
        · have b4 : Nat.beq Y7 0 = false := by cases Y7 with | zero => omega | succ n => rfl
          have k4' : ((Y7 : Int) != 0) = true := by simp; omega
          have E : Hid (bits .or .i64 (bits .or .i64 (bits .or .i64 (bits .or .i64 ((szN V : Nat) : Int) 2) 1) 0) 4 = (F : Int)) := by
            unfold Hid
            rw [HF.out, b1, b2, b3, b4]
            exact or5 (szN V) 2 1 0 4 hz (by omega) (by omega) (by omega) (by omega)
          clear b1 b2 b3 b4 HF
          go_enter Tryz.func136, Tryz.ntmps136
          go_wp2_with (first | (go_at_call 138; refine (sz_spec _ _ hV).mono ?_; rintro e w' ⟨rfl, rfl⟩) | go_in)
          go_ret2
          exact ⟨by rw [E.out]; rfl, rfl⟩
  · have b1 : Nat.ble (a + 1) (b + c) = false := by rw [Bool.eq_false_iff]; intro h; have := Nat.le_of_ble_eq_true h; omega
    by_cases k2 : (A1 : Int) - B1 - c < 0
    · have b2 : Nat.ble (A1 + 1) (B1 + c) = true := Nat.ble_eq_true_of_le (by omega)
      by_cases k3 : X7 = 0
      · have b3 : Nat.beq X7 0 = true := by rw [k3]; rfl
        have k3' : ((X7 : Int) != 0) = false := by simp; omega
        have E : Hid (bits .or .i64 (bits .or .i64 (bits .or .i64 (bits .or .i64 ((szN V : Nat) : Int) 2) 0) 16) 0 = (F : Int)) := by
          unfold Hid
          rw [HF.out, b1, b2, b3]
          exact or5 (szN V) 2 0 16 0 hz (by omega) (by omega) (by omega) (by omega)
        clear b1 b2 b3 HF
        go_enter Tryz.func136, Tryz.ntmps136
        go_wp2_with (first | (go_at_call 138; refine (sz_spec _ _ hV).mono ?_; rintro e w' ⟨rfl, rfl⟩) | go_in)
        go_ret2
        exact ⟨by rw [E.out]; rfl, rfl⟩
      · have b3 : Nat.beq X7 0 = false := by cases X7 with | zero => omega | succ n => rfl
        have k3' : ((X7 : Int) != 0) = true := by simp; omega
        by_cases k4 : Y7 = 0
        · have b4 : Nat.beq Y7 0 = true := by rw [k4]; rfl
          have k4' : ((Y7 : Int) != 0) = false := by simp; omega
          have E : Hid (bits .or .i64 (bits .or .i64 (bits .or .i64 (bits .or .i64 ((szN V : Nat) : Int) 2) 0) 16) 0 = (F : Int)) := by
            unfold Hid
            rw [HF.out, b1, b2, b3, b4]
            exact or5 (szN V) 2 0 16 0 hz (by omega) (by omega) (by omega) (by omega)
          clear b1 b2 b3 b4 HF
          go_enter Tryz.func136, Tryz.ntmps136
          go_wp2_with (first | (go_at_call 138; refine (sz_spec _ _ hV).mono ?_; rintro e w' ⟨rfl, rfl⟩) | go_in)
          go_ret2
          exact ⟨by rw [E.out]; rfl, rfl⟩
        · have b4 : Nat.beq Y7 0 = false := by cases Y7 with | zero => omega | succ n => rfl
          have k4' : ((Y7 : Int) != 0) = true := by simp; omega
          have E : Hid (bits .or .i64 (bits .or .i64 (bits .or .i64 (bits .or .i64 ((szN V : Nat) : Int) 2) 0) 16) 4 = (F : Int)) := by
            unfold Hid
            rw [HF.out, b1, b2, b3, b4]
            exact or5 (szN V) 2 0 16 4 hz (by omega) (by omega) (by omega) (by omega)
          clear b1 b2 b3 b4 HF
          go_enter Tryz.func136, Tryz.ntmps136
          go_wp2_with (first | (go_at_call 138; refine (sz_spec _ _ hV).mono ?_; rintro e w' ⟨rfl, rfl⟩) | go_in)
          go_ret2
          exact ⟨by rw [E.out]; rfl, rfl⟩
    · have b2 : Nat.ble (A1 + 1) (B1 + c) = false := by rw [Bool.eq_false_iff]; intro h; have := Nat.le_of_ble_eq_true h; omega
      by_cases k3 : X7 = 0
      · have b3 : Nat.beq X7 0 = true := by rw [k3]; rfl
        have k3' : ((X7 : Int) != 0) = false := by simp; omega
        have E : Hid (bits .or .i64 (bits .or .i64 (bits .or .i64 (bits .or .i64 ((szN V : Nat) : Int) 2) 0) 0) 0 = (F : Int)) := by
          unfold Hid
          rw [HF.out, b1, b2, b3]
          exact or5 (szN V) 2 0 0 0 hz (by omega) (by omega) (by omega) (by omega)
        clear b1 b2 b3 HF
        go_enter Tryz.func136, Tryz.ntmps136
        go_wp2_with (first | (go_at_call 138; refine (sz_spec _ _ hV).mono ?_; rintro e w' ⟨rfl, rfl⟩) | go_in)
        go_ret2
        exact ⟨by rw [E.out]; rfl, rfl⟩
      · have b3 : Nat.beq X7 0 = false := by cases X7 with | zero => omega | succ n => rfl
        have k3' : ((X7 : Int) != 0) = true := by simp; omega
        by_cases k4 : Y7 = 0
        · have b4 : Nat.beq Y7 0 = true := by rw [k4]; rfl
          have k4' : ((Y7 : Int) != 0) = false := by simp; omega
          have E : Hid (bits .or .i64 (bits .or .i64 (bits .or .i64 (bits .or .i64 ((szN V : Nat) : Int) 2) 0) 0) 0 = (F : Int)) := by
            unfold Hid
            rw [HF.out, b1, b2, b3, b4]
            exact or5 (szN V) 2 0 0 0 hz (by omega) (by omega) (by omega) (by omega)
          clear b1 b2 b3 b4 HF
          go_enter Tryz.func136, Tryz.ntmps136
          go_wp2_with (first | (go_at_call 138; refine (sz_spec _ _ hV).mono ?_; rintro e w' ⟨rfl, rfl⟩) | go_in)
          go_ret2
          exact ⟨by rw [E.out]; rfl, rfl⟩
        · have b4 : Nat.beq Y7 0 = false := by cases Y7 with | zero => omega | succ n => rfl
          have k4' : ((Y7 : Int) != 0) = true := by simp; omega
          have E : Hid (bits .or .i64 (bits .or .i64 (bits .or .i64 (bits .or .i64 ((szN V : Nat) : Int) 2) 0) 0) 4 = (F : Int)) := by
            unfold Hid
            rw [HF.out, b1, b2, b3, b4]
            exact or5 (szN V) 2 0 0 4 hz (by omega) (by omega) (by omega) (by omega)
          clear b1 b2 b3 b4 HF
          go_enter Tryz.func136, Tryz.ntmps136
          go_wp2_with (first | (go_at_call 138; refine (sz_spec _ _ hV).mono ?_; rintro e w' ⟨rfl, rfl⟩) | go_in)
          go_ret2
          exact ⟨by rw [E.out]; rfl, rfl⟩
end Go.Proofs.YtgpmpfikeindfaaGreatDoor
