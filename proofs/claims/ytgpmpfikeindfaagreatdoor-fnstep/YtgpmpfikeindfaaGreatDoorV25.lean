/- What the program's reckoning answers, handed a sum or a difference: the byte and the flags that the specification reckons. -/
import Derived.Test.YtgpmpfikeindfaaGreatDoorV24
import Derived.Test.YtgpmpfikeindfaaGreatDoorAdv
import Derived.Test.YtgpmpfikeindfaaGreatDoorAgv
namespace Go.Proofs.YtgpmpfikeindfaaGreatDoor
open Go.ChangeShapes Go.WideShapes Go.ChangeAt Go.RowKit
set_option linter.unusedVariables false

theorem sum_impl (a b c : Int) (w : World) (ha : -1000 ≤ a ∧ a ≤ 1000) (hb : -1000 ≤ b ∧ b ≤ 1000) (hc : -1000 ≤ c ∧ c ≤ 1000) : Calls Tryz.prog 125 #[.int .i64 a, .int .i64 b, .int .i64 c] w fun e w' => e = .returned (.int .i64 (a + b + c)) ∧ w' = w := by
  go_enter Tryz.func125, Tryz.ntmps125
  go_wp2
  go_ret
  exact ⟨rfl, rfl⟩

def sgnI (a : Nat) : Int := if 128 ≤ a then (a : Int) - 256 else a
theorem sgnI_bd (a : Nat) (ha : a < 256) : -1000 ≤ sgnI a ∧ sgnI a ≤ 1000 := by unfold sgnI; split <;> omega
theorem signed_impl (a : Nat) (w : World) (ha : a < 256) : Calls Tryz.prog 163 #[.int .i64 a] w fun e w' => e = .returned (.int .i64 (sgnI a)) ∧ w' = w := by
  by_cases h : 128 ≤ a
  · have e : sgnI a = (a : Int) - 256 := by unfold sgnI; rw [if_pos h]
    rw [e]
    go_enter Tryz.func163, Tryz.ntmps163
    go_wp2
    go_ret
    exact ⟨rfl, rfl⟩
  · have e : sgnI a = (a : Int) := by unfold sgnI; rw [if_neg h]
    rw [e]
    go_enter Tryz.func163, Tryz.ntmps163
    go_wp2
    go_ret
    exact ⟨rfl, rfl⟩

theorem lor_swap (a b c : Nat) : Nat.lor (Nat.lor a b) c = Nat.lor (Nat.lor a c) b := by
  show (a ||| b) ||| c = (a ||| c) ||| b
  rw [Nat.or_assoc, Nat.or_comm b c, ← Nat.or_assoc]
theorem hi_bit : ∀ x : Fin 256, Nat.land x.val 128 = cond (Nat.ble 128 x.val) 128 0 := by decide +kernel
theorem hi_of (x : Nat) (h : x < 256) : Nat.land x 128 = cond (Nat.ble 128 x) 128 0 := hi_bit ⟨x, h⟩
theorem hi_xor (x y : Nat) (hx : x < 256) (hy : y < 256) : Nat.beq (Nat.land (Nat.xor x y) 128) 0 = (Nat.ble 128 x == Nat.ble 128 y) := by
  have h : Nat.land (Nat.xor x y) 128 = Nat.xor (Nat.land x 128) (Nat.land y 128) := Nat.and_xor_distrib_right
  rw [h, hi_of x hx, hi_of y hy]
  cases Nat.ble 128 x <;> cases Nat.ble 128 y <;> rfl
theorem ble_iff (a b : Nat) : (Nat.ble a b = true) ↔ a ≤ b := by rw [Nat.ble_eq]
theorem ble_dec (a b : Nat) : Nat.ble a b = decide (a ≤ b) := by rw [Bool.eq_iff_iff, ble_iff, decide_eq_true_iff]
theorem bool_eq {p q : Bool} (h : p = true ↔ q = true) : p = q := by cases p <;> cases q <;> simp_all
theorem when_mul (x : Bool) (f : Nat) : whenN x f = Nat.mul f (btN x) := by cases x <;> simp [whenN, btN]
theorem when_one (x : Bool) : whenN x 1 = btN x := by cases x <;> rfl
theorem bt_one (x : Bool) : btN x < 2 ^ 8 := by cases x <;> decide
theorem bt_mul16 (x : Bool) : Nat.mul 16 (btN x) < 2 ^ 8 := by cases x <;> decide
theorem bt_mul4 (x : Bool) : Nat.mul 4 (btN x) < 2 ^ 8 := by cases x <;> decide
theorem addF_lt (a b c : Nat) : addF a b c < 256 := by
  unfold addF
  refine Nat.or_lt_two_pow (n := 8) (Nat.or_lt_two_pow (Nat.or_lt_two_pow (szN_lt _ (addV_lt a b c)) ?_) ?_) ?_
  · exact bt_one _
  · exact bt_mul16 _
  · exact bt_mul4 _
theorem addV_mod (a b c : Nat) : addV a b c = (a + b + c) % 256 := Nat.and_two_pow_sub_one_eq_mod (a + b + c) 8
theorem addP (a b c : Nat) (ha : a < 256) (hb : b < 256) (hc : c < 2) :
    (!inB (sgnI a + sgnI b + (c : Int)) (-128) 127) = and (Nat.beq (Nat.land (Nat.xor a b) 128) 0) (not (Nat.beq (Nat.land (Nat.xor a (addV a b c)) 128) 0)) := by
  rw [hi_xor a b ha hb, hi_xor a _ ha (addV_lt a b c), addV_mod]
  rw [ble_dec, ble_dec, ble_dec]
  by_cases p : 128 ≤ a <;> by_cases q : 128 ≤ b <;> by_cases r : 128 ≤ (a + b + c) % 256 <;> simp [p, q, r, inB, sgnI] <;> omega
theorem addF_rk (a b c A1 B1 : Nat) (ha : a < 256) (hb : b < 256) (hc : c < 2) (hA1 : Nat.land a 15 = A1) (hB1 : Nat.land b 15 = B1) :
    bits .or .i64 (bits .or .i64 (bits .or .i64 ((szN (addV a b c) : Nat) : Int) (whenI (!inB ((A1 : Int) + B1 + c) 0 15) 16)) (whenI (!inB ((a : Int) + b + c) 0 255) 1)) (whenI (!inB (sgnI a + sgnI b + (c : Int)) (-128) 127) 4) = (addF a b c : Nat) := by
  have h1 : (!inB ((A1 : Int) + B1 + c) 0 15) = Nat.ble 16 (A1 + B1 + c) := by
    apply bool_eq; simp only [Bool.not_eq_true', inB, decide_eq_false_iff_not, ble_iff]; omega
  have h2 : (!inB ((a : Int) + b + c) 0 255) = Nat.ble 256 (a + b + c) := by
    apply bool_eq; simp only [Bool.not_eq_true', inB, decide_eq_false_iff_not, ble_iff]; omega
  rw [h1, h2, addP a b c ha hb hc]
  rw [show ∀ x, whenI x 16 = _ from fun x => when_nat x 16, show ∀ x, whenI x 1 = _ from fun x => when_nat x 1, show ∀ x, whenI x 4 = _ from fun x => when_nat x 4]
  rw [or4 _ _ _ _ (szN_lt _ (addV_lt a b c)) (whenN_lt _ _ _ (by decide)) (whenN_lt _ _ _ (by decide)) (whenN_lt _ _ _ (by decide))]
  subst hA1 hB1
  unfold addF
  rw [lor_swap (szN (addV a b c))]
  rw [when_mul _ 16, when_mul _ 4, when_one]
  rfl
theorem rk_add (a b c : Nat) (w : World) (ha : a < 256) (hb : b < 256) (hc : c < 2) (hL : Flags w) :
    Calls Tryz.prog 151 #[.func (.func 125) #[] #[], .int .i64 a, .int .i64 b, .int .i64 c] w fun e w' => e = .returned (.tuple #[.int .i64 (addV a b c), .int .i64 (addF a b c)]) ∧ w' = w := by
  have hA : Nat.land a 15 < 2 ^ 4 := Nat.and_lt_two_pow _ (by decide)
  have hB : Nat.land b 15 < 2 ^ 4 := Nat.and_lt_two_pow _ (by decide)
  have r1 : bits .and .i64 ((a : Int) + b + c) 255 = (addV a b c : Nat) := bAnd (a + b + c) 255 (by omega) (by omega)
  have r2 : bits .and .i64 (a : Int) 15 = (Nat.land a 15 : Nat) := bAnd a 15 (by omega) (by omega)
  have r3 : bits .and .i64 (b : Int) 15 = (Nat.land b 15 : Nat) := bAnd b 15 (by omega) (by omega)
  have hV := addV_lt a b c
  have hs := sgnI_bd a ha
  have ht := sgnI_bd b hb
  have E : Hid _ := addF_rk a b c _ _ ha hb hc rfl rfl
  generalize Nat.land a 15 = A1 at *
  generalize Nat.land b 15 = B1 at *
  generalize addF a b c = F at *
  generalize addV a b c = V at *
  generalize hS : sgnI a = S at *
  generalize hT : sgnI b = T at *
  replace hS : Hid _ := hS
  replace hT : Hid _ := hT
  go_enter Tryz.func151, Tryz.ntmps151
  go_wp2_with (first | (go_at_call 125; refine (sum_impl _ _ _ _ (by omega) (by omega) (by omega)).mono ?_; rintro e w' ⟨rfl, rfl⟩) | (go_at_call 163; refine (signed_impl _ _ (by omega)).mono ?_; rintro e w' ⟨rfl, rfl⟩; first | rw [hS.out] | rw [hT.out]) | (go_at_call 160; refine (rf_impl _ _ hV hL).mono ?_; rintro e w' ⟨rfl, rfl⟩) | (go_at_call 33; refine (withinU_impl _ _ _ _).mono ?_; rintro e w' ⟨rfl, rfl⟩) | (go_at_call 129; refine (when_impl _ _ _).mono ?_; rintro e w' ⟨rfl, rfl⟩))
  rw [E.out]
  go_ret2
  exact ⟨rfl, rfl⟩
theorem dif_impl (a b c : Int) (w : World) (ha : -1000 ≤ a ∧ a ≤ 1000) (hb : -1000 ≤ b ∧ b ≤ 1000) (hc : -1000 ≤ c ∧ c ≤ 1000) : Calls Tryz.prog 126 #[.int .i64 a, .int .i64 b, .int .i64 c] w fun e w' => e = .returned (.int .i64 (a - b - c)) ∧ w' = w := by
  go_enter Tryz.func126, Tryz.ntmps126
  go_wp2
  go_ret
  exact ⟨rfl, rfl⟩
/-- the flags of a difference, but for its mark -/
def subG (a b c : Nat) : Nat :=
  Nat.lor (Nat.lor (Nat.lor (szN (subV a b c)) (Nat.mul 16 (btN (Nat.ble (Nat.add (Nat.land a 15) 1) (Nat.add (Nat.land b 15) c))))) (btN (Nat.ble (Nat.add a 1) (Nat.add b c))))
    (Nat.mul 4 (btN (and (not (Nat.beq (Nat.land (Nat.xor a b) 128) 0)) (not (Nat.beq (Nat.land (Nat.xor a (subV a b c)) 128) 0)))))
theorem subV_mod (a b c : Nat) : subV a b c = (a + 512 - b - c) % 256 := Nat.and_two_pow_sub_one_eq_mod (a + 512 - b - c) 8
theorem subP (a b c : Nat) (ha : a < 256) (hb : b < 256) (hc : c < 2) :
    (!inB (sgnI a - sgnI b - (c : Int)) (-128) 127) = and (not (Nat.beq (Nat.land (Nat.xor a b) 128) 0)) (not (Nat.beq (Nat.land (Nat.xor a (subV a b c)) 128) 0)) := by
  rw [hi_xor a b ha hb, hi_xor a _ ha (subV_lt a b c), subV_mod]
  rw [ble_dec, ble_dec, ble_dec]
  by_cases p : 128 ≤ a <;> by_cases q : 128 ≤ b <;> by_cases r : 128 ≤ (a + 512 - b - c) % 256 <;> simp [p, q, r, inB, sgnI] <;> omega
theorem subG_rk (a b c A1 B1 : Nat) (ha : a < 256) (hb : b < 256) (hc : c < 2) (hA1 : Nat.land a 15 = A1) (hB1 : Nat.land b 15 = B1) :
    bits .or .i64 (bits .or .i64 (bits .or .i64 ((szN (subV a b c) : Nat) : Int) (whenI (!inB ((A1 : Int) - B1 - c) 0 15) 16)) (whenI (!inB ((a : Int) - b - c) 0 255) 1)) (whenI (!inB (sgnI a - sgnI b - (c : Int)) (-128) 127) 4) = (subG a b c : Nat) := by
  have hA : Nat.land a 15 < 2 ^ 4 := Nat.and_lt_two_pow _ (by decide)
  have hB : Nat.land b 15 < 2 ^ 4 := Nat.and_lt_two_pow _ (by decide)
  have h1 : (!inB ((A1 : Int) - B1 - c) 0 15) = Nat.ble (A1 + 1) (B1 + c) := by
    apply bool_eq; simp only [Bool.not_eq_true', inB, decide_eq_false_iff_not, ble_iff]; omega
  have h2 : (!inB ((a : Int) - b - c) 0 255) = Nat.ble (a + 1) (b + c) := by
    apply bool_eq; simp only [Bool.not_eq_true', inB, decide_eq_false_iff_not, ble_iff]; omega
  rw [h1, h2, subP a b c ha hb hc]
  rw [show ∀ x, whenI x 16 = _ from fun x => when_nat x 16, show ∀ x, whenI x 1 = _ from fun x => when_nat x 1, show ∀ x, whenI x 4 = _ from fun x => when_nat x 4]
  rw [or4 _ _ _ _ (szN_lt _ (subV_lt a b c)) (whenN_lt _ _ _ (by decide)) (whenN_lt _ _ _ (by decide)) (whenN_lt _ _ _ (by decide))]
  subst hA1 hB1
  unfold subG
  rw [when_mul _ 16, when_mul _ 4, when_one]
  rfl
theorem subG_F (a b c : Nat) : Nat.lor (subG a b c) 2 = subF a b c := by
  unfold subG subF
  rw [lor_swap _ _ 2, lor_swap _ _ 2, lor_swap _ _ 2, lor_swap (Nat.lor (szN (subV a b c)) 2)]
theorem subG_lt (a b c : Nat) : subG a b c < 256 := by
  unfold subG
  refine Nat.or_lt_two_pow (n := 8) (Nat.or_lt_two_pow (Nat.or_lt_two_pow (szN_lt _ (subV_lt a b c)) ?_) ?_) ?_
  · exact bt_mul16 _
  · exact bt_one _
  · exact bt_mul4 _
theorem rk_sub (a b c : Nat) (w : World) (ha : a < 256) (hb : b < 256) (hc : c < 2) (hL : Flags w) :
    Calls Tryz.prog 151 #[.func (.func 126) #[] #[], .int .i64 a, .int .i64 b, .int .i64 c] w fun e w' => e = .returned (.tuple #[.int .i64 (subV a b c), .int .i64 (subG a b c)]) ∧ w' = w := by
  have hA : Nat.land a 15 < 2 ^ 4 := Nat.and_lt_two_pow _ (by decide)
  have hB : Nat.land b 15 < 2 ^ 4 := Nat.and_lt_two_pow _ (by decide)
  have r1 : bits .and .i64 ((a : Int) - b - c) 255 = (subV a b c : Nat) := subV_int a b c ha hb hc
  have r2 : bits .and .i64 (a : Int) 15 = (Nat.land a 15 : Nat) := bAnd a 15 (by omega) (by omega)
  have r3 : bits .and .i64 (b : Int) 15 = (Nat.land b 15 : Nat) := bAnd b 15 (by omega) (by omega)
  have hV := subV_lt a b c
  have hs := sgnI_bd a ha
  have ht := sgnI_bd b hb
  have E : Hid _ := subG_rk a b c _ _ ha hb hc rfl rfl
  generalize Nat.land a 15 = A1 at *
  generalize Nat.land b 15 = B1 at *
  generalize subG a b c = F at *
  generalize subV a b c = V at *
  generalize hS : sgnI a = S at *
  generalize hT : sgnI b = T at *
  replace hS : Hid _ := hS
  replace hT : Hid _ := hT
  go_enter Tryz.func151, Tryz.ntmps151
  go_wp2_with (first | (go_at_call 126; refine (dif_impl _ _ _ _ (by omega) (by omega) (by omega)).mono ?_; rintro e w' ⟨rfl, rfl⟩) | (go_at_call 163; refine (signed_impl _ _ (by omega)).mono ?_; rintro e w' ⟨rfl, rfl⟩; first | rw [hS.out] | rw [hT.out]) | (go_at_call 160; refine (rf_impl _ _ hV hL).mono ?_; rintro e w' ⟨rfl, rfl⟩) | (go_at_call 33; refine (withinU_impl _ _ _ _).mono ?_; rintro e w' ⟨rfl, rfl⟩) | (go_at_call 129; refine (when_impl _ _ _).mono ?_; rintro e w' ⟨rfl, rfl⟩))
  rw [E.out]
  go_ret2
  exact ⟨rfl, rfl⟩
end Go.Proofs.YtgpmpfikeindfaaGreatDoor

/- What the specification's unit answers as it is asked: the codes, and the plain functions of natural numbers where it reckons. -/
namespace Go.Proofs.YtgpmpfikeindfaaGreatDoor
open Go.ChangeShapes Go.WideShapes Go.ChangeAt Go.RowKit
set_option linter.unusedVariables false

/-- two bytes and a carry -/
def askB (a b c : Int) : Bool := inB a 0 255 && inB b 0 255 && inB c 0 1
theorem askB_yes {a b c : Int} (h : askB a b c = true) : ∃ x y z : Nat, a = x ∧ b = y ∧ c = z ∧ x < 256 ∧ y < 256 ∧ z < 2 := by
  simp [askB, inB] at h
  exact ⟨a.toNat, b.toNat, c.toNat, by omega, by omega, by omega, by omega, by omega, by omega⟩
def no3 : Value := .tuple #[.int .i64 0, .int .i64 0, .int .i64 4]
def no2 : Value := .tuple #[.int .i64 0, .int .i64 4]

def add8V (a b c : Int) : Value := if askB a b c then .tuple #[.int .i64 (addV a.toNat b.toNat c.toNat), .int .i64 (addF a.toNat b.toNat c.toNat), .int .i64 0] else no3

def sub8V (a b c : Int) : Value := if askB a b c then .tuple #[.int .i64 (subV a.toNat b.toNat c.toNat), .int .i64 (subF a.toNat b.toNat c.toNat), .int .i64 0] else no3

def inc8V (a f : Int) : Value := if askB a f 0 then .tuple #[.int .i64 (incV a.toNat), .int .i64 (incF a.toNat f.toNat), .int .i64 0] else no3

def dec8V (a f : Int) : Value := if askB a f 0 then .tuple #[.int .i64 (decV a.toNat), .int .i64 (decF a.toNat f.toNat), .int .i64 0] else no3

def daa8V (a f : Int) : Value := if askB a f 0 then .tuple #[.int .i64 (daaV a.toNat f.toNat), .int .i64 (daaF a.toNat f.toNat), .int .i64 0] else no3

def logic8V (o a f : Int) : Value := if inB o 0 2 && askB a f 0 then .tuple #[.int .i64 (logV o.toNat a.toNat f.toNat), .int .i64 (logF o.toNat a.toNat f.toNat), .int .i64 0] else no3

def turn8V (o a f : Int) : Value := if inB o 0 7 && askB a f 0 then .tuple #[.int .i64 (turnW o.toNat a.toNat f.toNat), .int .i64 (turnG o.toNat a.toNat f.toNat), .int .i64 0] else no3

def test8V (o a f : Int) : Value := if inB o 0 7 && askB a f 0 then .tuple #[.int .i64 (tstF o.toNat a.toNat f.toNat), .int .i64 0] else no2
end Go.Proofs.YtgpmpfikeindfaaGreatDoor

/- What the program's Add8, Sub8, Inc8 and Dec8 answer as they are asked: what the specification's answer. -/
namespace Go.Proofs.YtgpmpfikeindfaaGreatDoor
open Go.ChangeShapes Go.WideShapes Go.ChangeAt Go.RowKit
set_option linter.unusedVariables false

theorem add8_impl (a b c : Int) (w : World) (hL : Flags w) : Calls Tryz.prog 143 #[.int .i64 a, .int .i64 b, .int .i64 c] w fun e w' => e = .returned (add8V a b c) ∧ w' = w := by
  cases h : askB a b c
  · have e : add8V a b c = no3 := by unfold add8V; rw [h]; rfl
    rw [e]
    cases h1 : (inB a 0 255 && inB b 0 255)
    · go_enter Tryz.func143, Tryz.ntmps143
      go_wp2_with (first | (go_at_call 32; refine (bytes_impl _ _ _).mono ?_; rintro e w' ⟨rfl, rfl⟩; rw [h1]) | (go_at_call 33; refine (withinU_impl _ _ _ _).mono ?_; rintro e w' ⟨rfl, rfl⟩))
      go_ret3
      exact ⟨rfl, rfl⟩
    · have h2 : inB c 0 1 = false := by unfold askB at h; rw [h1] at h; exact h
      go_enter Tryz.func143, Tryz.ntmps143
      go_wp2_with (first | (go_at_call 32; refine (bytes_impl _ _ _).mono ?_; rintro e w' ⟨rfl, rfl⟩; rw [h1]) | (go_at_call 33; refine (withinU_impl _ _ _ _).mono ?_; rintro e w' ⟨rfl, rfl⟩; rw [h2]))
      go_ret3
      exact ⟨rfl, rfl⟩
  · have e : add8V a b c = .tuple #[.int .i64 (addV a.toNat b.toNat c.toNat), .int .i64 (addF a.toNat b.toNat c.toNat), .int .i64 0] := by unfold add8V; rw [h]; rfl
    rw [e]
    have h' := h
    unfold askB at h'
    rw [Bool.and_eq_true] at h'
    obtain ⟨h1, h2⟩ := h'
    obtain ⟨x, y, z, rfl, rfl, rfl, hx, hy, hz⟩ := askB_yes h
    simp only [Int.toNat_natCast]
    clear e h
    go_enter Tryz.func143, Tryz.ntmps143
    go_wp2_with (first | (go_at_call 32; refine (bytes_impl _ _ _).mono ?_; rintro e w' ⟨rfl, rfl⟩; rw [h1]) | (go_at_call 33; refine (withinU_impl _ _ _ _).mono ?_; rintro e w' ⟨rfl, rfl⟩; rw [h2]) | (go_at_call 151; refine (rk_add _ _ _ _ hx hy hz hL).mono ?_; rintro e w' ⟨rfl, rfl⟩))
    go_ret3
    exact ⟨rfl, rfl⟩

theorem sub8_impl (a b c : Int) (w : World) (hL : Flags w) : Calls Tryz.prog 145 #[.int .i64 a, .int .i64 b, .int .i64 c] w fun e w' => e = .returned (sub8V a b c) ∧ w' = w := by
  cases h : askB a b c
  · have e : sub8V a b c = no3 := by unfold sub8V; rw [h]; rfl
    rw [e]
    cases h1 : (inB a 0 255 && inB b 0 255)
    · go_enter Tryz.func145, Tryz.ntmps145
      go_wp2_with (first | (go_at_call 32; refine (bytes_impl _ _ _).mono ?_; rintro e w' ⟨rfl, rfl⟩; rw [h1]) | (go_at_call 33; refine (withinU_impl _ _ _ _).mono ?_; rintro e w' ⟨rfl, rfl⟩))
      go_ret3
      exact ⟨rfl, rfl⟩
    · have h2 : inB c 0 1 = false := by unfold askB at h; rw [h1] at h; exact h
      go_enter Tryz.func145, Tryz.ntmps145
      go_wp2_with (first | (go_at_call 32; refine (bytes_impl _ _ _).mono ?_; rintro e w' ⟨rfl, rfl⟩; rw [h1]) | (go_at_call 33; refine (withinU_impl _ _ _ _).mono ?_; rintro e w' ⟨rfl, rfl⟩; rw [h2]))
      go_ret3
      exact ⟨rfl, rfl⟩
  · have e : sub8V a b c = .tuple #[.int .i64 (subV a.toNat b.toNat c.toNat), .int .i64 (subF a.toNat b.toNat c.toNat), .int .i64 0] := by unfold sub8V; rw [h]; rfl
    rw [e]
    have h' := h
    unfold askB at h'
    rw [Bool.and_eq_true] at h'
    obtain ⟨h1, h2⟩ := h'
    obtain ⟨x, y, z, rfl, rfl, rfl, hx, hy, hz⟩ := askB_yes h
    simp only [Int.toNat_natCast]
    clear e h
    have r : bits .or .i64 ((subG x y z : Nat) : Int) 2 = (subF x y z : Nat) := by
      have hg := subG_lt x y z
      rw [← subG_F]
      exact bOr (subG x y z) 2 (by omega) (by omega)
    go_enter Tryz.func145, Tryz.ntmps145
    go_wp2_with (first | (go_at_call 32; refine (bytes_impl _ _ _).mono ?_; rintro e w' ⟨rfl, rfl⟩; rw [h1]) | (go_at_call 33; refine (withinU_impl _ _ _ _).mono ?_; rintro e w' ⟨rfl, rfl⟩; rw [h2]) | (go_at_call 151; refine (rk_sub _ _ _ _ hx hy hz hL).mono ?_; rintro e w' ⟨rfl, rfl⟩))
    go_ret3
    exact ⟨rfl, rfl⟩

theorem and_not1 : ∀ x : Fin 256, bits .andNot .i64 (Int.ofNat x.val) 1 = Int.ofNat (Nat.sub x.val (Nat.land x.val 1)) := by decide +kernel
theorem andnot_of (x : Nat) (h : x < 256) : bits .andNot .i64 (x : Int) 1 = (Nat.sub x (Nat.land x 1) : Nat) := and_not1 ⟨x, h⟩
/-- the flags of a step by one, the carry being kept -/
def keepC (g f : Nat) : Nat := Nat.lor (Nat.sub g (Nat.land g 1)) (Nat.land f 1)
theorem keep_int (g f : Nat) (hg : g < 256) (hf : f < 256) : bits .or .i64 (bits .andNot .i64 (g : Int) 1) (bits .and .i64 (f : Int) 1) = (keepC g f : Nat) := by
  have h1 : bits .and .i64 (f : Int) 1 = (Nat.land f 1 : Nat) := bAnd f 1 (by omega) (by omega)
  have hc : Nat.land f 1 < 2 ^ 1 := Nat.and_lt_two_pow _ (by decide)
  have hs : Nat.sub g (Nat.land g 1) ≤ g := Nat.sub_le _ _
  rw [h1, andnot_of g hg]
  exact bOr _ _ (by omega) (by omega)
theorem bit01 (f : Nat) : Nat.land f 1 = 0 ∨ Nat.land f 1 = 1 := by
  have hc : Nat.land f 1 < 2 ^ 1 := Nat.and_lt_two_pow _ (by decide)
  omega
def incH (a c : Nat) : Nat := Nat.lor (Nat.lor (Nat.lor c (szN (incV a))) (Nat.mul 16 (btN (Nat.beq (Nat.land a 15) 15)))) (Nat.mul 4 (btN (Nat.beq a 127)))
theorem inc_all : allB 256 (fun a => allB 2 fun c => Nat.beq (Nat.lor (Nat.sub (addF a 1 0) (Nat.land (addF a 1 0) 1)) c) (incH a c)) = true := by decide +kernel
theorem inc_keep (a f : Nat) (ha : a < 256) : keepC (addF a 1 0) f = incF a f := by
  have hc : Nat.land f 1 < 2 ^ 1 := Nat.and_lt_two_pow _ (by decide)
  exact Nat.eq_of_beq_eq_true (allB_at (allB_at inc_all a ha) (Nat.land f 1) hc)
theorem one_add (a f : Nat) (w : World) (ha : a < 256) (hf : f < 256) (hL : Flags w) :
    Calls Tryz.prog 124 #[.func (.func 125) #[] #[], .int .i64 a, .int .i64 f] w fun e w' => e = .returned (.tuple #[.int .i64 (incV a), .int .i64 (incF a f)]) ∧ w' = w := by
  have E : Hid _ := keep_int (addF a 1 0) f (addF_lt _ _ _) hf
  rw [inc_keep a f ha] at E
  go_enter Tryz.func124, Tryz.ntmps124
  go_wp2_with (go_at_call 151; refine (rk_add a 1 0 _ ha (by decide) (by decide) hL).mono ?_; rintro e w' ⟨rfl, rfl⟩)
  rw [E.out]
  go_ret2
  exact ⟨rfl, rfl⟩
theorem inc8_impl (a f : Int) (w : World) (hL : Flags w) : Calls Tryz.prog 79 #[.int .i64 a, .int .i64 f] w fun e w' => e = .returned (inc8V a f) ∧ w' = w := by
  have h3 : askB a f 0 = (inB a 0 255 && inB f 0 255) := by unfold askB; rw [show inB 0 0 1 = true by decide, Bool.and_true]
  cases h : askB a f 0
  · have e : inc8V a f = no3 := by unfold inc8V; rw [h]; rfl
    have h1 := h3.symm.trans h
    rw [e]
    clear e h3 h
    go_enter Tryz.func79, Tryz.ntmps79
    go_wp2_with (first | (go_at_call 32; refine (bytes_impl _ _ _).mono ?_; rintro e w' ⟨rfl, rfl⟩; rw [h1]))
    go_ret3
    exact ⟨rfl, rfl⟩
  · have e : inc8V a f = .tuple #[.int .i64 (incV a.toNat), .int .i64 (incF a.toNat f.toNat), .int .i64 0] := by unfold inc8V; rw [h]; rfl
    have h1 := h3.symm.trans h
    rw [e]
    obtain ⟨x, y, z, rfl, rfl, _, hx, hy, _⟩ := askB_yes h
    simp only [Int.toNat_natCast]
    clear e h h3
    go_enter Tryz.func79, Tryz.ntmps79
    go_wp2_with (first | (go_at_call 32; refine (bytes_impl _ _ _).mono ?_; rintro e w' ⟨rfl, rfl⟩; rw [h1]) | (go_at_call 124; refine (one_add _ _ _ hx hy hL).mono ?_; rintro e w' ⟨rfl, rfl⟩))
    go_ret3
    exact ⟨rfl, rfl⟩

def decH (a c : Nat) : Nat := Nat.lor (Nat.lor (Nat.lor (Nat.lor c (szN (decV a))) 2) (Nat.mul 16 (btN (Nat.beq (Nat.land a 15) 0)))) (Nat.mul 4 (btN (Nat.beq a 128)))
theorem dec_all : allB 256 (fun a => allB 2 fun c => Nat.beq (Nat.lor (Nat.lor (Nat.sub (subG a 1 0) (Nat.land (subG a 1 0) 1)) c) 2) (decH a c)) = true := by decide +kernel
theorem dec_keep (a f : Nat) (ha : a < 256) : Nat.lor (keepC (subG a 1 0) f) 2 = decF a f := by
  have hc : Nat.land f 1 < 2 ^ 1 := Nat.and_lt_two_pow _ (by decide)
  exact Nat.eq_of_beq_eq_true (allB_at (allB_at dec_all a ha) (Nat.land f 1) hc)
theorem subV_one (a : Nat) : subV a 1 0 = decV a := by
  rw [subV_mod, show decV a = (a + 255) % 256 from Nat.and_two_pow_sub_one_eq_mod (a + 255) 8]
  omega
theorem keepC_lt (g f : Nat) (hg : g < 256) : keepC g f < 256 := by
  have hc : Nat.land f 1 < 2 ^ 8 := Nat.lt_of_lt_of_le (Nat.and_lt_two_pow (n := 1) _ (by decide)) (by decide)
  have hs : Nat.sub g (Nat.land g 1) ≤ g := Nat.sub_le _ _
  exact Nat.or_lt_two_pow (n := 8) (by omega) hc
theorem one_sub (a f : Nat) (w : World) (ha : a < 256) (hf : f < 256) (hL : Flags w) :
    Calls Tryz.prog 124 #[.func (.func 126) #[] #[], .int .i64 a, .int .i64 f] w fun e w' => e = .returned (.tuple #[.int .i64 (decV a), .int .i64 (keepC (subG a 1 0) f)]) ∧ w' = w := by
  have E : Hid _ := keep_int (subG a 1 0) f (subG_lt _ _ _) hf
  have hv := subV_one a
  go_enter Tryz.func124, Tryz.ntmps124
  go_wp2_with (go_at_call 151; refine (rk_sub a 1 0 _ ha (by decide) (by decide) hL).mono ?_; rintro e w' ⟨rfl, rfl⟩; rw [hv])
  rw [E.out]
  go_ret2
  exact ⟨rfl, rfl⟩
theorem dec8_impl (a f : Int) (w : World) (hL : Flags w) : Calls Tryz.prog 81 #[.int .i64 a, .int .i64 f] w fun e w' => e = .returned (dec8V a f) ∧ w' = w := by
  have h3 : askB a f 0 = (inB a 0 255 && inB f 0 255) := by unfold askB; rw [show inB 0 0 1 = true by decide, Bool.and_true]
  cases h : askB a f 0
  · have e : dec8V a f = no3 := by unfold dec8V; rw [h]; rfl
    have h1 := h3.symm.trans h
    rw [e]
    clear e h3 h
    go_enter Tryz.func81, Tryz.ntmps81
    go_wp2_with (first | (go_at_call 32; refine (bytes_impl _ _ _).mono ?_; rintro e w' ⟨rfl, rfl⟩; rw [h1]))
    go_ret3
    exact ⟨rfl, rfl⟩
  · have e : dec8V a f = .tuple #[.int .i64 (decV a.toNat), .int .i64 (decF a.toNat f.toNat), .int .i64 0] := by unfold dec8V; rw [h]; rfl
    have h1 := h3.symm.trans h
    rw [e]
    obtain ⟨x, y, z, rfl, rfl, _, hx, hy, _⟩ := askB_yes h
    simp only [Int.toNat_natCast]
    have r : bits .or .i64 ((keepC (subG x 1 0) y : Nat) : Int) 2 = (decF x y : Nat) := by
      have hk := keepC_lt (subG x 1 0) y (subG_lt _ _ _)
      rw [← dec_keep x y hx]
      exact bOr _ 2 (by omega) (by omega)
    clear e h h3
    go_enter Tryz.func81, Tryz.ntmps81
    go_wp2_with (first | (go_at_call 32; refine (bytes_impl _ _ _).mono ?_; rintro e w' ⟨rfl, rfl⟩; rw [h1]) | (go_at_call 124; refine (one_sub _ _ _ hx hy hL).mono ?_; rintro e w' ⟨rfl, rfl⟩))
    go_ret3
    exact ⟨rfl, rfl⟩
end Go.Proofs.YtgpmpfikeindfaaGreatDoor
