/- What the program's reckoning answers, handed a sum or a difference: the byte and the flags that the specification reckons. -/
import Derived.Test.YtffogcielohoeaaDoorPf
import Derived.Test.YtffogcielohoeaaDoorAd
namespace Go.Proofs.YtffogcielohoeaaDoor
open Go.ChangeShapes Go.WideShapes Go.ChangeAt Go.RowKit
set_option linter.unusedVariables false

theorem sum_impl (a b c : Int) (w : World) (ha : -1000 ≤ a ∧ a ≤ 1000) (hb : -1000 ≤ b ∧ b ≤ 1000) (hc : -1000 ≤ c ∧ c ≤ 1000) : Calls Tryd.prog 35 #[.int .i64 a, .int .i64 b, .int .i64 c] w fun e w' => e = .returned (.int .i64 (a + b + c)) ∧ w' = w := by
  go_enter Tryd.func35, Tryd.ntmps35
  go_wp2
  go_ret
  exact ⟨rfl, rfl⟩

def sgnI (a : Nat) : Int := if 128 ≤ a then (a : Int) - 256 else a
theorem sgnI_bd (a : Nat) (ha : a < 256) : -1000 ≤ sgnI a ∧ sgnI a ≤ 1000 := by unfold sgnI; split <;> omega
theorem signed_impl (a : Nat) (w : World) (ha : a < 256) : Calls Tryd.prog 55 #[.int .i64 a] w fun e w' => e = .returned (.int .i64 (sgnI a)) ∧ w' = w := by
  by_cases h : 128 ≤ a
  · have e : sgnI a = (a : Int) - 256 := by unfold sgnI; rw [if_pos h]
    rw [e]
    go_enter Tryd.func55, Tryd.ntmps55
    go_wp2
    go_ret
    exact ⟨rfl, rfl⟩
  · have e : sgnI a = (a : Int) := by unfold sgnI; rw [if_neg h]
    rw [e]
    go_enter Tryd.func55, Tryd.ntmps55
    go_wp2
    go_ret
    exact ⟨rfl, rfl⟩

theorem lor_swap (a b c : Nat) : Nat.lor (Nat.lor a b) c = Nat.lor (Nat.lor a c) b := by
  show (a ||| b) ||| c = (a ||| c) ||| b
  rw [Nat.or_assoc, Nat.or_comm b c, ← Nat.or_assoc]
theorem hi_bit : ∀ x : Fin 256, Nat.land x.val 128 = cond (Nat.ble 128 x.val) 128 0 := by decide +kernel
theorem hi_of (x : Nat) (h : x < 256) : Nat.land x 128 = cond (Nat.ble 128 x) 128 0 := hi_bit ⟨x, h⟩
theorem hi_xor (x y : Nat) (hx : x < 256) (hy : y < 256) : Nat.beq (Nat.land (Nat.xor x y) 128) 0 = (Nat.ble 128 x == Nat.ble 128 y) := by
  have h : Nat.land (Nat.xor x y) 128 = Nat.xor (Nat.land x 128) (Nat.land y 128) := Nat.and_xor_distrib_right
  rw [h, hi_of x hx, hi_of y hy]
  cases Nat.ble 128 x <;> cases Nat.ble 128 y <;> rfl
theorem ble_iff (a b : Nat) : (Nat.ble a b = true) ↔ a ≤ b := by rw [Nat.ble_eq]
theorem ble_dec (a b : Nat) : Nat.ble a b = decide (a ≤ b) := by rw [Bool.eq_iff_iff, ble_iff, decide_eq_true_iff]
theorem bool_eq {p q : Bool} (h : p = true ↔ q = true) : p = q := by cases p <;> cases q <;> simp_all
theorem when_mul (x : Bool) (f : Nat) : whenN x f = Nat.mul f (btN x) := by cases x <;> simp [whenN, btN]
theorem when_one (x : Bool) : whenN x 1 = btN x := by cases x <;> rfl
theorem bt_one (x : Bool) : btN x < 2 ^ 8 := by cases x <;> decide
theorem bt_mul16 (x : Bool) : Nat.mul 16 (btN x) < 2 ^ 8 := by cases x <;> decide
theorem bt_mul4 (x : Bool) : Nat.mul 4 (btN x) < 2 ^ 8 := by cases x <;> decide
theorem addF_lt (a b c : Nat) : addF a b c < 256 := by
  unfold addF
  refine Nat.or_lt_two_pow (n := 8) (Nat.or_lt_two_pow (Nat.or_lt_two_pow (szN_lt _ (addV_lt a b c)) ?_) ?_) ?_
  · exact bt_one _
  · exact bt_mul16 _
  · exact bt_mul4 _
theorem addV_mod (a b c : Nat) : addV a b c = (a + b + c) % 256 := Nat.and_two_pow_sub_one_eq_mod (a + b + c) 8
theorem addP (a b c : Nat) (ha : a < 256) (hb : b < 256) (hc : c < 2) :
    (!inB (sgnI a + sgnI b + (c : Int)) (-128) 127) = and (Nat.beq (Nat.land (Nat.xor a b) 128) 0) (not (Nat.beq (Nat.land (Nat.xor a (addV a b c)) 128) 0)) := by
  rw [hi_xor a b ha hb, hi_xor a _ ha (addV_lt a b c), addV_mod]
  rw [ble_dec, ble_dec, ble_dec]
  by_cases p : 128 ≤ a <;> by_cases q : 128 ≤ b <;> by_cases r : 128 ≤ (a + b + c) % 256 <;> simp [p, q, r, inB, sgnI] <;> omega
theorem addF_rk (a b c A1 B1 : Nat) (ha : a < 256) (hb : b < 256) (hc : c < 2) (hA1 : Nat.land a 15 = A1) (hB1 : Nat.land b 15 = B1) :
    bits .or .i64 (bits .or .i64 (bits .or .i64 ((szN (addV a b c) : Nat) : Int) (whenI (!inB ((A1 : Int) + B1 + c) 0 15) 16)) (whenI (!inB ((a : Int) + b + c) 0 255) 1)) (whenI (!inB (sgnI a + sgnI b + (c : Int)) (-128) 127) 4) = (addF a b c : Nat) := by
  have h1 : (!inB ((A1 : Int) + B1 + c) 0 15) = Nat.ble 16 (A1 + B1 + c) := by
    apply bool_eq; simp only [Bool.not_eq_true', inB, decide_eq_false_iff_not, ble_iff]; omega
  have h2 : (!inB ((a : Int) + b + c) 0 255) = Nat.ble 256 (a + b + c) := by
    apply bool_eq; simp only [Bool.not_eq_true', inB, decide_eq_false_iff_not, ble_iff]; omega
  rw [h1, h2, addP a b c ha hb hc]
  rw [show ∀ x, whenI x 16 = _ from fun x => when_nat x 16, show ∀ x, whenI x 1 = _ from fun x => when_nat x 1, show ∀ x, whenI x 4 = _ from fun x => when_nat x 4]
  rw [or4 _ _ _ _ (szN_lt _ (addV_lt a b c)) (whenN_lt _ _ _ (by decide)) (whenN_lt _ _ _ (by decide)) (whenN_lt _ _ _ (by decide))]
  subst hA1 hB1
  unfold addF
  rw [lor_swap (szN (addV a b c))]
  rw [when_mul _ 16, when_mul _ 4, when_one]
  rfl
theorem rk_add (a b c : Nat) (w : World) (ha : a < 256) (hb : b < 256) (hc : c < 2) (hL : Flags w) :
    Calls Tryd.prog 34 #[.func (.func 35) #[] #[], .int .i64 a, .int .i64 b, .int .i64 c] w fun e w' => e = .returned (.tuple #[.int .i64 (addV a b c), .int .i64 (addF a b c)]) ∧ w' = w := by
  have hA : Nat.land a 15 < 2 ^ 4 := Nat.and_lt_two_pow _ (by decide)
  have hB : Nat.land b 15 < 2 ^ 4 := Nat.and_lt_two_pow _ (by decide)
  have r1 : bits .and .i64 ((a : Int) + b + c) 255 = (addV a b c : Nat) := bAnd (a + b + c) 255 (by omega) (by omega)
  have r2 : bits .and .i64 (a : Int) 15 = (Nat.land a 15 : Nat) := bAnd a 15 (by omega) (by omega)
  have r3 : bits .and .i64 (b : Int) 15 = (Nat.land b 15 : Nat) := bAnd b 15 (by omega) (by omega)
  have hV := addV_lt a b c
  have hs := sgnI_bd a ha
  have ht := sgnI_bd b hb
  have E : Hid _ := addF_rk a b c _ _ ha hb hc rfl rfl
  generalize Nat.land a 15 = A1 at *
  generalize Nat.land b 15 = B1 at *
  generalize addF a b c = F at *
  generalize addV a b c = V at *
  generalize hS : sgnI a = S at *
  generalize hT : sgnI b = T at *
  replace hS : Hid _ := hS
  replace hT : Hid _ := hT
  go_enter Tryd.func34, Tryd.ntmps34
  go_wp2_with (first | (go_at_call 35; refine (sum_impl _ _ _ _ (by omega) (by omega) (by omega)).mono ?_; rintro e w' ⟨rfl, rfl⟩) | (go_at_call 55; refine (signed_impl _ _ (by omega)).mono ?_; rintro e w' ⟨rfl, rfl⟩; first | rw [hS.out] | rw [hT.out]) | (go_at_call 56; refine (rf_impl _ _ hV hL).mono ?_; rintro e w' ⟨rfl, rfl⟩) | (go_at_call 33; refine (within_impl _ _ _ _).mono ?_; rintro e w' ⟨rfl, rfl⟩) | (go_at_call 42; refine (when_impl _ _ _).mono ?_; rintro e w' ⟨rfl, rfl⟩))
  rw [E.out]
  go_ret2
  exact ⟨rfl, rfl⟩
theorem dif_impl (a b c : Int) (w : World) (ha : -1000 ≤ a ∧ a ≤ 1000) (hb : -1000 ≤ b ∧ b ≤ 1000) (hc : -1000 ≤ c ∧ c ≤ 1000) : Calls Tryd.prog 38 #[.int .i64 a, .int .i64 b, .int .i64 c] w fun e w' => e = .returned (.int .i64 (a - b - c)) ∧ w' = w := by
  go_enter Tryd.func38, Tryd.ntmps38
  go_wp2
  go_ret
  exact ⟨rfl, rfl⟩
/-- the flags of a difference, but for its mark -/
def subG (a b c : Nat) : Nat :=
  Nat.lor (Nat.lor (Nat.lor (szN (subV a b c)) (Nat.mul 16 (btN (Nat.ble (Nat.add (Nat.land a 15) 1) (Nat.add (Nat.land b 15) c))))) (btN (Nat.ble (Nat.add a 1) (Nat.add b c))))
    (Nat.mul 4 (btN (and (not (Nat.beq (Nat.land (Nat.xor a b) 128) 0)) (not (Nat.beq (Nat.land (Nat.xor a (subV a b c)) 128) 0)))))
theorem subV_mod (a b c : Nat) : subV a b c = (a + 512 - b - c) % 256 := Nat.and_two_pow_sub_one_eq_mod (a + 512 - b - c) 8
theorem subP (a b c : Nat) (ha : a < 256) (hb : b < 256) (hc : c < 2) :
    (!inB (sgnI a - sgnI b - (c : Int)) (-128) 127) = and (not (Nat.beq (Nat.land (Nat.xor a b) 128) 0)) (not (Nat.beq (Nat.land (Nat.xor a (subV a b c)) 128) 0)) := by
  rw [hi_xor a b ha hb, hi_xor a _ ha (subV_lt a b c), subV_mod]
  rw [ble_dec, ble_dec, ble_dec]
  by_cases p : 128 ≤ a <;> by_cases q : 128 ≤ b <;> by_cases r : 128 ≤ (a + 512 - b - c) % 256 <;> simp [p, q, r, inB, sgnI] <;> omega
theorem subG_rk (a b c A1 B1 : Nat) (ha : a < 256) (hb : b < 256) (hc : c < 2) (hA1 : Nat.land a 15 = A1) (hB1 : Nat.land b 15 = B1) :
    bits .or .i64 (bits .or .i64 (bits .or .i64 ((szN (subV a b c) : Nat) : Int) (whenI (!inB ((A1 : Int) - B1 - c) 0 15) 16)) (whenI (!inB ((a : Int) - b - c) 0 255) 1)) (whenI (!inB (sgnI a - sgnI b - (c : Int)) (-128) 127) 4) = (subG a b c : Nat) := by
  have hA : Nat.land a 15 < 2 ^ 4 := Nat.and_lt_two_pow _ (by decide)
  have hB : Nat.land b 15 < 2 ^ 4 := Nat.and_lt_two_pow _ (by decide)
  have h1 : (!inB ((A1 : Int) - B1 - c) 0 15) = Nat.ble (A1 + 1) (B1 + c) := by
    apply bool_eq; simp only [Bool.not_eq_true', inB, decide_eq_false_iff_not, ble_iff]; omega
  have h2 : (!inB ((a : Int) - b - c) 0 255) = Nat.ble (a + 1) (b + c) := by
    apply bool_eq; simp only [Bool.not_eq_true', inB, decide_eq_false_iff_not, ble_iff]; omega
  rw [h1, h2, subP a b c ha hb hc]
  rw [show ∀ x, whenI x 16 = _ from fun x => when_nat x 16, show ∀ x, whenI x 1 = _ from fun x => when_nat x 1, show ∀ x, whenI x 4 = _ from fun x => when_nat x 4]
  rw [or4 _ _ _ _ (szN_lt _ (subV_lt a b c)) (whenN_lt _ _ _ (by decide)) (whenN_lt _ _ _ (by decide)) (whenN_lt _ _ _ (by decide))]
  subst hA1 hB1
  unfold subG
  rw [when_mul _ 16, when_mul _ 4, when_one]
  rfl
theorem subG_F (a b c : Nat) : Nat.lor (subG a b c) 2 = subF a b c := by
  unfold subG subF
  rw [lor_swap _ _ 2, lor_swap _ _ 2, lor_swap _ _ 2, lor_swap (Nat.lor (szN (subV a b c)) 2)]
theorem subG_lt (a b c : Nat) : subG a b c < 256 := by
  unfold subG
  refine Nat.or_lt_two_pow (n := 8) (Nat.or_lt_two_pow (Nat.or_lt_two_pow (szN_lt _ (subV_lt a b c)) ?_) ?_) ?_
  · exact bt_mul16 _
  · exact bt_one _
  · exact bt_mul4 _
theorem rk_sub (a b c : Nat) (w : World) (ha : a < 256) (hb : b < 256) (hc : c < 2) (hL : Flags w) :
    Calls Tryd.prog 34 #[.func (.func 38) #[] #[], .int .i64 a, .int .i64 b, .int .i64 c] w fun e w' => e = .returned (.tuple #[.int .i64 (subV a b c), .int .i64 (subG a b c)]) ∧ w' = w := by
  have hA : Nat.land a 15 < 2 ^ 4 := Nat.and_lt_two_pow _ (by decide)
  have hB : Nat.land b 15 < 2 ^ 4 := Nat.and_lt_two_pow _ (by decide)
  have r1 : bits .and .i64 ((a : Int) - b - c) 255 = (subV a b c : Nat) := subV_int a b c ha hb hc
  have r2 : bits .and .i64 (a : Int) 15 = (Nat.land a 15 : Nat) := bAnd a 15 (by omega) (by omega)
  have r3 : bits .and .i64 (b : Int) 15 = (Nat.land b 15 : Nat) := bAnd b 15 (by omega) (by omega)
  have hV := subV_lt a b c
  have hs := sgnI_bd a ha
  have ht := sgnI_bd b hb
  have E : Hid _ := subG_rk a b c _ _ ha hb hc rfl rfl
  generalize Nat.land a 15 = A1 at *
  generalize Nat.land b 15 = B1 at *
  generalize subG a b c = F at *
  generalize subV a b c = V at *
  generalize hS : sgnI a = S at *
  generalize hT : sgnI b = T at *
  replace hS : Hid _ := hS
  replace hT : Hid _ := hT
  go_enter Tryd.func34, Tryd.ntmps34
  go_wp2_with (first | (go_at_call 38; refine (dif_impl _ _ _ _ (by omega) (by omega) (by omega)).mono ?_; rintro e w' ⟨rfl, rfl⟩) | (go_at_call 55; refine (signed_impl _ _ (by omega)).mono ?_; rintro e w' ⟨rfl, rfl⟩; first | rw [hS.out] | rw [hT.out]) | (go_at_call 56; refine (rf_impl _ _ hV hL).mono ?_; rintro e w' ⟨rfl, rfl⟩) | (go_at_call 33; refine (within_impl _ _ _ _).mono ?_; rintro e w' ⟨rfl, rfl⟩) | (go_at_call 42; refine (when_impl _ _ _).mono ?_; rintro e w' ⟨rfl, rfl⟩))
  rw [E.out]
  go_ret2
  exact ⟨rfl, rfl⟩
end Go.Proofs.YtffogcielohoeaaDoor
