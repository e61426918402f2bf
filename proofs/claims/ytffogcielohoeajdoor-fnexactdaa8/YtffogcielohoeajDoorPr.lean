/- What the program's reckoning answers, handed a sum or a difference: the byte and the flags that the specification reckons. -/
import Derived.Test.YtffogcielohoeajDoorPf
import Derived.Test.YtffogcielohoeajDoorAd
namespace Go.Proofs.YtffogcielohoeajDoor
open Go.ChangeShapes Go.WideShapes Go.ChangeAt Go.RowKit
set_option linter.unusedVariables false

theorem sum_impl (a b c : Int) (w : World) (ha : -1000 ≤ a ∧ a ≤ 1000) (hb : -1000 ≤ b ∧ b ≤ 1000) (hc : -1000 ≤ c ∧ c ≤ 1000) : Calls Tryd.prog 18 #[.int .i64 a, .int .i64 b, .int .i64 c] w fun e w' => e = .returned (.int .i64 (a + b + c)) ∧ w' = w := by
  go_enter Tryd.func18, Tryd.ntmps18
  go_wp2
  go_ret
  exact ⟨rfl, rfl⟩

def sgnI (a : Nat) : Int := if 128 ≤ a then (a : Int) - 256 else a
theorem sgnI_bd (a : Nat) (ha : a < 256) : -1000 ≤ sgnI a ∧ sgnI a ≤ 1000 := by unfold sgnI; split <;> omega

theorem lor_swap (a b c : Nat) : Nat.lor (Nat.lor a b) c = Nat.lor (Nat.lor a c) b := by
  show (a ||| b) ||| c = (a ||| c) ||| b
  rw [Nat.or_assoc, Nat.or_comm b c, ← Nat.or_assoc]
theorem hi_bit : ∀ x : Fin 256, Nat.land x.val 128 = cond (Nat.ble 128 x.val) 128 0 := by decide +kernel
theorem hi_of (x : Nat) (h : x < 256) : Nat.land x 128 = cond (Nat.ble 128 x) 128 0 := hi_bit ⟨x, h⟩
theorem hi_xor (x y : Nat) (hx : x < 256) (hy : y < 256) : Nat.beq (Nat.land (Nat.xor x y) 128) 0 = (Nat.ble 128 x == Nat.ble 128 y) := by
  have h : Nat.land (Nat.xor x y) 128 = Nat.xor (Nat.land x 128) (Nat.land y 128) := Nat.and_xor_distrib_right
  rw [h, hi_of x hx, hi_of y hy]
  cases Nat.ble 128 x <;> cases Nat.ble 128 y <;> rfl
theorem ble_iff (a b : Nat) : (Nat.ble a b = true) ↔ a ≤ b := by rw [Nat.ble_eq]
theorem ble_dec (a b : Nat) : Nat.ble a b = decide (a ≤ b) := by rw [Bool.eq_iff_iff, ble_iff, decide_eq_true_iff]
theorem bool_eq {p q : Bool} (h : p = true ↔ q = true) : p = q := by cases p <;> cases q <;> simp_all
theorem when_mul (x : Bool) (f : Nat) : whenN x f = Nat.mul f (btN x) := by cases x <;> simp [whenN, btN]
theorem when_one (x : Bool) : whenN x 1 = btN x := by cases x <;> rfl
theorem bt_one (x : Bool) : btN x < 2 ^ 8 := by cases x <;> decide
theorem bt_mul16 (x : Bool) : Nat.mul 16 (btN x) < 2 ^ 8 := by cases x <;> decide
theorem bt_mul4 (x : Bool) : Nat.mul 4 (btN x) < 2 ^ 8 := by cases x <;> decide
theorem dif_impl (a b c : Int) (w : World) (ha : -1000 ≤ a ∧ a ≤ 1000) (hb : -1000 ≤ b ∧ b ≤ 1000) (hc : -1000 ≤ c ∧ c ≤ 1000) : Calls Tryd.prog 19 #[.int .i64 a, .int .i64 b, .int .i64 c] w fun e w' => e = .returned (.int .i64 (a - b - c)) ∧ w' = w := by
  go_enter Tryd.func19, Tryd.ntmps19
  go_wp2
  go_ret
  exact ⟨rfl, rfl⟩
end Go.Proofs.YtffogcielohoeajDoor
