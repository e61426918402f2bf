/- What the specification's turns answer, as plain functions of natural numbers. -/
import Derived.Test.YtffogcielohoeaaDoorAe
namespace Go.Proofs.YtffogcielohoeaaDoor
open Go.ChangeShapes Go.WideShapes Go.ChangeAt Go.RowKit
set_option linter.unusedVariables false

theorem orAnd (x y : Nat) (hx : x < 32768) (hy : y < 32768) : bits .and .i64 (bits .or .i64 (x : Int) (y : Int)) 255 = ((Nat.land (Nat.lor x y) 255 : Nat) : Int) := by
  have h1 : Nat.lor x y < 2 ^ 15 := Nat.or_lt_two_pow (by omega) (by omega)
  rw [bOr x y (by omega) (by omega)]
  exact bAnd _ 255 (by omega) (by omega)

def turnO (op a : Nat) : Nat := cond (Nat.beq (Nat.land op 1) 1) (Nat.land a 1) (Nat.div a 128)
def turnV : Nat → Nat → Nat → Nat
  | 0, a, _ => Nat.land (Nat.lor (Nat.mul a 2) (Nat.div a 128)) 255
  | 1, a, _ => Nat.land (Nat.lor (Nat.div a 2) (Nat.mul (Nat.land a 1) 128)) 255
  | 2, a, c => Nat.land (Nat.lor (Nat.mul a 2) c) 255
  | 3, a, c => Nat.land (Nat.lor (Nat.div a 2) (Nat.mul c 128)) 255
  | 4, a, _ => Nat.land (Nat.mul a 2) 255
  | 5, a, _ => Nat.land (Nat.lor (Nat.div a 2) (Nat.land a 128)) 255
  | 6, a, _ => Nat.land (Nat.lor (Nat.mul a 2) 1) 255
  | 7, a, _ => Nat.land (Nat.div a 2) 255
  | _, _, _ => 0
def turnF (op a c : Nat) : Nat := Nat.lor (szpN (turnV op a c)) (turnO op a)
def turnW (op a f : Nat) : Nat := turnV op a (Nat.land f 1)
def turnG (op a f : Nat) : Nat := turnF op a (Nat.land f 1)
theorem turn_spec (op a f : Nat) (w : World) (ho : op < 8) (ha : a < 256) (hf : f < 256) :
    Calls Tryd.prog 51 #[.int .i64 op, .int .i64 a, .int .i64 f] w fun e w' => e = .returned (.tuple #[.int .i64 (turnV op a (Nat.land f 1)), .int .i64 (turnF op a (Nat.land f 1))]) ∧ w' = w := by
  have h3 : op = 0 ∨ op = 1 ∨ op = 2 ∨ op = 3 ∨ op = 4 ∨ op = 5 ∨ op = 6 ∨ op = 7 := by omega
  have rc : bits .and .i64 (f : Int) 1 = (Nat.land f 1 : Nat) := bAnd f 1 (by omega) (by omega)
  have hc : Nat.land f 1 < 2 ^ 1 := Nat.and_lt_two_pow _ (by decide)
  have r0 : bits .and .i64 (a : Int) 1 = (Nat.land a 1 : Nat) := bAnd a 1 (by omega) (by omega)
  have h0 : Nat.land a 1 < 2 ^ 1 := Nat.and_lt_two_pow _ (by decide)
  have r7 : bits .and .i64 (a : Int) 128 = (Nat.land a 128 : Nat) := bAnd a 128 (by omega) (by omega)
  have h7 : Nat.land a 128 < 2 ^ 8 := Nat.and_lt_two_pow _ (by decide)
  have hF : ∀ o, turnF o a (Nat.land f 1) = Nat.lor (szpN (turnV o a (Nat.land f 1))) (turnO o a) := fun _ => rfl
  rcases h3 with rfl | rfl | rfl | rfl | rfl | rfl | rfl | rfl
  · have rV : bits .and .i64 (bits .or .i64 ((a : Int) * 2) ((a : Int) / 128)) 255 = (Nat.land (Nat.lor (Nat.mul a 2) (Nat.div a 128)) 255 : Nat) := orAnd (a * 2) (a / 128) (by omega) (by omega)
    have hV : Nat.land (Nat.lor (Nat.mul a 2) (Nat.div a 128)) 255 < 256 := Nat.and_lt_two_pow (n := 8) _ (by decide)
    have hz := szpN_lt _ hV
    have E : Hid (bits .or .i64 ((szpN (Nat.land (Nat.lor (Nat.mul a 2) (Nat.div a 128)) 255) : Nat) : Int) ((a : Int) / 128) = (Nat.lor (szpN (Nat.land (Nat.lor (Nat.mul a 2) (Nat.div a 128)) 255)) (Nat.div a 128) : Nat)) := bOr (szpN (Nat.land (Nat.lor (Nat.mul a 2) (Nat.div a 128)) 255)) (a / 128) (by omega) (by omega)
    show Calls _ _ _ _ fun e w' => e = .returned (.tuple #[.int .i64 (Nat.land (Nat.lor (Nat.mul a 2) (Nat.div a 128)) 255 : Nat), .int .i64 (Nat.lor (szpN (Nat.land (Nat.lor (Nat.mul a 2) (Nat.div a 128)) 255)) (Nat.div a 128) : Nat)]) ∧ w' = w
    clear hF
    generalize Nat.lor (szpN (Nat.land (Nat.lor (Nat.mul a 2) (Nat.div a 128)) 255)) (Nat.div a 128) = F at *
    generalize Nat.land (Nat.lor (Nat.mul a 2) (Nat.div a 128)) 255 = V at *
    generalize Nat.land a 1 = A0 at *
    generalize Nat.land a 128 = A7 at *
    generalize Nat.land f 1 = C1 at *
    go_enter Tryd.func51, Tryd.ntmps51
    go_wp2_with (first | (go_at_call 71; refine (szp_spec _ _ hV).mono ?_; rintro e w' ⟨rfl, rfl⟩) | go_in)
    go_ret2
    exact ⟨by rw [E.out]; rfl, rfl⟩
  · have rV : bits .and .i64 (bits .or .i64 ((a : Int) / 2) (((Nat.land a 1 : Nat) : Int) * 128)) 255 = (Nat.land (Nat.lor (Nat.div a 2) (Nat.mul (Nat.land a 1) 128)) 255 : Nat) := orAnd (a / 2) (Nat.land a 1 * 128) (by omega) (by omega)
    have hV : Nat.land (Nat.lor (Nat.div a 2) (Nat.mul (Nat.land a 1) 128)) 255 < 256 := Nat.and_lt_two_pow (n := 8) _ (by decide)
    have hz := szpN_lt _ hV
    have E : Hid (bits .or .i64 ((szpN (Nat.land (Nat.lor (Nat.div a 2) (Nat.mul (Nat.land a 1) 128)) 255) : Nat) : Int) ((Nat.land a 1 : Nat) : Int) = (Nat.lor (szpN (Nat.land (Nat.lor (Nat.div a 2) (Nat.mul (Nat.land a 1) 128)) 255)) (Nat.land a 1) : Nat)) := bOr (szpN (Nat.land (Nat.lor (Nat.div a 2) (Nat.mul (Nat.land a 1) 128)) 255)) (Nat.land a 1) (by omega) (by omega)
    show Calls _ _ _ _ fun e w' => e = .returned (.tuple #[.int .i64 (Nat.land (Nat.lor (Nat.div a 2) (Nat.mul (Nat.land a 1) 128)) 255 : Nat), .int .i64 (Nat.lor (szpN (Nat.land (Nat.lor (Nat.div a 2) (Nat.mul (Nat.land a 1) 128)) 255)) (Nat.land a 1) : Nat)]) ∧ w' = w
    clear hF
    generalize Nat.lor (szpN (Nat.land (Nat.lor (Nat.div a 2) (Nat.mul (Nat.land a 1) 128)) 255)) (Nat.land a 1) = F at *
    generalize Nat.land (Nat.lor (Nat.div a 2) (Nat.mul (Nat.land a 1) 128)) 255 = V at *
    generalize Nat.land a 1 = A0 at *
    generalize Nat.land a 128 = A7 at *
    generalize Nat.land f 1 = C1 at *
    go_enter Tryd.func51, Tryd.ntmps51
    go_wp2_with (first | (go_at_call 71; refine (szp_spec _ _ hV).mono ?_; rintro e w' ⟨rfl, rfl⟩) | go_in)
    go_ret2
    exact ⟨by rw [E.out]; rfl, rfl⟩
  · have rV : bits .and .i64 (bits .or .i64 ((a : Int) * 2) (((Nat.land f 1 : Nat) : Int))) 255 = (Nat.land (Nat.lor (Nat.mul a 2) (Nat.land f 1)) 255 : Nat) := orAnd (a * 2) (Nat.land f 1) (by omega) (by omega)
    have hV : Nat.land (Nat.lor (Nat.mul a 2) (Nat.land f 1)) 255 < 256 := Nat.and_lt_two_pow (n := 8) _ (by decide)
    have hz := szpN_lt _ hV
    have E : Hid (bits .or .i64 ((szpN (Nat.land (Nat.lor (Nat.mul a 2) (Nat.land f 1)) 255) : Nat) : Int) ((a : Int) / 128) = (Nat.lor (szpN (Nat.land (Nat.lor (Nat.mul a 2) (Nat.land f 1)) 255)) (Nat.div a 128) : Nat)) := bOr (szpN (Nat.land (Nat.lor (Nat.mul a 2) (Nat.land f 1)) 255)) (a / 128) (by omega) (by omega)
    show Calls _ _ _ _ fun e w' => e = .returned (.tuple #[.int .i64 (Nat.land (Nat.lor (Nat.mul a 2) (Nat.land f 1)) 255 : Nat), .int .i64 (Nat.lor (szpN (Nat.land (Nat.lor (Nat.mul a 2) (Nat.land f 1)) 255)) (Nat.div a 128) : Nat)]) ∧ w' = w
    clear hF
    generalize Nat.lor (szpN (Nat.land (Nat.lor (Nat.mul a 2) (Nat.land f 1)) 255)) (Nat.div a 128) = F at *
    generalize Nat.land (Nat.lor (Nat.mul a 2) (Nat.land f 1)) 255 = V at *
    generalize Nat.land a 1 = A0 at *
    generalize Nat.land a 128 = A7 at *
    generalize Nat.land f 1 = C1 at *
    go_enter Tryd.func51, Tryd.ntmps51
    go_wp2_with (first | (go_at_call 71; refine (szp_spec _ _ hV).mono ?_; rintro e w' ⟨rfl, rfl⟩) | go_in)
    go_ret2
    exact ⟨by rw [E.out]; rfl, rfl⟩
  · have rV : bits .and .i64 (bits .or .i64 ((a : Int) / 2) (((Nat.land f 1 : Nat) : Int) * 128)) 255 = (Nat.land (Nat.lor (Nat.div a 2) (Nat.mul (Nat.land f 1) 128)) 255 : Nat) := orAnd (a / 2) (Nat.land f 1 * 128) (by omega) (by omega)
    have hV : Nat.land (Nat.lor (Nat.div a 2) (Nat.mul (Nat.land f 1) 128)) 255 < 256 := Nat.and_lt_two_pow (n := 8) _ (by decide)
    have hz := szpN_lt _ hV
    have E : Hid (bits .or .i64 ((szpN (Nat.land (Nat.lor (Nat.div a 2) (Nat.mul (Nat.land f 1) 128)) 255) : Nat) : Int) ((Nat.land a 1 : Nat) : Int) = (Nat.lor (szpN (Nat.land (Nat.lor (Nat.div a 2) (Nat.mul (Nat.land f 1) 128)) 255)) (Nat.land a 1) : Nat)) := bOr (szpN (Nat.land (Nat.lor (Nat.div a 2) (Nat.mul (Nat.land f 1) 128)) 255)) (Nat.land a 1) (by omega) (by omega)
    show Calls _ _ _ _ fun e w' => e = .returned (.tuple #[.int .i64 (Nat.land (Nat.lor (Nat.div a 2) (Nat.mul (Nat.land f 1) 128)) 255 : Nat), .int .i64 (Nat.lor (szpN (Nat.land (Nat.lor (Nat.div a 2) (Nat.mul (Nat.land f 1) 128)) 255)) (Nat.land a 1) : Nat)]) ∧ w' = w
    clear hF
    generalize Nat.lor (szpN (Nat.land (Nat.lor (Nat.div a 2) (Nat.mul (Nat.land f 1) 128)) 255)) (Nat.land a 1) = F at *
    generalize Nat.land (Nat.lor (Nat.div a 2) (Nat.mul (Nat.land f 1) 128)) 255 = V at *
    generalize Nat.land a 1 = A0 at *
    generalize Nat.land a 128 = A7 at *
    generalize Nat.land f 1 = C1 at *
    go_enter Tryd.func51, Tryd.ntmps51
    go_wp2_with (first | (go_at_call 71; refine (szp_spec _ _ hV).mono ?_; rintro e w' ⟨rfl, rfl⟩) | go_in)
    go_ret2
    exact ⟨by rw [E.out]; rfl, rfl⟩
  · have rV : bits .and .i64 ((a : Int) * 2) 255 = (Nat.land (Nat.mul a 2) 255 : Nat) := bAnd (a * 2) 255 (by omega) (by omega)
    have hV : Nat.land (Nat.mul a 2) 255 < 256 := Nat.and_lt_two_pow (n := 8) _ (by decide)
    have hz := szpN_lt _ hV
    have E : Hid (bits .or .i64 ((szpN (Nat.land (Nat.mul a 2) 255) : Nat) : Int) ((a : Int) / 128) = (Nat.lor (szpN (Nat.land (Nat.mul a 2) 255)) (Nat.div a 128) : Nat)) := bOr (szpN (Nat.land (Nat.mul a 2) 255)) (a / 128) (by omega) (by omega)
    show Calls _ _ _ _ fun e w' => e = .returned (.tuple #[.int .i64 (Nat.land (Nat.mul a 2) 255 : Nat), .int .i64 (Nat.lor (szpN (Nat.land (Nat.mul a 2) 255)) (Nat.div a 128) : Nat)]) ∧ w' = w
    clear hF
    generalize Nat.lor (szpN (Nat.land (Nat.mul a 2) 255)) (Nat.div a 128) = F at *
    generalize Nat.land (Nat.mul a 2) 255 = V at *
    generalize Nat.land a 1 = A0 at *
    generalize Nat.land a 128 = A7 at *
    generalize Nat.land f 1 = C1 at *
    go_enter Tryd.func51, Tryd.ntmps51
    go_wp2_with (first | (go_at_call 71; refine (szp_spec _ _ hV).mono ?_; rintro e w' ⟨rfl, rfl⟩) | go_in)
    go_ret2
    exact ⟨by rw [E.out]; rfl, rfl⟩
  · have rV : bits .and .i64 (bits .or .i64 ((a : Int) / 2) (((Nat.land a 128 : Nat) : Int))) 255 = (Nat.land (Nat.lor (Nat.div a 2) (Nat.land a 128)) 255 : Nat) := orAnd (a / 2) (Nat.land a 128) (by omega) (by omega)
    have hV : Nat.land (Nat.lor (Nat.div a 2) (Nat.land a 128)) 255 < 256 := Nat.and_lt_two_pow (n := 8) _ (by decide)
    have hz := szpN_lt _ hV
    have E : Hid (bits .or .i64 ((szpN (Nat.land (Nat.lor (Nat.div a 2) (Nat.land a 128)) 255) : Nat) : Int) ((Nat.land a 1 : Nat) : Int) = (Nat.lor (szpN (Nat.land (Nat.lor (Nat.div a 2) (Nat.land a 128)) 255)) (Nat.land a 1) : Nat)) := bOr (szpN (Nat.land (Nat.lor (Nat.div a 2) (Nat.land a 128)) 255)) (Nat.land a 1) (by omega) (by omega)
    show Calls _ _ _ _ fun e w' => e = .returned (.tuple #[.int .i64 (Nat.land (Nat.lor (Nat.div a 2) (Nat.land a 128)) 255 : Nat), .int .i64 (Nat.lor (szpN (Nat.land (Nat.lor (Nat.div a 2) (Nat.land a 128)) 255)) (Nat.land a 1) : Nat)]) ∧ w' = w
    clear hF
    generalize Nat.lor (szpN (Nat.land (Nat.lor (Nat.div a 2) (Nat.land a 128)) 255)) (Nat.land a 1) = F at *
    generalize Nat.land (Nat.lor (Nat.div a 2) (Nat.land a 128)) 255 = V at *
    generalize Nat.land a 1 = A0 at *
    generalize Nat.land a 128 = A7 at *
    generalize Nat.land f 1 = C1 at *
    go_enter Tryd.func51, Tryd.ntmps51
    go_wp2_with (first | (go_at_call 71; refine (szp_spec _ _ hV).mono ?_; rintro e w' ⟨rfl, rfl⟩) | go_in)
    go_ret2
    exact ⟨by rw [E.out]; rfl, rfl⟩
  · have rV : bits .and .i64 (bits .or .i64 ((a : Int) * 2) (1)) 255 = (Nat.land (Nat.lor (Nat.mul a 2) 1) 255 : Nat) := orAnd (a * 2) (1) (by omega) (by omega)
    have hV : Nat.land (Nat.lor (Nat.mul a 2) 1) 255 < 256 := Nat.and_lt_two_pow (n := 8) _ (by decide)
    have hz := szpN_lt _ hV
    have E : Hid (bits .or .i64 ((szpN (Nat.land (Nat.lor (Nat.mul a 2) 1) 255) : Nat) : Int) ((a : Int) / 128) = (Nat.lor (szpN (Nat.land (Nat.lor (Nat.mul a 2) 1) 255)) (Nat.div a 128) : Nat)) := bOr (szpN (Nat.land (Nat.lor (Nat.mul a 2) 1) 255)) (a / 128) (by omega) (by omega)
    show Calls _ _ _ _ fun e w' => e = .returned (.tuple #[.int .i64 (Nat.land (Nat.lor (Nat.mul a 2) 1) 255 : Nat), .int .i64 (Nat.lor (szpN (Nat.land (Nat.lor (Nat.mul a 2) 1) 255)) (Nat.div a 128) : Nat)]) ∧ w' = w
    clear hF
    generalize Nat.lor (szpN (Nat.land (Nat.lor (Nat.mul a 2) 1) 255)) (Nat.div a 128) = F at *
    generalize Nat.land (Nat.lor (Nat.mul a 2) 1) 255 = V at *
    generalize Nat.land a 1 = A0 at *
    generalize Nat.land a 128 = A7 at *
    generalize Nat.land f 1 = C1 at *
    go_enter Tryd.func51, Tryd.ntmps51
    go_wp2_with (first | (go_at_call 71; refine (szp_spec _ _ hV).mono ?_; rintro e w' ⟨rfl, rfl⟩) | go_in)
    go_ret2
    exact ⟨by rw [E.out]; rfl, rfl⟩
  · have rV : bits .and .i64 ((a : Int) / 2) 255 = (Nat.land (Nat.div a 2) 255 : Nat) := bAnd (a / 2) 255 (by omega) (by omega)
    have hV : Nat.land (Nat.div a 2) 255 < 256 := Nat.and_lt_two_pow (n := 8) _ (by decide)
    have hz := szpN_lt _ hV
    have E : Hid (bits .or .i64 ((szpN (Nat.land (Nat.div a 2) 255) : Nat) : Int) ((Nat.land a 1 : Nat) : Int) = (Nat.lor (szpN (Nat.land (Nat.div a 2) 255)) (Nat.land a 1) : Nat)) := bOr (szpN (Nat.land (Nat.div a 2) 255)) (Nat.land a 1) (by omega) (by omega)
    show Calls _ _ _ _ fun e w' => e = .returned (.tuple #[.int .i64 (Nat.land (Nat.div a 2) 255 : Nat), .int .i64 (Nat.lor (szpN (Nat.land (Nat.div a 2) 255)) (Nat.land a 1) : Nat)]) ∧ w' = w
    clear hF
    generalize Nat.lor (szpN (Nat.land (Nat.div a 2) 255)) (Nat.land a 1) = F at *
    generalize Nat.land (Nat.div a 2) 255 = V at *
    generalize Nat.land a 1 = A0 at *
    generalize Nat.land a 128 = A7 at *
    generalize Nat.land f 1 = C1 at *
    go_enter Tryd.func51, Tryd.ntmps51
    go_wp2_with (first | (go_at_call 71; refine (szp_spec _ _ hV).mono ?_; rintro e w' ⟨rfl, rfl⟩) | go_in)
    go_ret2
    exact ⟨by rw [E.out]; rfl, rfl⟩
theorem turnw_spec (op a f : Nat) (w : World) (ho : op < 8) (ha : a < 256) (hf : f < 256) :
    Calls Tryd.prog 51 #[.int .i64 op, .int .i64 a, .int .i64 f] w fun e w' => e = .returned (.tuple #[.int .i64 (turnW op a f), .int .i64 (turnG op a f)]) ∧ w' = w := turn_spec op a f w ho ha hf
end Go.Proofs.YtffogcielohoeaaDoor
