/- What the specification's unit answers, part by part, as plain functions of natural numbers. -/
import Derived.Test.YtffogcielohoeaaDoorBt
import Derived.Test.YtffogcielohoeaaDoorPa
import Derived.Test.YtffogcielohoeaaDoorIn
namespace Go.Proofs.YtffogcielohoeaaDoor
open Go.ChangeShapes Go.WideShapes Go.ChangeAt Go.RowKit
set_option linter.unusedVariables false

def szN (v : Nat) : Nat := Nat.lor (Nat.land v 168) (Nat.mul 64 (btN (Nat.beq v 0)))
theorem szN_lt (v : Nat) (hv : v < 256) : szN v < 256 := by
  have h1 : Nat.land v 168 < 2 ^ 8 := Nat.and_lt_two_pow _ (by omega)
  have h2 : Nat.mul 64 (btN (Nat.beq v 0)) < 2 ^ 8 := by unfold btN; cases Nat.beq v 0 <;> decide
  exact Nat.or_lt_two_pow h1 h2
theorem sz_all : allB 256 (fun v => or (Nat.beq v 0) (decide (bits .or .i64 (bits .and .i64 (Int.ofNat v) 168) 0 = Int.ofNat (szN v)))) = true := by decide +kernel
theorem sz_end (v : Nat) (hv : v < 256) (h : v ≠ 0) : bits .or .i64 (bits .and .i64 (v : Int) 168) 0 = (szN v : Nat) := by
  have := allB_at sz_all v hv
  have h4 : Nat.beq v 0 = false := by cases v with | zero => omega | succ n => rfl
  rw [h4, Bool.false_or] at this
  exact of_decide_eq_true this
theorem sz_spec (v : Nat) (w : World) (hv : v < 256) : Calls Tryd.prog 58 #[.int .i64 v] w fun e w' => e = .returned (.int .i64 (szN v)) ∧ w' = w := by
  by_cases h : v = 0
  · subst h
    go_enter Tryd.func58, Tryd.ntmps58
    go_wp2
    go_ret
    exact ⟨ret_int (by decide), rfl⟩
  · have h3 : ((v : Int) == 0) = false := by simp; omega
    go_enter Tryd.func58, Tryd.ntmps58
    go_wp2
    go_ret
    exact ⟨ret_int (sz_end v hv h), rfl⟩

def szpN (v : Nat) : Nat := Nat.lor (szN v) (Nat.mul 4 (btN (!prf 8 v)))
theorem szpN_lt (v : Nat) (hv : v < 256) : szpN v < 256 := by
  have h2 : Nat.mul 4 (btN (!prf 8 v)) < 2 ^ 8 := by unfold btN; cases (!prf 8 v) <;> decide
  exact Nat.or_lt_two_pow (n := 8) (szN_lt v hv) h2
theorem szp_yes (v : Nat) (hv : v < 256) (h : prf 8 v = false) : bits .or .i64 ((szN v : Nat) : Int) 4 = (szpN v : Nat) := by
  have hl := szN_lt v hv
  have h2 : bits .or .i64 ((szN v : Nat) : Int) 4 = _ := bOr (szN v) 4 (by omega) (by omega)
  rw [h2]
  unfold szpN
  rw [h]
  rfl
theorem szp_no (v : Nat) (hv : v < 256) (h : prf 8 v = true) : bits .or .i64 ((szN v : Nat) : Int) 0 = (szpN v : Nat) := by
  have hl := szN_lt v hv
  have h2 : bits .or .i64 ((szN v : Nat) : Int) 0 = _ := bOr (szN v) 0 (by omega) (by omega)
  rw [h2]
  unfold szpN
  rw [h]
  rfl
theorem szp_spec (v : Nat) (w : World) (hv : v < 256) : Calls Tryd.prog 71 #[.int .i64 v] w fun e w' => e = .returned (.int .i64 (szpN v)) ∧ w' = w := by
  cases hp : prf 8 v
  · go_enter Tryd.func71, Tryd.ntmps71
    go_wp2_with (first | (go_at_call 58; refine (sz_spec _ _ hv).mono ?_; rintro e w' ⟨rfl, rfl⟩) | (go_at_call 75; refine (par_spec _ _ hv).mono ?_; rintro e w' ⟨rfl, rfl⟩; rw [hp]) | go_in)
    go_ret
    exact ⟨ret_int (szp_yes v hv hp), rfl⟩
  · go_enter Tryd.func71, Tryd.ntmps71
    go_wp2_with (first | (go_at_call 58; refine (sz_spec _ _ hv).mono ?_; rintro e w' ⟨rfl, rfl⟩) | (go_at_call 75; refine (par_spec _ _ hv).mono ?_; rintro e w' ⟨rfl, rfl⟩; rw [hp]) | go_in)
    go_ret
    exact ⟨ret_int (szp_no v hv hp), rfl⟩

theorem bit_spec (b : Bool) (w : World) : Calls Tryd.prog 59 #[.bool b] w fun e w' => e = .returned (.int .i64 (btN b)) ∧ w' = w := by
  cases b
  all_goals
    go_enter Tryd.func59, Tryd.ntmps59
    go_wp2
    go_ret
    exact ⟨rfl, rfl⟩

/-- two bytes and a carry -/
def askB (a b c : Int) : Bool := inB a 0 255 && inB b 0 255 && inB c 0 1
theorem byte_spec (v : Int) (w : World) : Calls Tryd.prog 57 #[.int .i64 v] w fun e w' => e = .returned (.bool (inB v 0 255)) ∧ w' = w := by
  go_enter Tryd.func57, Tryd.ntmps57
  go_wp2_with (go_at_call 43; refine (in_spec _ _ _ _).mono ?_; rintro e w' ⟨rfl, rfl⟩)
  go_ret
  exact ⟨rfl, rfl⟩
theorem ask_spec (a b c : Int) (w : World) : Calls Tryd.prog 36 #[.int .i64 a, .int .i64 b, .int .i64 c] w fun e w' => e = .returned (.bool (askB a b c)) ∧ w' = w := by
  cases h1 : inB a 0 255
  · go_enter Tryd.func36, Tryd.ntmps36
    go_wp2_with (first | (go_at_call 57; refine (byte_spec _ _).mono ?_; rintro e w' ⟨rfl, rfl⟩) | (go_at_call 43; refine (in_spec _ _ _ _).mono ?_; rintro e w' ⟨rfl, rfl⟩))
    go_ret
    exact ⟨ret_bool (by simp [askB, h1]), rfl⟩
  · cases h2 : inB b 0 255
    · go_enter Tryd.func36, Tryd.ntmps36
      go_wp2_with (first | (go_at_call 57; refine (byte_spec _ _).mono ?_; rintro e w' ⟨rfl, rfl⟩) | (go_at_call 43; refine (in_spec _ _ _ _).mono ?_; rintro e w' ⟨rfl, rfl⟩))
      go_ret
      exact ⟨ret_bool (by simp [askB, h1, h2]), rfl⟩
    · go_enter Tryd.func36, Tryd.ntmps36
      go_wp2_with (first | (go_at_call 57; refine (byte_spec _ _).mono ?_; rintro e w' ⟨rfl, rfl⟩) | (go_at_call 43; refine (in_spec _ _ _ _).mono ?_; rintro e w' ⟨rfl, rfl⟩))
      go_ret
      exact ⟨ret_bool (by simp [askB, h1, h2]), rfl⟩
end Go.Proofs.YtffogcielohoeaaDoor
