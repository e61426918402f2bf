/- What the parts of the program's unit answer: its tests, its choice of a flag, its flags of a result. -/
import Derived.Test.YtffogcielohoeaaDoorAu
namespace Go.Proofs.YtffogcielohoeaaDoor
open Go.ChangeShapes Go.WideShapes Go.ChangeAt Go.RowKit
set_option linter.unusedVariables false

theorem within_impl (n a b : Int) (w : World) : Calls Tryd.prog 33 #[.int .i64 n, .int .i64 a, .int .i64 b] w fun e w' => e = .returned (.bool (inB n a b)) ∧ w' = w := by
  go_enter Tryd.func33, Tryd.ntmps33
  go_wp2
  all_goals go_ret
  all_goals exact ⟨ret_bool (by rw [Bool.eq_iff_iff]; simp [inB]; try omega), rfl⟩

theorem isbyte_impl (n : Int) (w : World) : Calls Tryd.prog 45 #[.int .i64 n] w fun e w' => e = .returned (.bool (inB n 0 255)) ∧ w' = w := by
  go_enter Tryd.func45, Tryd.ntmps45
  go_wp2
  all_goals go_ret
  all_goals exact ⟨ret_bool (by rw [Bool.eq_iff_iff]; simp [inB]; try omega), rfl⟩

theorem bytes_impl (a b : Int) (w : World) : Calls Tryd.prog 32 #[.int .i64 a, .int .i64 b] w fun e w' => e = .returned (.bool (inB a 0 255 && inB b 0 255)) ∧ w' = w := by
  cases h1 : inB a 0 255
  all_goals
    go_enter Tryd.func32, Tryd.ntmps32
    go_wp2_with (go_at_call 45; refine (isbyte_impl _ _).mono ?_; rintro e w' ⟨rfl, rfl⟩)
    go_ret
    exact ⟨ret_bool (by simp), rfl⟩

/-- a flag where a test holds -/
def whenI (b : Bool) (f : Int) : Int := cond b f 0
def whenN (b : Bool) (f : Nat) : Nat := cond b f 0
theorem when_nat (b : Bool) (f : Nat) : whenI b (f : Int) = (whenN b f : Nat) := by cases b <;> rfl
theorem whenN_lt (b : Bool) (f n : Nat) (h : f < n) : whenN b f < n := by cases b <;> simp [whenN] <;> omega
theorem when_impl (b : Bool) (f : Int) (w : World) : Calls Tryd.prog 42 #[.bool b, .int .i64 f] w fun e w' => e = .returned (.int .i64 (whenI b f)) ∧ w' = w := by
  cases b
  all_goals
    go_enter Tryd.func42, Tryd.ntmps42
    go_wp2
    go_ret
    exact ⟨rfl, rfl⟩

/-- the table of flags that are bits of a result, in its block -/
def Flags (w : World) : Prop := w.cell? ⟨3, 0, none⟩ = some (.int .i64 128) ∧ w.cell? ⟨3, 1, none⟩ = some (.int .i64 32) ∧ w.cell? ⟨3, 2, none⟩ = some (.int .i64 8)
theorem flags_below {w w' : World} (h : Flags w) (hb : Below w.heap.size w w') : Flags w' := by
  obtain ⟨h0, h1, h2⟩ := h
  have k0 := World.block_lt_of_cell? w _ h0
  refine ⟨?_, ?_, ?_⟩
  · rw [hb.cell (p := ⟨3, 0, none⟩) k0]; exact h0
  · rw [hb.cell (p := ⟨3, 1, none⟩) k0]; exact h1
  · rw [hb.cell (p := ⟨3, 2, none⟩) k0]; exact h2

def rfL (v : Nat) : Nat → Nat
  | 0 => whenN (Nat.beq v 0) 64
  | 1 => Nat.lor (whenN (Nat.beq v 0) 64) (Nat.land v 128)
  | 2 => Nat.lor (Nat.lor (whenN (Nat.beq v 0) 64) (Nat.land v 128)) (Nat.land v 32)
  | _ => Nat.lor (Nat.lor (Nat.lor (whenN (Nat.beq v 0) 64) (Nat.land v 128)) (Nat.land v 32)) (Nat.land v 8)
theorem rf_all : allB 256 (fun v => Nat.beq (rfL v 3) (szN v)) = true := by decide +kernel
theorem rfL_lt (v k : Nat) (hv : v < 256) : rfL v k < 256 := by
  have h0 : whenN (Nat.beq v 0) 64 < 2 ^ 8 := whenN_lt _ _ _ (by decide)
  have h1 : Nat.land v 128 < 2 ^ 8 := Nat.and_lt_two_pow _ (by decide)
  have h2 : Nat.land v 32 < 2 ^ 8 := Nat.and_lt_two_pow _ (by decide)
  have h3 : Nat.land v 8 < 2 ^ 8 := Nat.and_lt_two_pow _ (by decide)
  unfold rfL
  split
  · exact h0
  · exact Nat.or_lt_two_pow (n := 8) h0 h1
  · exact Nat.or_lt_two_pow (n := 8) (Nat.or_lt_two_pow h0 h1) h2
  · exact Nat.or_lt_two_pow (n := 8) (Nat.or_lt_two_pow (Nat.or_lt_two_pow h0 h1) h2) h3
theorem eq0_nat (v : Nat) : ((v : Int) == 0) = Nat.beq v 0 := by cases v with | zero => rfl | succ n => rfl
theorem rf_step (v k f : Nat) (hv : v < 256) (hf : f < 256) (i : Int) (hi : i = (f : Int)) : bits .or .i64 ((rfL v k : Nat) : Int) (bits .and .i64 (v : Int) i) = ((Nat.lor (rfL v k) (Nat.land v f) : Nat) : Int) := by
  subst hi
  have h1 : Nat.land v f < 2 ^ 8 := Nat.and_lt_two_pow _ hf
  have h2 := rfL_lt v k hv
  rw [bAnd v f (by omega) (by omega), bOr _ _ (by omega) (by omega)]
theorem rf_step0 (v : Nat) (hv : v < 256) : bits .or .i64 ((rfL v 0 : Nat) : Int) (bits .and .i64 (v : Int) 128) = (rfL v 1 : Nat) := rf_step v 0 128 hv (by decide) _ rfl
theorem rf_step1 (v : Nat) (hv : v < 256) : bits .or .i64 ((rfL v 1 : Nat) : Int) (bits .and .i64 (v : Int) 32) = (rfL v 2 : Nat) := rf_step v 1 32 hv (by decide) _ rfl
theorem rf_step2 (v : Nat) (hv : v < 256) : bits .or .i64 ((rfL v 2 : Nat) : Int) (bits .and .i64 (v : Int) 8) = (rfL v 3 : Nat) := rf_step v 2 8 hv (by decide) _ rfl
theorem rf_impl (v : Nat) (w : World) (hv : v < 256) (hL : Flags w) : Calls Tryd.prog 56 #[.int .i64 v] w fun e w' => e = .returned (.int .i64 (szN v)) ∧ w' = w := by
  obtain ⟨h0, h1, h2⟩ := hL
  have i0 : ∀ w, (Instr.index 76 (.agg #[.int .i64 128, .int .i64 32, .int .i64 8]) (.int .i64 0)).run Tryd.prog w = .ok (.int .i64 128) w := fun _ => by kernel_rfl
  have i1 : ∀ w, (Instr.index 76 (.agg #[.int .i64 128, .int .i64 32, .int .i64 8]) (.int .i64 1)).run Tryd.prog w = .ok (.int .i64 32) w := fun _ => by kernel_rfl
  have i2 : ∀ w, (Instr.index 76 (.agg #[.int .i64 128, .int .i64 32, .int .i64 8]) (.int .i64 2)).run Tryd.prog w = .ok (.int .i64 8) w := fun _ => by kernel_rfl
  go_enter Tryd.func56, Tryd.ntmps56
  go_wp2_with (go_at_call 42; refine (when_impl _ _ _).mono ?_; rintro e w' ⟨rfl, rfl⟩)
  clear h0 h1 h2
  go_loop [3, 10] (fun x i => ∃ k : Nat, k ≤ 3 ∧ x = .int .i64 (rfL v k : Nat) ∧ i = .int .i64 k) (fun _ i => (3 - intOf i).toNat)
  case atStart => exact ⟨0, by omega, by rw [eq0_nat]; exact congrArg _ (when_nat _ 64), rfl⟩
  case round =>
    obtain ⟨k, hk, rfl, rfl⟩ := hrel
    have h3 : k = 0 ∨ k = 1 ∨ k = 2 ∨ k = 3 := by omega
    rcases h3 with rfl | rfl | rfl | rfl
    · go_wp2
      go_round
      case rel => exact ⟨1, by omega, congrArg _ (rf_step0 v hv), rfl⟩
      case measure => simp [intOf]
    · go_wp2
      go_round
      case rel => exact ⟨2, by omega, congrArg _ (rf_step1 v hv), rfl⟩
      case measure => simp [intOf]
    · go_wp2
      go_round
      case rel => exact ⟨3, by omega, congrArg _ (rf_step2 v hv), rfl⟩
      case measure => simp [intOf]
    · go_wp2
      go_ret
      exact ⟨ret_int (congrArg _ (Nat.eq_of_beq_eq_true (allB_at rf_all v hv))), rfl⟩
theorem parB_nat (v : Nat) (hv : v < 256) : parB (v : Int) = !prf 8 v := by unfold parB; rw [decide_eq_true (by omega)]; simp
theorem pf_impl (v : Nat) (w : World) (hv : v < 256) (hL : Flags w) : Calls Tryd.prog 41 #[.int .i64 v] w fun e w' => e = .returned (.int .i64 (szpN v)) ∧ w' = w := by
  have hp := parB_nat v hv
  have hz := szN_lt v hv
  have E : bits .or .i64 ((szN v : Nat) : Int) (whenI (!prf 8 v) 4) = (szpN v : Nat) := by
    rw [show whenI (!prf 8 v) 4 = _ from when_nat _ 4]
    have h1 : whenN (!prf 8 v) 4 < 256 := whenN_lt _ _ _ (by decide)
    rw [bOr _ _ (by omega) (by omega)]
    unfold szpN
    cases prf 8 v <;> rfl
  replace E : Hid _ := E
  go_enter Tryd.func41, Tryd.ntmps41
  go_wp2_with (first | (go_at_call 56; refine (rf_impl _ _ hv hL).mono ?_; rintro e w' ⟨rfl, rfl⟩) | (go_at_call 21; refine (par_impl _ _).mono ?_; rintro e w' ⟨rfl, rfl⟩; rw [hp]) | (go_at_call 42; refine (when_impl _ _ _).mono ?_; rintro e w' ⟨rfl, rfl⟩))
  go_ret
  exact ⟨ret_int E.out, rfl⟩
end Go.Proofs.YtffogcielohoeaaDoor
