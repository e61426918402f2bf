/- What the program's frame answers: where a T stands, its waits, its fetches; the two patterns being in their blocks. -/
import Derived.Test.YtllcffakpobdlajDoorSa
namespace Go.Proofs.YtllcffakpobdlajDoor
open Go.ChangeShapes Go.WideShapes Go.ChangeAt Go.RowKit
set_option linter.unusedVariables false

theorem scr_row (t : Int) : inB (t / 32 - 4) 0 7 = inB (t / 32) 4 11 := by
  unfold inB
  rw [decide_eq_decide]
  omega
theorem wi_impl (n a b : Int) (w : World) : Calls Tryd.prog 16 #[.int .i64 n, .int .i64 a, .int .i64 b] w fun e w' => e = .returned (.bool (inB n a b)) ∧ w' = w := by
  go_enter Tryd.func16, Tryd.ntmps16
  go_wp2
  all_goals go_ret
  all_goals exact ⟨ret_bool (by rw [Bool.eq_iff_iff]; simp [inB]; try omega), rfl⟩
theorem frame_impl (t : Int) (w : World) : Calls Tryd.prog 25 #[.int .i64 t] w fun e w' => e = .returned (.bool (inB t 0 639)) ∧ w' = w := by
  go_enter Tryd.func25, Tryd.ntmps25
  go_wp2_with (go_at_call 16; refine (wi_impl _ _ _ _).mono ?_; rintro e w' ⟨rfl, rfl⟩)
  go_ret
  exact ⟨rfl, rfl⟩
theorem place_impl (t : Int) (w : World) (h0 : 0 ≤ t) (h1 : t ≤ 639) : Calls Tryd.prog 42 #[.int .i64 t] w fun e w' => e = .returned (.tuple #[.int .i64 (t / 32 - 4), .int .i64 (t % 32), .bool (scrI t)]) ∧ w' = w := by
  cases h : inB (t / 32) 4 11
  all_goals
    have hr := scr_row t
    rw [h] at hr
    go_enter Tryd.func42, Tryd.ntmps42
    go_wp2_with (go_at_call 16; refine (wi_impl _ _ _ _).mono ?_; rintro e w' ⟨rfl, rfl⟩; rw [hr])
    go_ret3
    exact ⟨by simp [scrI, h], rfl⟩
/-- the pattern of waits lies in its block -/
def Pat (w : World) : Prop := ∀ i : Nat, i < 8 → w.cell? ⟨0, i, none⟩ = some (.int .i64 (max 0 (6 - (i : Int))))
theorem pat_below {w w' : World} (h : Pat w) (hb : Below w.heap.size w w') : Pat w' := by
  intro i hi
  have h1 := h i hi
  have h2 := World.block_lt_of_cell? w _ h1
  rw [hb.cell (p := ⟨0, i, none⟩) h2]
  exact h1
theorem waitof_impl (t : Int) (w : World) (h0 : 0 ≤ t) (h1 : t ≤ 639) (hP : Pat w) : Calls Tryd.prog 26 #[.int .i64 t] w fun e w' => e = .returned (.int .i64 (waitI t)) ∧ w' = w := by
  cases h : scrI t
  · have e : waitI t = 0 := by unfold waitI; rw [if_neg (by rw [h]; decide)]
    rw [e]
    clear e
    go_enter Tryd.func26, Tryd.ntmps26
    go_wp2_with (go_at_call 42; refine (place_impl _ _ h0 h1).mono ?_; rintro e w' ⟨rfl, rfl⟩; rw [h])
    go_ret
    exact ⟨rfl, rfl⟩
  · obtain ⟨k, hk, hk8⟩ : ∃ k : Nat, t % 32 % 8 = (k : Int) ∧ k < 8 := ⟨(t % 32 % 8).toNat, by omega, by omega⟩
    have e : waitI t = max 0 (6 - (k : Int)) := by unfold waitI; rw [if_pos h, ← hk]; congr 2; omega
    rw [e]
    clear e
    have hc := hP k hk8
    clear hP
    generalize max 0 (6 - (k : Int)) = v at *
    go_enter Tryd.func26, Tryd.ntmps26
    go_wp2_with (go_at_call 42; refine (place_impl _ _ h0 h1).mono ?_; rintro e w' ⟨rfl, rfl⟩; rw [h])
    go_ret
    exact ⟨rfl, rfl⟩
end Go.Proofs.YtllcffakpobdlajDoor
