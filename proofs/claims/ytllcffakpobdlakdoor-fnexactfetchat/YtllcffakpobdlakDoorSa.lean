/- What the specification's frame answers: its lines, its screen, its waits, its fetches, as plain functions of numbers. -/
import Derived.Test.YtllcffakpobdlakDoorIn
namespace Go.Proofs.YtllcffakpobdlakDoor
open Go.ChangeShapes Go.WideShapes Go.ChangeAt Go.RowKit
set_option linter.unusedVariables false

/-- the screen's T -/
def scrI (t : Int) : Bool := inB (t / 32) 4 11 && decide (t % 32 < 16)
/-- how long who wants what is shared waits -/
def waitI (t : Int) : Int := if scrI t = true then max 0 (6 - t % 8) else 0
/-- which byte is fetched -/
def fetI (t : Int) : Int := if scrI t = true ∧ t % 4 ≤ 1 then 4 * (t / 32 - 4) + t % 32 / 4 + 32 * (t % 4) else -1
def line3 (t : Int) : Value := if inB t 0 639 then .tuple #[.int .i64 (t / 32), .int .i64 (t % 32), .int .i64 0] else .tuple #[.int .i64 0, .int .i64 0, .int .i64 4]
def scr2 (t : Int) : Value := if inB t 0 639 then .tuple #[.bool (scrI t), .int .i64 0] else .tuple #[.bool false, .int .i64 4]
def wait2 (t : Int) : Value := if inB t 0 639 then .tuple #[.int .i64 (waitI t), .int .i64 0] else .tuple #[.int .i64 0, .int .i64 4]
def fet2 (t : Int) : Value := if inB t 0 639 then .tuple #[.int .i64 (fetI t), .int .i64 0] else .tuple #[.int .i64 0, .int .i64 4]
def cell2 (r c : Int) : Value := if inB r 0 7 && inB c 0 3 then .tuple #[.int .i64 (4 * r + c), .int .i64 0] else .tuple #[.int .i64 0, .int .i64 4]
def win2 (t : Int) : Value := if inB t 0 639 then .tuple #[.bool (decide (t < 8)), .int .i64 0] else .tuple #[.bool false, .int .i64 4]
theorem fr_yes {t : Int} (h : inB t 0 639 = true) : 0 ≤ t ∧ t ≤ 639 := by simpa [inB] using h

theorem frame_spec (t : Int) (w : World) : Calls Tryd.prog 15 #[.int .i64 t] w fun e w' => e = .returned (.bool (inB t 0 639)) ∧ w' = w := by
  go_enter Tryd.func15, Tryd.ntmps15
  go_wp2_with (go_at_call 21; refine (in_spec _ _ _ _).mono ?_; rintro e w' ⟨rfl, rfl⟩)
  go_ret
  exact ⟨rfl, rfl⟩
theorem screen_spec (t : Int) (w : World) (h0 : 0 ≤ t) (h1 : t ≤ 639) : Calls Tryd.prog 20 #[.int .i64 t] w fun e w' => e = .returned (.bool (scrI t)) ∧ w' = w := by
  cases h : inB (t / 32) 4 11
  all_goals
    go_enter Tryd.func20, Tryd.ntmps20
    go_wp2_with (go_at_call 21; refine (in_spec _ _ _ _).mono ?_; rintro e w' ⟨rfl, rfl⟩; rw [h])
    go_ret
    exact ⟨ret_bool (by simp [scrI, h]), rfl⟩
theorem waits_spec (t : Int) (w : World) (h0 : 0 ≤ t) (h1 : t ≤ 639) : Calls Tryd.prog 12 #[.int .i64 t] w fun e w' => e = .returned (.int .i64 (waitI t)) ∧ w' = w := by
  have hm : t % 640 = t := by omega
  cases h : scrI t
  · have e : waitI t = 0 := by unfold waitI; rw [if_neg (by rw [h]; decide)]
    rw [e]
    clear e
    go_enter Tryd.func12, Tryd.ntmps12
    go_wp2_with (go_at_call 20; refine (screen_spec _ _ h0 h1).mono ?_; rintro e w' ⟨rfl, rfl⟩; rw [h])
    go_ret
    exact ⟨rfl, rfl⟩
  · have e : waitI t = max 0 (6 - t % 8) := by unfold waitI; rw [if_pos h]
    rw [e]
    clear e
    go_enter Tryd.func12, Tryd.ntmps12
    go_wp2_with (go_at_call 20; refine (screen_spec _ _ h0 h1).mono ?_; rintro e w' ⟨rfl, rfl⟩; rw [h])
    all_goals go_ret
    all_goals exact ⟨ret_int (by omega), rfl⟩
theorem fetch_spec (t : Int) (w : World) (h0 : 0 ≤ t) (h1 : t ≤ 639) : Calls Tryd.prog 16 #[.int .i64 t] w fun e w' => e = .returned (.int .i64 (fetI t)) ∧ w' = w := by
  have hm : t % 640 = t := by omega
  cases h : scrI t
  · have e : fetI t = -1 := by unfold fetI; rw [if_neg (by rw [h]; simp)]
    rw [e]
    clear e
    go_enter Tryd.func16, Tryd.ntmps16
    go_wp2_with (go_at_call 20; refine (screen_spec _ _ h0 h1).mono ?_; rintro e w' ⟨rfl, rfl⟩; rw [h])
    go_ret
    exact ⟨rfl, rfl⟩
  · by_cases h4 : t % 4 ≤ 1
    · have e : fetI t = 4 * (t / 32 - 4) + t % 32 / 4 + 32 * (t % 4) := by unfold fetI; rw [if_pos ⟨h, h4⟩]
      rw [e]
      clear e
      go_enter Tryd.func16, Tryd.ntmps16
      go_wp2_with (first | (go_at_call 20; refine (screen_spec _ _ h0 h1).mono ?_; rintro e w' ⟨rfl, rfl⟩; rw [h]) | go_in)
      go_ret
      exact ⟨rfl, rfl⟩
    · have e : fetI t = -1 := by unfold fetI; rw [if_neg (by omega)]
      rw [e]
      clear e
      go_enter Tryd.func16, Tryd.ntmps16
      go_wp2_with (go_at_call 20; refine (screen_spec _ _ h0 h1).mono ?_; rintro e w' ⟨rfl, rfl⟩; rw [h])
      go_ret
      exact ⟨rfl, rfl⟩
end Go.Proofs.YtllcffakpobdlakDoor
