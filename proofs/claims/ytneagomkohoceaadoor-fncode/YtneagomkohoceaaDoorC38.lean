/- What the specification's frame answers: its lines, its screen, its waits, its fetches, as plain functions of numbers. -/
import Derived.Test.YtneagomkohoceaaDoorInc
namespace Go.Proofs.YtneagomkohoceaaDoor
open Go.ChangeShapes Go.WideShapes Go.ChangeAt Go.RowKit
set_option linter.unusedVariables false

/-- the screen's T -/
def scrI (t : Int) : Bool := inB (t / 32) 4 11 && decide (t % 32 < 16)
/-- how long who wants what is shared waits -/
def waitI (t : Int) : Int := if scrI t = true then max 0 (6 - t % 8) else 0
/-- which byte is fetched -/
def fetI (t : Int) : Int := if scrI t = true ∧ t % 4 ≤ 1 then 4 * (t / 32 - 4) + t % 32 / 4 + 32 * (t % 4) else -1
def line3 (t : Int) : Value := if inB t 0 639 then .tuple #[.int .i64 (t / 32), .int .i64 (t % 32), .int .i64 0] else .tuple #[.int .i64 0, .int .i64 0, .int .i64 4]
def scr2 (t : Int) : Value := if inB t 0 639 then .tuple #[.bool (scrI t), .int .i64 0] else .tuple #[.bool false, .int .i64 4]
def wait2 (t : Int) : Value := if inB t 0 639 then .tuple #[.int .i64 (waitI t), .int .i64 0] else .tuple #[.int .i64 0, .int .i64 4]
def fet2 (t : Int) : Value := if inB t 0 639 then .tuple #[.int .i64 (fetI t), .int .i64 0] else .tuple #[.int .i64 0, .int .i64 4]
def cell2 (r c : Int) : Value := if inB r 0 7 && inB c 0 3 then .tuple #[.int .i64 (4 * r + c), .int .i64 0] else .tuple #[.int .i64 0, .int .i64 4]
def win2 (t : Int) : Value := if inB t 0 639 then .tuple #[.bool (decide (t < 8)), .int .i64 0] else .tuple #[.bool false, .int .i64 4]
theorem fr_yes {t : Int} (h : inB t 0 639 = true) : 0 ≤ t ∧ t ≤ 639 := by simpa [inB] using h

end Go.Proofs.YtneagomkohoceaaDoor

/- What the program's frame answers: where a T stands, its waits, its fetches; the two patterns being in their blocks. -/
namespace Go.Proofs.YtneagomkohoceaaDoor
open Go.ChangeShapes Go.WideShapes Go.ChangeAt Go.RowKit
set_option linter.unusedVariables false

theorem scr_row (t : Int) : inB (t / 32 - 4) 0 7 = inB (t / 32) 4 11 := by
  unfold inB
  rw [decide_eq_decide]
  omega
theorem wi_impl (n a b : Int) (w : World) : Calls Tryd.prog 30 #[.int .i64 n, .int .i64 a, .int .i64 b] w fun e w' => e = .returned (.bool (inB n a b)) ∧ w' = w := by
  go_enter Tryd.func30, Tryd.ntmps30
  go_wp2
  all_goals go_ret
  all_goals exact ⟨ret_bool (by rw [Bool.eq_iff_iff]; simp [inB]; try omega), rfl⟩
end Go.Proofs.YtneagomkohoceaaDoor
