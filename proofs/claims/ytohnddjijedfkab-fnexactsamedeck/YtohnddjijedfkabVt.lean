/- A byte out of its bits, and the length of a tape: the specification and the program. -/
import Derived.Test.YtohnddjijedfkabVa
import Derived.Test.YtohnddjijedfkabIn
namespace Go.Proofs.Ytohnddjijedfkab
open Go.ChangeShapes Go.WideShapes Go.ChangeAt Go.RowKit
set_option linter.unusedVariables false
set_option linter.unusedSimpArgs false

theorem RowR.at {w : World} {a : Option Addr} {cap : Nat} {P : List Int} (h : RowR w (.slice a P.length cap) P) {k : Nat} (hk : k < P.length) : ∃ b off, a = some ⟨b, off, none⟩ ∧ w.cell? ⟨b, off + k, none⟩ = some (.int .i64 (P.getD k 0)) := by
  obtain ⟨a', cap', e, h⟩ := h
  cases e
  rcases h with rfl | ⟨b, off, rfl, h⟩
  · exact absurd hk (by simp)
  · exact ⟨b, off, rfl, h k hk⟩
theorem withinV_impl (n a b : Int) (w : World) : Calls Try.prog 30 #[.int .i64 n, .int .i64 a, .int .i64 b] w fun e w' => e = .returned (.bool (inB n a b)) ∧ w' = w := by
  go_enter Try.func30, Try.ntmps30
  go_wp2
  all_goals go_ret
  all_goals exact ⟨ret_bool (by rw [Bool.eq_iff_iff]; simp [inB]; try omega), rfl⟩
end Go.Proofs.Ytohnddjijedfkab
