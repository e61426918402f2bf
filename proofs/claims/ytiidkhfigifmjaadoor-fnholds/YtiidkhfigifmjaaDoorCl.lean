/- What the laws do with a processor: copied, held against another. -/
import Derived.Test.YtiidkhfigifmjaaDoorHa
import Derived.Test.YtiidkhfigifmjaaDoorHi
namespace Go.Proofs.YtiidkhfigifmjaaDoor
open Go.ChangeShapes Go.WideShapes Go.ChangeAt Go.RowKit
set_option linter.unusedVariables false
set_option linter.unusedSimpArgs false

abbrev rgA (c : Cu) : Array Value := #[.int .i64 c.r0, .int .i64 c.r1, .int .i64 c.r2, .int .i64 c.r3, .int .i64 c.r4, .int .i64 c.r5, .int .i64 c.r6, .int .i64 c.r7]
abbrev rgV (c : Cu) : Value := .agg (rgA c)
theorem eight {k : Nat} (h : k < 8) : k = 0 ∨ k = 1 ∨ k = 2 ∨ k = 3 ∨ k = 4 ∨ k = 5 ∨ k = 6 ∨ k = 7 := by omega
def rgZ (c : Cu) (k i : Nat) : Value := .int .i64 (if i < k then c.reg i else 0)
def pt8 (c : Cu) (k : Nat) : Array Value := #[rgZ c k 0, rgZ c k 1, rgZ c k 2, rgZ c k 3, rgZ c k 4, rgZ c k 5, rgZ c k 6, rgZ c k 7]
abbrev z8 : Array Value := #[.int .i64 0, .int .i64 0, .int .i64 0, .int .i64 0, .int .i64 0, .int .i64 0, .int .i64 0, .int .i64 0]
theorem pt8_zero (c : Cu) : pt8 c 0 = z8 := rfl
theorem pt8_all (c : Cu) : pt8 c 8 = rgA c := rfl
theorem pt8_succ (c : Cu) (k : Nat) (hk : k < 8) : (pt8 c k).setIfInBounds k (.int .i64 (c.reg k)) = pt8 c (k + 1) := by
  rcases eight hk with rfl | rfl | rfl | rfl | rfl | rfl | rfl | rfl <;> rfl
theorem pt8_at (c : Cu) (k : Nat) (hk : k < 8) : (pt8 c k)[k]? = some (.int .i64 0) := by
  rcases eight hk with rfl | rfl | rfl | rfl | rfl | rfl | rfl | rfl <;> rfl
theorem rgA_at (c : Cu) (k : Nat) (hk : k < 8) : (rgA c)[k]? = some (.int .i64 (c.reg k)) := by
  rcases eight hk with rfl | rfl | rfl | rfl | rfl | rfl | rfl | rfl <;> rfl
end Go.Proofs.YtiidkhfigifmjaaDoor
