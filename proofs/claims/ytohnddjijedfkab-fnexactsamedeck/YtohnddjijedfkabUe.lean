/- A block that is taken off a cursor, whole: the specification. -/
import Derived.Test.YtohnddjijedfkabUd
namespace Go.Proofs.Ytohnddjijedfkab
open Go.ChangeShapes Go.WideShapes Go.ChangeAt Go.RowKit
set_option linter.unusedVariables false
set_option linter.unusedSimpArgs false

theorem wordOf_nat (t : ByteArray) : ∃ n : Nat, wordOf t = n ∧ n ≤ 65535 := by
  have h0 := byt_bd t 0
  have h1 := byt_bd t 1
  unfold wordOf
  exact ⟨(byt t 0 + 256 * byt t 1).toNat, by omega, by omega⟩
end Go.Proofs.Ytohnddjijedfkab
