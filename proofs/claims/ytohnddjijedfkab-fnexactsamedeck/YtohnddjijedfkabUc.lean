/- A block out of its bytes: the specification. -/
import Derived.Test.YtohnddjijedfkabUb
import Derived.BigRegion
namespace Go.Proofs.Ytohnddjijedfkab
open Go.ChangeShapes Go.WideShapes Go.ChangeAt Go.RowKit
set_option linter.unusedVariables false
set_option linter.unusedSimpArgs false

/-- flag, data, code -/
def ofB (t : ByteArray) : (Int × ByteArray) × Int :=
  if t.size < 2 ∨ 42 < t.size then ((0, ByteArray.empty), 8)
  else if xorN t t.size ≠ 0 then ((0, ByteArray.empty), 10)
  else ((byt t 0, t.extract 1 (t.size - 1)), 0)
abbrev ofT (x : (Int × ByteArray) × Int) : Value := .tuple #[bkV x.1.1 x.1.2, .int .i64 x.2]
end Go.Proofs.Ytohnddjijedfkab
