/- What the specification's TakeBytes, TakeByte and TakeWord answer, and the laws' own helpers over cursors. -/
import Derived.Test.YtohnddjijedfkabTn
namespace Go.Proofs.Ytohnddjijedfkab
open Go.ChangeShapes Go.WideShapes Go.ChangeAt Go.RowKit
set_option linter.unusedVariables false
set_option linter.unusedSimpArgs false
end Go.Proofs.Ytohnddjijedfkab
