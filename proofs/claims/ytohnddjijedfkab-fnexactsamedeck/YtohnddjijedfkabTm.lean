/- What the cursor's own method take answers, and TakeBytes, TakeByte, TakeWord over it. -/
import Derived.Test.YtohnddjijedfkabTk
namespace Go.Proofs.Ytohnddjijedfkab
open Go.ChangeShapes Go.WideShapes Go.ChangeAt Go.RowKit
set_option linter.unusedVariables false
set_option linter.unusedSimpArgs false
end Go.Proofs.Ytohnddjijedfkab
