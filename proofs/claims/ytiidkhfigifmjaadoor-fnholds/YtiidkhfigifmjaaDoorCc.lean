/- What the machine's own calls do: note, read, write, push, pop. -/
import Derived.Test.YtiidkhfigifmjaaDoorCb
namespace Go.Proofs.YtiidkhfigifmjaaDoor
open Go.ChangeShapes Go.WideShapes Go.ChangeAt Go.RowKit
set_option linter.unusedVariables false
set_option linter.unusedSimpArgs false

end Go.Proofs.YtiidkhfigifmjaaDoor
