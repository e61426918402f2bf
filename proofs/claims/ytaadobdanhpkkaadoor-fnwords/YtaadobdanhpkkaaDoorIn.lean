/- What spec.l01In answers: whether a number lies between two others; the world stays as it was. -/
import Derived.Test.YtaadobdanhpkkaaDoorBase
namespace Go.Proofs.YtaadobdanhpkkaaDoor
open Go.ChangeShapes Go.WideShapes Go.ChangeAt Go.RowKit
set_option linter.unusedVariables false

end Go.Proofs.YtaadobdanhpkkaaDoor
