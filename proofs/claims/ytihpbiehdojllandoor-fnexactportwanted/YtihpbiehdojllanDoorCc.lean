/- What the machine's own calls do: note, read, write, push, pop. -/
import Derived.Test.YtihpbiehdojllanDoorCb
namespace Go.Proofs.YtihpbiehdojllanDoor
open Go.ChangeShapes Go.WideShapes Go.ChangeAt Go.RowKit
set_option linter.unusedVariables false
set_option linter.unusedSimpArgs false

end Go.Proofs.YtihpbiehdojllanDoor
