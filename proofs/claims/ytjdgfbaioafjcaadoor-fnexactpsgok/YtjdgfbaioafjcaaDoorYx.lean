/- The size of a sound chip that comes into a law. -/
import Derived.Test.YtjdgfbaioafjcaaDoorYc
namespace Go.Proofs.YtjdgfbaioafjcaaDoor
open Go.ChangeShapes Go.WideShapes Go.ChangeAt Go.RowKit
set_option linter.unusedVariables false
theorem sg_sizeL (c : Sg) : (Tryd.prog.info? 39).map (·.size) = some (sgA c).size := by
  show (Tryd.prog.info? 39).map (·.size) = some 17
  kernel_rfl
end Go.Proofs.YtjdgfbaioafjcaaDoor
