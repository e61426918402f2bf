/- The bytes of a block, and its text: the specification. -/
import Derived.Test.YtohnddjijedfkabUa
import Derived.Test.YtohnddjijedfkabIw
import Derived.Test.YtohnddjijedfkabPw
import Derived.Test.YtohnddjijedfkabBt
namespace Go.Proofs.Ytohnddjijedfkab
open Go.ChangeShapes Go.WideShapes Go.ChangeAt Go.RowKit
set_option linter.unusedVariables false
set_option linter.unusedSimpArgs false
def txtB2 (f : Int) (s : ByteArray) : ByteArray × Int := if okB f s = true then (txtB f s, 0) else (ByteArray.empty, 1)
end Go.Proofs.Ytohnddjijedfkab
