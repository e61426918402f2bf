/- What the exact laws' helpers over blocks answer. -/
import Derived.Test.YtohnddjijedfkaaUak
namespace Go.Proofs.Ytohnddjijedfkaa
open Go.ChangeShapes Go.WideShapes Go.ChangeAt Go.RowKit
set_option linter.unusedVariables false
set_option linter.unusedSimpArgs false

def szB (s : ByteArray) (l : Int) : Int := if l - (s.size : Int) < 0 then -1 else l - (s.size : Int)
end Go.Proofs.Ytohnddjijedfkaa
