/- What impl.XorOf and spec.XorOf answer: the exclusive or of the bytes one by one, in every world, which stays as it was. -/
import Derived.Test.YtohnddjijedfkabBase
namespace Go.Proofs.Ytohnddjijedfkab
open Go.ChangeShapes Go.WideShapes Go.ChangeAt Go.RowKit
set_option linter.unusedVariables false

def xorN (s : ByteArray) : Nat → Int
  | 0 => 0
  | k + 1 => bits .xor .i64 (xorN s k) (byt s k)

def xorV (s : ByteArray) : Int := if 65536 < s.size then 0 else xorN s s.size

end Go.Proofs.Ytohnddjijedfkab
