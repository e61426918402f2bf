/- What impl.PutWord and spec.PutWord answer: the text with the word's two bytes behind it, or the codes; new blocks at most. -/
import Derived.Test.YtohnddjijedfkabIn
import Derived.WalkKit
import Derived.ProofKit
import Derived.Laws.BytesArg
namespace Go.Proofs.Ytohnddjijedfkab
open Go.ChangeShapes Go.WideShapes Go.ChangeAt Go.RowKit
set_option linter.unusedVariables false
def putV (s : ByteArray) (v : Int) : Value :=
  if 65536 < s.size then .tuple #[.string ByteArray.empty, .int .i64 2]
  else if v < 0 ∨ 65535 < v then .tuple #[.string ByteArray.empty, .int .i64 4]
  else if 65534 < s.size then .tuple #[.string ByteArray.empty, .int .i64 7]
  else .tuple #[.string (s ++ strOfNums [v % 256, v / 256]), .int .i64 0]

theorem putV_form (s : ByteArray) (v : Int) : ∃ S C, putV s v = .tuple #[.string S, .int .i64 C] := by
  unfold putV
  repeat' split
  all_goals exact ⟨_, _, rfl⟩

end Go.Proofs.Ytohnddjijedfkab
