/- What impl.PutWord and spec.PutWord answer: the text with the word's two bytes behind it, or the codes; new blocks at most. -/
import Derived.Test.YtohnddjijedfkaaK02
import Derived.WalkKit
import Derived.ProofKit
import Derived.Laws.BytesArg
namespace Go.Proofs.Ytohnddjijedfkaa
open Go.ChangeShapes Go.WideShapes Go.ChangeAt Go.RowKit
set_option linter.unusedVariables false

theorem conv2 (w : World) (x y : Int) : (convert 22 9 (.slice (some ⟨w.heap.size, 0, none⟩) 2 2)).run Try.prog (w.alloc (.cells #[.int .u8 x, .int .u8 y] 5)) = .ok (.string (strOfNums [x, y])) (w.alloc (.cells #[.int .u8 x, .int .u8 y] 5)) :=
  run_convert_bytes_arg _ 22 5 Try.underlying22 Try.underlying5 w.heap.size 0 2 2 [x, y] rfl (fun i hi => by
    match i, hi with
    | 0, _ => simp
    | 1, _ => simp) 9 Try.underlying9

def putV (s : ByteArray) (v : Int) : Value :=
  if 65536 < s.size then .tuple #[.string ByteArray.empty, .int .i64 2]
  else if v < 0 ∨ 65535 < v then .tuple #[.string ByteArray.empty, .int .i64 4]
  else if 65534 < s.size then .tuple #[.string ByteArray.empty, .int .i64 7]
  else .tuple #[.string (s ++ strOfNums [v % 256, v / 256]), .int .i64 0]

theorem putV_form (s : ByteArray) (v : Int) : ∃ S C, putV s v = .tuple #[.string S, .int .i64 C] := by
  unfold putV
  repeat' split
  all_goals exact ⟨_, _, rfl⟩

end Go.Proofs.Ytohnddjijedfkaa
