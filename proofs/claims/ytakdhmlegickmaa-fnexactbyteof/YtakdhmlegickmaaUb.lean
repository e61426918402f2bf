/- The bytes of a block, and its text: the specification. -/
import Derived.Test.YtakdhmlegickmaaUa
import Derived.Test.YtakdhmlegickmaaIw
import Derived.Test.YtakdhmlegickmaaPw
import Derived.Test.YtakdhmlegickmaaBt
namespace Go.Proofs.Ytakdhmlegickmaa
open Go.ChangeShapes Go.WideShapes Go.ChangeAt Go.RowKit
set_option linter.unusedVariables false
set_option linter.unusedSimpArgs false

theorem conv1 {W : World} {g : Nat} {x : Int} (h : Blk W g #[.int .u8 x]) : (convert 22 9 (.slice (some ⟨g, 0, none⟩) 1 1)).run Try.prog W = .ok (.string (strOfNums [x])) W :=
  run_convert_bytes_arg _ 22 5 Try.underlying22 Try.underlying5 g 0 1 1 [x] rfl (fun i hi => by
    match i, hi with
    | 0, _ => exact h.cell 0) 9 Try.underlying9
def txtB2 (f : Int) (s : ByteArray) : ByteArray × Int := if okB f s = true then (txtB f s, 0) else (ByteArray.empty, 1)
end Go.Proofs.Ytakdhmlegickmaa
