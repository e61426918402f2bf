/- The bytes of a block, and its text: the specification. -/
import Derived.Test.YthffhfafnohndabDoorUa
import Derived.Test.YthffhfafnohndabDoorIw
import Derived.Test.YthffhfafnohndabDoorPw
import Derived.Test.YthffhfafnohndabDoorBt
namespace Go.Proofs.YthffhfafnohndabDoor
open Go.ChangeShapes Go.WideShapes Go.ChangeAt Go.RowKit
set_option linter.unusedVariables false
set_option linter.unusedSimpArgs false

theorem conv1 {W : World} {g : Nat} {x : Int} (h : Blk W g #[.int .u8 x]) : (convert 65 9 (.slice (some ⟨g, 0, none⟩) 1 1)).run Tryd.prog W = .ok (.string (strOfNums [x])) W :=
  run_convert_bytes_arg _ 65 5 Tryd.underlying65 Tryd.underlying5 g 0 1 1 [x] rfl (fun i hi => by
    match i, hi with
    | 0, _ => exact h.cell 0) 9 Tryd.underlying9
def txtB2 (f : Int) (s : ByteArray) : ByteArray × Int := if okB f s = true then (txtB f s, 0) else (ByteArray.empty, 1)
end Go.Proofs.YthffhfafnohndabDoor
