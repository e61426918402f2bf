/- What the program's TestBit and Logic8 answer as they are asked: what the specification's answer. -/
import Derived.Test.YtffogcielohoeabDoorPf
import Derived.Test.YtffogcielohoeabDoorAh
namespace Go.Proofs.YtffogcielohoeabDoor
open Go.ChangeShapes Go.WideShapes Go.ChangeAt Go.RowKit
set_option linter.unusedVariables false

theorem askB0 (a f : Int) : askB a f 0 = (inB a 0 255 && inB f 0 255) := by unfold askB; rw [show inB 0 0 1 = true by decide, Bool.and_true]

end Go.Proofs.YtffogcielohoeabDoor
