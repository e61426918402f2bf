/- What the row's list of the cursor's three errors gives: three cells that point to three blocks of their own. -/
import Derived.Test.YtakdhmlegickmabDoorTku
import Derived.LaidMore
import Derived.Stop.LaidErr
import Derived.Stop.Joined
namespace Go.Proofs.YtakdhmlegickmabDoor
open Go.ChangeShapes Go.WideShapes Go.ChangeAt Go.RowKit
set_option linter.unusedVariables false

theorem eStar : "*errors.errorString" = "*" ++ "errors.errorString" := by decide
theorem eRow (u : TypeId) (h : Tryd.prog.typeName? 3 u = some "*errors.errorString") : u = 110 :=
  typeName_ptr_named (nm := "errors.errorString") (by rw [← eStar]; kernel_rfl) (by kernel_rfl) (by decide) u (by rw [← eStar]; exact h)
theorem g1n : Tryd.prog.globalNamed "loop.example/g00644/impl.errCount" = some 8 := by kernel_rfl
theorem g2n : Tryd.prog.globalNamed "loop.example/g00644/impl.errAtEnd" = some 7 := by kernel_rfl
theorem g1t : (Tryd.prog.globals[8]?).map (·.type) = some 57 := by kernel_rfl
theorem g2t : (Tryd.prog.globals[7]?).map (·.type) = some 57 := by kernel_rfl
theorem eCells : Tryd.prog.cellsOf 133 = 1 := by kernel_rfl
theorem sCells : Tryd.prog.cellsOf 9 = 1 := by kernel_rfl

end Go.Proofs.YtakdhmlegickmabDoor
