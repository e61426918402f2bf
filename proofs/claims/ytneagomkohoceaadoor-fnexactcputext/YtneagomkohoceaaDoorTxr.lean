/- What the row's list of the table of registers' words gives. -/
import Derived.Test.YtneagomkohoceaaDoorTxq
namespace Go.Proofs.YtneagomkohoceaaDoor
open Go.ChangeShapes Go.WideShapes Go.ChangeAt Go.RowKit
set_option linter.unusedVariables false
set_option linter.unusedSimpArgs false

theorem gRgw : Tryd.prog.globalNamed "loop.example/g00644/impl.registerWords" = some 1 := by kernel_rfl
theorem tRgw : (Tryd.prog.globals[1]?).map (·.type) = some 113 := by kernel_rfl
theorem rgws_of {W : World} (h : laidMetH Tryd.prog [("loop.example/g00644/impl.registerWords", Rows.laid_loop_example_g00644_impl_registerWords)] W) : RgWs W := by
  rw [MakeChecks.laidMetH_plain _ _ _ (by kernel_rfl)] at h
  obtain ⟨ps, ⟨g0, t0, cs0, f0, p0, q0, hg0, ht0, hv0, hd0, _⟩, _⟩ := h
  obtain rfl := Option.some.inj (gRgw.symm.trans hg0)
  obtain rfl := Option.some.inj (tRgw.symm.trans ht0)
  exact strs_reads rgL rfl gRgw Tryd.underlying113 (by kernel_rfl) hv0 hd0
end Go.Proofs.YtneagomkohoceaaDoor
