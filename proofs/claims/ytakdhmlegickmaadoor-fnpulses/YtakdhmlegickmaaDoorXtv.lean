/- What the row's list of one variable gives: the times of bits. -/
import Derived.Test.YtakdhmlegickmaaDoorVmv
import Derived.LaidMore
import Derived.Stop.Joined
namespace Go.Proofs.YtakdhmlegickmaaDoor
open Go.ChangeShapes Go.WideShapes Go.ChangeAt Go.RowKit
set_option linter.unusedVariables false
set_option linter.unusedSimpArgs false

theorem gn_bitTimes : Tryd.prog.globalNamed "loop.example/g00644/impl.bitTimes" = some 3 := by kernel_rfl
theorem gt_bitTimes : (Tryd.prog.globals[3]?).map (·.type) = some 99 := by kernel_rfl
theorem tim_of {W : World} (h : laidMetH Tryd.prog [("loop.example/g00644/impl.bitTimes", Rows.laid_loop_example_g00644_impl_bitTimes)] W) : Tim W := by
  rw [MakeChecks.laidMetH_plain _ _ _ (by kernel_rfl)] at h
  obtain ⟨ps, ⟨g0, t0, cs0, f0, p0, q0, hg0, ht0, hv0, hd0, _⟩, _⟩ := h
  obtain rfl := Option.some.inj (gn_bitTimes.symm.trans hg0)
  obtain rfl := Option.some.inj (gt_bitTimes.symm.trans ht0)
  obtain ⟨xs, m1, hx0, hx1, hlen, hn, hel⟩ := DataW.trod_array Tryd.underlying99 hd0
  have c1 : Tryd.prog.cellsOf 3 = 1 := by kernel_rfl
  have hd : xs.map (·.1) = [(.lit (.int .i64 20) : DataW Unit), .lit (.int .i64 40)] := by
    have := congrArg Prod.fst hx1
    simp only [Rows.laid_loop_example_g00644_impl_bitTimes, DataW.agg.injEq] at this
    exact this.symm
  have key : ∀ i (hi : i < 2) (z : Int), (xs.map (·.1))[i]? = some (DataW.lit (.int .i64 z) : DataW Unit) → W.cell? ⟨3, i, none⟩ = some (.int .i64 z) := by
    intro i hi z hz
    have h0 := hel i hi
    rw [c1, Nat.mul_one] at h0
    have hxi : xs[i]? = some xs[i] := List.getElem?_eq_getElem (by omega)
    rw [hxi] at h0
    obtain ⟨n, e1, e2, _⟩ := DataW.trod_int Tryd.underlying3 h0
    have hcs : cs0[i]? = some (.int .i64 n) := by
      have := congrArg (·[0]?) e1
      simpa [List.getElem?_take, List.getElem?_drop] using this
    rw [World.var?_cell hg0 hv0 i, hcs]
    rw [List.getElem?_map, hxi, e2] at hz
    simp at hz
    rw [hz]
  have hTim : Tim W := ⟨key 0 (by omega) _ (by rw [hd]; rfl), key 1 (by omega) _ (by rw [hd]; rfl)⟩
  exact hTim
end Go.Proofs.YtakdhmlegickmaaDoor
