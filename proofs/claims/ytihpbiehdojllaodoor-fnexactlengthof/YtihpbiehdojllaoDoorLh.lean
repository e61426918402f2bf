/- What the row's list of the table of lengths gives. -/
import Derived.Test.YtihpbiehdojllaoDoorLg
import Derived.Test.YtihpbiehdojllaoDoorRows
namespace Go.Proofs.YtihpbiehdojllaoDoor
open Go.ChangeShapes Go.WideShapes Go.ChangeAt Go.RowKit
set_option linter.unusedVariables false

theorem gTimes : Tryd.prog.globalNamed "loop.example/g00644/impl.cycleTimes" = some 0 := by kernel_rfl
theorem tTimes : (Tryd.prog.globals[0]?).map (·.type) = some 27 := by kernel_rfl
theorem times_reads {W : World} {held : Bool} {cs : Array Value} {fuel : Nat} {p : List MemPlace} (hv : World.var? Tryd.prog W "loop.example/g00644/impl.cycleTimes" = some cs)
    (h : DataW.trod (fun _ => ()) Tryd.prog W 0 (fun _ => true) held fuel 27 cs.toList = some (Rows.laid_loop_example_g00644_impl_cycleTimes, p)) : Times W := by
  obtain ⟨xs, m1, rfl, hx1, hlen, hn, hel⟩ := DataW.trod_array Tryd.underlying27 h
  have c1 : Tryd.prog.cellsOf 3 = 1 := by kernel_rfl
  have hd : xs.map (·.1) = [(.lit (.int .i64 0) : DataW Unit), .lit (.int .i64 4), .lit (.int .i64 3), .lit (.int .i64 3), .lit (.int .i64 4), .lit (.int .i64 4)] := by
    have := congrArg Prod.fst hx1
    simp only [Rows.laid_loop_example_g00644_impl_cycleTimes, DataW.agg.injEq] at this
    exact this.symm
  intro i hi
  have h0 := hel i hi
  rw [c1, Nat.mul_one] at h0
  have hxi : xs[i]? = some xs[i] := List.getElem?_eq_getElem (by omega)
  rw [hxi] at h0
  obtain ⟨n, e1, e2, _⟩ := DataW.trod_int Tryd.underlying3 h0
  have hcs : cs[i]? = some (.int .i64 n) := by
    have := congrArg (·[0]?) e1
    simpa [List.getElem?_take, List.getElem?_drop] using this
  rw [World.var?_cell gTimes hv i, hcs]
  have hz : (xs.map (·.1))[i]? = some (DataW.lit (.int .i64 (tmI i)) : DataW Unit) := by
    rw [hd]
    rcases (by omega : i = 0 ∨ i = 1 ∨ i = 2 ∨ i = 3 ∨ i = 4 ∨ i = 5) with rfl | rfl | rfl | rfl | rfl | rfl <;> rfl
  rw [List.getElem?_map, hxi, e2] at hz
  simp at hz
  rw [hz]
theorem times_of {W : World} (h : laidMetH Tryd.prog [("loop.example/g00644/impl.cycleTimes", Rows.laid_loop_example_g00644_impl_cycleTimes)] W) : Times W := by
  rw [MakeChecks.laidMetH_plain _ _ _ (by kernel_rfl)] at h
  obtain ⟨ps, ⟨g0, t0, cs0, f0, p0, q0, hg0, ht0, hv0, hd0, _⟩, _⟩ := h
  obtain rfl := Option.some.inj (gTimes.symm.trans hg0)
  obtain rfl := Option.some.inj (tTimes.symm.trans ht0)
  exact times_reads hv0 hd0
end Go.Proofs.YtihpbiehdojllaoDoor
