/- What the row's list of the table of words gives: its cells hold the document's words. -/
import Derived.Test.YtaadobdanhpkkagDoorCw
import Derived.LaidMore
import Derived.OpenShut
import Derived.Stop.Joined
namespace Go.Proofs.YtaadobdanhpkkagDoor
open Go.ChangeShapes Go.WideShapes Go.ChangeAt Go.RowKit
set_option linter.unusedVariables false

theorem gWords : Tryd.prog.globalNamed "loop.example/g00644/impl.codeWords" = some 0 := by kernel_rfl
theorem tWords : (Tryd.prog.globals[0]?).map (·.type) = some 27 := by kernel_rfl

theorem words_of {W : World} (h : laidMetH Tryd.prog [("loop.example/g00644/impl.codeWords", Rows.laid_loop_example_g00644_impl_codeWords)] W) : Words W := by
  rw [MakeChecks.laidMetH_plain _ _ _ (by kernel_rfl)] at h
  obtain ⟨ps, ⟨g0, t0, cs0, f0, p0, q0, hg0, ht0, hv0, hd0, _⟩, _⟩ := h
  obtain rfl := Option.some.inj (gWords.symm.trans hg0)
  obtain rfl := Option.some.inj (tWords.symm.trans ht0)
  obtain ⟨xs, m1, rfl, hx1, hlen, hn, hel⟩ := DataW.trod_array Tryd.underlying27 hd0
  have c1 : Tryd.prog.cellsOf 9 = 1 := by kernel_rfl
  have c2 : Tryd.prog.cellsOf 27 = 20 := by kernel_rfl
  have hd : xs.map (·.1) = wdL.map fun z => (DataW.lit (.string z) : DataW Unit) := by
    have := congrArg Prod.fst hx1
    simp only [Rows.laid_loop_example_g00644_impl_codeWords, DataW.agg.injEq] at this
    exact this.symm
  intro i hi
  have h0 := hel i hi
  rw [c1, Nat.mul_one] at h0
  have hxi : xs[i]? = some xs[i] := List.getElem?_eq_getElem (by omega)
  rw [hxi] at h0
  obtain ⟨s, e1, e2, _⟩ := DataW.trod_string Tryd.underlying9 h0
  have hcs : cs0[i]? = some (.string s) := by
    have := congrArg (·[0]?) e1
    simpa [List.getElem?_take, List.getElem?_drop] using this
  rw [World.var?_cell gWords hv0 i, hcs]
  have hz : (xs.map (·.1))[i]? = some (DataW.lit (.string s.data.toList) : DataW Unit) := by
    rw [List.getElem?_map, hxi, e2]; rfl
  rw [hd, List.getElem?_map] at hz
  have hi' : i < wdL.length := hi
  rw [List.getElem?_eq_getElem hi'] at hz
  simp only [Option.map_some, Option.some.injEq, DataW.lit.injEq, Lit.string.injEq] at hz
  have : s = wd i := by
    unfold wd
    rw [List.getD_eq_getElem?_getD, List.getElem?_eq_getElem hi', Option.getD_some, hz]
  rw [this]

theorem words_below {w w' : World} (h : Words w) (hb : Below w.heap.size w w') : Words w' := by
  intro i hi
  have h1 := h i hi
  have h2 := World.block_lt_of_cell? w _ h1
  rw [hb.cell (p := ⟨0, i, none⟩) h2]
  exact h1
end Go.Proofs.YtaadobdanhpkkagDoor
