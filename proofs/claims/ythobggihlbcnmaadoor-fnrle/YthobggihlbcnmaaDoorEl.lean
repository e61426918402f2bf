/- What the row's list of the cursor's three errors gives: three cells that point to three blocks of their own. -/
import Derived.Test.YthobggihlbcnmaaDoorTk
import Derived.LaidMore
import Derived.Stop.LaidErr
import Derived.Stop.Joined
namespace Go.Proofs.YthobggihlbcnmaaDoor
open Go.ChangeShapes Go.WideShapes Go.ChangeAt Go.RowKit
set_option linter.unusedVariables false

theorem eStar : "*errors.errorString" = "*" ++ "errors.errorString" := by decide
theorem eRow (u : TypeId) (h : Tryd.prog.typeName? 3 u = some "*errors.errorString") : u = 96 :=
  typeName_ptr_named (nm := "errors.errorString") (by rw [← eStar]; kernel_rfl) (by kernel_rfl) (by decide) u (by rw [← eStar]; exact h)
theorem g0n : Tryd.prog.globalNamed "loop.example/g00644/impl.errCursor" = some 2 := by kernel_rfl
theorem g1n : Tryd.prog.globalNamed "loop.example/g00644/impl.errCount" = some 1 := by kernel_rfl
theorem g2n : Tryd.prog.globalNamed "loop.example/g00644/impl.errAtEnd" = some 0 := by kernel_rfl
theorem g0t : (Tryd.prog.globals[2]?).map (·.type) = some 47 := by kernel_rfl
theorem g1t : (Tryd.prog.globals[1]?).map (·.type) = some 47 := by kernel_rfl
theorem g2t : (Tryd.prog.globals[0]?).map (·.type) = some 47 := by kernel_rfl
theorem eCells : Tryd.prog.cellsOf 119 = 1 := by kernel_rfl
theorem sCells : Tryd.prog.cellsOf 9 = 1 := by kernel_rfl

set_option maxRecDepth 100000 in
theorem errs_of {W : World} (h : laidMetH Tryd.prog [("loop.example/g00644/impl.errCursor", Rows.laid_loop_example_g00644_impl_errCursor), ("loop.example/g00644/impl.errCount", Rows.laid_loop_example_g00644_impl_errCount), ("loop.example/g00644/impl.errAtEnd", Rows.laid_loop_example_g00644_impl_errAtEnd)] W) :
    ∃ e0 e1 e2, Errs W e0 e1 e2 := by
  rw [MakeChecks.laidMetH_plain _ _ _ (by kernel_rfl)] at h
  obtain ⟨ps, ⟨g0, t0, cs0, f0, p0, q0, hg0, ht0, hv0, hd0, ⟨g1, t1, cs1, f1, p1, q1, hg1, ht1, hv1, hd1, ⟨g2, t2, cs2, f2, p2, q2, hg2, ht2, hv2, hd2, _, k2⟩, k1⟩, k0⟩, hnd, hrows⟩ := h
  obtain rfl := Option.some.inj (g0n.symm.trans hg0)
  obtain rfl := Option.some.inj (g1n.symm.trans hg1)
  obtain rfl := Option.some.inj (g2n.symm.trans hg2)
  obtain rfl := Option.some.inj (g0t.symm.trans ht0)
  obtain rfl := Option.some.inj (g1t.symm.trans ht1)
  obtain rfl := Option.some.inj (g2t.symm.trans ht2)
  subst k2
  subst k1
  subst k0
  obtain ⟨l0⟩ := cs0
  obtain ⟨l1⟩ := cs1
  obtain ⟨l2⟩ := cs2
  have ok0 : ∀ u v, l0 = [.iface u v] → Value.okWide Tryd.prog W .any 0 u v := fun u v e => by
    subst e
    exact (hrows 2 0 (by simp [MemPlace.row])).2 u v (by simpa using World.var?_cell hg0 hv0 0)
  have ok1 : ∀ u v, l1 = [.iface u v] → Value.okWide Tryd.prog W .any 0 u v := fun u v e => by
    subst e
    exact (hrows 1 0 (by simp [MemPlace.row])).2 u v (by simpa using World.var?_cell hg1 hv1 0)
  have ok2 : ∀ u v, l2 = [.iface u v] → Value.okWide Tryd.prog W .any 0 u v := fun u v e => by
    subst e
    exact (hrows 0 0 (by simp [MemPlace.row])).2 u v (by simpa using World.var?_cell hg2 hv2 0)
  obtain ⟨a0, s0, rfl, _, _, _, rfl⟩ := errorString_of_trod Tryd.underlying47 eRow Tryd.underlying96 Tryd.underlying119 rfl rfl Tryd.underlying9 eCells sCells hd0 ok0
  obtain ⟨a1, s1, rfl, _, _, _, rfl⟩ := errorString_of_trod Tryd.underlying47 eRow Tryd.underlying96 Tryd.underlying119 rfl rfl Tryd.underlying9 eCells sCells hd1 ok1
  obtain ⟨a2, s2, rfl, _, _, _, rfl⟩ := errorString_of_trod Tryd.underlying47 eRow Tryd.underlying96 Tryd.underlying119 rfl rfl Tryd.underlying9 eCells sCells hd2 ok2
  refine ⟨a0, a1, a2, ?_, ?_, ?_, ?_, ?_, ?_, (hrows a0.block a0.off (by simp [MemPlace.row])).1, (hrows a1.block a1.off (by simp [MemPlace.row])).1, (hrows a2.block a2.off (by simp [MemPlace.row])).1⟩
  · simpa using World.var?_cell hg0 hv0 0
  · simpa using World.var?_cell hg1 hv1 0
  · simpa using World.var?_cell hg2 hv2 0
  · rintro rfl; simp [MemPlace.row] at hnd
  · rintro rfl; simp [MemPlace.row] at hnd
  · rintro rfl; simp [MemPlace.row] at hnd
end Go.Proofs.YthobggihlbcnmaaDoor
