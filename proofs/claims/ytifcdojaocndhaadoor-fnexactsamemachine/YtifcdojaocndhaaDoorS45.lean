/- The law of MachineOK: its drawn statement. -/
import Derived.Test.YtifcdojaocndhaaDoorS43
import Derived.Test.YtifcdojaocndhaaDoorWees
import Derived.Test.YtifcdojaocndhaaDoorS10
import Derived.Test.YtifcdojaocndhaaDoorS30
import Derived.LaidMore
import Derived.OpenShut
import Derived.Stop.Joined
namespace Go.Proofs.YtifcdojaocndhaaDoor
open Go.ChangeShapes Go.WideShapes Go.ChangeAt Go.RowKit
set_option linter.unusedVariables false
set_option linter.unusedSimpArgs false

theorem SmallMc.fit {x : Mc} (h : SmallMc x) : FitMc x := ⟨⟨by have := h.m.1; omega, by have := h.m.2.1; omega, fun i hi => by have := h.m.rows i hi; omega⟩, h.d, h.e⟩
theorem tomcB (x : Mc) (v : Value) (w : World) (h : MacB w v x) (hs : SmallMc x) : Calls Tryd.prog 19 #[v] w fun e w' => ∃ ur um ud ue, e = .returned (mcV x ur um ud ue) ∧ MacB w' (mcV x ur um ud ue) x ∧ Below w.heap.size w w' := by
  refine (tomc x v w h hs).mono ?_
  rintro e w' ⟨ur, um, ud, g, m1, m2, L, rfl, S⟩
  exact ⟨ur, um, ud, _, rfl, ⟨ur, um, ud, _, rfl, MemO.reads (S.at 2 rfl), OwnI.read (S.at 1 rfl), EvO.read (S.at 0 rfl)⟩, S.bel⟩
end Go.Proofs.YtifcdojaocndhaaDoor

/- What the row's lists of the two patterns give: their cells hold the document's waits and fetches. -/
namespace Go.Proofs.YtifcdojaocndhaaDoor
open Go.ChangeShapes Go.WideShapes Go.ChangeAt Go.RowKit
set_option linter.unusedVariables false

theorem gPat : Tryd.prog.globalNamed "loop.example/g00644/impl.waitPattern" = some 2 := by kernel_rfl
theorem tPat : (Tryd.prog.globals[2]?).map (·.type) = some 24 := by kernel_rfl
theorem pat_of {W : World} (h : laidMetH Tryd.prog [("loop.example/g00644/impl.waitPattern", Rows.laid_loop_example_g00644_impl_waitPattern)] W) : Pat W := by
  rw [MakeChecks.laidMetH_plain _ _ _ (by kernel_rfl)] at h
  obtain ⟨ps, ⟨g0, t0, cs0, f0, p0, q0, hg0, ht0, hv0, hd0, _⟩, _⟩ := h
  obtain rfl := Option.some.inj (gPat.symm.trans hg0)
  obtain rfl := Option.some.inj (tPat.symm.trans ht0)
  obtain ⟨xs, m1, rfl, hx1, hlen, hn, hel⟩ := DataW.trod_array Tryd.underlying24 hd0
  have c1 : Tryd.prog.cellsOf 3 = 1 := by kernel_rfl
  have hd : xs.map (·.1) = [(.lit (.int .i64 6) : DataW Unit), .lit (.int .i64 5), .lit (.int .i64 4), .lit (.int .i64 3), .lit (.int .i64 2), .lit (.int .i64 1), .lit (.int .i64 0), .lit (.int .i64 0)] := by
    have := congrArg Prod.fst hx1
    simp only [Rows.laid_loop_example_g00644_impl_waitPattern, DataW.agg.injEq] at this
    exact this.symm
  have key : ∀ i (hi : i < 8) (z : Int), (xs.map (·.1))[i]? = some (DataW.lit (.int .i64 z) : DataW Unit) → W.cell? ⟨2, i, none⟩ = some (.int .i64 z) := by
    intro i hi z hz
    have h0 := hel i hi
    rw [c1, Nat.mul_one] at h0
    have hxi : xs[i]? = some xs[i] := List.getElem?_eq_getElem (by omega)
    rw [hxi] at h0
    obtain ⟨n, e1, e2, _⟩ := DataW.trod_int Tryd.underlying3 h0
    have hcs : cs0[i]? = some (.int .i64 n) := by
      have := congrArg (·[0]?) e1
      simpa [List.getElem?_take, List.getElem?_drop] using this
    rw [World.var?_cell gPat hv0 i, hcs]
    rw [List.getElem?_map, hxi, e2] at hz
    simp at hz
    rw [hz]
  intro i hi
  have h8 : i = 0 ∨ i = 1 ∨ i = 2 ∨ i = 3 ∨ i = 4 ∨ i = 5 ∨ i = 6 ∨ i = 7 := by omega
  rcases h8 with rfl | rfl | rfl | rfl | rfl | rfl | rfl | rfl
  all_goals exact key _ (by omega) _ (by rw [hd]; rfl)
theorem pat_grown {w w' : World} {g : Nat} (h : Pat w) (hg : w.grownBy w' (some g)) (hne : g ≠ 2) : Pat w' := by
  intro i hi
  exact hg.cell (h i hi) (by simp; omega)
theorem gFPat : Tryd.prog.globalNamed "loop.example/g00644/impl.fetchPattern" = some 4 := by kernel_rfl
theorem tFPat : (Tryd.prog.globals[4]?).map (·.type) = some 188 := by kernel_rfl
theorem fpat_of {W : World} (h : laidMetH Tryd.prog [("loop.example/g00644/impl.fetchPattern", Rows.laid_loop_example_g00644_impl_fetchPattern)] W) : FPat W := by
  rw [MakeChecks.laidMetH_plain _ _ _ (by kernel_rfl)] at h
  obtain ⟨ps, ⟨g0, t0, cs0, f0, p0, q0, hg0, ht0, hv0, hd0, _⟩, _⟩ := h
  obtain rfl := Option.some.inj (gFPat.symm.trans hg0)
  obtain rfl := Option.some.inj (tFPat.symm.trans ht0)
  obtain ⟨xs, m1, rfl, hx1, hlen, hn, hel⟩ := DataW.trod_array Tryd.underlying188 hd0
  have c1 : Tryd.prog.cellsOf 3 = 1 := by kernel_rfl
  have hd : xs.map (·.1) = [(.lit (.int .i64 0) : DataW Unit), .lit (.int .i64 32), .lit (.int .i64 (-1)), .lit (.int .i64 (-1))] := by
    have := congrArg Prod.fst hx1
    simp only [Rows.laid_loop_example_g00644_impl_fetchPattern, DataW.agg.injEq] at this
    exact this.symm
  have key : ∀ i (hi : i < 4) (z : Int), (xs.map (·.1))[i]? = some (DataW.lit (.int .i64 z) : DataW Unit) → W.cell? ⟨4, i, none⟩ = some (.int .i64 z) := by
    intro i hi z hz
    have h0 := hel i hi
    rw [c1, Nat.mul_one] at h0
    have hxi : xs[i]? = some xs[i] := List.getElem?_eq_getElem (by omega)
    rw [hxi] at h0
    obtain ⟨n, e1, e2, _⟩ := DataW.trod_int Tryd.underlying3 h0
    have hcs : cs0[i]? = some (.int .i64 n) := by
      have := congrArg (·[0]?) e1
      simpa [List.getElem?_take, List.getElem?_drop] using this
    rw [World.var?_cell gFPat hv0 i, hcs]
    rw [List.getElem?_map, hxi, e2] at hz
    simp at hz
    rw [hz]
  exact ⟨key 0 (by omega) _ (by rw [hd]; rfl), key 1 (by omega) _ (by rw [hd]; rfl), key 2 (by omega) _ (by rw [hd]; rfl), key 3 (by omega) _ (by rw [hd]; rfl)⟩
end Go.Proofs.YtifcdojaocndhaaDoor
