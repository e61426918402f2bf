/- What the rows' lists of variables give: the times of bits, the errors. -/
import Derived.Test.YtakdhmlegickmaaDoorXev
import Derived.Test.YtakdhmlegickmaaDoorV28
import Derived.Test.YtakdhmlegickmaaDoorXtv
import Derived.LaidMore
import Derived.Stop.LaidErr
import Derived.Stop.Joined
namespace Go.Proofs.YtakdhmlegickmaaDoor
open Go.ChangeShapes Go.WideShapes Go.ChangeAt Go.RowKit
set_option linter.unusedVariables false
set_option linter.unusedSimpArgs false

theorem gn_errCount : Tryd.prog.globalNamed "loop.example/g00644/impl.errCount" = some 8 := by kernel_rfl
theorem gt_errCount : (Tryd.prog.globals[8]?).map (·.type) = some 60 := by kernel_rfl
theorem gn_errAtEnd : Tryd.prog.globalNamed "loop.example/g00644/impl.errAtEnd" = some 7 := by kernel_rfl
theorem gt_errAtEnd : (Tryd.prog.globals[7]?).map (·.type) = some 60 := by kernel_rfl
theorem gn_errBlockSize : Tryd.prog.globalNamed "loop.example/g00644/impl.errBlockSize" = some 1 := by kernel_rfl
theorem gt_errBlockSize : (Tryd.prog.globals[1]?).map (·.type) = some 60 := by kernel_rfl
theorem gn_errBlockSum : Tryd.prog.globalNamed "loop.example/g00644/impl.errBlockSum" = some 2 := by kernel_rfl
theorem gt_errBlockSum : (Tryd.prog.globals[2]?).map (·.type) = some 60 := by kernel_rfl
theorem gn_errManyBlocks : Tryd.prog.globalNamed "loop.example/g00644/impl.errManyBlocks" = some 0 := by kernel_rfl
theorem gt_errManyBlocks : (Tryd.prog.globals[0]?).map (·.type) = some 60 := by kernel_rfl
theorem gn_errNoPilot : Tryd.prog.globalNamed "loop.example/g00644/impl.errNoPilot" = some 4 := by kernel_rfl
theorem gt_errNoPilot : (Tryd.prog.globals[4]?).map (·.type) = some 60 := by kernel_rfl
theorem gn_errNoSync : Tryd.prog.globalNamed "loop.example/g00644/impl.errNoSync" = some 5 := by kernel_rfl
theorem gt_errNoSync : (Tryd.prog.globals[5]?).map (·.type) = some 60 := by kernel_rfl
theorem gn_errPartOfByte : Tryd.prog.globalNamed "loop.example/g00644/impl.errPartOfByte" = some 6 := by kernel_rfl
theorem gt_errPartOfByte : (Tryd.prog.globals[6]?).map (·.type) = some 60 := by kernel_rfl
set_option maxRecDepth 100000 in
set_option maxHeartbeats 4000000 in
theorem errxt_of {W : World} (h : laidMetH Tryd.prog [("loop.example/g00644/impl.errCount", Rows.laid_loop_example_g00644_impl_errCount), ("loop.example/g00644/impl.errAtEnd", Rows.laid_loop_example_g00644_impl_errAtEnd), ("loop.example/g00644/impl.errBlockSize", Rows.laid_loop_example_g00644_impl_errBlockSize), ("loop.example/g00644/impl.errBlockSum", Rows.laid_loop_example_g00644_impl_errBlockSum), ("loop.example/g00644/impl.errManyBlocks", Rows.laid_loop_example_g00644_impl_errManyBlocks), ("loop.example/g00644/impl.errNoPilot", Rows.laid_loop_example_g00644_impl_errNoPilot), ("loop.example/g00644/impl.errNoSync", Rows.laid_loop_example_g00644_impl_errNoSync), ("loop.example/g00644/impl.errPartOfByte", Rows.laid_loop_example_g00644_impl_errPartOfByte), ("loop.example/g00644/impl.bitTimes", Rows.laid_loop_example_g00644_impl_bitTimes)] W) : (∃ e3 e4 e5 e6 e7 e8, ErrX W e3 e4 e5 e6 e7 e8) ∧ Tim W := by
  rw [MakeChecks.laidMetH_plain _ _ _ (by kernel_rfl)] at h
  obtain ⟨ps, ⟨g0, t0, cs0, f0, p0, q0, hg0, ht0, hv0, hd0, ⟨g1, t1, cs1, f1, p1, q1, hg1, ht1, hv1, hd1, ⟨g2, t2, cs2, f2, p2, q2, hg2, ht2, hv2, hd2, ⟨g3, t3, cs3, f3, p3, q3, hg3, ht3, hv3, hd3, ⟨g4, t4, cs4, f4, p4, q4, hg4, ht4, hv4, hd4, ⟨g5, t5, cs5, f5, p5, q5, hg5, ht5, hv5, hd5, ⟨g6, t6, cs6, f6, p6, q6, hg6, ht6, hv6, hd6, ⟨g7, t7, cs7, f7, p7, q7, hg7, ht7, hv7, hd7, ⟨g8, t8, cs8, f8, p8, q8, hg8, ht8, hv8, hd8, _, k8⟩, k7⟩, k6⟩, k5⟩, k4⟩, k3⟩, k2⟩, k1⟩, k0⟩, hnd, hrows⟩ := h
  obtain rfl := Option.some.inj (gn_errCount.symm.trans hg0)
  obtain rfl := Option.some.inj (gt_errCount.symm.trans ht0)
  obtain rfl := Option.some.inj (gn_errAtEnd.symm.trans hg1)
  obtain rfl := Option.some.inj (gt_errAtEnd.symm.trans ht1)
  obtain rfl := Option.some.inj (gn_errBlockSize.symm.trans hg2)
  obtain rfl := Option.some.inj (gt_errBlockSize.symm.trans ht2)
  obtain rfl := Option.some.inj (gn_errBlockSum.symm.trans hg3)
  obtain rfl := Option.some.inj (gt_errBlockSum.symm.trans ht3)
  obtain rfl := Option.some.inj (gn_errManyBlocks.symm.trans hg4)
  obtain rfl := Option.some.inj (gt_errManyBlocks.symm.trans ht4)
  obtain rfl := Option.some.inj (gn_errNoPilot.symm.trans hg5)
  obtain rfl := Option.some.inj (gt_errNoPilot.symm.trans ht5)
  obtain rfl := Option.some.inj (gn_errNoSync.symm.trans hg6)
  obtain rfl := Option.some.inj (gt_errNoSync.symm.trans ht6)
  obtain rfl := Option.some.inj (gn_errPartOfByte.symm.trans hg7)
  obtain rfl := Option.some.inj (gt_errPartOfByte.symm.trans ht7)
  obtain rfl := Option.some.inj (gn_bitTimes.symm.trans hg8)
  obtain rfl := Option.some.inj (gt_bitTimes.symm.trans ht8)
  obtain ⟨xs, m1, hx0, hx1, hlen, hn, hel⟩ := DataW.trod_array Tryd.underlying99 hd8
  have c1 : Tryd.prog.cellsOf 3 = 1 := by kernel_rfl
  have hd : xs.map (·.1) = [(.lit (.int .i64 20) : DataW Unit), .lit (.int .i64 40)] := by
    have := congrArg Prod.fst hx1
    simp only [Rows.laid_loop_example_g00644_impl_bitTimes, DataW.agg.injEq] at this
    exact this.symm
  have key : ∀ i (hi : i < 2) (z : Int), (xs.map (·.1))[i]? = some (DataW.lit (.int .i64 z) : DataW Unit) → W.cell? ⟨3, i, none⟩ = some (.int .i64 z) := by
    intro i hi z hz
    have h0 := hel i hi
    rw [c1, Nat.mul_one] at h0
    have hxi : xs[i]? = some xs[i] := List.getElem?_eq_getElem (by omega)
    rw [hxi] at h0
    obtain ⟨n, e1, e2, _⟩ := DataW.trod_int Tryd.underlying3 h0
    have hcs : cs8[i]? = some (.int .i64 n) := by
      have := congrArg (·[0]?) e1
      simpa [List.getElem?_take, List.getElem?_drop] using this
    rw [World.var?_cell hg8 hv8 i, hcs]
    rw [List.getElem?_map, hxi, e2] at hz
    simp at hz
    rw [hz]
  have hTim : Tim W := ⟨key 0 (by omega) _ (by rw [hd]; rfl), key 1 (by omega) _ (by rw [hd]; rfl)⟩
  clear key hd c1 hel hn hlen hx1 hd8
  subst k8
  subst k7
  subst k6
  subst k5
  subst k4
  subst k3
  subst k2
  subst k1
  subst k0
  obtain ⟨l0⟩ := cs0
  obtain ⟨l1⟩ := cs1
  obtain ⟨l2⟩ := cs2
  obtain ⟨l3⟩ := cs3
  obtain ⟨l4⟩ := cs4
  obtain ⟨l5⟩ := cs5
  obtain ⟨l6⟩ := cs6
  obtain ⟨l7⟩ := cs7
  have ok0 : ∀ u v, l0 = [.iface u v] → Value.okWide Tryd.prog W .any 0 u v := fun u v e => by
    subst e
    exact (hrows 8 0 (by simp [MemPlace.row])).2 u v (by simpa using World.var?_cell hg0 hv0 0)
  have ok1 : ∀ u v, l1 = [.iface u v] → Value.okWide Tryd.prog W .any 0 u v := fun u v e => by
    subst e
    exact (hrows 7 0 (by simp [MemPlace.row])).2 u v (by simpa using World.var?_cell hg1 hv1 0)
  have ok2 : ∀ u v, l2 = [.iface u v] → Value.okWide Tryd.prog W .any 0 u v := fun u v e => by
    subst e
    exact (hrows 1 0 (by simp [MemPlace.row])).2 u v (by simpa using World.var?_cell hg2 hv2 0)
  have ok3 : ∀ u v, l3 = [.iface u v] → Value.okWide Tryd.prog W .any 0 u v := fun u v e => by
    subst e
    exact (hrows 2 0 (by simp [MemPlace.row])).2 u v (by simpa using World.var?_cell hg3 hv3 0)
  have ok4 : ∀ u v, l4 = [.iface u v] → Value.okWide Tryd.prog W .any 0 u v := fun u v e => by
    subst e
    exact (hrows 0 0 (by simp [MemPlace.row])).2 u v (by simpa using World.var?_cell hg4 hv4 0)
  have ok5 : ∀ u v, l5 = [.iface u v] → Value.okWide Tryd.prog W .any 0 u v := fun u v e => by
    subst e
    exact (hrows 4 0 (by simp [MemPlace.row])).2 u v (by simpa using World.var?_cell hg5 hv5 0)
  have ok6 : ∀ u v, l6 = [.iface u v] → Value.okWide Tryd.prog W .any 0 u v := fun u v e => by
    subst e
    exact (hrows 5 0 (by simp [MemPlace.row])).2 u v (by simpa using World.var?_cell hg6 hv6 0)
  have ok7 : ∀ u v, l7 = [.iface u v] → Value.okWide Tryd.prog W .any 0 u v := fun u v e => by
    subst e
    exact (hrows 6 0 (by simp [MemPlace.row])).2 u v (by simpa using World.var?_cell hg7 hv7 0)
  obtain ⟨a0, s0, rfl, _, _, _, rfl⟩ := errorString_of_trod Tryd.underlying60 eRow Tryd.underlying138 Tryd.underlying161 rfl rfl Tryd.underlying9 eCells sCells hd0 ok0
  obtain ⟨a1, s1, rfl, _, _, _, rfl⟩ := errorString_of_trod Tryd.underlying60 eRow Tryd.underlying138 Tryd.underlying161 rfl rfl Tryd.underlying9 eCells sCells hd1 ok1
  obtain ⟨a2, s2, rfl, _, _, _, rfl⟩ := errorString_of_trod Tryd.underlying60 eRow Tryd.underlying138 Tryd.underlying161 rfl rfl Tryd.underlying9 eCells sCells hd2 ok2
  obtain ⟨a3, s3, rfl, _, _, _, rfl⟩ := errorString_of_trod Tryd.underlying60 eRow Tryd.underlying138 Tryd.underlying161 rfl rfl Tryd.underlying9 eCells sCells hd3 ok3
  obtain ⟨a4, s4, rfl, _, _, _, rfl⟩ := errorString_of_trod Tryd.underlying60 eRow Tryd.underlying138 Tryd.underlying161 rfl rfl Tryd.underlying9 eCells sCells hd4 ok4
  obtain ⟨a5, s5, rfl, _, _, _, rfl⟩ := errorString_of_trod Tryd.underlying60 eRow Tryd.underlying138 Tryd.underlying161 rfl rfl Tryd.underlying9 eCells sCells hd5 ok5
  obtain ⟨a6, s6, rfl, _, _, _, rfl⟩ := errorString_of_trod Tryd.underlying60 eRow Tryd.underlying138 Tryd.underlying161 rfl rfl Tryd.underlying9 eCells sCells hd6 ok6
  obtain ⟨a7, s7, rfl, _, _, _, rfl⟩ := errorString_of_trod Tryd.underlying60 eRow Tryd.underlying138 Tryd.underlying161 rfl rfl Tryd.underlying9 eCells sCells hd7 ok7
  have m23 : a2 ≠ a3 := by rintro rfl; simp [MemPlace.row] at hnd
  have m24 : a2 ≠ a4 := by rintro rfl; simp [MemPlace.row] at hnd
  have m25 : a2 ≠ a5 := by rintro rfl; simp [MemPlace.row] at hnd
  have m26 : a2 ≠ a6 := by rintro rfl; simp [MemPlace.row] at hnd
  have m27 : a2 ≠ a7 := by rintro rfl; simp [MemPlace.row] at hnd
  have m34 : a3 ≠ a4 := by rintro rfl; simp [MemPlace.row] at hnd
  have m35 : a3 ≠ a5 := by rintro rfl; simp [MemPlace.row] at hnd
  have m36 : a3 ≠ a6 := by rintro rfl; simp [MemPlace.row] at hnd
  have m37 : a3 ≠ a7 := by rintro rfl; simp [MemPlace.row] at hnd
  have m45 : a4 ≠ a5 := by rintro rfl; simp [MemPlace.row] at hnd
  have m46 : a4 ≠ a6 := by rintro rfl; simp [MemPlace.row] at hnd
  have m47 : a4 ≠ a7 := by rintro rfl; simp [MemPlace.row] at hnd
  have m56 : a5 ≠ a6 := by rintro rfl; simp [MemPlace.row] at hnd
  have m57 : a5 ≠ a7 := by rintro rfl; simp [MemPlace.row] at hnd
  have m67 : a6 ≠ a7 := by rintro rfl; simp [MemPlace.row] at hnd
  have z2 := (hrows a2.block a2.off (by simp [MemPlace.row])).1
  have z3 := (hrows a3.block a3.off (by simp [MemPlace.row])).1
  have z4 := (hrows a4.block a4.off (by simp [MemPlace.row])).1
  have z5 := (hrows a5.block a5.off (by simp [MemPlace.row])).1
  have z6 := (hrows a6.block a6.off (by simp [MemPlace.row])).1
  have z7 := (hrows a7.block a7.off (by simp [MemPlace.row])).1
  have y2 : W.cell? ⟨1, 0, none⟩ = some (iE a2) := by simpa using World.var?_cell hg2 hv2 0
  have y3 : W.cell? ⟨2, 0, none⟩ = some (iE a3) := by simpa using World.var?_cell hg3 hv3 0
  have y4 : W.cell? ⟨0, 0, none⟩ = some (iE a4) := by simpa using World.var?_cell hg4 hv4 0
  have y5 : W.cell? ⟨4, 0, none⟩ = some (iE a5) := by simpa using World.var?_cell hg5 hv5 0
  have y6 : W.cell? ⟨5, 0, none⟩ = some (iE a6) := by simpa using World.var?_cell hg6 hv6 0
  have y7 : W.cell? ⟨6, 0, none⟩ = some (iE a7) := by simpa using World.var?_cell hg7 hv7 0
  exact ⟨⟨a2, a3, a4, a5, a6, a7, y2, y3, y4, y5, y6, y7, m23, m24, m25, m26, m27, m34, m35, m36, m37, m45, m46, m47, m56, m57, m67, z2, z3, z4, z5, z6, z7⟩, hTim⟩
theorem vars8_form {H : Type} {enc : TypeId × Value → H} {P : Program} {w : World} {sp : Nat → Bool} {n0 n1 n2 n3 n4 n5 n6 n7 : String} {gs : List (DataW H)} {ps : List MemPlace} (h : DataW.TrodVars enc P w sp [n0, n1, n2, n3, n4, n5, n6, n7] gs ps) : ∃ a0 a1 a2 a3 a4 a5 a6 a7, gs = [a0, a1, a2, a3, a4, a5, a6, a7] := by
  match gs, h with
  | [], h => exact h.elim
  | a0 :: gs, ⟨_, _, _, _, _, _, _, _, _, _, h, _⟩ =>
    match gs, h with
    | [], h => exact h.elim
    | a1 :: gs, ⟨_, _, _, _, _, _, _, _, _, _, h, _⟩ =>
      match gs, h with
      | [], h => exact h.elim
      | a2 :: gs, ⟨_, _, _, _, _, _, _, _, _, _, h, _⟩ =>
        match gs, h with
        | [], h => exact h.elim
        | a3 :: gs, ⟨_, _, _, _, _, _, _, _, _, _, h, _⟩ =>
          match gs, h with
          | [], h => exact h.elim
          | a4 :: gs, ⟨_, _, _, _, _, _, _, _, _, _, h, _⟩ =>
            match gs, h with
            | [], h => exact h.elim
            | a5 :: gs, ⟨_, _, _, _, _, _, _, _, _, _, h, _⟩ =>
              match gs, h with
              | [], h => exact h.elim
              | a6 :: gs, ⟨_, _, _, _, _, _, _, _, _, _, h, _⟩ =>
                obtain ⟨a7, rfl⟩ := vars1_form h
                exact ⟨a0, a1, a2, a3, a4, a5, a6, a7, rfl⟩
theorem vars9_form {H : Type} {enc : TypeId × Value → H} {P : Program} {w : World} {sp : Nat → Bool} {n0 n1 n2 n3 n4 n5 n6 n7 n8 : String} {gs : List (DataW H)} {ps : List MemPlace} (h : DataW.TrodVars enc P w sp [n0, n1, n2, n3, n4, n5, n6, n7, n8] gs ps) : ∃ a0 a1 a2 a3 a4 a5 a6 a7 a8, gs = [a0, a1, a2, a3, a4, a5, a6, a7, a8] := by
  match gs, h with
  | [], h => exact h.elim
  | a0 :: gs, ⟨_, _, _, _, _, _, _, _, _, _, h, _⟩ =>
    match gs, h with
    | [], h => exact h.elim
    | a1 :: gs, ⟨_, _, _, _, _, _, _, _, _, _, h, _⟩ =>
      match gs, h with
      | [], h => exact h.elim
      | a2 :: gs, ⟨_, _, _, _, _, _, _, _, _, _, h, _⟩ =>
        match gs, h with
        | [], h => exact h.elim
        | a3 :: gs, ⟨_, _, _, _, _, _, _, _, _, _, h, _⟩ =>
          match gs, h with
          | [], h => exact h.elim
          | a4 :: gs, ⟨_, _, _, _, _, _, _, _, _, _, h, _⟩ =>
            match gs, h with
            | [], h => exact h.elim
            | a5 :: gs, ⟨_, _, _, _, _, _, _, _, _, _, h, _⟩ =>
              match gs, h with
              | [], h => exact h.elim
              | a6 :: gs, ⟨_, _, _, _, _, _, _, _, _, _, h, _⟩ =>
                match gs, h with
                | [], h => exact h.elim
                | a7 :: gs, ⟨_, _, _, _, _, _, _, _, _, _, h, _⟩ =>
                  obtain ⟨a8, rfl⟩ := vars1_form h
                  exact ⟨a0, a1, a2, a3, a4, a5, a6, a7, a8, rfl⟩
end Go.Proofs.YtakdhmlegickmaaDoor
