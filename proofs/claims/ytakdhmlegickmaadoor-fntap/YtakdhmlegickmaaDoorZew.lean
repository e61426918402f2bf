/- The six errors of the cursor and of blocks, as start-up lays them; the code that goes with each. -/
import Derived.Test.YtakdhmlegickmaaDoorW06
namespace Go.Proofs.YtakdhmlegickmaaDoor
open Go.ChangeShapes Go.WideShapes Go.ChangeAt Go.RowKit
set_option linter.unusedVariables false
set_option linter.unusedSimpArgs false

theorem hid3 {p : Prop} (h : p) : Hid p := h
structure Err6 (w : World) (e0 e1 e2 e3 e4 e5 : Addr) : Prop where
  base : Errs w e0 e1 e2
  c3 : w.cell? ⟨1, 0, none⟩ = some (.iface 138 (.pointer (some e3)))
  c4 : w.cell? ⟨2, 0, none⟩ = some (.iface 138 (.pointer (some e4)))
  c5 : w.cell? ⟨0, 0, none⟩ = some (.iface 138 (.pointer (some e5)))
  n03 : e0 ≠ e3
  n13 : e1 ≠ e3
  n23 : e2 ≠ e3
  n04 : e0 ≠ e4
  n14 : e1 ≠ e4
  n24 : e2 ≠ e4
  n34 : e3 ≠ e4
  n05 : e0 ≠ e5
  n15 : e1 ≠ e5
  n25 : e2 ≠ e5
  n35 : e3 ≠ e5
  n45 : e4 ≠ e5
  b3 : ∃ ca ta, w.heap[e3.block]? = some (.cells ca ta (0, 0))
  b4 : ∃ ca ta, w.heap[e4.block]? = some (.cells ca ta (0, 0))
  b5 : ∃ ca ta, w.heap[e5.block]? = some (.cells ca ta (0, 0))
theorem Err6.below {w w' : World} {e0 e1 e2 e3 e4 e5 : Addr} (h : Err6 w e0 e1 e2 e3 e4 e5) (hb : Below w.heap.size w w') : Err6 w' e0 e1 e2 e3 e4 e5 := by
  obtain ⟨hB, c3, c4, c5, n03, n13, n23, n04, n14, n24, n34, n05, n15, n25, n35, n45, ⟨x3, t3, b3⟩, ⟨x4, t4, b4⟩, ⟨x5, t5, b5⟩⟩ := h
  refine ⟨hB.below hb, ?_, ?_, ?_, n03, n13, n23, n04, n14, n24, n34, n05, n15, n25, n35, n45, ⟨x3, t3, ?_⟩, ⟨x4, t4, ?_⟩, ⟨x5, t5, ?_⟩⟩
  · rw [hb.cell (p := ⟨1, 0, none⟩) (World.block_lt_of_cell? w _ c3)]; exact c3
  · rw [hb.cell (p := ⟨2, 0, none⟩) (World.block_lt_of_cell? w _ c4)]; exact c4
  · rw [hb.cell (p := ⟨0, 0, none⟩) (World.block_lt_of_cell? w _ c5)]; exact c5
  · rw [hb.block _ (lt_of_block b3)]; exact b3
  · rw [hb.block _ (lt_of_block b4)]; exact b4
  · rw [hb.block _ (lt_of_block b5)]; exact b5
/-- the error that goes with a code -/
def errV6 (e0 e1 e2 e3 e4 e5 : Addr) (c : Int) : Value := if c = 8 then .iface 138 (.pointer (some e3)) else if c = 10 then .iface 138 (.pointer (some e4)) else if c = 6 then .iface 138 (.pointer (some e5)) else errV e0 e1 e2 c
theorem errV6_some (e0 e1 e2 e3 e4 e5 : Addr) (c : Int) (h : c ≠ 0) : ∃ x, errV6 e0 e1 e2 e3 e4 e5 c = .iface 138 (.pointer (some x)) := by
  unfold errV6
  split
  · exact ⟨_, rfl⟩
  · split
    · exact ⟨_, rfl⟩
    · split
      · exact ⟨_, rfl⟩
      · exact errV_some e0 e1 e2 c h
set_option maxRecDepth 100000 in
theorem is_nil (b : Addr) (w : World) : Calls Tryd.prog 60 #[.nilIface, .iface 138 (.pointer (some b))] w fun e w' => e = .returned (.bool false) ∧ w' = w := by
  have heq := run_eql_iface_nil_left (P := Tryd.prog) w 138 (.pointer (some b)) Tryd.underlying60
  go_enter Tryd.func60, Tryd.ntmps60
  go_wp2
  go_ret
  exact ⟨rfl, rfl⟩
set_option maxRecDepth 100000 in
theorem blockCode_any (e0 e1 e2 e3 e4 e5 : Addr) (c : Int) (w : World) (hE : Err6 w e0 e1 e2 e3 e4 e5) (hc : c = 0 ∨ c = 1 ∨ c = 4 ∨ c = 9 ∨ c = 8 ∨ c = 10 ∨ c = 6) :
    Calls Tryd.prog 38 #[errV6 e0 e1 e2 e3 e4 e5 c] w fun e w' => e = .returned (.int .i64 c) ∧ w' = w := by
  have g3 := hE.c3
  have g4 := hE.c4
  have g5 := hE.c5
  obtain ⟨x0, t0, b0⟩ := hE.base.b0
  obtain ⟨x1, t1, b1⟩ := hE.base.b1
  obtain ⟨x2, t2, b2⟩ := hE.base.b2
  obtain ⟨x3, t3, b3⟩ := hE.b3
  obtain ⟨x4, t4, b4⟩ := hE.b4
  obtain ⟨x5, t5, b5⟩ := hE.b5
  have n03 := hE.n03
  have n13 := hE.n13
  have n23 := hE.n23
  have n04 := hE.n04
  have n14 := hE.n14
  have n24 := hE.n24
  have n34 := hE.n34
  have n05 := hE.n05
  have n15 := hE.n15
  have n25 := hE.n25
  have n35 := hE.n35
  have n45 := hE.n45
  have hTC := hid3 (fun c h => takeCode_any e0 e1 e2 c w hE.base h)
  clear hE
  rcases hc with rfl | rfl | rfl | rfl | rfl | rfl | rfl
  · show Calls _ _ #[.nilIface] _ _
    go_enter Tryd.func38, Tryd.ntmps38
    go_wp2_with fail
    refine (is_nil e3 _).mono ?_
    rintro e w1 ⟨rfl, hww⟩
    obtain rfl := hww.symm
    go_wp2_with fail
    refine (is_nil e4 _).mono ?_
    rintro e w1 ⟨rfl, hww⟩
    obtain rfl := hww.symm
    go_wp2_with fail
    refine (is_nil e5 _).mono ?_
    rintro e w1 ⟨rfl, hww⟩
    obtain rfl := hww.symm
    go_wp2_with fail
    refine (hTC.out 0 (by simp)).mono ?_
    rintro e w1 ⟨rfl, hww⟩
    obtain rfl := hww.symm
    go_wp2_with fail
    go_ret
    exact ⟨rfl, rfl⟩
  · show Calls _ _ #[.iface 138 (.pointer (some e0))] _ _
    go_enter Tryd.func38, Tryd.ntmps38
    go_wp2_with fail
    refine (is_other e0 e3 _ _ _ _ _ n03 b0 b3).mono ?_
    rintro e w1 ⟨rfl, hww⟩
    obtain rfl := hww.symm
    go_wp2_with fail
    refine (is_other e0 e4 _ _ _ _ _ n04 b0 b4).mono ?_
    rintro e w1 ⟨rfl, hww⟩
    obtain rfl := hww.symm
    go_wp2_with fail
    refine (is_other e0 e5 _ _ _ _ _ n05 b0 b5).mono ?_
    rintro e w1 ⟨rfl, hww⟩
    obtain rfl := hww.symm
    go_wp2_with fail
    refine (hTC.out 1 (by simp)).mono ?_
    rintro e w1 ⟨rfl, hww⟩
    obtain rfl := hww.symm
    go_wp2_with fail
    go_ret
    exact ⟨rfl, rfl⟩
  · show Calls _ _ #[.iface 138 (.pointer (some e1))] _ _
    go_enter Tryd.func38, Tryd.ntmps38
    go_wp2_with fail
    refine (is_other e1 e3 _ _ _ _ _ n13 b1 b3).mono ?_
    rintro e w1 ⟨rfl, hww⟩
    obtain rfl := hww.symm
    go_wp2_with fail
    refine (is_other e1 e4 _ _ _ _ _ n14 b1 b4).mono ?_
    rintro e w1 ⟨rfl, hww⟩
    obtain rfl := hww.symm
    go_wp2_with fail
    refine (is_other e1 e5 _ _ _ _ _ n15 b1 b5).mono ?_
    rintro e w1 ⟨rfl, hww⟩
    obtain rfl := hww.symm
    go_wp2_with fail
    refine (hTC.out 4 (by simp)).mono ?_
    rintro e w1 ⟨rfl, hww⟩
    obtain rfl := hww.symm
    go_wp2_with fail
    go_ret
    exact ⟨rfl, rfl⟩
  · show Calls _ _ #[.iface 138 (.pointer (some e2))] _ _
    go_enter Tryd.func38, Tryd.ntmps38
    go_wp2_with fail
    refine (is_other e2 e3 _ _ _ _ _ n23 b2 b3).mono ?_
    rintro e w1 ⟨rfl, hww⟩
    obtain rfl := hww.symm
    go_wp2_with fail
    refine (is_other e2 e4 _ _ _ _ _ n24 b2 b4).mono ?_
    rintro e w1 ⟨rfl, hww⟩
    obtain rfl := hww.symm
    go_wp2_with fail
    refine (is_other e2 e5 _ _ _ _ _ n25 b2 b5).mono ?_
    rintro e w1 ⟨rfl, hww⟩
    obtain rfl := hww.symm
    go_wp2_with fail
    refine (hTC.out 9 (by simp)).mono ?_
    rintro e w1 ⟨rfl, hww⟩
    obtain rfl := hww.symm
    go_wp2_with fail
    go_ret
    exact ⟨rfl, rfl⟩
  · show Calls _ _ #[.iface 138 (.pointer (some e3))] _ _
    go_enter Tryd.func38, Tryd.ntmps38
    go_wp2_with fail
    refine (is_same e3 _).mono ?_
    rintro e w1 ⟨rfl, hww⟩
    obtain rfl := hww.symm
    go_wp2_with fail
    go_ret
    exact ⟨rfl, rfl⟩
  · show Calls _ _ #[.iface 138 (.pointer (some e4))] _ _
    go_enter Tryd.func38, Tryd.ntmps38
    go_wp2_with fail
    refine (is_other e4 e3 _ _ _ _ _ n34.symm b4 b3).mono ?_
    rintro e w1 ⟨rfl, hww⟩
    obtain rfl := hww.symm
    go_wp2_with fail
    refine (is_same e4 _).mono ?_
    rintro e w1 ⟨rfl, hww⟩
    obtain rfl := hww.symm
    go_wp2_with fail
    go_ret
    exact ⟨rfl, rfl⟩
  · show Calls _ _ #[.iface 138 (.pointer (some e5))] _ _
    go_enter Tryd.func38, Tryd.ntmps38
    go_wp2_with fail
    refine (is_other e5 e3 _ _ _ _ _ n35.symm b5 b3).mono ?_
    rintro e w1 ⟨rfl, hww⟩
    obtain rfl := hww.symm
    go_wp2_with fail
    refine (is_other e5 e4 _ _ _ _ _ n45.symm b5 b4).mono ?_
    rintro e w1 ⟨rfl, hww⟩
    obtain rfl := hww.symm
    go_wp2_with fail
    refine (is_same e5 _).mono ?_
    rintro e w1 ⟨rfl, hww⟩
    obtain rfl := hww.symm
    go_wp2_with fail
    go_ret
    exact ⟨rfl, rfl⟩
theorem g3n : Tryd.prog.globalNamed "loop.example/g00644/impl.errBlockSize" = some 1 := by kernel_rfl
theorem g3t : (Tryd.prog.globals[1]?).map (·.type) = some 60 := by kernel_rfl
theorem g4n : Tryd.prog.globalNamed "loop.example/g00644/impl.errBlockSum" = some 2 := by kernel_rfl
theorem g4t : (Tryd.prog.globals[2]?).map (·.type) = some 60 := by kernel_rfl
theorem g5n : Tryd.prog.globalNamed "loop.example/g00644/impl.errManyBlocks" = some 0 := by kernel_rfl
theorem g5t : (Tryd.prog.globals[0]?).map (·.type) = some 60 := by kernel_rfl
set_option maxRecDepth 100000 in
theorem err6_of {W : World} (h : laidMetH Tryd.prog [("loop.example/g00644/impl.errCursor", Rows.laid_loop_example_g00644_impl_errCursor), ("loop.example/g00644/impl.errCount", Rows.laid_loop_example_g00644_impl_errCount), ("loop.example/g00644/impl.errAtEnd", Rows.laid_loop_example_g00644_impl_errAtEnd), ("loop.example/g00644/impl.errBlockSize", Rows.laid_loop_example_g00644_impl_errBlockSize), ("loop.example/g00644/impl.errBlockSum", Rows.laid_loop_example_g00644_impl_errBlockSum), ("loop.example/g00644/impl.errManyBlocks", Rows.laid_loop_example_g00644_impl_errManyBlocks)] W) : ∃ e0 e1 e2 e3 e4 e5, Err6 W e0 e1 e2 e3 e4 e5 := by
  rw [MakeChecks.laidMetH_plain _ _ _ (by kernel_rfl)] at h
  obtain ⟨ps, ⟨g0, t0, cs0, f0, p0, q0, hg0, ht0, hv0, hd0, ⟨g1, t1, cs1, f1, p1, q1, hg1, ht1, hv1, hd1, ⟨g2, t2, cs2, f2, p2, q2, hg2, ht2, hv2, hd2, ⟨g3, t3, cs3, f3, p3, q3, hg3, ht3, hv3, hd3, ⟨g4, t4, cs4, f4, p4, q4, hg4, ht4, hv4, hd4, ⟨g5, t5, cs5, f5, p5, q5, hg5, ht5, hv5, hd5, _, k5⟩, k4⟩, k3⟩, k2⟩, k1⟩, k0⟩, hnd, hrows⟩ := h
  obtain rfl := Option.some.inj (g0n.symm.trans hg0)
  obtain rfl := Option.some.inj (g0t.symm.trans ht0)
  obtain rfl := Option.some.inj (g1n.symm.trans hg1)
  obtain rfl := Option.some.inj (g1t.symm.trans ht1)
  obtain rfl := Option.some.inj (g2n.symm.trans hg2)
  obtain rfl := Option.some.inj (g2t.symm.trans ht2)
  obtain rfl := Option.some.inj (g3n.symm.trans hg3)
  obtain rfl := Option.some.inj (g3t.symm.trans ht3)
  obtain rfl := Option.some.inj (g4n.symm.trans hg4)
  obtain rfl := Option.some.inj (g4t.symm.trans ht4)
  obtain rfl := Option.some.inj (g5n.symm.trans hg5)
  obtain rfl := Option.some.inj (g5t.symm.trans ht5)
  subst k5
  subst k4
  subst k3
  subst k2
  subst k1
  subst k0
  obtain ⟨l0⟩ := cs0
  obtain ⟨l1⟩ := cs1
  obtain ⟨l2⟩ := cs2
  obtain ⟨l3⟩ := cs3
  obtain ⟨l4⟩ := cs4
  obtain ⟨l5⟩ := cs5
  have ok0 : ∀ u v, l0 = [.iface u v] → Value.okWide Tryd.prog W .any 0 u v := fun u v e => by
    subst e
    exact (hrows 9 0 (by simp [MemPlace.row])).2 u v (by simpa using World.var?_cell hg0 hv0 0)
  have ok1 : ∀ u v, l1 = [.iface u v] → Value.okWide Tryd.prog W .any 0 u v := fun u v e => by
    subst e
    exact (hrows 8 0 (by simp [MemPlace.row])).2 u v (by simpa using World.var?_cell hg1 hv1 0)
  have ok2 : ∀ u v, l2 = [.iface u v] → Value.okWide Tryd.prog W .any 0 u v := fun u v e => by
    subst e
    exact (hrows 7 0 (by simp [MemPlace.row])).2 u v (by simpa using World.var?_cell hg2 hv2 0)
  have ok3 : ∀ u v, l3 = [.iface u v] → Value.okWide Tryd.prog W .any 0 u v := fun u v e => by
    subst e
    exact (hrows 1 0 (by simp [MemPlace.row])).2 u v (by simpa using World.var?_cell hg3 hv3 0)
  have ok4 : ∀ u v, l4 = [.iface u v] → Value.okWide Tryd.prog W .any 0 u v := fun u v e => by
    subst e
    exact (hrows 2 0 (by simp [MemPlace.row])).2 u v (by simpa using World.var?_cell hg4 hv4 0)
  have ok5 : ∀ u v, l5 = [.iface u v] → Value.okWide Tryd.prog W .any 0 u v := fun u v e => by
    subst e
    exact (hrows 0 0 (by simp [MemPlace.row])).2 u v (by simpa using World.var?_cell hg5 hv5 0)
  obtain ⟨a0, s0, rfl, _, _, _, rfl⟩ := errorString_of_trod Tryd.underlying60 eRow Tryd.underlying138 Tryd.underlying161 rfl rfl Tryd.underlying9 eCells sCells hd0 ok0
  obtain ⟨a1, s1, rfl, _, _, _, rfl⟩ := errorString_of_trod Tryd.underlying60 eRow Tryd.underlying138 Tryd.underlying161 rfl rfl Tryd.underlying9 eCells sCells hd1 ok1
  obtain ⟨a2, s2, rfl, _, _, _, rfl⟩ := errorString_of_trod Tryd.underlying60 eRow Tryd.underlying138 Tryd.underlying161 rfl rfl Tryd.underlying9 eCells sCells hd2 ok2
  obtain ⟨a3, s3, rfl, _, _, _, rfl⟩ := errorString_of_trod Tryd.underlying60 eRow Tryd.underlying138 Tryd.underlying161 rfl rfl Tryd.underlying9 eCells sCells hd3 ok3
  obtain ⟨a4, s4, rfl, _, _, _, rfl⟩ := errorString_of_trod Tryd.underlying60 eRow Tryd.underlying138 Tryd.underlying161 rfl rfl Tryd.underlying9 eCells sCells hd4 ok4
  obtain ⟨a5, s5, rfl, _, _, _, rfl⟩ := errorString_of_trod Tryd.underlying60 eRow Tryd.underlying138 Tryd.underlying161 rfl rfl Tryd.underlying9 eCells sCells hd5 ok5
  have m01 : a0 ≠ a1 := by rintro rfl; simp [MemPlace.row] at hnd
  have m02 : a0 ≠ a2 := by rintro rfl; simp [MemPlace.row] at hnd
  have m12 : a1 ≠ a2 := by rintro rfl; simp [MemPlace.row] at hnd
  have m03 : a0 ≠ a3 := by rintro rfl; simp [MemPlace.row] at hnd
  have m13 : a1 ≠ a3 := by rintro rfl; simp [MemPlace.row] at hnd
  have m23 : a2 ≠ a3 := by rintro rfl; simp [MemPlace.row] at hnd
  have m04 : a0 ≠ a4 := by rintro rfl; simp [MemPlace.row] at hnd
  have m14 : a1 ≠ a4 := by rintro rfl; simp [MemPlace.row] at hnd
  have m24 : a2 ≠ a4 := by rintro rfl; simp [MemPlace.row] at hnd
  have m34 : a3 ≠ a4 := by rintro rfl; simp [MemPlace.row] at hnd
  have m05 : a0 ≠ a5 := by rintro rfl; simp [MemPlace.row] at hnd
  have m15 : a1 ≠ a5 := by rintro rfl; simp [MemPlace.row] at hnd
  have m25 : a2 ≠ a5 := by rintro rfl; simp [MemPlace.row] at hnd
  have m35 : a3 ≠ a5 := by rintro rfl; simp [MemPlace.row] at hnd
  have m45 : a4 ≠ a5 := by rintro rfl; simp [MemPlace.row] at hnd
  have z0 := (hrows a0.block a0.off (by simp [MemPlace.row])).1
  have z1 := (hrows a1.block a1.off (by simp [MemPlace.row])).1
  have z2 := (hrows a2.block a2.off (by simp [MemPlace.row])).1
  have z3 := (hrows a3.block a3.off (by simp [MemPlace.row])).1
  have z4 := (hrows a4.block a4.off (by simp [MemPlace.row])).1
  have z5 := (hrows a5.block a5.off (by simp [MemPlace.row])).1
  have y0 : W.cell? ⟨9, 0, none⟩ = some (.iface 138 (.pointer (some a0))) := by simpa using World.var?_cell hg0 hv0 0
  have y1 : W.cell? ⟨8, 0, none⟩ = some (.iface 138 (.pointer (some a1))) := by simpa using World.var?_cell hg1 hv1 0
  have y2 : W.cell? ⟨7, 0, none⟩ = some (.iface 138 (.pointer (some a2))) := by simpa using World.var?_cell hg2 hv2 0
  have y3 : W.cell? ⟨1, 0, none⟩ = some (.iface 138 (.pointer (some a3))) := by simpa using World.var?_cell hg3 hv3 0
  have y4 : W.cell? ⟨2, 0, none⟩ = some (.iface 138 (.pointer (some a4))) := by simpa using World.var?_cell hg4 hv4 0
  have y5 : W.cell? ⟨0, 0, none⟩ = some (.iface 138 (.pointer (some a5))) := by simpa using World.var?_cell hg5 hv5 0
  exact ⟨a0, a1, a2, a3, a4, a5, ⟨y0, y1, y2, m01, m02, m12, z0, z1, z2⟩, y3, y4, y5, m03, m13, m23, m04, m14, m24, m34, m05, m15, m25, m35, m45, z3, z4, z5⟩
theorem vars6_form {H : Type} {enc : TypeId × Value → H} {P : Program} {w : World} {sp : Nat → Bool} {n m l n2 m2 l2 : String} {gs : List (DataW H)} {ps : List MemPlace} (h : DataW.TrodVars enc P w sp [n, m, l, n2, m2, l2] gs ps) : ∃ a b c d e f, gs = [a, b, c, d, e, f] := by
  match gs, h with
  | [], h => exact h.elim
  | a :: gs, ⟨_, _, _, _, _, _, _, _, _, _, h, _⟩ =>
    match gs, h with
    | [], h => exact h.elim
    | b :: gs, ⟨_, _, _, _, _, _, _, _, _, _, h, _⟩ =>
      match gs, h with
      | [], h => exact h.elim
      | c :: gs, ⟨_, _, _, _, _, _, _, _, _, _, h, _⟩ =>
        obtain ⟨d, e, f, rfl⟩ := vars3_form h
        exact ⟨a, b, c, d, e, f, rfl⟩
end Go.Proofs.YtakdhmlegickmaaDoor
