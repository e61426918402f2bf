/- An event that comes in; what the row's list gives. -/
import Derived.Test.YtneagomkohoceabDoorTxe
import Derived.Lib.LaidTab
import Derived.Lib.SmallJoins
import Derived.Deep.Matrix
namespace Go.Proofs.YtneagomkohoceabDoor
open Go.ChangeShapes Go.WideShapes Go.ChangeAt Go.RowKit Go.Joins Go.Deep
set_option linter.unusedVariables false
set_option linter.unusedSimpArgs false

section
variable {H : Type} {enc : TypeId × Value → H} {P : Program} {w : World} {base : Nat} {spare : Nat → Bool} {held : Bool}
theorem three_in {r : Reach} {b0 : Nat} {t : TypeId} {f0 f1 f2 : Field} {v : Value} {d : DataW H} {p : List MemPlace} (hs : P.underlying t = some (.struct #[f0, f1, f2])) (hone : oneCellFields P #[f0, f1, f2] = true) (hC : P.cellsOf t = 3)
    (i0 : P.underlying f0.type = some (.int .i64)) (i1 : P.underlying f1.type = some (.int .i64)) (i2 : P.underlying f2.type = some (.int .i64))
    (hv : Value.okWide P w r b0 t v) (h : DataW.Trod enc P w base spare held t v d p) : ∃ a b c : Int, v = evtV a b c ∧ ((Lit.int .i64 a).wf = true ∧ (Lit.int .i64 b).wf = true ∧ (Lit.int .i64 c).wf = true) := by
  obtain ⟨v0, v1, v2, y0, y1, y2, n, rfl, _, _, h0, h1, h2⟩ := open_agg3 hs hone hC hv h
  obtain ⟨a, e0, _, q0⟩ := DataW.trod_int i0 h0
  obtain ⟨b, e1, _, q1⟩ := DataW.trod_int i1 h1
  obtain ⟨c, e2, _, q2⟩ := DataW.trod_int i2 h2
  simp only [List.cons.injEq, and_true] at e0 e1 e2
  exact ⟨a, b, c, by rw [e0, e1, e2], q0, q1, q2⟩
end
theorem toevX (t k v : Int) (w : World) : Calls Tryd.prog 9 #[evtV t k v] w fun e w' => e = .returned (evtV t k v) ∧ Below w.heap.size w w' := by
  go_enter Tryd.func9, Tryd.ntmps9
  go_wp2
  refine bodyPost_ret (v := evtV t k v) (by simp [results, Tryd.results9, go_sem]) rfl ⟨rfl, ?_⟩
  exact (((Below.refl _ _).alloc (Nat.le_refl _) _).alloc (by simp) _).alloc (by simp; omega) _
theorem gEvw : Tryd.prog.globalNamed "loop.example/g00644/impl.eventWords" = some 0 := by kernel_rfl
theorem tEvw : (Tryd.prog.globals[0]?).map (·.type) = some 85 := by kernel_rfl
theorem evt_laid {W : World} (h : laidMetH Tryd.prog Rows.fnExactEventTextRow.laid W) : EvWs W ∧ PowT W := by
  rw [MakeChecks.laidMetH_plain _ _ _ (by kernel_rfl)] at h
  obtain ⟨ps, ⟨g0, t0, cs0, f0, p0, q0, hg0, ht0, hv0, hd0, ⟨g1, t1, cs1, f1, p1, q1, hg1, ht1, hv1, hd1, ⟨g2, t2, cs2, f2, p2, q2, hg2, ht2, hv2, hd2, ⟨g3, t3, cs3, f3, p3, q3, hg3, ht3, hv3, hd3, _⟩, _⟩, _⟩, _⟩, _⟩ := h
  obtain rfl := Option.some.inj (gEvw.symm.trans hg3)
  obtain rfl := Option.some.inj (tEvw.symm.trans ht3)
  obtain rfl := Option.some.inj (gPowT.symm.trans hg2)
  obtain rfl := Option.some.inj (tPowT.symm.trans ht2)
  refine ⟨strs_reads evwL rfl gEvw Tryd.underlying85 (by kernel_rfl) hv3 hd3, ?_⟩
  unfold PowT Lib.TabIs
  rw [hv2]
  have hd2' : DataW.trod (fun _ => ()) Tryd.prog W 0 (fun _ => true) false f2 231 cs2.toList = some (Lib.tabData .u64 Lib.pow10Tab, p2) := hd2
  have := Lib.cells_of_tab Tryd.underlying231 Tryd.underlying217 (by kernel_rfl) (by kernel_rfl) hd2'
  rw [← this]
end Go.Proofs.YtneagomkohoceabDoor
