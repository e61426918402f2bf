/- An act that comes in; what the row's list of the table of forms gives. -/
import Derived.Test.YtneagomkohoceabDoorTxk
import Derived.Test.YtneagomkohoceabDoorTxh
namespace Go.Proofs.YtneagomkohoceabDoor
open Go.ChangeShapes Go.WideShapes Go.ChangeAt Go.RowKit Go.Joins Go.Deep
set_option linter.unusedVariables false
set_option linter.unusedSimpArgs false

section
variable {H : Type} {enc : TypeId × Value → H} {P : Program} {w : World} {base : Nat} {spare : Nat → Bool} {held : Bool}
theorem act_in {r : Reach} {b0 : Nat} {t : TypeId} {f0 f1 f2 f3 : Field} {v : Value} {d : DataW H} {p : List MemPlace} (hs : P.underlying t = some (.struct #[f0, f1, f2, f3])) (hone : oneCellFields P #[f0, f1, f2, f3] = true) (hC : P.cellsOf t = 4)
    (i0 : P.underlying f0.type = some (.int .i64)) (i1 : P.underlying f1.type = some (.int .i64)) (i2 : P.underlying f2.type = some (.int .i64)) (i3 : P.underlying f3.type = some .bool)
    (hv : Value.okWide P w r b0 t v) (h : DataW.Trod enc P w base spare held t v d p) : ∃ (k a b : Int) (dn : Bool), v = acV k a b dn ∧ True := by
  obtain ⟨v0, v1, v2, v3, y0, y1, y2, y3, n, rfl, _, _, h0, h1, h2, h3⟩ := open_agg4 hs hone hC hv h
  obtain ⟨a, e0, _, q0⟩ := DataW.trod_int i0 h0
  obtain ⟨b, e1, _, q1⟩ := DataW.trod_int i1 h1
  obtain ⟨c, e2, _, q2⟩ := DataW.trod_int i2 h2
  obtain ⟨x, e3, _⟩ := DataW.trod_bool i3 h3
  simp only [List.cons.injEq, and_true] at e0 e1 e2 e3
  exact ⟨a, b, c, x, by rw [e0, e1, e2, e3], trivial⟩
end
theorem three_list {α : Type} {l : List α} (h : l.length = 3) : ∃ c0 c1 c2, l = [c0, c1, c2] := by
  match l, h with
  | [c0, c1, c2], _ => exact ⟨c0, c1, c2, rfl⟩
theorem three_at {α : Type} {l : List α} {k : Nat} {c0 c1 c2 : α} (h : (l.drop (k * 3)).take 3 = [c0, c1, c2]) {t : Nat} {c : α} (h1 : [c0, c1, c2][t]? = some c) (h2 : t < 3) : l[k * 3 + t]? = some c := by
  rw [← h, List.getElem?_take_of_lt h2, List.getElem?_drop] at h1
  exact h1
theorem gAcf : Tryd.prog.globalNamed "loop.example/g00644/impl.actForms" = some 1 := by kernel_rfl
theorem tAcf : (Tryd.prog.globals[1]?).map (·.type) = some 110 := by kernel_rfl
theorem acf_data (k : Nat) (hk : k < 9) {x : DataW Unit} (h : (match (Rows.laid_loop_example_g00644_impl_actForms : DataW Unit) with | .agg l => l | _ => [])[k]? = some x) : x = .agg [.lit (.string (acwL.getD k [])), .lit (.int .i64 (acN k : Nat)), .lit (.bool (acDn k))] := by
  have hk2 : k = 0 ∨ k = 1 ∨ k = 2 ∨ k = 3 ∨ k = 4 ∨ k = 5 ∨ k = 6 ∨ k = 7 ∨ k = 8 := by omega
  rcases hk2 with rfl | rfl | rfl | rfl | rfl | rfl | rfl | rfl | rfl
  all_goals exact (Option.some.inj h).symm
set_option maxRecDepth 100000 in
theorem acfs_reads {W : World} {held : Bool} {cs : Array Value} {fuel : Nat} {p : List MemPlace} (hv : World.var? Tryd.prog W "loop.example/g00644/impl.actForms" = some cs)
    (h : DataW.trod (fun _ => ()) Tryd.prog W 0 (fun _ => true) held fuel 110 cs.toList = some (Rows.laid_loop_example_g00644_impl_actForms, p)) : AcFs W := by
  obtain ⟨xs, m1, rfl, hx1, hlen, hn, hel⟩ := DataW.trod_array Tryd.underlying110 h
  have c1 : Tryd.prog.cellsOf 109 = 3 := by kernel_rfl
  have c2 : Tryd.prog.cellsOf 110 = 27 := by kernel_rfl
  have hx2 := congrArg Prod.fst hx1
  dsimp only at hx2
  intro k hk
  have h0 := hel k hk
  rw [c1] at h0
  have hxi : xs[k]? = some xs[k] := List.getElem?_eq_getElem (by omega)
  rw [hxi] at h0
  have hl3 : ((cs.toList.drop (k * 3)).take 3).length = 3 := by
    rw [List.length_take, List.length_drop, hlen, c2]
    omega
  obtain ⟨v0, v1, v2, h3⟩ := three_list hl3
  rw [h3] at h0
  obtain ⟨y0, y1, y2, m, hy, _, g0, g1, g2⟩ := trod_struct3 Tryd.underlying109 h0
  have hd := acf_data k hk (x := xs[k].1) (by rw [hx2]; dsimp only; rw [List.getElem?_map, hxi]; rfl)
  have hy1 := congrArg Prod.fst hy
  dsimp only at hy1
  rw [hd] at hy1
  simp only [DataW.agg.injEq, List.cons.injEq, and_true] at hy1
  obtain ⟨z0, z1, z2⟩ := hy1
  obtain ⟨s, e0, i0, _⟩ := DataW.trod_string Tryd.underlying9 (show DataW.trod _ _ _ _ _ _ _ _ [v0] = _ from g0)
  obtain ⟨n1, e1, i1, _⟩ := DataW.trod_int Tryd.underlying3 (show DataW.trod _ _ _ _ _ _ _ _ [v1] = _ from g1)
  obtain ⟨b2, e2, i2⟩ := DataW.trod_bool Tryd.underlying4 (show DataW.trod _ _ _ _ _ _ _ _ [v2] = _ from g2)
  simp only [List.cons.injEq, and_true] at e0 e1 e2
  simp only [i0, i1, i2] at z0 z1 z2
  simp only [DataW.lit.injEq, Lit.string.injEq, Lit.int.injEq, Lit.bool.injEq, true_and] at z0 z1 z2
  have hs : s = acW k := by unfold acW; rw [z0]
  have hc := fun t => World.var?_cell gAcf hv (k * 3 + t)
  have ht : ∀ t c, [v0, v1, v2][t]? = some c → t < 3 → W.cell? ⟨1, k * 3 + t, none⟩ = some c := fun t c h1 h2 => by
    rw [hc t, ← Array.getElem?_toList]
    exact three_at h3 h1 h2
  exact ⟨by rw [← hs, ← e0]; exact ht 0 _ rfl (by omega), by rw [z1, ← e1]; exact ht 1 _ rfl (by omega), by rw [z2, ← e2]; exact ht 2 _ rfl (by omega)⟩
theorem act_laid {W : World} (h : laidMetH Tryd.prog Rows.fnExactActTextRow.laid W) : AcFs W ∧ PowT W := by
  rw [MakeChecks.laidMetH_plain _ _ _ (by kernel_rfl)] at h
  obtain ⟨ps, ⟨g0, t0, cs0, f0, p0, q0, hg0, ht0, hv0, hd0, ⟨g1, t1, cs1, f1, p1, q1, hg1, ht1, hv1, hd1, ⟨g2, t2, cs2, f2, p2, q2, hg2, ht2, hv2, hd2, ⟨g3, t3, cs3, f3, p3, q3, hg3, ht3, hv3, hd3, _⟩, _⟩, _⟩, _⟩, _⟩ := h
  obtain rfl := Option.some.inj (gAcf.symm.trans hg3)
  obtain rfl := Option.some.inj (tAcf.symm.trans ht3)
  obtain rfl := Option.some.inj (gPowT.symm.trans hg2)
  obtain rfl := Option.some.inj (tPowT.symm.trans ht2)
  refine ⟨acfs_reads hv3 hd3, ?_⟩
  unfold PowT Lib.TabIs
  rw [hv2]
  have hd2' : DataW.trod (fun _ => ()) Tryd.prog W 0 (fun _ => true) false f2 231 cs2.toList = some (Lib.tabData .u64 Lib.pow10Tab, p2) := hd2
  have := Lib.cells_of_tab Tryd.underlying231 Tryd.underlying217 (by kernel_rfl) (by kernel_rfl) hd2'
  rw [← this]
theorem acfs_of {W : World} (h : laidMetH Tryd.prog [("loop.example/g00644/impl.actForms", Rows.laid_loop_example_g00644_impl_actForms)] W) : AcFs W := by
  rw [MakeChecks.laidMetH_plain _ _ _ (by kernel_rfl)] at h
  obtain ⟨ps, ⟨g0, t0, cs0, f0, p0, q0, hg0, ht0, hv0, hd0, _⟩, _⟩ := h
  obtain rfl := Option.some.inj (gAcf.symm.trans hg0)
  obtain rfl := Option.some.inj (tAcf.symm.trans ht0)
  exact acfs_reads hv0 hd0
end Go.Proofs.YtneagomkohoceabDoor
