/- What the row's list of the table of conditions gives. -/
import Derived.Test.YtiidkhfigifmjaaDoorHq
import Derived.Test.YtiidkhfigifmjaaDoorRows
namespace Go.Proofs.YtiidkhfigifmjaaDoor
open Go.ChangeShapes Go.WideShapes Go.ChangeAt Go.RowKit
set_option linter.unusedVariables false
set_option linter.unusedSimpArgs false

section
variable {H : Type} {enc : TypeId × Value → H} {P : Program} {w : World} {base : Nat} {spare : Nat → Bool} {held : Bool}
theorem trod_twoc {t : TypeId} {f0 f1 : Field} {fuel : Nat} {c0 c1 : Value} {x : DataW H × List MemPlace} (hs : P.underlying t = some (.struct #[f0, f1])) (o0 : f0.offset = 0) (o1 : f1.offset = 1) (k0 : P.cellsOf f0.type = 1) (k1 : P.cellsOf f1.type = 1) (h : DataW.trod enc P w base spare held fuel t [c0, c1] = some x) :
    ∃ (y0 y1 : DataW H × List MemPlace) (n : Nat), x.1 = .agg [y0.1, y1.1] ∧ DataW.trod enc P w base spare held n f0.type [c0] = some y0 ∧ DataW.trod enc P w base spare held n f1.type [c1] = some y1 := by
  obtain ⟨xs, n, _, rfl, hl, hlen, hf⟩ := DataW.trod_struct hs h
  match xs, hlen with
  | [y0, y1], _ => exact ⟨y0, y1, n, by simp, by simpa [o0, k0] using hf 0 f0 rfl, by simpa [o1, k1] using hf 1 f1 rfl⟩
end
theorem gConds : Tryd.prog.globalNamed "loop.example/g00644/impl.conditions" = some 0 := by kernel_rfl
theorem tConds : (Tryd.prog.globals[0]?).map (·.type) = some 43 := by kernel_rfl
theorem cd_data (k : Nat) (hk : k < 8) {x : DataW Unit} (h : (match (Rows.laid_loop_example_g00644_impl_conditions : DataW Unit) with | .agg l => l | _ => [])[k]? = some x) : x = .agg [.lit (.int .i64 (ccF k : Int)), .lit (.int .i64 (ccW k : Int))] := by
  rcases (by omega : k = 0 ∨ k = 1 ∨ k = 2 ∨ k = 3 ∨ k = 4 ∨ k = 5 ∨ k = 6 ∨ k = 7) with rfl | rfl | rfl | rfl | rfl | rfl | rfl | rfl
  all_goals exact (Option.some.inj h).symm
theorem conds_reads {W : World} {held : Bool} {cs : Array Value} {fuel : Nat} {p : List MemPlace} (hv : World.var? Tryd.prog W "loop.example/g00644/impl.conditions" = some cs)
    (h : DataW.trod (fun _ => ()) Tryd.prog W 0 (fun _ => true) held fuel 43 cs.toList = some (Rows.laid_loop_example_g00644_impl_conditions, p)) : CondH W := by
  obtain ⟨xs, m1, rfl, hx1, hlen, hn, hel⟩ := DataW.trod_array Tryd.underlying43 h
  have c1 : Tryd.prog.cellsOf 42 = 2 := by kernel_rfl
  have c2 : Tryd.prog.cellsOf 43 = 16 := by kernel_rfl
  have hx2 := congrArg Prod.fst hx1
  dsimp only at hx2
  intro k hk
  have h0 := hel k hk
  rw [c1] at h0
  have hxi : xs[k]? = some xs[k] := List.getElem?_eq_getElem (by omega)
  rw [hxi] at h0
  have hl2 : ((cs.toList.drop (k * 2)).take 2).length = 2 := by
    rw [List.length_take, List.length_drop, hlen, c2]
    omega
  obtain ⟨v0, v1, h5⟩ : ∃ v0 v1, (cs.toList.drop (k * 2)).take 2 = [v0, v1] := by
    match hq : (cs.toList.drop (k * 2)).take 2, hl2 with
    | [v0, v1], _ => exact ⟨v0, v1, rfl⟩
  rw [h5] at h0
  obtain ⟨y0, y1, m, hy, g0, g1⟩ := trod_twoc Tryd.underlying42 rfl rfl (by kernel_rfl) (by kernel_rfl) h0
  have hd := cd_data k hk (x := xs[k].1) (by rw [hx2]; dsimp only; rw [List.getElem?_map, hxi]; rfl)
  rw [hd] at hy
  simp only [DataW.agg.injEq, List.cons.injEq, and_true] at hy
  obtain ⟨z0, z1⟩ := hy
  obtain ⟨n0, e0, i0, _⟩ := DataW.trod_int Tryd.underlying3 g0
  obtain ⟨n1, e1, i1, _⟩ := DataW.trod_int Tryd.underlying3 g1
  simp only [List.cons.injEq, and_true] at e0 e1
  rw [i0] at z0
  rw [i1] at z1
  simp only [DataW.lit.injEq, Lit.int.injEq, true_and] at z0 z1
  have ht : ∀ t c, [v0, v1][t]? = some c → t < 2 → W.cell? ⟨0, k * 2 + t, none⟩ = some c := fun t c h1 h2 => by
    rw [World.var?_cell gConds hv (k * 2 + t), ← Array.getElem?_toList]
    have h3 := congrArg (·[t]?) h5
    simp only [List.getElem?_take, List.getElem?_drop] at h3
    rw [if_pos h2] at h3
    rw [h3, h1]
  exact ⟨by rw [z0, ← e0]; exact ht 0 _ rfl (by omega), by rw [z1, ← e1]; exact ht 1 _ rfl (by omega)⟩
theorem condh_of {W : World} (h : laidMetH Tryd.prog [("loop.example/g00644/impl.conditions", Rows.laid_loop_example_g00644_impl_conditions)] W) : CondH W := by
  rw [MakeChecks.laidMetH_plain _ _ _ (by kernel_rfl)] at h
  obtain ⟨ps, ⟨g0, t0, cs0, f0, p0, q0, hg0, ht0, hv0, hd0, _⟩, _⟩ := h
  obtain rfl := Option.some.inj (gConds.symm.trans hg0)
  obtain rfl := Option.some.inj (tConds.symm.trans ht0)
  exact conds_reads hv0 hd0
end Go.Proofs.YtiidkhfigifmjaaDoor
