/- What the row's list of the table of flags gives: its cells hold the document's flags. -/
import Derived.Test.YtdfadiicjkenfabGreatDoorW25
import Derived.LaidMore
import Derived.OpenShut
import Derived.Stop.Joined
import Derived.Test.YtdfadiicjkenfabGreatDoorW34
import Derived.Deep.Matrix
import Derived.Lib.SmallJoins
import Derived.Test.YtdfadiicjkenfabGreatDoorW28
import Derived.Test.YtdfadiicjkenfabGreatDoorRows
import Derived.Test.YtdfadiicjkenfabGreatDoorW00
import Derived.Test.YtdfadiicjkenfabGreatDoorW01
namespace Go.Proofs.YtdfadiicjkenfabGreatDoor
open Go.ChangeShapes Go.WideShapes Go.ChangeAt Go.RowKit
set_option linter.unusedVariables false

theorem gFlags : Tryz.prog.globalNamed "loop.example/g00644/impl.copiedFlags" = some 3 := by kernel_rfl
theorem tFlags : (Tryz.prog.globals[3]?).map (·.type) = some 147 := by kernel_rfl

theorem flags_of {W : World} (h : laidMetH Tryz.prog [("loop.example/g00644/impl.copiedFlags", Rows.laid_loop_example_g00644_impl_copiedFlags)] W) : Flags W := by
  rw [MakeChecks.laidMetH_plain _ _ _ (by kernel_rfl)] at h
  obtain ⟨ps, ⟨g0, t0, cs0, f0, p0, q0, hg0, ht0, hv0, hd0, _⟩, _⟩ := h
  obtain rfl := Option.some.inj (gFlags.symm.trans hg0)
  obtain rfl := Option.some.inj (tFlags.symm.trans ht0)
  obtain ⟨xs, m1, rfl, hx1, hlen, hn, hel⟩ := DataW.trod_array Tryz.underlying147 hd0
  have c1 : Tryz.prog.cellsOf 3 = 1 := by kernel_rfl
  have hd : xs.map (·.1) = [(.lit (.int .i64 128) : DataW Unit), .lit (.int .i64 32), .lit (.int .i64 8)] := by
    have := congrArg Prod.fst hx1
    simp only [Rows.laid_loop_example_g00644_impl_copiedFlags, DataW.agg.injEq] at this
    exact this.symm
  have key : ∀ i (hi : i < 3) (z : Int), (xs.map (·.1))[i]? = some (DataW.lit (.int .i64 z) : DataW Unit) → W.cell? ⟨3, i, none⟩ = some (.int .i64 z) := by
    intro i hi z hz
    have h0 := hel i hi
    rw [c1, Nat.mul_one] at h0
    have hxi : xs[i]? = some xs[i] := List.getElem?_eq_getElem (by omega)
    rw [hxi] at h0
    obtain ⟨n, e1, e2, _⟩ := DataW.trod_int Tryz.underlying3 h0
    have hcs : cs0[i]? = some (.int .i64 n) := by
      have := congrArg (·[0]?) e1
      simpa [List.getElem?_take, List.getElem?_drop] using this
    rw [World.var?_cell gFlags hv0 i, hcs]
    rw [List.getElem?_map, hxi, e2] at hz
    simp at hz
    rw [hz]
  exact ⟨key 0 (by omega) 128 (by rw [hd]; rfl), key 1 (by omega) 32 (by rw [hd]; rfl), key 2 (by omega) 8 (by rw [hd]; rfl)⟩
end Go.Proofs.YtdfadiicjkenfabGreatDoor

/- What the laws do with an instruction: it comes in, is copied, is held against another; and what the row's list of the table of kinds gives. -/
namespace Go.Proofs.YtdfadiicjkenfabGreatDoor
open Go.ChangeShapes Go.WideShapes Go.ChangeAt Go.RowKit Go.Joins Go.Deep
set_option linter.unusedVariables false
set_option linter.unusedSimpArgs false

section
variable {H : Type} {enc : TypeId × Value → H} {P : Program} {w : World} {base : Nat} {spare : Nat → Bool} {held : Bool}
theorem arr5 {α : Type} {cs : Array α} (h : cs.size = 5) : ∃ c0 c1 c2 c3 c4, cs = #[c0, c1, c2, c3, c4] := by
  obtain ⟨l⟩ := cs
  match l, h with
  | [c0, c1, c2, c3, c4], _ => exact ⟨c0, c1, c2, c3, c4, rfl⟩
theorem trod_five {t : TypeId} {f0 f1 f2 f3 f4 : Field} {fuel : Nat} {cs : List Value} {x : DataW H × List MemPlace} (ht : P.underlying t = some (.struct #[f0, f1, f2, f3, f4])) (h : DataW.trod enc P w base spare held fuel t cs = some x) :
    ∃ y0 y1 y2 y3 y4 n, x.1 = .agg [y0.1, y1.1, y2.1, y3.1, y4.1] ∧ cs.length = P.cellsOf t ∧ DataW.trod enc P w base spare held n f0.type ((cs.drop f0.offset).take (P.cellsOf f0.type)) = some y0 ∧
      DataW.trod enc P w base spare held n f1.type ((cs.drop f1.offset).take (P.cellsOf f1.type)) = some y1 ∧ DataW.trod enc P w base spare held n f2.type ((cs.drop f2.offset).take (P.cellsOf f2.type)) = some y2 ∧
      DataW.trod enc P w base spare held n f3.type ((cs.drop f3.offset).take (P.cellsOf f3.type)) = some y3 ∧ DataW.trod enc P w base spare held n f4.type ((cs.drop f4.offset).take (P.cellsOf f4.type)) = some y4 := by
  obtain ⟨xs, n, _, rfl, hl, hlen, hf⟩ := DataW.trod_struct ht h
  match xs, hlen with
  | [y0, y1, y2, y3, y4], _ => exact ⟨y0, y1, y2, y3, y4, n, by simp, hl, by simpa using hf 0 f0 rfl, by simpa using hf 1 f1 rfl, by simpa using hf 2 f2 rfl, by simpa using hf 3 f3 rfl, by simpa using hf 4 f4 rfl⟩
theorem trod_fivec {t : TypeId} {f0 f1 f2 f3 f4 : Field} {fuel : Nat} {c0 c1 c2 c3 c4 : Value} {x : DataW H × List MemPlace} (hs : P.underlying t = some (.struct #[f0, f1, f2, f3, f4])) (hone : oneCellFields P #[f0, f1, f2, f3, f4] = true) (h : DataW.trod enc P w base spare held fuel t [c0, c1, c2, c3, c4] = some x) :
    ∃ (y0 y1 y2 y3 y4 : DataW H × List MemPlace) (n : Nat), x.1 = .agg [y0.1, y1.1, y2.1, y3.1, y4.1] ∧
      DataW.trod enc P w base spare held n f0.type [c0] = some y0 ∧ DataW.trod enc P w base spare held n f1.type [c1] = some y1 ∧ DataW.trod enc P w base spare held n f2.type [c2] = some y2 ∧ DataW.trod enc P w base spare held n f3.type [c3] = some y3 ∧ DataW.trod enc P w base spare held n f4.type [c4] = some y4 := by
  obtain ⟨y0, y1, y2, y3, y4, n, hx, _, h0, h1, h2, h3, h4⟩ := trod_five hs h
  obtain ⟨o0, k0⟩ := hone_of hone 0 f0 rfl
  obtain ⟨o1, k1⟩ := hone_of hone 1 f1 rfl
  obtain ⟨o2, k2⟩ := hone_of hone 2 f2 rfl
  obtain ⟨o3, k3⟩ := hone_of hone 3 f3 rfl
  obtain ⟨o4, k4⟩ := hone_of hone 4 f4 rfl
  exact ⟨y0, y1, y2, y3, y4, n, hx, by simpa [o0, k0] using h0, by simpa [o1, k1] using h1, by simpa [o2, k2] using h2, by simpa [o3, k3] using h3, by simpa [o4, k4] using h4⟩
theorem five_in {r : Reach} {b0 : Nat} {t : TypeId} {f0 f1 f2 f3 f4 : Field} {v : Value} {d : DataW H} {p : List MemPlace} (hs : P.underlying t = some (.struct #[f0, f1, f2, f3, f4])) (hone : oneCellFields P #[f0, f1, f2, f3, f4] = true) (hC : P.cellsOf t = 5)
    (i0 : P.underlying f0.type = some (.int .i64)) (i1 : P.underlying f1.type = some (.int .i64)) (i2 : P.underlying f2.type = some (.int .i64)) (i3 : P.underlying f3.type = some (.int .i64)) (i4 : P.underlying f4.type = some (.int .i64))
    (hv : Value.okWide P w r b0 t v) (h : DataW.Trod enc P w base spare held t v d p) : ∃ o a b n l : Int, v = insV o a b n l ∧ ((Lit.int .i64 o).wf = true ∧ (Lit.int .i64 a).wf = true ∧ (Lit.int .i64 b).wf = true ∧ (Lit.int .i64 n).wf = true ∧ (Lit.int .i64 l).wf = true) := by
  obtain ⟨cs, rfl, hsz⟩ := okWide_struct hs hv
  obtain ⟨c0, c1, c2, c3, c4, rfl⟩ := arr5 (hsz.trans hC)
  obtain ⟨fuel, hf⟩ := h
  obtain ⟨y0, y1, y2, y3, y4, n, _, h0, h1, h2, h3, h4⟩ := trod_fivec hs hone (by simpa [Value.cells] using hf)
  obtain ⟨o, e0, _, q0⟩ := DataW.trod_int i0 h0
  obtain ⟨a, e1, _, q1⟩ := DataW.trod_int i1 h1
  obtain ⟨b, e2, _, q2⟩ := DataW.trod_int i2 h2
  obtain ⟨m, e3, _, q3⟩ := DataW.trod_int i3 h3
  obtain ⟨l, e4, _, q4⟩ := DataW.trod_int i4 h4
  simp only [List.cons.injEq, and_true] at e0 e1 e2 e3 e4
  exact ⟨o, a, b, m, l, by rw [e0, e1, e2, e3, e4], q0, q1, q2, q3, q4⟩
end
theorem gKinds : Tryz.prog.globalNamed "loop.example/g00644/impl.instrKinds" = some 1 := by kernel_rfl
theorem tKinds : (Tryz.prog.globals[1]?).map (·.type) = some 110 := by kernel_rfl
theorem kd_data (k : Nat) (hk : k < 24) {x : DataW Unit} (h : (match (Rows.laid_loop_example_g00644_impl_instrKinds : DataW Unit) with | .agg l => l | _ => [])[k]? = some x) : x = .agg [.lit (.string (kdWL.getD k [])), .lit (.int .i64 (kdN k)), .lit (.int .i64 (kdA k)), .lit (.int .i64 (kdB k)), .lit (.int .i64 (kdT k))] := by
  have hk2 : k = 0 ∨ k = 1 ∨ k = 2 ∨ k = 3 ∨ k = 4 ∨ k = 5 ∨ k = 6 ∨ k = 7 ∨ k = 8 ∨ k = 9 ∨ k = 10 ∨ k = 11 ∨ k = 12 ∨ k = 13 ∨ k = 14 ∨ k = 15 ∨ k = 16 ∨ k = 17 ∨ k = 18 ∨ k = 19 ∨ k = 20 ∨ k = 21 ∨ k = 22 ∨ k = 23 := by omega
  rcases hk2 with rfl | rfl | rfl | rfl | rfl | rfl | rfl | rfl | rfl | rfl | rfl | rfl | rfl | rfl | rfl | rfl | rfl | rfl | rfl | rfl | rfl | rfl | rfl | rfl
  all_goals exact (Option.some.inj h).symm
theorem five_list {α : Type} {l : List α} (h : l.length = 5) : ∃ c0 c1 c2 c3 c4, l = [c0, c1, c2, c3, c4] := by
  match l, h with
  | [c0, c1, c2, c3, c4], _ => exact ⟨c0, c1, c2, c3, c4, rfl⟩
theorem five_at {l : List Value} {j t : Nat} {c : Value} {cs : List Value} (h : (l.drop j).take 5 = cs) (hc : cs[t]? = some c) (ht : t < 5) : l[j + t]? = some c := by
  have h1 := congrArg (·[t]?) h
  simp only [List.getElem?_take, List.getElem?_drop] at h1
  rw [if_pos ht] at h1
  rw [h1, hc]
theorem kinds_reads {W : World} {held : Bool} {cs : Array Value} {fuel : Nat} {p : List MemPlace} (hv : World.var? Tryz.prog W "loop.example/g00644/impl.instrKinds" = some cs)
    (h : DataW.trod (fun _ => ()) Tryz.prog W 0 (fun _ => true) held fuel 110 cs.toList = some (Rows.laid_loop_example_g00644_impl_instrKinds, p)) : Kinds W := by
  obtain ⟨xs, m1, rfl, hx1, hlen, hn, hel⟩ := DataW.trod_array Tryz.underlying110 h
  have c1 : Tryz.prog.cellsOf 109 = 5 := by kernel_rfl
  have c2 : Tryz.prog.cellsOf 110 = 120 := by kernel_rfl
  have hx2 := congrArg Prod.fst hx1
  dsimp only at hx2
  intro k hk
  have h0 := hel k hk
  rw [c1] at h0
  have hxi : xs[k]? = some xs[k] := List.getElem?_eq_getElem (by omega)
  rw [hxi] at h0
  have hl5 : ((cs.toList.drop (k * 5)).take 5).length = 5 := by
    rw [List.length_take, List.length_drop, hlen, c2]
    omega
  obtain ⟨v0, v1, v2, v3, v4, h5⟩ := five_list hl5
  rw [h5] at h0
  obtain ⟨y0, y1, y2, y3, y4, m, hy, g0, g1, g2, g3, g4⟩ := trod_fivec Tryz.underlying109 (by kernel_rfl) h0
  have hd := kd_data k hk (x := xs[k].1) (by rw [hx2]; dsimp only; rw [List.getElem?_map, hxi]; rfl)
  rw [hd] at hy
  simp only [DataW.agg.injEq, List.cons.injEq, and_true] at hy
  obtain ⟨z0, z1, z2, z3, z4⟩ := hy
  obtain ⟨s, e0, i0, _⟩ := DataW.trod_string Tryz.underlying9 g0
  obtain ⟨n1, e1, i1, _⟩ := DataW.trod_int Tryz.underlying3 g1
  obtain ⟨n2, e2, i2, _⟩ := DataW.trod_int Tryz.underlying3 g2
  obtain ⟨n3, e3, i3, _⟩ := DataW.trod_int Tryz.underlying3 g3
  obtain ⟨n4, e4, i4, _⟩ := DataW.trod_int Tryz.underlying3 g4
  simp only [List.cons.injEq, and_true] at e0 e1 e2 e3 e4
  rw [i0] at z0
  rw [i1] at z1
  rw [i2] at z2
  rw [i3] at z3
  rw [i4] at z4
  simp only [DataW.lit.injEq, Lit.string.injEq, Lit.int.injEq, true_and] at z0 z1 z2 z3 z4
  have hs : s = kdW k := by unfold kdW; rw [z0]
  have hc := fun t => World.var?_cell gKinds hv (k * 5 + t)
  have ht : ∀ t c, [v0, v1, v2, v3, v4][t]? = some c → t < 5 → W.cell? ⟨1, k * 5 + t, none⟩ = some c := fun t c h1 h2 => by
    rw [hc t, ← Array.getElem?_toList]
    exact five_at h5 h1 h2
  exact ⟨by rw [← hs, ← e0]; exact ht 0 _ rfl (by omega), by rw [z1, ← e1]; exact ht 1 _ rfl (by omega), by rw [z2, ← e2]; exact ht 2 _ rfl (by omega), by rw [z3, ← e3]; exact ht 3 _ rfl (by omega), by rw [z4, ← e4]; exact ht 4 _ rfl (by omega)⟩
theorem kinds_of {W : World} (h : laidMetH Tryz.prog [("loop.example/g00644/impl.instrKinds", Rows.laid_loop_example_g00644_impl_instrKinds)] W) : Kinds W := by
  rw [MakeChecks.laidMetH_plain _ _ _ (by kernel_rfl)] at h
  obtain ⟨ps, ⟨g0, t0, cs0, f0, p0, q0, hg0, ht0, hv0, hd0, _⟩, _⟩ := h
  obtain rfl := Option.some.inj (gKinds.symm.trans hg0)
  obtain rfl := Option.some.inj (tKinds.symm.trans ht0)
  exact kinds_reads hv0 hd0
end Go.Proofs.YtdfadiicjkenfabGreatDoor

/- What the row's list of the table of conditions gives. -/
namespace Go.Proofs.YtdfadiicjkenfabGreatDoor
open Go.ChangeShapes Go.WideShapes Go.ChangeAt Go.RowKit
set_option linter.unusedVariables false
set_option linter.unusedSimpArgs false

section
variable {H : Type} {enc : TypeId × Value → H} {P : Program} {w : World} {base : Nat} {spare : Nat → Bool} {held : Bool}
theorem trod_twocz {t : TypeId} {f0 f1 : Field} {fuel : Nat} {c0 c1 : Value} {x : DataW H × List MemPlace} (hs : P.underlying t = some (.struct #[f0, f1])) (o0 : f0.offset = 0) (o1 : f1.offset = 1) (k0 : P.cellsOf f0.type = 1) (k1 : P.cellsOf f1.type = 1) (h : DataW.trod enc P w base spare held fuel t [c0, c1] = some x) :
    ∃ (y0 y1 : DataW H × List MemPlace) (n : Nat), x.1 = .agg [y0.1, y1.1] ∧ DataW.trod enc P w base spare held n f0.type [c0] = some y0 ∧ DataW.trod enc P w base spare held n f1.type [c1] = some y1 := by
  obtain ⟨xs, n, _, rfl, hl, hlen, hf⟩ := DataW.trod_struct hs h
  match xs, hlen with
  | [y0, y1], _ => exact ⟨y0, y1, n, by simp, by simpa [o0, k0] using hf 0 f0 rfl, by simpa [o1, k1] using hf 1 f1 rfl⟩
end
theorem gCondsz : Tryz.prog.globalNamed "loop.example/g00644/impl.conditions" = some 2 := by kernel_rfl
theorem tCondsz : (Tryz.prog.globals[2]?).map (·.type) = some 142 := by kernel_rfl
theorem cd_dataz (k : Nat) (hk : k < 8) {x : DataW Unit} (h : (match (Rows.laid_loop_example_g00644_impl_conditions : DataW Unit) with | .agg l => l | _ => [])[k]? = some x) : x = .agg [.lit (.int .i64 (cdF k : Int)), .lit (.int .i64 (cdW k : Int))] := by
  rcases (by omega : k = 0 ∨ k = 1 ∨ k = 2 ∨ k = 3 ∨ k = 4 ∨ k = 5 ∨ k = 6 ∨ k = 7) with rfl | rfl | rfl | rfl | rfl | rfl | rfl | rfl
  all_goals exact (Option.some.inj h).symm
theorem conds_readsz {W : World} {held : Bool} {cs : Array Value} {fuel : Nat} {p : List MemPlace} (hv : World.var? Tryz.prog W "loop.example/g00644/impl.conditions" = some cs)
    (h : DataW.trod (fun _ => ()) Tryz.prog W 0 (fun _ => true) held fuel 142 cs.toList = some (Rows.laid_loop_example_g00644_impl_conditions, p)) : Conds W := by
  obtain ⟨xs, m1, rfl, hx1, hlen, hn, hel⟩ := DataW.trod_array Tryz.underlying142 h
  have c1 : Tryz.prog.cellsOf 141 = 2 := by kernel_rfl
  have c2 : Tryz.prog.cellsOf 142 = 16 := by kernel_rfl
  have hx2 := congrArg Prod.fst hx1
  dsimp only at hx2
  intro k hk
  have h0 := hel k hk
  rw [c1] at h0
  have hxi : xs[k]? = some xs[k] := List.getElem?_eq_getElem (by omega)
  rw [hxi] at h0
  have hl2 : ((cs.toList.drop (k * 2)).take 2).length = 2 := by
    rw [List.length_take, List.length_drop, hlen, c2]
    omega
  obtain ⟨v0, v1, h5⟩ : ∃ v0 v1, (cs.toList.drop (k * 2)).take 2 = [v0, v1] := by
    match hq : (cs.toList.drop (k * 2)).take 2, hl2 with
    | [v0, v1], _ => exact ⟨v0, v1, rfl⟩
  rw [h5] at h0
  obtain ⟨y0, y1, m, hy, g0, g1⟩ := trod_twocz Tryz.underlying141 rfl rfl (by kernel_rfl) (by kernel_rfl) h0
  have hd := cd_dataz k hk (x := xs[k].1) (by rw [hx2]; dsimp only; rw [List.getElem?_map, hxi]; rfl)
  rw [hd] at hy
  simp only [DataW.agg.injEq, List.cons.injEq, and_true] at hy
  obtain ⟨z0, z1⟩ := hy
  obtain ⟨n0, e0, i0, _⟩ := DataW.trod_int Tryz.underlying3 g0
  obtain ⟨n1, e1, i1, _⟩ := DataW.trod_int Tryz.underlying3 g1
  simp only [List.cons.injEq, and_true] at e0 e1
  rw [i0] at z0
  rw [i1] at z1
  simp only [DataW.lit.injEq, Lit.int.injEq, true_and] at z0 z1
  have ht : ∀ t c, [v0, v1][t]? = some c → t < 2 → W.cell? ⟨2, k * 2 + t, none⟩ = some c := fun t c h1 h2 => by
    rw [World.var?_cell gCondsz hv (k * 2 + t), ← Array.getElem?_toList]
    have h3 := congrArg (·[t]?) h5
    simp only [List.getElem?_take, List.getElem?_drop] at h3
    rw [if_pos h2] at h3
    rw [h3, h1]
  exact ⟨by rw [z0, ← e0]; exact ht 0 _ rfl (by omega), by rw [z1, ← e1]; exact ht 1 _ rfl (by omega)⟩
theorem condh_ofz {W : World} (h : laidMetH Tryz.prog [("loop.example/g00644/impl.conditions", Rows.laid_loop_example_g00644_impl_conditions)] W) : Conds W := by
  rw [MakeChecks.laidMetH_plain _ _ _ (by kernel_rfl)] at h
  obtain ⟨ps, ⟨g0, t0, cs0, f0, p0, q0, hg0, ht0, hv0, hd0, _⟩, _⟩ := h
  obtain rfl := Option.some.inj (gCondsz.symm.trans hg0)
  obtain rfl := Option.some.inj (tCondsz.symm.trans ht0)
  exact conds_readsz hv0 hd0
end Go.Proofs.YtdfadiicjkenfabGreatDoor

/- How long a cycle is: what the specification and the program answer. -/
namespace Go.Proofs.YtdfadiicjkenfabGreatDoor
open Go.ChangeShapes Go.WideShapes Go.ChangeAt Go.RowKit
set_option linter.unusedVariables false
set_option linter.unusedSimpArgs false

theorem hidL {p : Prop} (h : p) : Hid p := h
def lenI (k : Int) : Int := if k = 1 ∨ k = 4 ∨ k = 5 then 4 else 3
def len2 (k : Int) : Value := if inB k 1 5 = true then .tuple #[.int .i64 (lenI k), .int .i64 0] else .tuple #[.int .i64 0, .int .i64 4]
theorem five_of {k : Int} (h : inB k 1 5 = true) : k = 1 ∨ k = 2 ∨ k = 3 ∨ k = 4 ∨ k = 5 := by
  simp [inB] at h
  omega
def tmI (k : Nat) : Int := if k = 0 then 0 else lenI k
/-- the program's table of lengths, in its block -/
def Times (w : World) : Prop := ∀ k, k < 6 → w.cell? ⟨0, k, none⟩ = some (.int .i64 (tmI k))
theorem Times.below {w w' : World} (h : Times w) (hb : Below w.heap.size w w') : Times w' := fun k hk => by
  rw [hb.cell (p := ⟨0, k, none⟩) (World.block_lt_of_cell? w _ (h k hk))]
  exact h k hk
theorem withinL_impl (n a b : Int) (w : World) : Calls Tryz.prog 38 #[.int .i64 n, .int .i64 a, .int .i64 b] w fun e w' => e = .returned (.bool (inB n a b)) ∧ w' = w := by
  go_enter Tryz.func38, Tryz.ntmps38
  go_wp2
  all_goals go_ret
  all_goals exact ⟨ret_bool (by rw [Bool.eq_iff_iff]; simp [inB]; try omega), rfl⟩
theorem length_impl (k : Int) (w : World) (hT : Times w) : Calls Tryz.prog 15 #[.int .i64 k] w fun e w' => e = .returned (len2 k) ∧ w' = w := by
  cases h : inB k 1 5
  · have e : len2 k = .tuple #[.int .i64 0, .int .i64 4] := by unfold len2; rw [h]; rfl
    rw [e]
    clear e
    replace hT := hidL hT
    go_enter Tryz.func15, Tryz.ntmps15
    go_wp2_with (go_at_call 38; refine (withinL_impl _ _ _ _).mono ?_; rintro e w' ⟨rfl, rfl⟩; rw [h])
    go_ret2
    exact ⟨rfl, rfl⟩
  · have t1 := hT 1 (by omega)
    have t2 := hT 2 (by omega)
    have t3 := hT 3 (by omega)
    have t4 := hT 4 (by omega)
    have t5 := hT 5 (by omega)
    replace hT := hidL hT
    rcases five_of h with rfl | rfl | rfl | rfl | rfl
    all_goals
      go_enter Tryz.func15, Tryz.ntmps15
      go_wp2_with (go_at_call 38; refine (withinL_impl _ _ _ _).mono ?_; rintro e w' ⟨rfl, rfl⟩; rw [h])
      go_ret2
      exact ⟨rfl, rfl⟩
end Go.Proofs.YtdfadiicjkenfabGreatDoor

/- What the row's list of the table of lengths gives. -/
namespace Go.Proofs.YtdfadiicjkenfabGreatDoor
open Go.ChangeShapes Go.WideShapes Go.ChangeAt Go.RowKit
set_option linter.unusedVariables false

theorem gTimes : Tryz.prog.globalNamed "loop.example/g00644/impl.cycleTimes" = some 0 := by kernel_rfl
theorem tTimes : (Tryz.prog.globals[0]?).map (·.type) = some 75 := by kernel_rfl
theorem times_reads {W : World} {held : Bool} {cs : Array Value} {fuel : Nat} {p : List MemPlace} (hv : World.var? Tryz.prog W "loop.example/g00644/impl.cycleTimes" = some cs)
    (h : DataW.trod (fun _ => ()) Tryz.prog W 0 (fun _ => true) held fuel 75 cs.toList = some (Rows.laid_loop_example_g00644_impl_cycleTimes, p)) : Times W := by
  obtain ⟨xs, m1, rfl, hx1, hlen, hn, hel⟩ := DataW.trod_array Tryz.underlying75 h
  have c1 : Tryz.prog.cellsOf 3 = 1 := by kernel_rfl
  have hd : xs.map (·.1) = [(.lit (.int .i64 0) : DataW Unit), .lit (.int .i64 4), .lit (.int .i64 3), .lit (.int .i64 3), .lit (.int .i64 4), .lit (.int .i64 4)] := by
    have := congrArg Prod.fst hx1
    simp only [Rows.laid_loop_example_g00644_impl_cycleTimes, DataW.agg.injEq] at this
    exact this.symm
  intro i hi
  have h0 := hel i hi
  rw [c1, Nat.mul_one] at h0
  have hxi : xs[i]? = some xs[i] := List.getElem?_eq_getElem (by omega)
  rw [hxi] at h0
  obtain ⟨n, e1, e2, _⟩ := DataW.trod_int Tryz.underlying3 h0
  have hcs : cs[i]? = some (.int .i64 n) := by
    have := congrArg (·[0]?) e1
    simpa [List.getElem?_take, List.getElem?_drop] using this
  rw [World.var?_cell gTimes hv i, hcs]
  have hz : (xs.map (·.1))[i]? = some (DataW.lit (.int .i64 (tmI i)) : DataW Unit) := by
    rw [hd]
    rcases (by omega : i = 0 ∨ i = 1 ∨ i = 2 ∨ i = 3 ∨ i = 4 ∨ i = 5) with rfl | rfl | rfl | rfl | rfl | rfl <;> rfl
  rw [List.getElem?_map, hxi, e2] at hz
  simp at hz
  rw [hz]
theorem times_of {W : World} (h : laidMetH Tryz.prog [("loop.example/g00644/impl.cycleTimes", Rows.laid_loop_example_g00644_impl_cycleTimes)] W) : Times W := by
  rw [MakeChecks.laidMetH_plain _ _ _ (by kernel_rfl)] at h
  obtain ⟨ps, ⟨g0, t0, cs0, f0, p0, q0, hg0, ht0, hv0, hd0, _⟩, _⟩ := h
  obtain rfl := Option.some.inj (gTimes.symm.trans hg0)
  obtain rfl := Option.some.inj (tTimes.symm.trans ht0)
  exact times_reads hv0 hd0
end Go.Proofs.YtdfadiicjkenfabGreatDoor

/- What the rows' lists of the program's tables give, together. -/
namespace Go.Proofs.YtdfadiicjkenfabGreatDoor
open Go.ChangeShapes Go.WideShapes Go.ChangeAt Go.RowKit
set_option linter.unusedVariables false

theorem laid_split {P : Program} {n : String} {d : DataW Unit} {r : List (String × DataW Unit)} {w : World} (h : laidMet P ((n, d) :: r) w) : laidMet P [(n, d)] w ∧ laidMet P r w := by
  obtain ⟨ps, ⟨g, t, cs, fuel, p, q, h1, h2, h3, h4, h5, rfl⟩, hnd, hc⟩ := h
  have hs := List.nodup_append.1 hnd
  refine ⟨⟨MemPlace.row ⟨g, 0, none⟩ cs.size ++ p ++ [], ⟨g, t, cs, fuel, p, [], h1, h2, h3, h4, rfl, rfl⟩, by rw [List.append_nil]; exact hs.1, fun b off hm => hc b off (List.mem_append.2 (.inl (by rwa [List.append_nil] at hm)))⟩, ⟨q, h5, hs.2.1, fun b off hm => hc b off (List.mem_append.2 (.inr hm))⟩⟩
theorem step3_of {W : World} (h : laidMetH Tryz.prog [("loop.example/g00644/impl.copiedFlags", Rows.laid_loop_example_g00644_impl_copiedFlags), ("loop.example/g00644/impl.instrKinds", Rows.laid_loop_example_g00644_impl_instrKinds), ("loop.example/g00644/impl.conditions", Rows.laid_loop_example_g00644_impl_conditions)] W) : Flags W ∧ Kinds W ∧ Conds W := by
  rw [MakeChecks.laidMetH_plain _ _ _ (by kernel_rfl)] at h
  obtain ⟨h0, h⟩ := laid_split h
  obtain ⟨h1, h2⟩ := laid_split h
  exact ⟨flags_of (by rw [MakeChecks.laidMetH_plain _ _ _ (by kernel_rfl)]; exact h0), kinds_of (by rw [MakeChecks.laidMetH_plain _ _ _ (by kernel_rfl)]; exact h1), condh_ofz (by rw [MakeChecks.laidMetH_plain _ _ _ (by kernel_rfl)]; exact h2)⟩
theorem step4_of {W : World} (h : laidMetH Tryz.prog [("loop.example/g00644/impl.copiedFlags", Rows.laid_loop_example_g00644_impl_copiedFlags), ("loop.example/g00644/impl.instrKinds", Rows.laid_loop_example_g00644_impl_instrKinds), ("loop.example/g00644/impl.cycleTimes", Rows.laid_loop_example_g00644_impl_cycleTimes), ("loop.example/g00644/impl.conditions", Rows.laid_loop_example_g00644_impl_conditions)] W) : Flags W ∧ Kinds W ∧ Conds W ∧ Times W := by
  rw [MakeChecks.laidMetH_plain _ _ _ (by kernel_rfl)] at h
  obtain ⟨h0, h⟩ := laid_split h
  obtain ⟨h1, h⟩ := laid_split h
  obtain ⟨h3, h2⟩ := laid_split h
  exact ⟨flags_of (by rw [MakeChecks.laidMetH_plain _ _ _ (by kernel_rfl)]; exact h0), kinds_of (by rw [MakeChecks.laidMetH_plain _ _ _ (by kernel_rfl)]; exact h1), condh_ofz (by rw [MakeChecks.laidMetH_plain _ _ _ (by kernel_rfl)]; exact h2), times_of (by rw [MakeChecks.laidMetH_plain _ _ _ (by kernel_rfl)]; exact h3)⟩
end Go.Proofs.YtdfadiicjkenfabGreatDoor
