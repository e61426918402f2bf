/- What the laws do with an instruction: it comes in, is copied, is held against another; and what the row's list of the table of kinds gives. -/
import Derived.Test.YtneagomkohoceaaDoorKac
import Derived.Deep.Matrix
import Derived.Lib.SmallJoins
import Derived.LaidMore
import Derived.OpenShut
import Derived.Stop.Joined
namespace Go.Proofs.YtneagomkohoceaaDoor
open Go.ChangeShapes Go.WideShapes Go.ChangeAt Go.RowKit Go.Joins Go.Deep
set_option linter.unusedVariables false
set_option linter.unusedSimpArgs false

section
variable {H : Type} {enc : TypeId × Value → H} {P : Program} {w : World} {base : Nat} {spare : Nat → Bool} {held : Bool}
theorem arr5 {α : Type} {cs : Array α} (h : cs.size = 5) : ∃ c0 c1 c2 c3 c4, cs = #[c0, c1, c2, c3, c4] := by
  obtain ⟨l⟩ := cs
  match l, h with
  | [c0, c1, c2, c3, c4], _ => exact ⟨c0, c1, c2, c3, c4, rfl⟩
theorem trod_five {t : TypeId} {f0 f1 f2 f3 f4 : Field} {fuel : Nat} {cs : List Value} {x : DataW H × List MemPlace} (ht : P.underlying t = some (.struct #[f0, f1, f2, f3, f4])) (h : DataW.trod enc P w base spare held fuel t cs = some x) :
    ∃ y0 y1 y2 y3 y4 n, x.1 = .agg [y0.1, y1.1, y2.1, y3.1, y4.1] ∧ cs.length = P.cellsOf t ∧ DataW.trod enc P w base spare held n f0.type ((cs.drop f0.offset).take (P.cellsOf f0.type)) = some y0 ∧
      DataW.trod enc P w base spare held n f1.type ((cs.drop f1.offset).take (P.cellsOf f1.type)) = some y1 ∧ DataW.trod enc P w base spare held n f2.type ((cs.drop f2.offset).take (P.cellsOf f2.type)) = some y2 ∧
      DataW.trod enc P w base spare held n f3.type ((cs.drop f3.offset).take (P.cellsOf f3.type)) = some y3 ∧ DataW.trod enc P w base spare held n f4.type ((cs.drop f4.offset).take (P.cellsOf f4.type)) = some y4 := by
  obtain ⟨xs, n, _, rfl, hl, hlen, hf⟩ := DataW.trod_struct ht h
  match xs, hlen with
  | [y0, y1, y2, y3, y4], _ => exact ⟨y0, y1, y2, y3, y4, n, by simp, hl, by simpa using hf 0 f0 rfl, by simpa using hf 1 f1 rfl, by simpa using hf 2 f2 rfl, by simpa using hf 3 f3 rfl, by simpa using hf 4 f4 rfl⟩
theorem trod_fivec {t : TypeId} {f0 f1 f2 f3 f4 : Field} {fuel : Nat} {c0 c1 c2 c3 c4 : Value} {x : DataW H × List MemPlace} (hs : P.underlying t = some (.struct #[f0, f1, f2, f3, f4])) (hone : oneCellFields P #[f0, f1, f2, f3, f4] = true) (h : DataW.trod enc P w base spare held fuel t [c0, c1, c2, c3, c4] = some x) :
    ∃ (y0 y1 y2 y3 y4 : DataW H × List MemPlace) (n : Nat), x.1 = .agg [y0.1, y1.1, y2.1, y3.1, y4.1] ∧
      DataW.trod enc P w base spare held n f0.type [c0] = some y0 ∧ DataW.trod enc P w base spare held n f1.type [c1] = some y1 ∧ DataW.trod enc P w base spare held n f2.type [c2] = some y2 ∧ DataW.trod enc P w base spare held n f3.type [c3] = some y3 ∧ DataW.trod enc P w base spare held n f4.type [c4] = some y4 := by
  obtain ⟨y0, y1, y2, y3, y4, n, hx, _, h0, h1, h2, h3, h4⟩ := trod_five hs h
  obtain ⟨o0, k0⟩ := hone_of hone 0 f0 rfl
  obtain ⟨o1, k1⟩ := hone_of hone 1 f1 rfl
  obtain ⟨o2, k2⟩ := hone_of hone 2 f2 rfl
  obtain ⟨o3, k3⟩ := hone_of hone 3 f3 rfl
  obtain ⟨o4, k4⟩ := hone_of hone 4 f4 rfl
  exact ⟨y0, y1, y2, y3, y4, n, hx, by simpa [o0, k0] using h0, by simpa [o1, k1] using h1, by simpa [o2, k2] using h2, by simpa [o3, k3] using h3, by simpa [o4, k4] using h4⟩
theorem five_in {r : Reach} {b0 : Nat} {t : TypeId} {f0 f1 f2 f3 f4 : Field} {v : Value} {d : DataW H} {p : List MemPlace} (hs : P.underlying t = some (.struct #[f0, f1, f2, f3, f4])) (hone : oneCellFields P #[f0, f1, f2, f3, f4] = true) (hC : P.cellsOf t = 5)
    (i0 : P.underlying f0.type = some (.int .i64)) (i1 : P.underlying f1.type = some (.int .i64)) (i2 : P.underlying f2.type = some (.int .i64)) (i3 : P.underlying f3.type = some (.int .i64)) (i4 : P.underlying f4.type = some (.int .i64))
    (hv : Value.okWide P w r b0 t v) (h : DataW.Trod enc P w base spare held t v d p) : ∃ o a b n l : Int, v = insV o a b n l ∧ ((Lit.int .i64 o).wf = true ∧ (Lit.int .i64 a).wf = true ∧ (Lit.int .i64 b).wf = true ∧ (Lit.int .i64 n).wf = true ∧ (Lit.int .i64 l).wf = true) := by
  obtain ⟨cs, rfl, hsz⟩ := okWide_struct hs hv
  obtain ⟨c0, c1, c2, c3, c4, rfl⟩ := arr5 (hsz.trans hC)
  obtain ⟨fuel, hf⟩ := h
  obtain ⟨y0, y1, y2, y3, y4, n, _, h0, h1, h2, h3, h4⟩ := trod_fivec hs hone (by simpa [Value.cells] using hf)
  obtain ⟨o, e0, _, q0⟩ := DataW.trod_int i0 h0
  obtain ⟨a, e1, _, q1⟩ := DataW.trod_int i1 h1
  obtain ⟨b, e2, _, q2⟩ := DataW.trod_int i2 h2
  obtain ⟨m, e3, _, q3⟩ := DataW.trod_int i3 h3
  obtain ⟨l, e4, _, q4⟩ := DataW.trod_int i4 h4
  simp only [List.cons.injEq, and_true] at e0 e1 e2 e3 e4
  exact ⟨o, a, b, m, l, by rw [e0, e1, e2, e3, e4], q0, q1, q2, q3, q4⟩
end
theorem gKinds : Tryd.prog.globalNamed "loop.example/g00644/impl.instrKinds" = some 0 := by kernel_rfl
theorem tKinds : (Tryd.prog.globals[0]?).map (·.type) = some 63 := by kernel_rfl
theorem kd_data (k : Nat) (hk : k < 24) {x : DataW Unit} (h : (match (Rows.laid_loop_example_g00644_impl_instrKinds : DataW Unit) with | .agg l => l | _ => [])[k]? = some x) : x = .agg [.lit (.string (kdWL.getD k [])), .lit (.int .i64 (kdN k)), .lit (.int .i64 (kdA k)), .lit (.int .i64 (kdB k)), .lit (.int .i64 (kdT k))] := by
  have hk2 : k = 0 ∨ k = 1 ∨ k = 2 ∨ k = 3 ∨ k = 4 ∨ k = 5 ∨ k = 6 ∨ k = 7 ∨ k = 8 ∨ k = 9 ∨ k = 10 ∨ k = 11 ∨ k = 12 ∨ k = 13 ∨ k = 14 ∨ k = 15 ∨ k = 16 ∨ k = 17 ∨ k = 18 ∨ k = 19 ∨ k = 20 ∨ k = 21 ∨ k = 22 ∨ k = 23 := by omega
  rcases hk2 with rfl | rfl | rfl | rfl | rfl | rfl | rfl | rfl | rfl | rfl | rfl | rfl | rfl | rfl | rfl | rfl | rfl | rfl | rfl | rfl | rfl | rfl | rfl | rfl
  all_goals exact (Option.some.inj h).symm
theorem five_list {α : Type} {l : List α} (h : l.length = 5) : ∃ c0 c1 c2 c3 c4, l = [c0, c1, c2, c3, c4] := by
  match l, h with
  | [c0, c1, c2, c3, c4], _ => exact ⟨c0, c1, c2, c3, c4, rfl⟩
theorem five_at {l : List Value} {j t : Nat} {c : Value} {cs : List Value} (h : (l.drop j).take 5 = cs) (hc : cs[t]? = some c) (ht : t < 5) : l[j + t]? = some c := by
  have h1 := congrArg (·[t]?) h
  simp only [List.getElem?_take, List.getElem?_drop] at h1
  rw [if_pos ht] at h1
  rw [h1, hc]
theorem kinds_reads {W : World} {held : Bool} {cs : Array Value} {fuel : Nat} {p : List MemPlace} (hv : World.var? Tryd.prog W "loop.example/g00644/impl.instrKinds" = some cs)
    (h : DataW.trod (fun _ => ()) Tryd.prog W 0 (fun _ => true) held fuel 63 cs.toList = some (Rows.laid_loop_example_g00644_impl_instrKinds, p)) : Kinds W := by
  obtain ⟨xs, m1, rfl, hx1, hlen, hn, hel⟩ := DataW.trod_array Tryd.underlying63 h
  have c1 : Tryd.prog.cellsOf 62 = 5 := by kernel_rfl
  have c2 : Tryd.prog.cellsOf 63 = 120 := by kernel_rfl
  have hx2 := congrArg Prod.fst hx1
  dsimp only at hx2
  intro k hk
  have h0 := hel k hk
  rw [c1] at h0
  have hxi : xs[k]? = some xs[k] := List.getElem?_eq_getElem (by omega)
  rw [hxi] at h0
  have hl5 : ((cs.toList.drop (k * 5)).take 5).length = 5 := by
    rw [List.length_take, List.length_drop, hlen, c2]
    omega
  obtain ⟨v0, v1, v2, v3, v4, h5⟩ := five_list hl5
  rw [h5] at h0
  obtain ⟨y0, y1, y2, y3, y4, m, hy, g0, g1, g2, g3, g4⟩ := trod_fivec Tryd.underlying62 (by kernel_rfl) h0
  have hd := kd_data k hk (x := xs[k].1) (by rw [hx2]; dsimp only; rw [List.getElem?_map, hxi]; rfl)
  rw [hd] at hy
  simp only [DataW.agg.injEq, List.cons.injEq, and_true] at hy
  obtain ⟨z0, z1, z2, z3, z4⟩ := hy
  obtain ⟨s, e0, i0, _⟩ := DataW.trod_string Tryd.underlying9 g0
  obtain ⟨n1, e1, i1, _⟩ := DataW.trod_int Tryd.underlying3 g1
  obtain ⟨n2, e2, i2, _⟩ := DataW.trod_int Tryd.underlying3 g2
  obtain ⟨n3, e3, i3, _⟩ := DataW.trod_int Tryd.underlying3 g3
  obtain ⟨n4, e4, i4, _⟩ := DataW.trod_int Tryd.underlying3 g4
  simp only [List.cons.injEq, and_true] at e0 e1 e2 e3 e4
  rw [i0] at z0
  rw [i1] at z1
  rw [i2] at z2
  rw [i3] at z3
  rw [i4] at z4
  simp only [DataW.lit.injEq, Lit.string.injEq, Lit.int.injEq, true_and] at z0 z1 z2 z3 z4
  have hs : s = kdW k := by unfold kdW; rw [z0]
  have hc := fun t => World.var?_cell gKinds hv (k * 5 + t)
  have ht : ∀ t c, [v0, v1, v2, v3, v4][t]? = some c → t < 5 → W.cell? ⟨0, k * 5 + t, none⟩ = some c := fun t c h1 h2 => by
    rw [hc t, ← Array.getElem?_toList]
    exact five_at h5 h1 h2
  exact ⟨by rw [← hs, ← e0]; exact ht 0 _ rfl (by omega), by rw [z1, ← e1]; exact ht 1 _ rfl (by omega), by rw [z2, ← e2]; exact ht 2 _ rfl (by omega), by rw [z3, ← e3]; exact ht 3 _ rfl (by omega), by rw [z4, ← e4]; exact ht 4 _ rfl (by omega)⟩
theorem kinds_of {W : World} (h : laidMetH Tryd.prog [("loop.example/g00644/impl.instrKinds", Rows.laid_loop_example_g00644_impl_instrKinds)] W) : Kinds W := by
  rw [MakeChecks.laidMetH_plain _ _ _ (by kernel_rfl)] at h
  obtain ⟨ps, ⟨g0, t0, cs0, f0, p0, q0, hg0, ht0, hv0, hd0, _⟩, _⟩ := h
  obtain rfl := Option.some.inj (gKinds.symm.trans hg0)
  obtain rfl := Option.some.inj (tKinds.symm.trans ht0)
  exact kinds_reads hv0 hd0
theorem toi (o a b n l : Int) (w : World) : Calls Tryd.prog 20 #[insV o a b n l] w fun e w' => e = .returned (insV o a b n l) ∧ Below w.heap.size w w' := by
  go_enter Tryd.func20, Tryd.ntmps20
  go_wp2
  refine bodyPost_ret (v := insV o a b n l) (by simp [results, Tryd.results20, go_sem]) rfl ⟨rfl, ?_⟩
  exact (((Below.refl _ _).alloc (Nat.le_refl _) _).alloc (by simp) _).alloc (by simp; omega) _
theorem eqi_yes (o a b n l : Int) (w : World) : Calls Tryd.prog 22 #[insV o a b n l, insV o a b n l] w fun e w' => e = .returned (.bool true) ∧ Below w.heap.size w w' := by
  go_enter Tryd.func22, Tryd.ntmps22
  go_wp2
  go_ret
  exact ⟨rfl, ((Below.refl _ _).alloc (Nat.le_refl _) _).alloc (by simp) _⟩
end Go.Proofs.YtneagomkohoceaaDoor
