/- A processor that comes in: what its reading gives. -/
import Derived.Test.YtneagomkohoceaaDoorHa
import Derived.Deep.Matrix
import Derived.Lib.SmallJoins
namespace Go.Proofs.YtneagomkohoceaaDoor
open Go.ChangeShapes Go.WideShapes Go.ChangeAt Go.RowKit Go.Joins Go.Deep
set_option linter.unusedVariables false
set_option linter.unusedSimpArgs false

theorem arr14 {α : Type} {cs : Array α} (h : cs.size = 14) : ∃ c0 c1 c2 c3 c4 c5 c6 c7 c8 c9 c10 c11 c12 c13, cs = #[c0, c1, c2, c3, c4, c5, c6, c7, c8, c9, c10, c11, c12, c13] := by
  obtain ⟨l⟩ := cs
  match l, h with
  | [c0, c1, c2, c3, c4, c5, c6, c7, c8, c9, c10, c11, c12, c13], _ => exact ⟨c0, c1, c2, c3, c4, c5, c6, c7, c8, c9, c10, c11, c12, c13, rfl⟩
set_option maxRecDepth 100000 in
set_option maxHeartbeats 1000000 in
theorem cpu_in {H : Type} {enc : TypeId × Value → H} {W : World} {base b0 : Nat} {spare : Nat → Bool} {held : Bool} {r : Reach} {v : Value} {d : DataW H} {p : List MemPlace}
    (hv : Value.okWide Tryd.prog W r b0 50 v) (h : DataW.Trod enc Tryd.prog W base spare held 50 v d p) : ∃ c : Cu, v = cuV c := by
  obtain ⟨cs, rfl, hsz⟩ := okWide_struct Tryd.underlying50 hv
  have c14 : Tryd.prog.cellsOf 50 = 14 := by kernel_rfl
  have ci : Tryd.prog.cellsOf 3 = 1 := by kernel_rfl
  have cb : Tryd.prog.cellsOf 4 = 1 := by kernel_rfl
  have c8 : Tryd.prog.cellsOf 48 = 8 := by kernel_rfl
  obtain ⟨v0, v1, v2, v3, v4, v5, v6, v7, v8, v9, v10, v11, v12, v13, rfl⟩ := arr14 (hsz.trans c14)
  obtain ⟨fuel, hf⟩ := h
  obtain ⟨xs, n, _, _, hl, hlen, hfl⟩ := DataW.trod_struct Tryd.underlying50 hf
  have k0 : DataW.trod enc Tryd.prog W base spare held n 48 (([v0, v1, v2, v3, v4, v5, v6, v7, v8, v9, v10, v11, v12, v13].drop 0).take (Tryd.prog.cellsOf 48)) = xs[0]? := hfl 0 _ rfl
  have k1 : DataW.trod enc Tryd.prog W base spare held n 3 (([v0, v1, v2, v3, v4, v5, v6, v7, v8, v9, v10, v11, v12, v13].drop 8).take (Tryd.prog.cellsOf 3)) = xs[1]? := hfl 1 _ rfl
  have k2 : DataW.trod enc Tryd.prog W base spare held n 3 (([v0, v1, v2, v3, v4, v5, v6, v7, v8, v9, v10, v11, v12, v13].drop 9).take (Tryd.prog.cellsOf 3)) = xs[2]? := hfl 2 _ rfl
  have k3 : DataW.trod enc Tryd.prog W base spare held n 3 (([v0, v1, v2, v3, v4, v5, v6, v7, v8, v9, v10, v11, v12, v13].drop 10).take (Tryd.prog.cellsOf 3)) = xs[3]? := hfl 3 _ rfl
  have k4 : DataW.trod enc Tryd.prog W base spare held n 4 (([v0, v1, v2, v3, v4, v5, v6, v7, v8, v9, v10, v11, v12, v13].drop 11).take (Tryd.prog.cellsOf 4)) = xs[4]? := hfl 4 _ rfl
  have k5 : DataW.trod enc Tryd.prog W base spare held n 4 (([v0, v1, v2, v3, v4, v5, v6, v7, v8, v9, v10, v11, v12, v13].drop 12).take (Tryd.prog.cellsOf 4)) = xs[5]? := hfl 5 _ rfl
  have k6 : DataW.trod enc Tryd.prog W base spare held n 4 (([v0, v1, v2, v3, v4, v5, v6, v7, v8, v9, v10, v11, v12, v13].drop 13).take (Tryd.prog.cellsOf 4)) = xs[6]? := hfl 6 _ rfl
  rw [ci] at k1 k2 k3
  rw [cb] at k4 k5 k6
  rw [c8] at k0
  simp only [List.drop_succ_cons, List.drop_zero, List.take_succ_cons, List.take_zero] at k0 k1 k2 k3 k4 k5 k6
  match xs, hlen with
  | [y0, y1, y2, y3, y4, y5, y6], _ =>
    simp only [List.getElem?_cons_zero, List.getElem?_cons_succ] at k0 k1 k2 k3 k4 k5 k6
    obtain ⟨zs, m, hz1, hz2, hz3, hz4, hel⟩ := DataW.trod_array Tryd.underlying48 k0
    obtain ⟨f, i1, _, _⟩ := DataW.trod_int Tryd.underlying3 k1
    obtain ⟨sp, i2, _, _⟩ := DataW.trod_int Tryd.underlying3 k2
    obtain ⟨pc, i3, _, _⟩ := DataW.trod_int Tryd.underlying3 k3
    obtain ⟨b1, i4, _⟩ := DataW.trod_bool Tryd.underlying4 k4
    obtain ⟨b2, i5, _⟩ := DataW.trod_bool Tryd.underlying4 k5
    obtain ⟨b3, i6, _⟩ := DataW.trod_bool Tryd.underlying4 k6
    have key : ∀ i (hi : i < 8), ∃ z : Int, [v0, v1, v2, v3, v4, v5, v6, v7][i]? = some (.int .i64 z) := by
      intro i hi
      have h0 := hel i hi
      rw [ci, Nat.mul_one] at h0
      have hxi : zs[i]? = some zs[i] := List.getElem?_eq_getElem (by omega)
      rw [hxi] at h0
      obtain ⟨z, e1, _, _⟩ := DataW.trod_int Tryd.underlying3 h0
      refine ⟨z, ?_⟩
      have := congrArg (·[0]?) e1
      simpa [List.getElem?_take, List.getElem?_drop] using this
    obtain ⟨r0, e0⟩ := key 0 (by omega)
    obtain ⟨r1, e1⟩ := key 1 (by omega)
    obtain ⟨r2, e2⟩ := key 2 (by omega)
    obtain ⟨r3, e3⟩ := key 3 (by omega)
    obtain ⟨r4, e4⟩ := key 4 (by omega)
    obtain ⟨r5, e5⟩ := key 5 (by omega)
    obtain ⟨r6, e6⟩ := key 6 (by omega)
    obtain ⟨r7, e7⟩ := key 7 (by omega)
    simp only [List.getElem?_cons_zero, List.getElem?_cons_succ, Option.some.injEq] at e0 e1 e2 e3 e4 e5 e6 e7
    simp only [List.cons.injEq, and_true] at i1 i2 i3 i4 i5 i6
    exact ⟨⟨r0, r1, r2, r3, r4, r5, r6, r7, f, sp, pc, b1, b2, b3⟩, by rw [e0, e1, e2, e3, e4, e5, e6, e7, i1, i2, i3, i4, i5, i6]⟩
end Go.Proofs.YtneagomkohoceaaDoor
