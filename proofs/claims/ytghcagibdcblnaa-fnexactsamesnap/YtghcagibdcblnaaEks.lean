/- A snapshot that comes in: what its reading gives. -/
import Derived.Test.YtghcagibdcblnaaS12
import Derived.Test.YtghcagibdcblnaaS29
import Derived.Test.YtghcagibdcblnaaOas
import Derived.Test.YtghcagibdcblnaaMes
namespace Go.Proofs.Ytghcagibdcblnaa
open Go.ChangeShapes Go.WideShapes Go.ChangeAt Go.RowKit Go.Joins Go.Deep
set_option linter.unusedVariables false
set_option linter.unusedSimpArgs false

set_option maxRecDepth 100000 in
set_option maxHeartbeats 1000000 in
theorem cpu_trod {H : Type} {enc : TypeId × Value → H} {W : World} {base : Nat} {spare : Nat → Bool} {held : Bool} {fuel : Nat} {L : List Value} {x : DataW H × List MemPlace} (hL : L.length = 14) (hf : DataW.trod enc Try.prog W base spare held fuel 24 L = some x) : ∃ c : Cu, L = (cuA c).toList := by
  obtain ⟨v0, v1, v2, v3, v4, v5, v6, v7, v8, v9, v10, v11, v12, v13, rfl⟩ : ∃ v0 v1 v2 v3 v4 v5 v6 v7 v8 v9 v10 v11 v12 v13, L = [v0, v1, v2, v3, v4, v5, v6, v7, v8, v9, v10, v11, v12, v13] := by
    match L, hL with
    | [v0, v1, v2, v3, v4, v5, v6, v7, v8, v9, v10, v11, v12, v13], _ => exact ⟨v0, v1, v2, v3, v4, v5, v6, v7, v8, v9, v10, v11, v12, v13, rfl⟩
  have ci : Try.prog.cellsOf 3 = 1 := by kernel_rfl
  have cb : Try.prog.cellsOf 4 = 1 := by kernel_rfl
  have c8 : Try.prog.cellsOf 22 = 8 := by kernel_rfl
  obtain ⟨xs, n, _, _, hl, hlen, hfl⟩ := DataW.trod_struct Try.underlying24 hf
  have k0 : DataW.trod enc Try.prog W base spare held n 22 (([v0, v1, v2, v3, v4, v5, v6, v7, v8, v9, v10, v11, v12, v13].drop 0).take (Try.prog.cellsOf 22)) = xs[0]? := hfl 0 _ rfl
  have k1 : DataW.trod enc Try.prog W base spare held n 3 (([v0, v1, v2, v3, v4, v5, v6, v7, v8, v9, v10, v11, v12, v13].drop 8).take (Try.prog.cellsOf 3)) = xs[1]? := hfl 1 _ rfl
  have k2 : DataW.trod enc Try.prog W base spare held n 3 (([v0, v1, v2, v3, v4, v5, v6, v7, v8, v9, v10, v11, v12, v13].drop 9).take (Try.prog.cellsOf 3)) = xs[2]? := hfl 2 _ rfl
  have k3 : DataW.trod enc Try.prog W base spare held n 3 (([v0, v1, v2, v3, v4, v5, v6, v7, v8, v9, v10, v11, v12, v13].drop 10).take (Try.prog.cellsOf 3)) = xs[3]? := hfl 3 _ rfl
  have k4 : DataW.trod enc Try.prog W base spare held n 4 (([v0, v1, v2, v3, v4, v5, v6, v7, v8, v9, v10, v11, v12, v13].drop 11).take (Try.prog.cellsOf 4)) = xs[4]? := hfl 4 _ rfl
  have k5 : DataW.trod enc Try.prog W base spare held n 4 (([v0, v1, v2, v3, v4, v5, v6, v7, v8, v9, v10, v11, v12, v13].drop 12).take (Try.prog.cellsOf 4)) = xs[5]? := hfl 5 _ rfl
  have k6 : DataW.trod enc Try.prog W base spare held n 4 (([v0, v1, v2, v3, v4, v5, v6, v7, v8, v9, v10, v11, v12, v13].drop 13).take (Try.prog.cellsOf 4)) = xs[6]? := hfl 6 _ rfl
  rw [ci] at k1 k2 k3
  rw [cb] at k4 k5 k6
  rw [c8] at k0
  simp only [List.drop_succ_cons, List.drop_zero, List.take_succ_cons, List.take_zero] at k0 k1 k2 k3 k4 k5 k6
  match xs, hlen with
  | [y0, y1, y2, y3, y4, y5, y6], _ =>
    simp only [List.getElem?_cons_zero, List.getElem?_cons_succ] at k0 k1 k2 k3 k4 k5 k6
    obtain ⟨zs, m, hz1, hz2, hz3, hz4, hel⟩ := DataW.trod_array Try.underlying22 k0
    obtain ⟨f, i1, _, _⟩ := DataW.trod_int Try.underlying3 k1
    obtain ⟨sp, i2, _, _⟩ := DataW.trod_int Try.underlying3 k2
    obtain ⟨pc, i3, _, _⟩ := DataW.trod_int Try.underlying3 k3
    obtain ⟨b1, i4, _⟩ := DataW.trod_bool Try.underlying4 k4
    obtain ⟨b2, i5, _⟩ := DataW.trod_bool Try.underlying4 k5
    obtain ⟨b3, i6, _⟩ := DataW.trod_bool Try.underlying4 k6
    have key : ∀ i (hi : i < 8), ∃ z : Int, [v0, v1, v2, v3, v4, v5, v6, v7][i]? = some (.int .i64 z) := by
      intro i hi
      have h0 := hel i hi
      rw [ci, Nat.mul_one] at h0
      have hxi : zs[i]? = some zs[i] := List.getElem?_eq_getElem (by omega)
      rw [hxi] at h0
      obtain ⟨z, e1, _, _⟩ := DataW.trod_int Try.underlying3 h0
      refine ⟨z, ?_⟩
      have := congrArg (·[0]?) e1
      simpa [List.getElem?_take, List.getElem?_drop] using this
    obtain ⟨r0, e0⟩ := key 0 (by omega)
    obtain ⟨r1, e1⟩ := key 1 (by omega)
    obtain ⟨r2, e2⟩ := key 2 (by omega)
    obtain ⟨r3, e3⟩ := key 3 (by omega)
    obtain ⟨r4, e4⟩ := key 4 (by omega)
    obtain ⟨r5, e5⟩ := key 5 (by omega)
    obtain ⟨r6, e6⟩ := key 6 (by omega)
    obtain ⟨r7, e7⟩ := key 7 (by omega)
    simp only [List.getElem?_cons_zero, List.getElem?_cons_succ, Option.some.injEq] at e0 e1 e2 e3 e4 e5 e6 e7
    simp only [List.cons.injEq, and_true] at i1 i2 i3 i4 i5 i6
    exact ⟨⟨r0, r1, r2, r3, r4, r5, r6, r7, f, sp, pc, b1, b2, b3⟩, by rw [e0, e1, e2, e3, e4, e5, e6, e7, i1, i2, i3, i4, i5, i6]⟩
set_option maxRecDepth 100000 in
set_option maxHeartbeats 1000000 in
theorem ports_trod {H : Type} {enc : TypeId × Value → H} {W : World} {base : Nat} {spare : Nat → Bool} {held : Bool} {fuel : Nat} {L : List Value} {x : DataW H × List MemPlace} (hL : L.length = 12) (hf : DataW.trod enc Try.prog W base spare held fuel 30 L = some x) : ∃ c : Po, L = (poA c).toList := by
  obtain ⟨v0, v1, v2, v3, v4, v5, v6, v7, v8, v9, v10, v11, rfl⟩ : ∃ v0 v1 v2 v3 v4 v5 v6 v7 v8 v9 v10 v11, L = [v0, v1, v2, v3, v4, v5, v6, v7, v8, v9, v10, v11] := by
    match L, hL with
    | [v0, v1, v2, v3, v4, v5, v6, v7, v8, v9, v10, v11], _ => exact ⟨v0, v1, v2, v3, v4, v5, v6, v7, v8, v9, v10, v11, rfl⟩
  have ci : Try.prog.cellsOf 3 = 1 := by kernel_rfl
  have cb : Try.prog.cellsOf 4 = 1 := by kernel_rfl
  have c8 : Try.prog.cellsOf 22 = 8 := by kernel_rfl
  obtain ⟨xs, n, _, _, hl, hlen, hfl⟩ := DataW.trod_struct Try.underlying30 hf
  have k0 : DataW.trod enc Try.prog W base spare held n 22 (([v0, v1, v2, v3, v4, v5, v6, v7, v8, v9, v10, v11].drop 0).take (Try.prog.cellsOf 22)) = xs[0]? := hfl 0 _ rfl
  have k1 : DataW.trod enc Try.prog W base spare held n 3 (([v0, v1, v2, v3, v4, v5, v6, v7, v8, v9, v10, v11].drop 8).take (Try.prog.cellsOf 3)) = xs[1]? := hfl 1 _ rfl
  have k2 : DataW.trod enc Try.prog W base spare held n 3 (([v0, v1, v2, v3, v4, v5, v6, v7, v8, v9, v10, v11].drop 9).take (Try.prog.cellsOf 3)) = xs[2]? := hfl 2 _ rfl
  have k3 : DataW.trod enc Try.prog W base spare held n 4 (([v0, v1, v2, v3, v4, v5, v6, v7, v8, v9, v10, v11].drop 10).take (Try.prog.cellsOf 4)) = xs[3]? := hfl 3 _ rfl
  have k4 : DataW.trod enc Try.prog W base spare held n 4 (([v0, v1, v2, v3, v4, v5, v6, v7, v8, v9, v10, v11].drop 11).take (Try.prog.cellsOf 4)) = xs[4]? := hfl 4 _ rfl
  rw [ci] at k1 k2
  rw [cb] at k3 k4
  rw [c8] at k0
  simp only [List.drop_succ_cons, List.drop_zero, List.take_succ_cons, List.take_zero] at k0 k1 k2 k3 k4
  match xs, hlen with
  | [y0, y1, y2, y3, y4], _ =>
    simp only [List.getElem?_cons_zero, List.getElem?_cons_succ] at k0 k1 k2 k3 k4
    obtain ⟨zs, m, hz1, hz2, hz3, hz4, hel⟩ := DataW.trod_array Try.underlying22 k0
    obtain ⟨f, i1, _, _⟩ := DataW.trod_int Try.underlying3 k1
    obtain ⟨sp, i2, _, _⟩ := DataW.trod_int Try.underlying3 k2
    obtain ⟨b1, i3, _⟩ := DataW.trod_bool Try.underlying4 k3
    obtain ⟨b2, i4, _⟩ := DataW.trod_bool Try.underlying4 k4
    have key : ∀ i (hi : i < 8), ∃ z : Int, [v0, v1, v2, v3, v4, v5, v6, v7][i]? = some (.int .i64 z) := by
      intro i hi
      have h0 := hel i hi
      rw [ci, Nat.mul_one] at h0
      have hxi : zs[i]? = some zs[i] := List.getElem?_eq_getElem (by omega)
      rw [hxi] at h0
      obtain ⟨z, e1, _, _⟩ := DataW.trod_int Try.underlying3 h0
      refine ⟨z, ?_⟩
      have := congrArg (·[0]?) e1
      simpa [List.getElem?_take, List.getElem?_drop] using this
    obtain ⟨r0, e0⟩ := key 0 (by omega)
    obtain ⟨r1, e1⟩ := key 1 (by omega)
    obtain ⟨r2, e2⟩ := key 2 (by omega)
    obtain ⟨r3, e3⟩ := key 3 (by omega)
    obtain ⟨r4, e4⟩ := key 4 (by omega)
    obtain ⟨r5, e5⟩ := key 5 (by omega)
    obtain ⟨r6, e6⟩ := key 6 (by omega)
    obtain ⟨r7, e7⟩ := key 7 (by omega)
    simp only [List.getElem?_cons_zero, List.getElem?_cons_succ, Option.some.injEq] at e0 e1 e2 e3 e4 e5 e6 e7
    simp only [List.cons.injEq, and_true] at i1 i2 i3 i4
    exact ⟨⟨r0, r1, r2, r3, r4, r5, r6, r7, f, sp, b1, b2⟩, by rw [e0, e1, e2, e3, e4, e5, e6, e7, i1, i2, i3, i4]⟩
set_option maxRecDepth 100000 in
theorem mem_trod {H : Type} {enc : TypeId × Value → H} {W : World} {base : Nat} {held : Bool} {fuel : Nat} {L : List Value} {x : DataW H × List MemPlace} (hL : L.length = 5) (hf : DataW.trod enc Try.prog W base (fun _ => true) held fuel 28 L = some x) : ∃ vr vm M, L = [vr, vm, .int .i64 M.page, .int .i64 M.screen, .bool M.locked] ∧ MemR W (memV vr vm M.page M.screen M.locked) M ∧ Big M := by
  obtain ⟨v0, v1, v2, v3, v4, rfl⟩ : ∃ v0 v1 v2 v3 v4, L = [v0, v1, v2, v3, v4] := by
    match L, hL with
    | [v0, v1, v2, v3, v4], _ => exact ⟨v0, v1, v2, v3, v4, rfl⟩
  have ci : Try.prog.cellsOf 3 = 1 := by kernel_rfl
  have cb : Try.prog.cellsOf 4 = 1 := by kernel_rfl
  have cr : Try.prog.cellsOf 25 = 1 := by kernel_rfl
  have crs : Try.prog.cellsOf 26 = 1 := by kernel_rfl
  obtain ⟨xs, n, _, _, hl, hlen, hfl⟩ := DataW.trod_struct Try.underlying28 hf
  have k0 : DataW.trod enc Try.prog W base (fun _ => true) held n 25 (([v0, v1, v2, v3, v4].drop 0).take (Try.prog.cellsOf 25)) = xs[0]? := hfl 0 _ rfl
  have k1 : DataW.trod enc Try.prog W base (fun _ => true) held n 26 (([v0, v1, v2, v3, v4].drop 1).take (Try.prog.cellsOf 26)) = xs[1]? := hfl 1 _ rfl
  have k2 : DataW.trod enc Try.prog W base (fun _ => true) held n 3 (([v0, v1, v2, v3, v4].drop 2).take (Try.prog.cellsOf 3)) = xs[2]? := hfl 2 _ rfl
  have k3 : DataW.trod enc Try.prog W base (fun _ => true) held n 3 (([v0, v1, v2, v3, v4].drop 3).take (Try.prog.cellsOf 3)) = xs[3]? := hfl 3 _ rfl
  have k4 : DataW.trod enc Try.prog W base (fun _ => true) held n 4 (([v0, v1, v2, v3, v4].drop 4).take (Try.prog.cellsOf 4)) = xs[4]? := hfl 4 _ rfl
  rw [ci] at k2 k3
  rw [cb] at k4
  rw [cr] at k0
  rw [crs] at k1
  simp only [List.drop_succ_cons, List.drop_zero, List.take_succ_cons, List.take_zero] at k0 k1 k2 k3 k4
  match xs, hlen with
  | [y0, y1, y2, y3, y4], _ =>
    simp only [List.getElem?_cons_zero, List.getElem?_cons_succ] at k0 k1 k2 k3 k4
    obtain ⟨zs, r0, l0⟩ := row_in Try.underlying25 Try.underlying3 (by kernel_rfl) k0
    obtain ⟨zss, r1, l1, l1'⟩ := rows_in Try.underlying26 Try.underlying25 Try.underlying3 (by kernel_rfl) (by kernel_rfl) k1
    obtain ⟨pg, i2, _, _⟩ := DataW.trod_int Try.underlying3 k2
    obtain ⟨sc, i3, _, _⟩ := DataW.trod_int Try.underlying3 k3
    obtain ⟨lk, i4, _⟩ := DataW.trod_bool Try.underlying4 k4
    simp only [List.cons.injEq, and_true] at i2 i3 i4
    subst i2 i3 i4
    exact ⟨v0, v1, ⟨zs, zss, pg, sc, lk⟩, rfl, ⟨v0, v1, rfl, r0, r1⟩, l0, l1, l1'⟩
set_option maxRecDepth 100000 in
set_option maxHeartbeats 1000000 in
theorem snap_in {H : Type} {enc : TypeId × Value → H} {W : World} {base b0 : Nat} {held : Bool} {r : Reach} {v : Value} {d : DataW H} {p : List MemPlace}
    (hv : Value.okWide Try.prog W r b0 32 v) (h : DataW.Trod enc Try.prog W base (fun _ => true) held 32 v d p) : ∃ (s : Sn) (vr vm : Value), v = .agg (snA s vr vm) ∧ MemR W (memV vr vm s.m.page s.m.screen s.m.locked) s.m ∧ Big s.m := by
  obtain ⟨cs, rfl, hsz⟩ := okWide_struct Try.underlying32 hv
  have c31 : Try.prog.cellsOf 32 = 31 := by kernel_rfl
  have cc : Try.prog.cellsOf 24 = 14 := by kernel_rfl
  have cm : Try.prog.cellsOf 28 = 5 := by kernel_rfl
  have cp : Try.prog.cellsOf 30 = 12 := by kernel_rfl
  rw [c31] at hsz
  have hLL : cs.toList.length = 31 := hsz
  obtain ⟨fuel, hf⟩ := h
  obtain ⟨xs, n, _, _, hl, hlen, hfl⟩ := DataW.trod_struct Try.underlying32 hf
  have k0 : DataW.trod enc Try.prog W base (fun _ => true) held n 24 ((cs.toList.drop 0).take (Try.prog.cellsOf 24)) = xs[0]? := hfl 0 _ rfl
  have k1 : DataW.trod enc Try.prog W base (fun _ => true) held n 28 ((cs.toList.drop (0 + Try.prog.cellsOf 24)).take (Try.prog.cellsOf 28)) = xs[1]? := hfl 1 _ rfl
  have k2 : DataW.trod enc Try.prog W base (fun _ => true) held n 30 ((cs.toList.drop (0 + Try.prog.cellsOf 24 + Try.prog.cellsOf 28)).take (Try.prog.cellsOf 30)) = xs[2]? := hfl 2 _ rfl
  rw [cc] at k0
  rw [cc, cm] at k1
  rw [cc, cm, cp] at k2
  match xs, hlen with
  | [y0, y1, y2], _ =>
    obtain ⟨c, e0⟩ := cpu_trod (by simp [hLL]) k0
    obtain ⟨vr, vm, M, e1, hM, hb⟩ := mem_trod (by simp [hLL]) k1
    obtain ⟨po, e2⟩ := ports_trod (by simp [hLL]) k2
    refine ⟨⟨c, M, po⟩, vr, vm, ?_, hM, hb⟩
    congr 1
    apply Array.ext'
    have es : cs.toList = (cs.toList.drop 0).take 14 ++ ((cs.toList.drop (0 + 14)).take 5 ++ (cs.toList.drop (0 + 14 + 5)).take 12) := by
      generalize cs.toList = L at *
      rw [List.drop_zero, Nat.zero_add]
      have a1 : (L.drop (14 + 5)).take 12 = L.drop (14 + 5) := List.take_of_length_le (by simp [hLL])
      rw [a1, ← List.drop_drop, List.take_append_drop, List.take_append_drop]
    rw [es, e0, e1, e2]
    rfl
end Go.Proofs.Ytghcagibdcblnaa
