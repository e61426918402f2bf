/- A machine that comes in: what its reading gives. -/
import Derived.Test.YtifcdojaocndhaaDoorM29
import Derived.Test.YtifcdojaocndhaaDoorM45
import Derived.Test.YtifcdojaocndhaaDoorM27
import Derived.Deep.Matrix
import Derived.Deep.Strs
import Derived.Lib.SmallJoins
namespace Go.Proofs.YtifcdojaocndhaaDoor
open Go.ChangeShapes Go.WideShapes Go.ChangeAt Go.RowKit Go.Joins Go.Deep
set_option linter.unusedVariables false
set_option linter.unusedSimpArgs false

section
variable {H : Type} {enc : TypeId × Value → H} {P : Program} {w : World} {base : Nat} {held : Bool}
theorem addr_noneE {w : World} {a : Addr} {v : Value} (h : w.cell? (a.add 0) = some v) : a = ⟨a.block, a.off, none⟩ := by
  obtain ⟨b, off, spot⟩ := a
  have hspot : spot = none := by simpa [Addr.add] using World.cell?_spot h
  subst hspot
  rfl
theorem add_plainE (b off j : Nat) : (⟨b, off, none⟩ : Addr).add j = ⟨b, off + j, none⟩ := by unfold Addr.add; split <;> simp_all
/-- a slice of events that comes in -/
theorem events_in {t e : TypeId} {f0 f1 f2 : Field} {fuel : Nat} {v : Value} {x : DataW H × List MemPlace} (ht : P.underlying t = some (.slice e)) (he : P.underlying e = some (.struct #[f0, f1, f2])) (hone : oneCellFields P #[f0, f1, f2] = true) (ce : P.cellsOf e = 3)
    (i0 : P.underlying f0.type = some (.int .i64)) (i1 : P.underlying f1.type = some (.int .i64)) (i2 : P.underlying f2.type = some (.int .i64))
    (h : DataW.trod enc P w base (fun _ => true) held fuel t [v] = some x) : ∃ l : List Evt, EvR w v l ∧ l.length ≤ maxLen := by
  rcases DataW.trod_slice ht h with ⟨hcs, _⟩ | ⟨a, len, cap, elems, rest, n, _, hcs, _, hb, hl, hm, hel, hE, _, _⟩
  · obtain rfl : v = .slice none 0 0 := by simpa using hcs
    exact ⟨[], EvR.nil w, Nat.zero_le _⟩
  · obtain rfl : v = .slice (some a) len cap := by simpa using hcs
    have each : ∀ i, i < len → ∃ y : Evt, w.cell? (a.add (i * 3)) = some (.int .i64 y.t) ∧ w.cell? ((a.add (i * 3)).add 1) = some (.int .i64 y.k) ∧ w.cell? ((a.add (i * 3)).add 2) = some (.int .i64 y.v) := by
      intro i hi
      have h1 := hE i hi
      rw [ce] at h1
      obtain ⟨z, hz⟩ : ∃ z, elems[i]? = some z := ⟨_, List.getElem?_eq_getElem (by omega)⟩
      rw [hz] at h1
      obtain ⟨cs, hc, ht2⟩ := Option.bind_eq_some_iff.1 h1
      obtain ⟨_, hlen, hcell⟩ := World.cells?_some hc
      obtain ⟨c0, c1, c2, rfl⟩ : ∃ c0 c1 c2, cs = [c0, c1, c2] := by
        match cs, hlen with
        | [c0, c1, c2], _ => exact ⟨c0, c1, c2, rfl⟩
      obtain ⟨y0, y1, y2, m, _, _, h0, h2, h3⟩ := trod_struct3 he ht2
      obtain ⟨o0, k0⟩ := hone_of hone 0 f0 rfl
      obtain ⟨o1, k1⟩ := hone_of hone 1 f1 rfl
      obtain ⟨o2, k2⟩ := hone_of hone 2 f2 rfl
      rw [o0, k0] at h0
      rw [o1, k1] at h2
      rw [o2, k2] at h3
      obtain ⟨f, e0, _, _⟩ := DataW.trod_int i0 h0
      obtain ⟨s, e1, _, _⟩ := DataW.trod_int i1 h2
      obtain ⟨u, e2, _, _⟩ := DataW.trod_int i2 h3
      have g0 := hcell 0 (by omega)
      have g1 := hcell 1 (by omega)
      have g2 := hcell 2 (by omega)
      simp at e0 e1 e2
      subst e0 e1 e2
      refine ⟨⟨f, s, u⟩, ?_, ?_, ?_⟩
      · have : (a.add (i * 3)).add 0 = a.add (i * 3) := by unfold Addr.add; split <;> simp_all
        rw [← this]
        simpa using g0
      · simpa using g1
      · simpa using g2
    haveI : Inhabited Evt := ⟨e0⟩
    obtain ⟨y, hy⟩ := choose_lt each
    have hgl : ((List.range len).map y).length = len := by simp
    have hg : ∀ i, i < len → ((List.range len).map y).getD i e0 = y i := fun i hi => by simp [List.getD_eq_getElem?_getD, List.getElem?_range hi]
    refine ⟨(List.range len).map y, ⟨some a, cap, by rw [hgl], ?_⟩, by rw [hgl]; omega⟩
    by_cases h0 : len = 0
    · left
      rw [h0]
      rfl
    · right
      have ha : a = ⟨a.block, a.off, none⟩ := by
        have := (hy 0 (by omega)).1
        rw [Nat.zero_mul] at this
        exact addr_noneE this
      refine ⟨a.block, a.off, by rw [← ha], fun k hk => ?_⟩
      rw [hgl] at hk
      obtain ⟨p1, p2, p3⟩ := hy k hk
      rw [ha, add_plainE] at p1 p2 p3
      rw [add_plainE] at p2 p3
      rw [hg k hk]
      exact ⟨p1, p2, p3⟩
end
set_option maxRecDepth 100000 in
set_option maxHeartbeats 1000000 in
theorem cpu_trodM {H : Type} {enc : TypeId × Value → H} {W : World} {base : Nat} {spare : Nat → Bool} {held : Bool} {fuel : Nat} {L : List Value} {x : DataW H × List MemPlace} (hL : L.length = 14) (hf : DataW.trod enc Tryd.prog W base spare held fuel 51 L = some x) : ∃ c : Cu, L = (cuA c).toList := by
  obtain ⟨v0, v1, v2, v3, v4, v5, v6, v7, v8, v9, v10, v11, v12, v13, rfl⟩ : ∃ v0 v1 v2 v3 v4 v5 v6 v7 v8 v9 v10 v11 v12 v13, L = [v0, v1, v2, v3, v4, v5, v6, v7, v8, v9, v10, v11, v12, v13] := by
    match L, hL with
    | [v0, v1, v2, v3, v4, v5, v6, v7, v8, v9, v10, v11, v12, v13], _ => exact ⟨v0, v1, v2, v3, v4, v5, v6, v7, v8, v9, v10, v11, v12, v13, rfl⟩
  have ci : Tryd.prog.cellsOf 3 = 1 := by kernel_rfl
  have cb : Tryd.prog.cellsOf 4 = 1 := by kernel_rfl
  have c8 : Tryd.prog.cellsOf 24 = 8 := by kernel_rfl
  obtain ⟨xs, n, _, _, hl, hlen, hfl⟩ := DataW.trod_struct Tryd.underlying51 hf
  have k0 : DataW.trod enc Tryd.prog W base spare held n 24 (([v0, v1, v2, v3, v4, v5, v6, v7, v8, v9, v10, v11, v12, v13].drop 0).take (Tryd.prog.cellsOf 24)) = xs[0]? := hfl 0 _ rfl
  have k1 : DataW.trod enc Tryd.prog W base spare held n 3 (([v0, v1, v2, v3, v4, v5, v6, v7, v8, v9, v10, v11, v12, v13].drop 8).take (Tryd.prog.cellsOf 3)) = xs[1]? := hfl 1 _ rfl
  have k2 : DataW.trod enc Tryd.prog W base spare held n 3 (([v0, v1, v2, v3, v4, v5, v6, v7, v8, v9, v10, v11, v12, v13].drop 9).take (Tryd.prog.cellsOf 3)) = xs[2]? := hfl 2 _ rfl
  have k3 : DataW.trod enc Tryd.prog W base spare held n 3 (([v0, v1, v2, v3, v4, v5, v6, v7, v8, v9, v10, v11, v12, v13].drop 10).take (Tryd.prog.cellsOf 3)) = xs[3]? := hfl 3 _ rfl
  have k4 : DataW.trod enc Tryd.prog W base spare held n 4 (([v0, v1, v2, v3, v4, v5, v6, v7, v8, v9, v10, v11, v12, v13].drop 11).take (Tryd.prog.cellsOf 4)) = xs[4]? := hfl 4 _ rfl
  have k5 : DataW.trod enc Tryd.prog W base spare held n 4 (([v0, v1, v2, v3, v4, v5, v6, v7, v8, v9, v10, v11, v12, v13].drop 12).take (Tryd.prog.cellsOf 4)) = xs[5]? := hfl 5 _ rfl
  have k6 : DataW.trod enc Tryd.prog W base spare held n 4 (([v0, v1, v2, v3, v4, v5, v6, v7, v8, v9, v10, v11, v12, v13].drop 13).take (Tryd.prog.cellsOf 4)) = xs[6]? := hfl 6 _ rfl
  rw [ci] at k1 k2 k3
  rw [cb] at k4 k5 k6
  rw [c8] at k0
  simp only [List.drop_succ_cons, List.drop_zero, List.take_succ_cons, List.take_zero] at k0 k1 k2 k3 k4 k5 k6
  match xs, hlen with
  | [y0, y1, y2, y3, y4, y5, y6], _ =>
    simp only [List.getElem?_cons_zero, List.getElem?_cons_succ] at k0 k1 k2 k3 k4 k5 k6
    obtain ⟨zs, m, hz1, hz2, hz3, hz4, hel⟩ := DataW.trod_array Tryd.underlying24 k0
    obtain ⟨f, i1, _, _⟩ := DataW.trod_int Tryd.underlying3 k1
    obtain ⟨sp, i2, _, _⟩ := DataW.trod_int Tryd.underlying3 k2
    obtain ⟨pc, i3, _, _⟩ := DataW.trod_int Tryd.underlying3 k3
    obtain ⟨b1, i4, _⟩ := DataW.trod_bool Tryd.underlying4 k4
    obtain ⟨b2, i5, _⟩ := DataW.trod_bool Tryd.underlying4 k5
    obtain ⟨b3, i6, _⟩ := DataW.trod_bool Tryd.underlying4 k6
    have key : ∀ i (hi : i < 8), ∃ z : Int, [v0, v1, v2, v3, v4, v5, v6, v7][i]? = some (.int .i64 z) := by
      intro i hi
      have h0 := hel i hi
      rw [ci, Nat.mul_one] at h0
      have hxi : zs[i]? = some zs[i] := List.getElem?_eq_getElem (by omega)
      rw [hxi] at h0
      obtain ⟨z, e1, _, _⟩ := DataW.trod_int Tryd.underlying3 h0
      refine ⟨z, ?_⟩
      have := congrArg (·[0]?) e1
      simpa [List.getElem?_take, List.getElem?_drop] using this
    obtain ⟨r0, e0⟩ := key 0 (by omega)
    obtain ⟨r1, e1⟩ := key 1 (by omega)
    obtain ⟨r2, e2⟩ := key 2 (by omega)
    obtain ⟨r3, e3⟩ := key 3 (by omega)
    obtain ⟨r4, e4⟩ := key 4 (by omega)
    obtain ⟨r5, e5⟩ := key 5 (by omega)
    obtain ⟨r6, e6⟩ := key 6 (by omega)
    obtain ⟨r7, e7⟩ := key 7 (by omega)
    simp only [List.getElem?_cons_zero, List.getElem?_cons_succ, Option.some.injEq] at e0 e1 e2 e3 e4 e5 e6 e7
    simp only [List.cons.injEq, and_true] at i1 i2 i3 i4 i5 i6
    exact ⟨⟨r0, r1, r2, r3, r4, r5, r6, r7, f, sp, pc, b1, b2, b3⟩, by rw [e0, e1, e2, e3, e4, e5, e6, e7, i1, i2, i3, i4, i5, i6]⟩
set_option maxRecDepth 100000 in
set_option maxHeartbeats 1000000 in
theorem ports_trodM {H : Type} {enc : TypeId × Value → H} {W : World} {base : Nat} {spare : Nat → Bool} {held : Bool} {fuel : Nat} {L : List Value} {x : DataW H × List MemPlace} (hL : L.length = 12) (hf : DataW.trod enc Tryd.prog W base spare held fuel 53 L = some x) : ∃ c : Po, L = (poA c).toList := by
  obtain ⟨v0, v1, v2, v3, v4, v5, v6, v7, v8, v9, v10, v11, rfl⟩ : ∃ v0 v1 v2 v3 v4 v5 v6 v7 v8 v9 v10 v11, L = [v0, v1, v2, v3, v4, v5, v6, v7, v8, v9, v10, v11] := by
    match L, hL with
    | [v0, v1, v2, v3, v4, v5, v6, v7, v8, v9, v10, v11], _ => exact ⟨v0, v1, v2, v3, v4, v5, v6, v7, v8, v9, v10, v11, rfl⟩
  have ci : Tryd.prog.cellsOf 3 = 1 := by kernel_rfl
  have cb : Tryd.prog.cellsOf 4 = 1 := by kernel_rfl
  have c8 : Tryd.prog.cellsOf 24 = 8 := by kernel_rfl
  obtain ⟨xs, n, _, _, hl, hlen, hfl⟩ := DataW.trod_struct Tryd.underlying53 hf
  have k0 : DataW.trod enc Tryd.prog W base spare held n 24 (([v0, v1, v2, v3, v4, v5, v6, v7, v8, v9, v10, v11].drop 0).take (Tryd.prog.cellsOf 24)) = xs[0]? := hfl 0 _ rfl
  have k1 : DataW.trod enc Tryd.prog W base spare held n 3 (([v0, v1, v2, v3, v4, v5, v6, v7, v8, v9, v10, v11].drop 8).take (Tryd.prog.cellsOf 3)) = xs[1]? := hfl 1 _ rfl
  have k2 : DataW.trod enc Tryd.prog W base spare held n 3 (([v0, v1, v2, v3, v4, v5, v6, v7, v8, v9, v10, v11].drop 9).take (Tryd.prog.cellsOf 3)) = xs[2]? := hfl 2 _ rfl
  have k3 : DataW.trod enc Tryd.prog W base spare held n 4 (([v0, v1, v2, v3, v4, v5, v6, v7, v8, v9, v10, v11].drop 10).take (Tryd.prog.cellsOf 4)) = xs[3]? := hfl 3 _ rfl
  have k4 : DataW.trod enc Tryd.prog W base spare held n 4 (([v0, v1, v2, v3, v4, v5, v6, v7, v8, v9, v10, v11].drop 11).take (Tryd.prog.cellsOf 4)) = xs[4]? := hfl 4 _ rfl
  rw [ci] at k1 k2
  rw [cb] at k3 k4
  rw [c8] at k0
  simp only [List.drop_succ_cons, List.drop_zero, List.take_succ_cons, List.take_zero] at k0 k1 k2 k3 k4
  match xs, hlen with
  | [y0, y1, y2, y3, y4], _ =>
    simp only [List.getElem?_cons_zero, List.getElem?_cons_succ] at k0 k1 k2 k3 k4
    obtain ⟨zs, m, hz1, hz2, hz3, hz4, hel⟩ := DataW.trod_array Tryd.underlying24 k0
    obtain ⟨f, i1, _, _⟩ := DataW.trod_int Tryd.underlying3 k1
    obtain ⟨sp, i2, _, _⟩ := DataW.trod_int Tryd.underlying3 k2
    obtain ⟨b1, i3, _⟩ := DataW.trod_bool Tryd.underlying4 k3
    obtain ⟨b2, i4, _⟩ := DataW.trod_bool Tryd.underlying4 k4
    have key : ∀ i (hi : i < 8), ∃ z : Int, [v0, v1, v2, v3, v4, v5, v6, v7][i]? = some (.int .i64 z) := by
      intro i hi
      have h0 := hel i hi
      rw [ci, Nat.mul_one] at h0
      have hxi : zs[i]? = some zs[i] := List.getElem?_eq_getElem (by omega)
      rw [hxi] at h0
      obtain ⟨z, e1, _, _⟩ := DataW.trod_int Tryd.underlying3 h0
      refine ⟨z, ?_⟩
      have := congrArg (·[0]?) e1
      simpa [List.getElem?_take, List.getElem?_drop] using this
    obtain ⟨r0, e0⟩ := key 0 (by omega)
    obtain ⟨r1, e1⟩ := key 1 (by omega)
    obtain ⟨r2, e2⟩ := key 2 (by omega)
    obtain ⟨r3, e3⟩ := key 3 (by omega)
    obtain ⟨r4, e4⟩ := key 4 (by omega)
    obtain ⟨r5, e5⟩ := key 5 (by omega)
    obtain ⟨r6, e6⟩ := key 6 (by omega)
    obtain ⟨r7, e7⟩ := key 7 (by omega)
    simp only [List.getElem?_cons_zero, List.getElem?_cons_succ, Option.some.injEq] at e0 e1 e2 e3 e4 e5 e6 e7
    simp only [List.cons.injEq, and_true] at i1 i2 i3 i4
    exact ⟨⟨r0, r1, r2, r3, r4, r5, r6, r7, f, sp, b1, b2⟩, by rw [e0, e1, e2, e3, e4, e5, e6, e7, i1, i2, i3, i4]⟩
set_option maxRecDepth 100000 in
theorem mem_trodM {H : Type} {enc : TypeId × Value → H} {W : World} {base : Nat} {held : Bool} {fuel : Nat} {L : List Value} {x : DataW H × List MemPlace} (hL : L.length = 5) (hf : DataW.trod enc Tryd.prog W base (fun _ => true) held fuel 52 L = some x) : ∃ vr vm M, L = [vr, vm, .int .i64 M.page, .int .i64 M.screen, .bool M.locked] ∧ MemR W (memV vr vm M.page M.screen M.locked) M ∧ Big M := by
  obtain ⟨v0, v1, v2, v3, v4, rfl⟩ : ∃ v0 v1 v2 v3 v4, L = [v0, v1, v2, v3, v4] := by
    match L, hL with
    | [v0, v1, v2, v3, v4], _ => exact ⟨v0, v1, v2, v3, v4, rfl⟩
  have ci : Tryd.prog.cellsOf 3 = 1 := by kernel_rfl
  have cb : Tryd.prog.cellsOf 4 = 1 := by kernel_rfl
  have cr : Tryd.prog.cellsOf 27 = 1 := by kernel_rfl
  have crs : Tryd.prog.cellsOf 28 = 1 := by kernel_rfl
  obtain ⟨xs, n, _, _, hl, hlen, hfl⟩ := DataW.trod_struct Tryd.underlying52 hf
  have k0 : DataW.trod enc Tryd.prog W base (fun _ => true) held n 27 (([v0, v1, v2, v3, v4].drop 0).take (Tryd.prog.cellsOf 27)) = xs[0]? := hfl 0 _ rfl
  have k1 : DataW.trod enc Tryd.prog W base (fun _ => true) held n 28 (([v0, v1, v2, v3, v4].drop 1).take (Tryd.prog.cellsOf 28)) = xs[1]? := hfl 1 _ rfl
  have k2 : DataW.trod enc Tryd.prog W base (fun _ => true) held n 3 (([v0, v1, v2, v3, v4].drop 2).take (Tryd.prog.cellsOf 3)) = xs[2]? := hfl 2 _ rfl
  have k3 : DataW.trod enc Tryd.prog W base (fun _ => true) held n 3 (([v0, v1, v2, v3, v4].drop 3).take (Tryd.prog.cellsOf 3)) = xs[3]? := hfl 3 _ rfl
  have k4 : DataW.trod enc Tryd.prog W base (fun _ => true) held n 4 (([v0, v1, v2, v3, v4].drop 4).take (Tryd.prog.cellsOf 4)) = xs[4]? := hfl 4 _ rfl
  rw [ci] at k2 k3
  rw [cb] at k4
  rw [cr] at k0
  rw [crs] at k1
  simp only [List.drop_succ_cons, List.drop_zero, List.take_succ_cons, List.take_zero] at k0 k1 k2 k3 k4
  match xs, hlen with
  | [y0, y1, y2, y3, y4], _ =>
    simp only [List.getElem?_cons_zero, List.getElem?_cons_succ] at k0 k1 k2 k3 k4
    obtain ⟨zs, r0, l0⟩ := row_in Tryd.underlying27 Tryd.underlying3 (by kernel_rfl) k0
    obtain ⟨zss, r1, l1, l1'⟩ := rows_in Tryd.underlying28 Tryd.underlying27 Tryd.underlying3 (by kernel_rfl) (by kernel_rfl) k1
    obtain ⟨pg, i2, _, _⟩ := DataW.trod_int Tryd.underlying3 k2
    obtain ⟨sc, i3, _, _⟩ := DataW.trod_int Tryd.underlying3 k3
    obtain ⟨lk, i4, _⟩ := DataW.trod_bool Tryd.underlying4 k4
    simp only [List.cons.injEq, and_true] at i2 i3 i4
    subst i2 i3 i4
    exact ⟨v0, v1, ⟨zs, zss, pg, sc, lk⟩, rfl, ⟨v0, v1, rfl, r0, r1⟩, l0, l1, l1'⟩
set_option maxRecDepth 100000 in
set_option maxHeartbeats 1000000 in
theorem sg_trodM {H : Type} {enc : TypeId × Value → H} {W : World} {base : Nat} {spare : Nat → Bool} {held : Bool} {fuel : Nat} {L : List Value} {x : DataW H × List MemPlace} (hL : L.length = 17) (hf : DataW.trod enc Tryd.prog W base spare held fuel 54 L = some x) : ∃ c : Sg, L = (sgA c).toList := by
  obtain ⟨v0, v1, v2, v3, v4, v5, v6, v7, v8, v9, v10, v11, v12, v13, v14, v15, v16, rfl⟩ : ∃ v0 v1 v2 v3 v4 v5 v6 v7 v8 v9 v10 v11 v12 v13 v14 v15 v16, L = [v0, v1, v2, v3, v4, v5, v6, v7, v8, v9, v10, v11, v12, v13, v14, v15, v16] := by
    match L, hL with
    | [v0, v1, v2, v3, v4, v5, v6, v7, v8, v9, v10, v11, v12, v13, v14, v15, v16], _ => exact ⟨v0, v1, v2, v3, v4, v5, v6, v7, v8, v9, v10, v11, v12, v13, v14, v15, v16, rfl⟩
  have ci : Tryd.prog.cellsOf 3 = 1 := by kernel_rfl
  have cb : Tryd.prog.cellsOf 4 = 1 := by kernel_rfl
  have c8 : Tryd.prog.cellsOf 24 = 8 := by kernel_rfl
  have c2 : Tryd.prog.cellsOf 33 = 2 := by kernel_rfl
  have d2 : Tryd.prog.cellsOf 34 = 2 := by kernel_rfl
  obtain ⟨xs, n, _, _, hl, hlen, hfl⟩ := DataW.trod_struct Tryd.underlying54 hf
  have k0 : DataW.trod enc Tryd.prog W base spare held n 24 (([v0, v1, v2, v3, v4, v5, v6, v7, v8, v9, v10, v11, v12, v13, v14, v15, v16].drop 0).take (Tryd.prog.cellsOf 24)) = xs[0]? := hfl 0 _ rfl
  have k1 : DataW.trod enc Tryd.prog W base spare held n 3 (([v0, v1, v2, v3, v4, v5, v6, v7, v8, v9, v10, v11, v12, v13, v14, v15, v16].drop 8).take (Tryd.prog.cellsOf 3)) = xs[1]? := hfl 1 _ rfl
  have k2 : DataW.trod enc Tryd.prog W base spare held n 33 (([v0, v1, v2, v3, v4, v5, v6, v7, v8, v9, v10, v11, v12, v13, v14, v15, v16].drop 9).take (Tryd.prog.cellsOf 33)) = xs[2]? := hfl 2 _ rfl
  have k3 : DataW.trod enc Tryd.prog W base spare held n 34 (([v0, v1, v2, v3, v4, v5, v6, v7, v8, v9, v10, v11, v12, v13, v14, v15, v16].drop 11).take (Tryd.prog.cellsOf 34)) = xs[3]? := hfl 3 _ rfl
  have k4 : DataW.trod enc Tryd.prog W base spare held n 3 (([v0, v1, v2, v3, v4, v5, v6, v7, v8, v9, v10, v11, v12, v13, v14, v15, v16].drop 13).take (Tryd.prog.cellsOf 3)) = xs[4]? := hfl 4 _ rfl
  have k5 : DataW.trod enc Tryd.prog W base spare held n 3 (([v0, v1, v2, v3, v4, v5, v6, v7, v8, v9, v10, v11, v12, v13, v14, v15, v16].drop 14).take (Tryd.prog.cellsOf 3)) = xs[5]? := hfl 5 _ rfl
  have k6 : DataW.trod enc Tryd.prog W base spare held n 3 (([v0, v1, v2, v3, v4, v5, v6, v7, v8, v9, v10, v11, v12, v13, v14, v15, v16].drop 15).take (Tryd.prog.cellsOf 3)) = xs[6]? := hfl 6 _ rfl
  have k7 : DataW.trod enc Tryd.prog W base spare held n 3 (([v0, v1, v2, v3, v4, v5, v6, v7, v8, v9, v10, v11, v12, v13, v14, v15, v16].drop 16).take (Tryd.prog.cellsOf 3)) = xs[7]? := hfl 7 _ rfl
  rw [c8] at k0
  rw [ci] at k1 k4 k5 k6 k7
  rw [c2] at k2
  rw [d2] at k3
  simp only [List.drop_succ_cons, List.drop_zero, List.take_succ_cons, List.take_zero] at k0 k1 k2 k3 k4 k5 k6 k7
  match xs, hlen with
  | [y0, y1, y2, y3, y4, y5, y6, y7], _ =>
    simp only [List.getElem?_cons_zero, List.getElem?_cons_succ] at k0 k1 k2 k3 k4 k5 k6 k7
    obtain ⟨zs, m, hz1, hz2, hz3, hz4, hel⟩ := DataW.trod_array Tryd.underlying24 k0
    obtain ⟨ys, m2, ay1, ay2, ay3, ay4, hel2⟩ := DataW.trod_array Tryd.underlying33 k2
    obtain ⟨bs, m3, ab1, ab2, ab3, ab4, hel3⟩ := DataW.trod_array Tryd.underlying34 k3
    obtain ⟨sel, i1, _, _⟩ := DataW.trod_int Tryd.underlying3 k1
    obtain ⟨noise, i4, _, _⟩ := DataW.trod_int Tryd.underlying3 k4
    obtain ⟨shift, i5, _, _⟩ := DataW.trod_int Tryd.underlying3 k5
    obtain ⟨env, i6, _, _⟩ := DataW.trod_int Tryd.underlying3 k6
    obtain ⟨ec, i7, _, _⟩ := DataW.trod_int Tryd.underlying3 k7
    have key : ∀ i (hi : i < 8), ∃ z : Int, [v0, v1, v2, v3, v4, v5, v6, v7][i]? = some (.int .i64 z) := by
      intro i hi
      have h0 := hel i hi
      rw [ci, Nat.mul_one] at h0
      have hxi : zs[i]? = some zs[i] := List.getElem?_eq_getElem (by omega)
      rw [hxi] at h0
      obtain ⟨z, e1, _, _⟩ := DataW.trod_int Tryd.underlying3 h0
      refine ⟨z, ?_⟩
      have := congrArg (·[0]?) e1
      simpa [List.getElem?_take, List.getElem?_drop] using this
    have key2 : ∀ i (hi : i < 2), ∃ z : Int, [v9, v10][i]? = some (.int .i64 z) := by
      intro i hi
      have h0 := hel2 i hi
      rw [ci, Nat.mul_one] at h0
      have hxi : ys[i]? = some ys[i] := List.getElem?_eq_getElem (by omega)
      rw [hxi] at h0
      obtain ⟨z, e1, _, _⟩ := DataW.trod_int Tryd.underlying3 h0
      refine ⟨z, ?_⟩
      have := congrArg (·[0]?) e1
      simpa [List.getElem?_take, List.getElem?_drop] using this
    have key3 : ∀ i (hi : i < 2), ∃ z : Bool, [v11, v12][i]? = some (.bool z) := by
      intro i hi
      have h0 := hel3 i hi
      rw [cb, Nat.mul_one] at h0
      have hxi : bs[i]? = some bs[i] := List.getElem?_eq_getElem (by omega)
      rw [hxi] at h0
      obtain ⟨z, e1, _⟩ := DataW.trod_bool Tryd.underlying4 h0
      refine ⟨z, ?_⟩
      have := congrArg (·[0]?) e1
      simpa [List.getElem?_take, List.getElem?_drop] using this
    obtain ⟨r0, e0⟩ := key 0 (by omega)
    obtain ⟨r1, e1⟩ := key 1 (by omega)
    obtain ⟨r2, e2⟩ := key 2 (by omega)
    obtain ⟨r3, e3⟩ := key 3 (by omega)
    obtain ⟨r4, e4⟩ := key 4 (by omega)
    obtain ⟨r5, e5⟩ := key 5 (by omega)
    obtain ⟨r6, e6⟩ := key 6 (by omega)
    obtain ⟨r7, e7⟩ := key 7 (by omega)
    obtain ⟨c0, e9⟩ := key2 0 (by omega)
    obtain ⟨c1, e10⟩ := key2 1 (by omega)
    obtain ⟨o0, e11⟩ := key3 0 (by omega)
    obtain ⟨o1, e12⟩ := key3 1 (by omega)
    simp only [List.getElem?_cons_zero, List.getElem?_cons_succ, Option.some.injEq] at e0 e1 e2 e3 e4 e5 e6 e7 e9 e10 e11 e12
    simp only [List.cons.injEq, and_true] at i1 i4 i5 i6 i7
    exact ⟨⟨r0, r1, r2, r3, r4, r5, r6, r7, sel, c0, c1, o0, o1, noise, shift, env, ec⟩, by rw [e0, e1, e2, e3, e4, e5, e6, e7, i1, e9, e10, e11, e12, i4, i5, i6, i7]⟩
set_option maxRecDepth 100000 in
theorem deck_trodM {H : Type} {enc : TypeId × Value → H} {W : World} {base : Nat} {held : Bool} {fuel : Nat} {L : List Value} {x : DataW H × List MemPlace} (hL : L.length = 5) (hf : DataW.trod enc Tryd.prog W base (fun _ => true) held fuel 55 L = some x) : ∃ (vd : Value) (d : Dk), L = dkL vd d ∧ RowR W vd d.pulses ∧ d.pulses.length ≤ maxLen := by
  obtain ⟨v0, v1, v2, v3, v4, rfl⟩ : ∃ v0 v1 v2 v3 v4, L = [v0, v1, v2, v3, v4] := by
    match L, hL with
    | [v0, v1, v2, v3, v4], _ => exact ⟨v0, v1, v2, v3, v4, rfl⟩
  have ci : Tryd.prog.cellsOf 3 = 1 := by kernel_rfl
  have cb : Tryd.prog.cellsOf 4 = 1 := by kernel_rfl
  have cr : Tryd.prog.cellsOf 27 = 1 := by kernel_rfl
  obtain ⟨xs, n, _, _, hl, hlen, hfl⟩ := DataW.trod_struct Tryd.underlying55 hf
  have k0 : DataW.trod enc Tryd.prog W base (fun _ => true) held n 27 (([v0, v1, v2, v3, v4].drop 0).take (Tryd.prog.cellsOf 27)) = xs[0]? := hfl 0 _ rfl
  have k1 : DataW.trod enc Tryd.prog W base (fun _ => true) held n 3 (([v0, v1, v2, v3, v4].drop 1).take (Tryd.prog.cellsOf 3)) = xs[1]? := hfl 1 _ rfl
  have k2 : DataW.trod enc Tryd.prog W base (fun _ => true) held n 3 (([v0, v1, v2, v3, v4].drop 2).take (Tryd.prog.cellsOf 3)) = xs[2]? := hfl 2 _ rfl
  have k3 : DataW.trod enc Tryd.prog W base (fun _ => true) held n 4 (([v0, v1, v2, v3, v4].drop 3).take (Tryd.prog.cellsOf 4)) = xs[3]? := hfl 3 _ rfl
  have k4 : DataW.trod enc Tryd.prog W base (fun _ => true) held n 4 (([v0, v1, v2, v3, v4].drop 4).take (Tryd.prog.cellsOf 4)) = xs[4]? := hfl 4 _ rfl
  rw [ci] at k1 k2
  rw [cb] at k3 k4
  rw [cr] at k0
  simp only [List.drop_succ_cons, List.drop_zero, List.take_succ_cons, List.take_zero] at k0 k1 k2 k3 k4
  match xs, hlen with
  | [y0, y1, y2, y3, y4], _ =>
    simp only [List.getElem?_cons_zero, List.getElem?_cons_succ] at k0 k1 k2 k3 k4
    obtain ⟨a, cap, zs, rfl, r0, l0, _⟩ := row_inV Tryd.underlying27 Tryd.underlying3 (by kernel_rfl) k0
    obtain ⟨ix, i1, _, _⟩ := DataW.trod_int Tryd.underlying3 k1
    obtain ⟨lf, i2, _, _⟩ := DataW.trod_int Tryd.underlying3 k2
    obtain ⟨lv, i3, _⟩ := DataW.trod_bool Tryd.underlying4 k3
    obtain ⟨pl, i4, _⟩ := DataW.trod_bool Tryd.underlying4 k4
    simp only [List.cons.injEq, and_true] at i1 i2 i3 i4
    subst i1 i2 i3 i4
    exact ⟨_, ⟨zs, ix, lf, lv, pl⟩, rfl, r0, l0⟩
set_option maxRecDepth 100000 in
set_option maxHeartbeats 2000000 in
theorem mc_in {H : Type} {enc : TypeId × Value → H} {W : World} {base b0 : Nat} {held : Bool} {r : Reach} {v : Value} {d : DataW H} {p : List MemPlace}
    (hv : Value.okWide Tryd.prog W r b0 58 v) (h : DataW.Trod enc Tryd.prog W base (fun _ => true) held 58 v d p) : ∃ x : Mc, MacB W v x ∧ BigMc x := by
  obtain ⟨cs, rfl, hsz⟩ := okWide_struct Tryd.underlying58 hv
  have c58 : Tryd.prog.cellsOf 58 = 58 := by kernel_rfl
  have cc : Tryd.prog.cellsOf 51 = 14 := by kernel_rfl
  have cm : Tryd.prog.cellsOf 52 = 5 := by kernel_rfl
  have cp : Tryd.prog.cellsOf 53 = 12 := by kernel_rfl
  have cg : Tryd.prog.cellsOf 54 = 17 := by kernel_rfl
  have cd : Tryd.prog.cellsOf 55 = 5 := by kernel_rfl
  have ci : Tryd.prog.cellsOf 3 = 1 := by kernel_rfl
  have cs1 : Tryd.prog.cellsOf 9 = 1 := by kernel_rfl
  have ce : Tryd.prog.cellsOf 56 = 1 := by kernel_rfl
  rw [c58] at hsz
  have hLL : cs.toList.length = 58 := hsz
  obtain ⟨fuel, hf⟩ := h
  obtain ⟨xs, n, _, _, hl, hlen, hfl⟩ := DataW.trod_struct Tryd.underlying58 hf
  have k0 : DataW.trod enc Tryd.prog W base (fun _ => true) held n 51 ((cs.toList.drop 0).take (Tryd.prog.cellsOf 51)) = xs[0]? := hfl 0 _ rfl
  have k1 : DataW.trod enc Tryd.prog W base (fun _ => true) held n 52 ((cs.toList.drop 14).take (Tryd.prog.cellsOf 52)) = xs[1]? := hfl 1 _ rfl
  have k2 : DataW.trod enc Tryd.prog W base (fun _ => true) held n 53 ((cs.toList.drop 19).take (Tryd.prog.cellsOf 53)) = xs[2]? := hfl 2 _ rfl
  have k3 : DataW.trod enc Tryd.prog W base (fun _ => true) held n 54 ((cs.toList.drop 31).take (Tryd.prog.cellsOf 54)) = xs[3]? := hfl 3 _ rfl
  have k4 : DataW.trod enc Tryd.prog W base (fun _ => true) held n 55 ((cs.toList.drop 48).take (Tryd.prog.cellsOf 55)) = xs[4]? := hfl 4 _ rfl
  have k5 : DataW.trod enc Tryd.prog W base (fun _ => true) held n 3 ((cs.toList.drop 53).take (Tryd.prog.cellsOf 3)) = xs[5]? := hfl 5 _ rfl
  have k6 : DataW.trod enc Tryd.prog W base (fun _ => true) held n 3 ((cs.toList.drop 54).take (Tryd.prog.cellsOf 3)) = xs[6]? := hfl 6 _ rfl
  have k7 : DataW.trod enc Tryd.prog W base (fun _ => true) held n 3 ((cs.toList.drop 55).take (Tryd.prog.cellsOf 3)) = xs[7]? := hfl 7 _ rfl
  have k8 : DataW.trod enc Tryd.prog W base (fun _ => true) held n 9 ((cs.toList.drop 56).take (Tryd.prog.cellsOf 9)) = xs[8]? := hfl 8 _ rfl
  have k9 : DataW.trod enc Tryd.prog W base (fun _ => true) held n 56 ((cs.toList.drop 57).take (Tryd.prog.cellsOf 56)) = xs[9]? := hfl 9 _ rfl
  rw [cc] at k0
  rw [cm] at k1
  rw [cp] at k2
  rw [cg] at k3
  rw [cd] at k4
  rw [ci] at k5 k6 k7
  rw [cs1] at k8
  rw [ce] at k9
  match xs, hlen with
  | [y0, y1, y2, y3, y4, y5, y6, y7, y8, y9], _ =>
    obtain ⟨c, e0'⟩ := cpu_trodM (by simp [hLL]) k0
    obtain ⟨vr, vm, M, e1, hM, hb⟩ := mem_trodM (by simp [hLL]) k1
    obtain ⟨po, e2⟩ := ports_trodM (by simp [hLL]) k2
    obtain ⟨g, e3⟩ := sg_trodM (by simp [hLL]) k3
    obtain ⟨vd, dk, e4, hD, hdl⟩ := deck_trodM (by simp [hLL]) k4
    obtain ⟨t, e5, _, _⟩ := DataW.trod_int Tryd.underlying3 k5
    obtain ⟨fr, e6, _, _⟩ := DataW.trod_int Tryd.underlying3 k6
    obtain ⟨pt, e7, _, _⟩ := DataW.trod_int Tryd.underlying3 k7
    obtain ⟨sv, e8, _, hsl⟩ := DataW.trod_string Tryd.underlying9 k8
    obtain ⟨ve, e9⟩ : ∃ ve, (cs.toList.drop 57).take 1 = [ve] := by
      have : ((cs.toList.drop 57).take 1).length = 1 := by simp [hLL]
      match hq : (cs.toList.drop 57).take 1, this with
      | [ve], _ => exact ⟨ve, rfl⟩
    rw [e9] at k9
    obtain ⟨l, hE, hel⟩ := events_in Tryd.underlying56 Tryd.underlying151 (by kernel_rfl) (by kernel_rfl) Tryd.underlying3 Tryd.underlying3 Tryd.underlying3 k9
    refine ⟨⟨c, M, po, g, dk, t, fr, pt, sv, l⟩, ⟨vr, vm, vd, ve, ?_, hM, hD, hE⟩, ⟨hb, hdl, hel, hsl⟩⟩
    show Value.agg cs = Value.agg _
    congr 1
    apply Array.ext'
    have es : cs.toList = (cs.toList.drop 0).take 14 ++ ((cs.toList.drop 14).take 5 ++ ((cs.toList.drop 19).take 12 ++ ((cs.toList.drop 31).take 17 ++ ((cs.toList.drop 48).take 5 ++ ((cs.toList.drop 53).take 1 ++ ((cs.toList.drop 54).take 1 ++ ((cs.toList.drop 55).take 1 ++ ((cs.toList.drop 56).take 1 ++ (cs.toList.drop 57).take 1)))))))) := by
      generalize cs.toList = L at *
      have st : ∀ a n b, a + n = b → (L.drop a).take n ++ L.drop b = L.drop a := fun a n b h => by rw [← h, ← List.drop_drop, List.take_append_drop]
      have a9 : (L.drop 57).take 1 = L.drop 57 := List.take_of_length_le (by simp [hLL])
      rw [a9, st 56 1 57 rfl, st 55 1 56 rfl, st 54 1 55 rfl, st 53 1 54 rfl, st 48 5 53 rfl, st 31 17 48 rfl, st 19 12 31 rfl, st 14 5 19 rfl, st 0 14 14 rfl]
      rfl
    rw [es, e0', e1, e2, e3, e4, e5, e6, e7, e8, e9]
    rfl
end Go.Proofs.YtifcdojaocndhaaDoor
