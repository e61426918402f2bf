/- Lists of blocks among the things of a law. -/
import Derived.Test.YtifcdojaocndhaaDoorDlm
import Derived.Test.YtifcdojaocndhaaDoorZqm
import Derived.Test.YtifcdojaocndhaaDoorM29
import Derived.Test.YtifcdojaocndhaaDoorM03
import Derived.Deep.Matrix
import Derived.Lib.SmallJoins
import Derived.Test.YtifcdojaocndhaaDoorMem
namespace Go.Proofs.YtifcdojaocndhaaDoor
open Go.ChangeShapes Go.WideShapes Go.ChangeAt Go.RowKit
set_option linter.unusedVariables false
set_option linter.unusedSimpArgs false

abbrev tBko (g : Nat) (l : List (Int × ByteArray)) : Thing := ⟨fun x => x = g, fun W => BkO W g l⟩
theorem BkO.keptD {W W' : World} {g : Nat} {l : List (Int × ByteArray)} (h : BkO W g l) (e : W'.heap[g]? = W.heap[g]?) : BkO W' g l :=
  ⟨fun k hk => ⟨by rw [World.cell?_of_block (a := ⟨g, k * 2, none⟩) e]; exact (h.cell k hk).1, by rw [World.cell?_of_block (a := ⟨g, k * 2 + 1, none⟩) e]; exact (h.cell k hk).2⟩, fun k => by rw [World.frozen?_of_block (a := ⟨g, k, none⟩) e]; exact h.fro k, by
    have h1 := h.lt
    rw [Array.getElem?_eq_getElem h1] at e
    exact (Array.getElem?_eq_some_iff.1 e).1⟩
theorem sits_bko {W : World} {g : Nat} {l : List (Int × ByteArray)} (h : BkO W g l) : Sits W (tBko g l) :=
  ⟨h, fun b hb => by cases hb; exact h.lt, fun W' hk => h.keptD (hk g rfl)⟩
theorem StD.bko {w W W' : World} {L : List Thing} {l : List (Int × ByteArray)} (h : StD w W L) (hb : Below W.heap.size W W') (hr : BkO W' W.heap.size l) : StD w W' (tBko W.heap.size l :: L) :=
  ⟨h.sts.push hb (sits_bko hr) (fun b hd => by cases hd; exact Nat.le_refl _), new_trans h.bel hb, fun s hs b hd => by
    rcases List.mem_cons.1 hs with rfl | hs
    · cases hd; exact h.bel.size
    · exact h.far s hs b hd⟩
theorem StD.markb {w W W' : World} {L : List Thing} (h : StD w W L) (i : Nat) {g : Nat} {l l' : List (Int × ByteArray)} (e : L[i]? = some (tBko g l)) (hm : BkO W' g l') (hg : W.grownBy W' (some g)) : StD w W' (L.set i (tBko g l')) :=
  h.turn i e hg.size ⟨hg.os, hg.tape, hg.output⟩ (fun b hb hn => hg.block b hb (fun e2 => hn (by cases e2; rfl))) (sits_bko hm)
theorem StD.bkr {w W : World} {L : List Thing} (h : StD w W L) (i : Nat) {g : Nat} {l : List (Int × ByteArray)} (e : L[i]? = some (tBko g l)) : BkR W (some ⟨g, 0, none⟩) l := BkO.read (h.at i e)
end Go.Proofs.YtifcdojaocndhaaDoor

/- Machines in the laws: compared. -/
namespace Go.Proofs.YtifcdojaocndhaaDoor
open Go.ChangeShapes Go.WideShapes Go.ChangeAt Go.RowKit
set_option linter.unusedVariables false
set_option linter.unusedSimpArgs false

/-- two machines' boxes that are looked at -/
structure MLk2 (w W : World) (x : Mc) (vr vm vd ve ur um ud ue : Value) : Prop where
  q : Blk W w.heap.size (mcA x vr vm vd ve)
  q2 : Blk W (w.heap.size + 1) (mcA x ur um ud ue)
  m : MemR W (memV vr vm x.m.page x.m.screen x.m.locked) x.m
  m2 : MemR W (memV ur um x.m.page x.m.screen x.m.locked) x.m
  d : RowR W vd x.d.pulses
  d2 : RowR W ud x.d.pulses
  e : EvR W ve x.ev
  e2 : EvR W ue x.ev
  bel : Below w.heap.size w W
theorem MLk2.below {w W W' : World} {x : Mc} {vr vm vd ve ur um ud ue : Value} (h : MLk2 w W x vr vm vd ve ur um ud ue) (hb : Below W.heap.size W W') : MLk2 w W' x vr vm vd ve ur um ud ue :=
  ⟨h.q.below hb h.q.lt, h.q2.below hb h.q2.lt, h.m.below hb, h.m2.below hb, h.d.below hb, h.d2.below hb, h.e.below hb, h.e2.below hb, new_trans h.bel hb⟩
set_option maxRecDepth 100000 in
set_option maxHeartbeats 4000000 in
theorem eqmc (x : Mc) (v v' : Value) (w : World) (h : MacB w v x) (h' : MacB w v' x) (hs : SmallMc x) : Calls Tryd.prog 11 #[v, v'] w fun e w' => e = .returned (.bool true) ∧ Below w.heap.size w w' := by
  obtain ⟨vr, vm, vd, ve, rfl, hm, hd, he⟩ := h
  obtain ⟨ur, um, ud, ue, rfl, hm2, hd2, he2⟩ := h'
  have hB : Below w.heap.size w ((w.alloc (.cells (mcA x vr vm vd ve) 41)).alloc (.cells (mcA x ur um ud ue) 41)) := ((Below.refl _ _).alloc (Nat.le_refl _) _).alloc (by simp) _
  have q2 := Blk.new (w.alloc (.cells (mcA x vr vm vd ve) 41)) (mcA x ur um ud ue) 41
  rw [World.size_alloc] at q2
  have hL : Hid (MLk2 w _ x vr vm vd ve ur um ud ue) := ⟨(Blk.new w _ 41).alloc _, q2, hm.below hB, hm2.below hB, hd.below hB, hd2.below hB, he.below hB, he2.below hB, hB⟩
  replace hs := hid hs
  clear hm hd he hm2 hd2 he2 q2 hB
  go_enter Tryd.func11, Tryd.ntmps11
  go_upto_region 1 with fail
  obtain ⟨V, hV⟩ : ∃ V, (w.alloc (.cells (mcA x vr vm vd ve) 41)).alloc (.cells (mcA x ur um ud ue) 41) = V := ⟨_, rfl⟩
  rw [hV] at hL ⊢
  clear hV
  have x1 := hid (mc_cpu hL.out.q)
  have x2 := hid (mc_cpu hL.out.q2)
  go_wp2_with (first | (refine wpList_load_mid rfl 26 _ rfl w.heap.size 0 rfl (cuA x.c).toList _ x1.out Tryd.underlying26 rfl (szCu x.c) ?_) | (refine wpList_load_mid rfl 26 _ rfl (w.heap.size + 1) 0 rfl (cuA x.c).toList _ x2.out Tryd.underlying26 rfl (szCu x.c) ?_))
  refine (eqc_yes x.c _).mono ?_
  rintro e w1 ⟨rfl, hb⟩
  have hL := hid (hL.out.below hb)
  clear hb x1 x2
  have x1 := hid (mc_mem hL.out.q)
  have x2 := hid (mc_mem hL.out.q2)
  go_wp2_with (first | (refine wpList_load_mid rfl 30 _ rfl w.heap.size 14 rfl (mcC vr vm x.m) _ x1.out Tryd.underlying30 rfl (szMe _ _ _) ?_) | (refine wpList_load_mid rfl 30 _ rfl (w.heap.size + 1) 14 rfl (mcC ur um x.m) _ x2.out Tryd.underlying30 rfl (szMe _ _ _) ?_))
  refine (eqm_yes _ _ x.m _ hL.out.m hL.out.m2 hs.out.m).mono ?_
  rintro e w1 ⟨rfl, hb⟩
  have hL := hid (hL.out.below hb)
  clear hb x1 x2
  have x1 := hid (mc_po hL.out.q)
  have x2 := hid (mc_po hL.out.q2)
  go_wp2_with (first | (refine wpList_load_mid rfl 32 _ rfl w.heap.size 19 rfl (poA x.p).toList _ x1.out Tryd.underlying32 rfl (szPo x.p) ?_) | (refine wpList_load_mid rfl 32 _ rfl (w.heap.size + 1) 19 rfl (poA x.p).toList _ x2.out Tryd.underlying32 rfl (szPo x.p) ?_))
  refine (eqp_yes x.p _).mono ?_
  rintro e w1 ⟨rfl, hb⟩
  have hL := hid (hL.out.below hb)
  clear hb x1 x2
  have x1 := hid (mc_sg hL.out.q)
  have x2 := hid (mc_sg hL.out.q2)
  go_wp2_with (first | (refine wpList_load_mid rfl 36 _ rfl w.heap.size 31 rfl (sgA x.g).toList _ x1.out Tryd.underlying36 rfl (szSg x.g) ?_) | (refine wpList_load_mid rfl 36 _ rfl (w.heap.size + 1) 31 rfl (sgA x.g).toList _ x2.out Tryd.underlying36 rfl (szSg x.g) ?_))
  refine (eqsg x.g _).mono ?_
  rintro e w1 ⟨rfl, hb⟩
  have hL := hid (hL.out.below hb)
  clear hb x1 x2
  have x1 := hid (mc_dk hL.out.q)
  have x2 := hid (mc_dk hL.out.q2)
  go_wp2_with (first | (refine wpList_load_mid rfl 38 _ rfl w.heap.size 48 rfl (dkL vd x.d) _ x1.out Tryd.underlying38 rfl (szDk _ _) ?_) | (refine wpList_load_mid rfl 38 _ rfl (w.heap.size + 1) 48 rfl (dkL ud x.d) _ x2.out Tryd.underlying38 rfl (szDk _ _) ?_))
  refine (eqd_yes vd ud x.d _ hL.out.d hL.out.d2 hs.out.d).mono ?_
  rintro e w1 ⟨rfl, hb⟩
  have hL := hid (hL.out.below hb)
  clear hb x1 x2
  obtain ⟨a1, a2, a3, a4, a5⟩ := mc_end hL.out.q
  obtain ⟨b1, b2, b3, b4, b5⟩ := mc_end hL.out.q2
  go_wp2_with fail
  refine (eqevs ve ue x.ev _ hL.out.e hL.out.e2 hs.out.e).mono ?_
  rintro e w1 ⟨rfl, hb⟩
  have hB := hid (new_trans hL.out.bel hb)
  clear hb hL a1 a2 a3 a4 a5 b1 b2 b3 b4 b5
  go_wp2
  go_ret
  exact ⟨rfl, hB.out⟩
end Go.Proofs.YtifcdojaocndhaaDoor

/- A processor that comes in: what its reading gives. -/
namespace Go.Proofs.YtifcdojaocndhaaDoor
open Go.ChangeShapes Go.WideShapes Go.ChangeAt Go.RowKit Go.Joins Go.Deep
set_option linter.unusedVariables false
set_option linter.unusedSimpArgs false

theorem arr14 {α : Type} {cs : Array α} (h : cs.size = 14) : ∃ c0 c1 c2 c3 c4 c5 c6 c7 c8 c9 c10 c11 c12 c13, cs = #[c0, c1, c2, c3, c4, c5, c6, c7, c8, c9, c10, c11, c12, c13] := by
  obtain ⟨l⟩ := cs
  match l, h with
  | [c0, c1, c2, c3, c4, c5, c6, c7, c8, c9, c10, c11, c12, c13], _ => exact ⟨c0, c1, c2, c3, c4, c5, c6, c7, c8, c9, c10, c11, c12, c13, rfl⟩
set_option maxRecDepth 100000 in
set_option maxHeartbeats 1000000 in
theorem cpu_in {H : Type} {enc : TypeId × Value → H} {W : World} {base b0 : Nat} {spare : Nat → Bool} {held : Bool} {r : Reach} {v : Value} {d : DataW H} {p : List MemPlace}
    (hv : Value.okWide Tryd.prog W r b0 51 v) (h : DataW.Trod enc Tryd.prog W base spare held 51 v d p) : ∃ c : Cu, v = cuV c := by
  obtain ⟨cs, rfl, hsz⟩ := okWide_struct Tryd.underlying51 hv
  have c14 : Tryd.prog.cellsOf 51 = 14 := by kernel_rfl
  have ci : Tryd.prog.cellsOf 3 = 1 := by kernel_rfl
  have cb : Tryd.prog.cellsOf 4 = 1 := by kernel_rfl
  have c8 : Tryd.prog.cellsOf 24 = 8 := by kernel_rfl
  obtain ⟨v0, v1, v2, v3, v4, v5, v6, v7, v8, v9, v10, v11, v12, v13, rfl⟩ := arr14 (hsz.trans c14)
  obtain ⟨fuel, hf⟩ := h
  obtain ⟨xs, n, _, _, hl, hlen, hfl⟩ := DataW.trod_struct Tryd.underlying51 hf
  have k0 : DataW.trod enc Tryd.prog W base spare held n 24 (([v0, v1, v2, v3, v4, v5, v6, v7, v8, v9, v10, v11, v12, v13].drop 0).take (Tryd.prog.cellsOf 24)) = xs[0]? := hfl 0 _ rfl
  have k1 : DataW.trod enc Tryd.prog W base spare held n 3 (([v0, v1, v2, v3, v4, v5, v6, v7, v8, v9, v10, v11, v12, v13].drop 8).take (Tryd.prog.cellsOf 3)) = xs[1]? := hfl 1 _ rfl
  have k2 : DataW.trod enc Tryd.prog W base spare held n 3 (([v0, v1, v2, v3, v4, v5, v6, v7, v8, v9, v10, v11, v12, v13].drop 9).take (Tryd.prog.cellsOf 3)) = xs[2]? := hfl 2 _ rfl
  have k3 : DataW.trod enc Tryd.prog W base spare held n 3 (([v0, v1, v2, v3, v4, v5, v6, v7, v8, v9, v10, v11, v12, v13].drop 10).take (Tryd.prog.cellsOf 3)) = xs[3]? := hfl 3 _ rfl
  have k4 : DataW.trod enc Tryd.prog W base spare held n 4 (([v0, v1, v2, v3, v4, v5, v6, v7, v8, v9, v10, v11, v12, v13].drop 11).take (Tryd.prog.cellsOf 4)) = xs[4]? := hfl 4 _ rfl
  have k5 : DataW.trod enc Tryd.prog W base spare held n 4 (([v0, v1, v2, v3, v4, v5, v6, v7, v8, v9, v10, v11, v12, v13].drop 12).take (Tryd.prog.cellsOf 4)) = xs[5]? := hfl 5 _ rfl
  have k6 : DataW.trod enc Tryd.prog W base spare held n 4 (([v0, v1, v2, v3, v4, v5, v6, v7, v8, v9, v10, v11, v12, v13].drop 13).take (Tryd.prog.cellsOf 4)) = xs[6]? := hfl 6 _ rfl
  rw [ci] at k1 k2 k3
  rw [cb] at k4 k5 k6
  rw [c8] at k0
  simp only [List.drop_succ_cons, List.drop_zero, List.take_succ_cons, List.take_zero] at k0 k1 k2 k3 k4 k5 k6
  match xs, hlen with
  | [y0, y1, y2, y3, y4, y5, y6], _ =>
    simp only [List.getElem?_cons_zero, List.getElem?_cons_succ] at k0 k1 k2 k3 k4 k5 k6
    obtain ⟨zs, m, hz1, hz2, hz3, hz4, hel⟩ := DataW.trod_array Tryd.underlying24 k0
    obtain ⟨f, i1, _, _⟩ := DataW.trod_int Tryd.underlying3 k1
    obtain ⟨sp, i2, _, _⟩ := DataW.trod_int Tryd.underlying3 k2
    obtain ⟨pc, i3, _, _⟩ := DataW.trod_int Tryd.underlying3 k3
    obtain ⟨b1, i4, _⟩ := DataW.trod_bool Tryd.underlying4 k4
    obtain ⟨b2, i5, _⟩ := DataW.trod_bool Tryd.underlying4 k5
    obtain ⟨b3, i6, _⟩ := DataW.trod_bool Tryd.underlying4 k6
    have key : ∀ i (hi : i < 8), ∃ z : Int, [v0, v1, v2, v3, v4, v5, v6, v7][i]? = some (.int .i64 z) := by
      intro i hi
      have h0 := hel i hi
      rw [ci, Nat.mul_one] at h0
      have hxi : zs[i]? = some zs[i] := List.getElem?_eq_getElem (by omega)
      rw [hxi] at h0
      obtain ⟨z, e1, _, _⟩ := DataW.trod_int Tryd.underlying3 h0
      refine ⟨z, ?_⟩
      have := congrArg (·[0]?) e1
      simpa [List.getElem?_take, List.getElem?_drop] using this
    obtain ⟨r0, e0⟩ := key 0 (by omega)
    obtain ⟨r1, e1⟩ := key 1 (by omega)
    obtain ⟨r2, e2⟩ := key 2 (by omega)
    obtain ⟨r3, e3⟩ := key 3 (by omega)
    obtain ⟨r4, e4⟩ := key 4 (by omega)
    obtain ⟨r5, e5⟩ := key 5 (by omega)
    obtain ⟨r6, e6⟩ := key 6 (by omega)
    obtain ⟨r7, e7⟩ := key 7 (by omega)
    simp only [List.getElem?_cons_zero, List.getElem?_cons_succ, Option.some.injEq] at e0 e1 e2 e3 e4 e5 e6 e7
    simp only [List.cons.injEq, and_true] at i1 i2 i3 i4 i5 i6
    exact ⟨⟨r0, r1, r2, r3, r4, r5, r6, r7, f, sp, pc, b1, b2, b3⟩, by rw [e0, e1, e2, e3, e4, e5, e6, e7, i1, i2, i3, i4, i5, i6]⟩
end Go.Proofs.YtifcdojaocndhaaDoor

/- A memory that comes in: what its reading gives. -/
namespace Go.Proofs.YtifcdojaocndhaaDoor
open Go.ChangeShapes Go.WideShapes Go.ChangeAt Go.RowKit Go.Joins Go.Deep
set_option linter.unusedVariables false

section
variable {H : Type} {enc : TypeId × Value → H} {P : Program} {w : World} {base : Nat} {spare : Nat → Bool} {held : Bool}
theorem trod_struct5 {t : TypeId} {f0 f1 f2 f3 f4 : Field} {fuel : Nat} {cs : List Value} {x : DataW H × List MemPlace} (ht : P.underlying t = some (.struct #[f0, f1, f2, f3, f4])) (h : DataW.trod enc P w base spare held fuel t cs = some x) :
    ∃ y0 y1 y2 y3 y4 n, x.1 = .agg [y0.1, y1.1, y2.1, y3.1, y4.1] ∧ cs.length = P.cellsOf t ∧ DataW.trod enc P w base spare held n f0.type ((cs.drop f0.offset).take (P.cellsOf f0.type)) = some y0 ∧
      DataW.trod enc P w base spare held n f1.type ((cs.drop f1.offset).take (P.cellsOf f1.type)) = some y1 ∧ DataW.trod enc P w base spare held n f2.type ((cs.drop f2.offset).take (P.cellsOf f2.type)) = some y2 ∧
      DataW.trod enc P w base spare held n f3.type ((cs.drop f3.offset).take (P.cellsOf f3.type)) = some y3 ∧ DataW.trod enc P w base spare held n f4.type ((cs.drop f4.offset).take (P.cellsOf f4.type)) = some y4 := by
  obtain ⟨xs, n, _, rfl, hl, hlen, hf⟩ := DataW.trod_struct ht h
  match xs, hlen with
  | [y0, y1, y2, y3, y4], _ => exact ⟨y0, y1, y2, y3, y4, n, by simp, hl, by simpa using hf 0 f0 rfl, by simpa using hf 1 f1 rfl, by simpa using hf 2 f2 rfl, by simpa using hf 3 f3 rfl, by simpa using hf 4 f4 rfl⟩
theorem open_agg5 {r : Reach} {b0 : Nat} {t : TypeId} {f0 f1 f2 f3 f4 : Field} {v : Value} {d : DataW H} {p : List MemPlace} (hs : P.underlying t = some (.struct #[f0, f1, f2, f3, f4])) (hone : oneCellFields P #[f0, f1, f2, f3, f4] = true) (hC : P.cellsOf t = 5)
    (hv : Value.okWide P w r b0 t v) (h : DataW.Trod enc P w base spare held t v d p) :
    ∃ (v0 v1 v2 v3 v4 : Value) (y0 y1 y2 y3 y4 : DataW H × List MemPlace) (n : Nat), v = .agg #[v0, v1, v2, v3, v4] ∧
      DataW.trod enc P w base spare held n f0.type [v0] = some y0 ∧ DataW.trod enc P w base spare held n f1.type [v1] = some y1 ∧ DataW.trod enc P w base spare held n f2.type [v2] = some y2 ∧ DataW.trod enc P w base spare held n f3.type [v3] = some y3 ∧ DataW.trod enc P w base spare held n f4.type [v4] = some y4 := by
  obtain ⟨cs, rfl, hsz⟩ := okWide_struct hs hv
  obtain ⟨c0, c1, c2, c3, c4, rfl⟩ := array5 (hsz.trans hC)
  obtain ⟨fuel, hf⟩ := h
  obtain ⟨y0, y1, y2, y3, y4, n, hx, _, h0, h1, h2, h3, h4⟩ := trod_struct5 hs hf
  obtain ⟨o0, k0⟩ := hone_of hone 0 f0 rfl
  obtain ⟨o1, k1⟩ := hone_of hone 1 f1 rfl
  obtain ⟨o2, k2⟩ := hone_of hone 2 f2 rfl
  obtain ⟨o3, k3⟩ := hone_of hone 3 f3 rfl
  obtain ⟨o4, k4⟩ := hone_of hone 4 f4 rfl
  exact ⟨c0, c1, c2, c3, c4, y0, y1, y2, y3, y4, n, rfl, by simpa [Value.cells, o0, k0] using h0, by simpa [Value.cells, o1, k1] using h1, by simpa [Value.cells, o2, k2] using h2, by simpa [Value.cells, o3, k3] using h3, by simpa [Value.cells, o4, k4] using h4⟩
theorem addr_none {w : World} {a : Addr} {v : Value} (h : w.cell? (a.add 0) = some v) : a = ⟨a.block, a.off, none⟩ := by
  obtain ⟨b, off, spot⟩ := a
  have hspot : spot = none := by simpa [Addr.add] using World.cell?_spot h
  subst hspot
  rfl
theorem add_plain' (b off j : Nat) : (⟨b, off, none⟩ : Addr).add j = ⟨b, off + j, none⟩ := by unfold Addr.add; split <;> simp_all
theorem take_getD (zs : List Int) (n i : Nat) (h : i < n) : (zs.take n).getD i 0 = zs.getD i 0 := by
  rw [List.getD_eq_getElem?_getD, List.getD_eq_getElem?_getD, List.getElem?_take, if_pos h]
/-- a slice of ints that comes in reads as numbers -/
theorem row_in {t e : TypeId} {fuel : Nat} {v : Value} {x : DataW H × List MemPlace} (ht : P.underlying t = some (.slice e)) (he : P.underlying e = some (.int .i64)) (ce : P.cellsOf e = 1)
    (h : DataW.trod enc P w base (fun _ => true) held fuel t [v] = some x) : ∃ zs, RowR w v zs ∧ zs.length ≤ maxLen := by
  rcases open_ints ht he ce h with ⟨hcs, _⟩ | ⟨a, len, cap, zs, hcs, _, hl, hm, hz, _, hcell, hwz⟩
  · refine ⟨[], ?_, Nat.zero_le _⟩
    obtain rfl : v = .slice none 0 0 := by simpa using hcs
    exact RowR.nil w
  · obtain rfl : v = .slice (some a) len cap := by simpa using hcs
    simp only [if_true] at hz
    have hlen : (zs.take len).length = len := by rw [List.length_take]; omega
    refine ⟨zs.take len, ⟨some a, cap, by rw [hlen], ?_⟩, by rw [hlen]; omega⟩
    by_cases h0 : len = 0
    · left
      rw [h0]
      rfl
    · right
      have h1 := hcell 0 (by omega)
      have ha := addr_none h1
      refine ⟨a.block, a.off, by rw [← ha], fun i hi => ?_⟩
      rw [hlen] at hi
      have h2 := hcell i (by omega)
      rw [ha, add_plain'] at h2
      rw [h2, take_getD _ _ _ hi]
theorem rows_in {t e q : TypeId} {fuel : Nat} {v : Value} {x : DataW H × List MemPlace} (ht : P.underlying t = some (.slice e)) (he : P.underlying e = some (.slice q)) (hq : P.underlying q = some (.int .i64)) (ce : P.cellsOf e = 1) (cq : P.cellsOf q = 1)
    (h : DataW.trod enc P w base (fun _ => true) held fuel t [v] = some x) : ∃ zss, RowsR w v zss ∧ zss.length ≤ maxLen ∧ ∀ i, i < zss.length → (zss.getD i []).length ≤ maxLen := by
  rcases Go.Deep.open_int_rows ht he hq ce cq h with ⟨hcs, _⟩ | ⟨a, len, cap, A, L, C, Z, hcs, _, hl, hm, _, hr⟩
  · obtain rfl : v = .slice none 0 0 := by simpa using hcs
    exact ⟨[], ⟨none, 0, rfl, .inl rfl⟩, Nat.zero_le _, fun i hi => by simp at hi⟩
  · obtain rfl : v = .slice (some a) len cap := by simpa using hcs
    have hg : ∀ i, i < len → ((List.range len).map fun r => (Z r).take (L r)).getD i [] = (Z i).take (L i) := fun i hi => by
      simp [List.getD_eq_getElem?_getD, List.getElem?_range hi]
    have hll : ∀ i, i < len → ((Z i).take (L i)).length = L i := fun i hi => by
      obtain ⟨_, k1, _, k3, _⟩ := hr i (by omega)
      rw [List.length_take]
      omega
    refine ⟨(List.range len).map fun r => (Z r).take (L r), ⟨some a, cap, by simp, ?_⟩, by simp; omega, fun i hi => ?_⟩
    · by_cases h0 : len = 0
      · left
        rw [h0]
        rfl
      · right
        have ha := addr_none (hr 0 (by omega)).1
        refine ⟨a.block, a.off, by rw [← ha], fun i hi => ?_⟩
        simp only [List.length_map, List.length_range] at hi
        obtain ⟨k1, k2, k3, k4, k5, k6, k7⟩ := hr i (by omega)
        rw [ha, add_plain'] at k1
        refine ⟨_, k1, ?_⟩
        rw [hg i hi]
        refine ⟨A i, C i, by rw [hll i hi], ?_⟩
        by_cases hL0 : L i = 0
        · left
          rw [hL0]
          rfl
        · right
          cases hA : A i with
          | none =>
            have := k6 hA
            omega
          | some a' =>
            obtain ⟨_, k8⟩ := k7 a' hA
            have ha' := addr_none (k8 0 (by omega))
            refine ⟨a'.block, a'.off, by rw [← ha'], fun j hj => ?_⟩
            rw [hll i hi] at hj
            have h2 := k8 j (by omega)
            rw [ha', add_plain'] at h2
            rw [h2, take_getD _ _ _ hj]
    · simp only [List.length_map, List.length_range] at hi
      rw [hg i hi, hll i hi]
      obtain ⟨_, k1, k2, _⟩ := hr i (by omega)
      omega
end
set_option maxRecDepth 100000 in
theorem mem_in {H : Type} {enc : TypeId × Value → H} {W : World} {base b0 : Nat} {held : Bool} {r : Reach} {v : Value} {d : DataW H} {p : List MemPlace}
    (hv : Value.okWide Tryd.prog W r b0 52 v) (h : DataW.Trod enc Tryd.prog W base (fun _ => true) held 52 v d p) : ∃ M, MemR W v M ∧ Big M := by
  obtain ⟨v0, v1, v2, v3, v4, y0, y1, y2, y3, y4, n, rfl, h0, h1, h2, h3, h4⟩ := open_agg5 Tryd.underlying52 (by kernel_rfl) (by kernel_rfl) hv h
  obtain ⟨zs, k0, l0⟩ := row_in Tryd.underlying27 Tryd.underlying3 (by kernel_rfl) h0
  obtain ⟨zss, k1, l1, l1'⟩ := rows_in Tryd.underlying28 Tryd.underlying27 Tryd.underlying3 (by kernel_rfl) (by kernel_rfl) h1
  obtain ⟨pg, i2, _, _⟩ := DataW.trod_int Tryd.underlying3 h2
  obtain ⟨sc, i3, _, _⟩ := DataW.trod_int Tryd.underlying3 h3
  obtain ⟨lk, i4, _⟩ := DataW.trod_bool Tryd.underlying4 h4
  simp at i2 i3 i4
  subst i2 i3 i4
  exact ⟨⟨zs, zss, pg, sc, lk⟩, ⟨v0, v1, rfl, k0, k1⟩, l0, l1, l1'⟩
end Go.Proofs.YtifcdojaocndhaaDoor
