/- The list of the blocks of a text, and ReadTap: the program. -/
import Derived.Test.YthffhfafnohndaaDoorZm
import Derived.Sort.CutIn
import Derived.Sort.AtCallIn
namespace Go.Proofs.YthffhfafnohndaaDoor
open Go.ChangeShapes Go.WideShapes Go.ChangeAt Go.RowKit Go.Shelf
attribute [local go_sem] Oper.semAt_some
set_option linter.unusedVariables false
set_option linter.unusedSimpArgs false

theorem four_new (w : World) (A0 A1 A2 A3 : Array Value) (t0 t1 t2 t3 : TypeId) :
    let W := (((w.alloc (.cells A0 t0)).alloc (.cells A1 t1)).alloc (.cells A2 t2)).alloc (.cells A3 t3)
    W.heap.size = w.heap.size + 1 + 1 + 1 + 1 ∧ Blk W w.heap.size A0 ∧ Blk W (w.heap.size + 1) A1 ∧ Blk W (w.heap.size + 1 + 1) A2 ∧ Blk W (w.heap.size + 1 + 1 + 1) A3 ∧ Below w.heap.size w W := by
  intro W
  have q1 := Blk.new (w.alloc (.cells A0 t0)) A1 t1
  have q2 := Blk.new ((w.alloc (.cells A0 t0)).alloc (.cells A1 t1)) A2 t2
  have q3 := Blk.new (((w.alloc (.cells A0 t0)).alloc (.cells A1 t1)).alloc (.cells A2 t2)) A3 t3
  simp only [World.size_alloc] at q1 q2 q3
  exact ⟨by simp [W], (((Blk.new w A0 t0).alloc _).alloc _).alloc _, (q1.alloc _).alloc _, q2.alloc _, q3, ((((Below.refl _ _).alloc (Nat.le_refl _) _).alloc (by simp) _).alloc (by simp; omega) _).alloc (by simp; omega) _⟩
theorem putO_other {W : World} {l : Nat} {o : Obj} {b : Nat} (h : b ≠ l) : (W.putObj l o).heap[b]? = W.heap[b]? := World.putObj_heap_other (by omega)
theorem putO_size (W : World) (l : Nat) (o : Obj) : (W.putObj l o).heap.size = W.heap.size := by simp [World.putObj]
theorem blocksOf_impl (t : ByteArray) (w : World) : Calls Tryd.prog 51 #[.string t] w fun e w' => e = .returned (.func (.func 62) #[] #[.pointer (some ⟨w.heap.size, 0, none⟩)]) ∧ w' = w.alloc (.cells #[.string t] 9) := by
  go_enter Tryd.func51, Tryd.ntmps51
  go_wp2
  go_ret
  exact ⟨rfl, rfl⟩
/-- all blocks have come: the answer is laid down -/
theorem fin_all {p : Pk} {W : World} {t : ByteArray} {cv : Value} {acc : List (Int × ByteArray)} (h : Ry p W t cv acc) (R' : Loop) :
    let W9 := W.putObj p.L (.loop R')
    let WF := (W9.setCell ⟨p.RL, 0, none⟩ cv).setCell ⟨p.RE, 0, none⟩ .nilIface
    Blk W9 p.O #[cv] ∧ Blk W9 p.RL #[.slice none 0 0] ∧ Blk W9 p.RE #[.nilIface] ∧ WF.heap[p.DF]? = some (.deferred (some [])) ∧ Blk (WF.putObj p.DF (.deferred none)) p.RL #[cv] ∧ Blk (WF.putObj p.DF (.deferred none)) p.RE #[.nilIface] ∧ (WF.putObj p.DF (.deferred none)).ownsRow p.w.heap.size 41 2 cv acc.length (bkL acc) ∧ Below p.w.heap.size p.w (WF.putObj p.DF (.deferred none)) := by
  intro W9 WF
  obtain ⟨⟨a1, a2, a3, a4, a5⟩, ⟨b1, b2, b3, b4⟩, ⟨c1, c2, c3'⟩, ⟨d1, d2⟩, f1⟩ := h.sep.apart
  obtain ⟨m1, m2, m3, m4, m5, m6⟩ := p.mem
  have p9 : ∀ y, y ≠ p.L → W9.heap[y]? = W.heap[y]? := fun y hy => putO_other hy
  have qO : Blk W9 p.O #[cv] := blk_same h.o (p9 _ c3')
  have qR : Blk W9 p.RL #[.slice none 0 0] := blk_same h.rl (p9 _ a5)
  have qE : Blk W9 p.RE #[.nilIface] := blk_same h.re (p9 _ b4)
  have kF : ∀ y, y ≠ p.L → y ≠ p.RL → y ≠ p.RE → WF.heap[y]? = W.heap[y]? := fun y h1 h2 h3 => (Below.heap_setCell _ _ _ _ h3).trans ((Below.heap_setCell _ _ _ _ h2).trans (p9 y h1))
  have sF : WF.heap.size = W.heap.size := by simp [WF, W9, World.setCell, World.putObj]
  have hD : WF.heap[p.DF]? = some (.deferred (some [])) := (kF _ f1 a4.symm b3.symm).trans h.df
  have rR : Blk WF p.RL #[cv] := (qR.set 0 cv).other (p := ⟨p.RE, 0, none⟩) a1 _
  have rE : Blk WF p.RE #[.nilIface] := (qE.other (p := ⟨p.RL, 0, none⟩) (fun e => a1 e.symm) _).set 0 .nilIface
  have sg : ∀ (X : World) (b i : Nat) (u : Value), X.grownBy (X.setCell ⟨b, i, none⟩ u) (some b) := fun X b i u => ⟨rfl, rfl, rfl, by simp [World.setCell], fun k _ hk => Below.heap_setCell _ _ _ _ (fun e => hk (by rw [e]))⟩
  have o9 : W9.ownsRow p.w.heap.size 41 2 cv acc.length (bkL acc) := ownsRow_putObj h.own _ h.lp rfl
  have oF : WF.ownsRow p.w.heap.size 41 2 cv acc.length (bkL acc) := (o9.kept (sg _ p.RL 0 _) (.inr (fun e => h.ne _ e m1))).kept (sg _ p.RE 0 _) (.inr (fun e => h.ne _ e m2))
  refine ⟨qO, qR, qE, hD, blk_same rR (putO_other a4), blk_same rE (putO_other b3), ownsRow_putObj oF _ hD rfl, ?_⟩
  refine h.bel.trans ⟨rfl, rfl, rfl, by rw [putO_size, sF]; exact Nat.le_refl _, fun b hb => ?_⟩
  have g1 := h.sep.far _ m1
  have g2 := h.sep.far _ m2
  have g5 := h.sep.far _ m5
  have g6 := h.sep.far _ m6
  exact (putO_other (by omega)).trans (kF b (by omega) (by omega) (by omega))
/-- a round has left: the answer lies there -/
theorem fin_err {p : Pk} {W : World} {E : Value} (h : Rx p W E) (hs : p.Sep) (R' : Loop) :
    let W9 := W.putObj p.L (.loop R')
    W9.heap[p.DF]? = some (.deferred (some [])) ∧ Blk (W9.putObj p.DF (.deferred none)) p.RL #[.slice none 0 0] ∧ Blk (W9.putObj p.DF (.deferred none)) p.RE #[E] ∧ Below p.w.heap.size p.w (W9.putObj p.DF (.deferred none)) := by
  intro W9
  obtain ⟨⟨a1, a2, a3, a4, a5⟩, ⟨b1, b2, b3, b4⟩, ⟨c1, c2, c3'⟩, ⟨d1, d2⟩, f1⟩ := hs.apart
  obtain ⟨m1, m2, m3, m4, m5, m6⟩ := p.mem
  have p9 : ∀ y, y ≠ p.L → W9.heap[y]? = W.heap[y]? := fun y hy => putO_other hy
  refine ⟨(p9 _ f1).trans h.df, blk_same (blk_same h.rl (p9 _ a5)) (putO_other a4), blk_same (blk_same h.re (p9 _ b4)) (putO_other b3), ?_⟩
  refine h.bel.trans ⟨rfl, rfl, rfl, by rw [putO_size, putO_size]; exact Nat.le_refl _, fun b hb => ?_⟩
  have g5 := hs.far _ m5
  have g6 := hs.far _ m6
  exact (putO_other (by omega)).trans (p9 b (by omega))
set_option maxRecDepth 100000 in
set_option maxHeartbeats 4000000 in
theorem list_impl (t : ByteArray) (e0 e1 e2 e3 e4 e5 : Addr) (w : World) (ht : t.size ≤ 65536) (hE : Err6 w e0 e1 e2 e3 e4 e5) :
    Calls Tryd.prog 37 #[.string t] w fun e w' => ∃ v, e = .returned (.tuple #[v, errV6 e0 e1 e2 e3 e4 e5 (rdL t (t.size + 1) 0 []).2]) ∧ w'.ownsRow w.heap.size 41 2 v (rdL t (t.size + 1) 0 []).1.length (bkL (rdL t (t.size + 1) 0 []).1) ∧ Below w.heap.size w w' := by
  refine (callsIn_wide (n := 4)).1 (callsIn_of_wp_marks Tryd.func37 rfl trivial ?_ rfl)
  simp only [Tryd.ntmps37, List.size_toArray, List.length_cons, List.length_nil, Nat.reduceAdd, Nat.reduceSub, Array.replicate_succ, Array.replicate_zero, List.push_toArray, List.append_toArray, List.nil_append, List.cons_append]
  replace hE := hid hE
  gi_wp2_with fail
  refine ⟨trivial, ?_⟩
  refine (callsIn_wide.2 (blocksOf_impl t _)).mono ?_
  rintro e w' ⟨rfl, hw'⟩
  have hF := four_new w #[.slice none 0 0] #[.nilIface] #[.slice none 0 0] #[.string t] 34 57 34 9
  rw [← hw'] at hF
  replace hF := hid hF
  clear hw'
  gi_wp2_with fail
  refine wpIn_rangeFunc ?_
  intro fn hfn
  obtain ⟨hsz, q0, q1, q2, q3, hb5⟩ := hF.out
  obtain ⟨R, hR⟩ : ∃ R : Loop, R = { state := .ready, pending := none, fn := fn, tmps := lbT (.string t) undef w.heap.size (w.heap.size + 1) (w.heap.size + 1 + 1) undef undef (.string t) (.func (.func 62) #[] #[.pointer (some ⟨w.heap.size + 1 + 1 + 1, 0, none⟩)]) undef undef, params := #[9, 10], assign := lbAs, body := lbBd, defers := w'.heap.size } := ⟨_, rfl⟩
  obtain ⟨p, hp⟩ : ∃ p : Pk, p = { w := w, RL := w.heap.size, RE := w.heap.size + 1, O := w.heap.size + 1 + 1, BT := w.heap.size + 1 + 1 + 1, DF := w'.heap.size, L := w'.heap.size + 1, R := R } := ⟨_, rfl⟩
  refine ⟨w'.heap.size + 1, [{ target := .collected w'.heap.size, args := #[] }], (w'.alloc (.deferred (some []))).alloc (.loop R), { target := .fn (.func 62) #[.pointer (some ⟨w.heap.size + 1 + 1 + 1, 0, none⟩)], args := #[.func (.yield (w'.heap.size + 1)) #[] #[]] }, (w'.alloc (.deferred (some []))).alloc (.loop R), 62, #[.func (.yield (w'.heap.size + 1)) #[] #[], .pointer (some ⟨w.heap.size + 1 + 1 + 1, 0, none⟩)], (w'.alloc (.deferred (some []))).alloc (.loop R), ?_, ?_, fun _ _ => trivial, ?_, fun _ => by omega, ?_⟩
  · rw [hR]
    exact run_enterLoop_outer _ _ _ _ _
  · simp [resolve, go_sem]
  · simp [invoke, go_sem, enters_of Tryd.func62 (by kernel_rfl) rfl]
  have hb7 : Below w'.heap.size w' ((w'.alloc (.deferred (some []))).alloc (.loop R)) := ((Below.refl _ _).alloc (Nat.le_refl _) _).alloc (by simp) _
  have hL7 : ((w'.alloc (.deferred (some []))).alloc (.loop R)).heap[w'.heap.size + 1]? = some (.loop R) := by
    have := World.alloc_heap_new (w'.alloc (.deferred (some []))) (.loop R)
    rwa [World.size_alloc] at this
  have hD7 : ((w'.alloc (.deferred (some []))).alloc (.loop R)).heap[w'.heap.size]? = some (.deferred (some [])) := (Below.heap_alloc _ _ _ (by simp)).trans (World.alloc_heap_new w' _)
  obtain ⟨W7, hW7⟩ : ∃ W7, (w'.alloc (.deferred (some []))).alloc (.loop R) = W7 := ⟨_, rfl⟩
  rw [hW7] at hb7 hL7 hD7 ⊢
  clear hW7
  have hbw7 : Below w.heap.size w W7 := hb5.trans (hb7.mono hb5.size)
  have hS : p.Sep := by
    subst hp
    refine ⟨?_, fun b hb => ?_⟩
    · show ([w.heap.size, w.heap.size + 1, w.heap.size + 1 + 1, w.heap.size + 1 + 1 + 1, w'.heap.size, w'.heap.size + 1] : List Nat).Nodup
      simp only [List.nodup_cons, List.mem_cons, List.not_mem_nil, or_false, not_false_eq_true, List.nodup_nil, and_true, not_or]
      omega
    · have hb : b ∈ [w.heap.size, w.heap.size + 1, w.heap.size + 1 + 1, w.heap.size + 1 + 1 + 1, w'.heap.size, w'.heap.size + 1] := hb
      show w.heap.size ≤ b
      simp only [List.mem_cons, List.not_mem_nil, or_false] at hb
      omega
  have hRy : Ry p W7 t (.slice none 0 0) [] := by
    subst hp
    exact ⟨hS, q0.below hb7 q0.lt, q1.below hb7 q1.lt, q2.below hb7 q2.lt, q3.below hb7 q3.lt, hD7, hL7, World.ownsRow_nil _ _ _ _, fun g e => by simp [Value.ownBlock] at e, hbw7⟩
  have hpe : p.R = { state := .ready, pending := none, fn := fn, tmps := lbT (.string t) undef p.RL p.RE p.O undef undef (.string t) (.func (.func 62) #[] #[.pointer (some ⟨w.heap.size + 1 + 1 + 1, 0, none⟩)]) undef undef, params := #[9, 10], assign := lbAs, body := lbBd, defers := p.DF } := by
    subst hp
    exact hR
  have hpw : p.w = w := by subst hp; rfl
  have hit := it_impl p t e0 e1 e2 e3 e4 e5 (by rw [hpw]; exact hE.out) (yok_of p t fn _ _ _ _ _ _ _ _ hpe) (yerr_of p t fn _ _ _ _ _ _ _ _ hpe) (ymany_of p t e0 e1 e2 e3 e4 e5 (by rw [hpw]; exact hE.out) fn _ _ _ _ _ _ _ _ hpe) W7 hRy ht
  have hpb : p.L = w'.heap.size + 1 ∧ p.BT = w.heap.size + 1 + 1 + 1 ∧ p.RL = w.heap.size ∧ p.RE = w.heap.size + 1 ∧ p.O = w.heap.size + 1 + 1 ∧ p.DF = w'.heap.size := by subst hp; exact ⟨rfl, rfl, rfl, rfl, rfl, rfl⟩
  obtain ⟨k1, k2, k3, k4, k5, k6⟩ := hpb
  rw [k1, k2] at hit
  obtain ⟨Z, hZ⟩ : ∃ Z, rdL t (t.size + 1) 0 [] = Z := ⟨_, rfl⟩
  rw [hZ] at hit
  refine hit.mono ?_
  rintro e W8 ⟨rfl, hP⟩
  rcases hP with ⟨cv, hC, hz0⟩ | ⟨hz1, hz2, hX⟩
  · have hl8 := hC.lp
    have hend := run_endLoop (P := Tryd.prog) hl8 (by rw [hpe]; simp)
    have hpend : p.R.pending = none := by rw [hpe]
    obtain ⟨y1, y2, y3, z3, z1, z2, z4, z5⟩ := fin_all hC { p.R with state := .exhausted }
    obtain ⟨oa, ocap, hcv⟩ := ry_form hC
    obtain ⟨W9, hW9⟩ : ∃ W9, W8.putObj p.L (.loop { p.R with state := .exhausted }) = W9 := ⟨_, rfl⟩
    rw [hW9] at y1 y2 y3 z3 z1 z2 z4 z5 hend
    rw [hpw] at z4 z5
    rw [k1] at hend
    rw [k3, k4, k6] at z3 z1 z2 z4 z5
    rw [k5] at y1
    rw [k3] at y2
    rw [k4] at y3
    refine ⟨p.R.pending, W9, hend, ?_⟩
    rw [hpend]
    have x1 := y1.cell
    have x2 := y2.cell
    have f2 := y2.frozen
    have l2 := y2.lt
    have x3 := y3.cell
    have f3 := y3.frozen
    have l3 := y3.lt
    replace hZ := hid hZ
    replace z1 := hid z1
    replace z2 := hid z2
    replace z3 := hid z3
    replace z4 := hid z4
    replace z5 := hid z5
    have hz9 := hid hz0
    clear hW9 hend hpend hl8 hC hit hpe hRy hS hbw7 hD7 hL7 hb7 q0 q1 q2 q3 hb5 hF hR hp y1 y2 y3 hpw k1 k2 k3 k4 k5 k6 hsz hz0
    subst hcv
    have n1 : ¬ w.heap.size + 1 + 1 = w.heap.size := by omega
    gi_wp2
    refine ⟨by simp, .inl ⟨_, _, rfl, run_takeDeferred z3.out, ?_⟩⟩
    have c1 := z1.out.cell
    have c2 := z2.out.cell
    refine ⟨.tuple #[.slice oa Z.1.length ocap, .nilIface], ?_, .slice oa Z.1.length ocap, ?_, ?_, z5.out⟩
    · simp [results, Tryd.results37, go_sem, c1, c2]
    · rw [hZ.out, hz9.out]
      rfl
    · rw [hZ.out]
      exact z4.out
  · have hl8 := hX.lp
    have hend := run_endLoop (P := Tryd.prog) hl8 (by simp)
    obtain ⟨z3, z1, z2, z5⟩ := fin_err hX hS { p.R with state := .exhausted, pending := some .ret }
    obtain ⟨W9, hW9⟩ : ∃ W9, W8.putObj p.L (.loop { p.R with state := .exhausted, pending := some .ret }) = W9 := ⟨_, rfl⟩
    rw [hW9] at z3 z1 z2 z5
    have hend2 : (Instr.endLoop (w'.heap.size + 1)).run Tryd.prog W8 = .ok (some .ret) W9 := by
      rw [← hW9, ← k1]
      exact hend
    rw [hpw] at z5
    rw [k3, k6] at z1
    rw [k4, k6] at z2
    rw [k6] at z3 z5
    refine ⟨some .ret, W9, hend2, ?_⟩
    replace hZ := hid hZ
    replace z1 := hid z1
    replace z2 := hid z2
    replace z3 := hid z3
    replace z5 := hid z5
    replace hz1 := hid hz1
    obtain ⟨x, hx⟩ := errV6_some e0 e1 e2 e3 e4 e5 Z.2 hz2
    rw [hx] at z2
    replace hx := hid hx
    clear hW9 hend hend2 hl8 hX hit hpe hRy hS hbw7 hD7 hL7 hb7 q0 q1 q2 q3 hb5 hF hR hp hpw k1 k2 k3 k4 k5 k6 hsz hz2
    dsimp only
    gi_wp2
    refine ⟨by simp, .inl ⟨_, _, rfl, run_takeDeferred z3.out, ?_⟩⟩
    have c1 := z1.out.cell
    have c2 := z2.out.cell
    refine ⟨.tuple #[.slice none 0 0, iE x], ?_, .slice none 0 0, ?_, ?_, z5.out⟩
    · simp [results, Tryd.results37, go_sem, c1, c2]
    · rw [hZ.out, hx.out]
    · rw [hZ.out, hz1.out]
      exact World.ownsRow_nil _ _ _ _
set_option maxRecDepth 100000 in
set_option maxHeartbeats 2000000 in
theorem readtap_impl (t : ByteArray) (e0 e1 e2 e3 e4 e5 : Addr) (w : World) (ht : t.size ≤ maxLen) (hE : Err6 w e0 e1 e2 e3 e4 e5) : Calls Tryd.prog 15 #[.string t] w fun e w' => ∃ v, e = .returned (.tuple #[v, .int .i64 (rd2 t).2]) ∧ w'.ownsRow w.heap.size 41 2 v (rd2 t).1.length (bkL (rd2 t).1) ∧ Below w.heap.size w w' := by
  unfold maxLen at ht
  by_cases h1 : 65536 < t.size
  · have e : rd2 t = ([], 2) := if_pos h1
    rw [e]
    go_enter Tryd.func15, Tryd.ntmps15
    go_wp2
    go_ret2
    exact ⟨_, rfl, World.ownsRow_nil _ _ _ _, Below.refl _ _⟩
  · have e : rd2 t = rdL t (t.size + 1) 0 [] := if_neg h1
    rw [e]
    clear e
    have hL := hid (fun W (h : Err6 W e0 e1 e2 e3 e4 e5) => list_impl t e0 e1 e2 e3 e4 e5 W (by omega) h)
    have hc := rdL_code t (t.size + 1) 0 []
    obtain ⟨Z, hZ⟩ : ∃ Z, rdL t (t.size + 1) 0 [] = Z := ⟨_, rfl⟩
    rw [hZ] at hL hc ⊢
    clear hZ
    have hBC := hid (fun W (h : Err6 W e0 e1 e2 e3 e4 e5) => blockCode_any e0 e1 e2 e3 e4 e5 Z.2 W h hc)
    obtain ⟨E, hEE⟩ : ∃ E, errV6 e0 e1 e2 e3 e4 e5 Z.2 = E := ⟨_, rfl⟩
    rw [hEE] at hL hBC
    clear hEE hc
    replace hE := hid hE
    go_enter Tryd.func15, Tryd.ntmps15
    go_wp2_with fail
    refine (hL.out _ hE.out).mono ?_
    rintro e w1 ⟨v, rfl, ho, hb⟩
    have hE1 := hid (hE.out.below hb)
    replace ho := hid ho
    replace hb := hid hb
    clear hL
    go_wp2_with fail
    refine (hBC.out _ hE1.out).mono ?_
    rintro e w2 ⟨rfl, hww⟩
    obtain rfl := hww.symm
    clear hBC hE1
    go_wp2_with fail
    go_ret2
    exact ⟨_, rfl, ho.out, hb.out⟩
end Go.Proofs.YthffhfafnohndaaDoor
