/- The list of the blocks that an iterator yields: the program. -/
import Derived.Test.YtakdhmlegickmaaDoorZkw
import Derived.LoopNIn
import Derived.LoopIn
import Derived.Sort.CutIn
import Derived.Sort.AtCallIn
namespace Go.Proofs.YtakdhmlegickmaaDoor
open Go.ChangeShapes Go.WideShapes Go.ChangeAt Go.RowKit Go.Shelf
attribute [local go_sem] Oper.semAt_some
set_option linter.unusedVariables false
set_option linter.unusedSimpArgs false

theorem three_new (w : World) (A0 A1 A2 : Array Value) (t0 t1 t2 : TypeId) :
    let W := ((w.alloc (.cells A0 t0)).alloc (.cells A1 t1)).alloc (.cells A2 t2)
    W.heap.size = w.heap.size + 1 + 1 + 1 ∧ Blk W w.heap.size A0 ∧ Blk W (w.heap.size + 1) A1 ∧ Blk W (w.heap.size + 1 + 1) A2 ∧ Below w.heap.size w W := by
  intro W
  have q1 := Blk.new (w.alloc (.cells A0 t0)) A1 t1
  have q2 := Blk.new ((w.alloc (.cells A0 t0)).alloc (.cells A1 t1)) A2 t2
  simp only [World.size_alloc] at q1 q2
  exact ⟨by simp [W], ((Blk.new w A0 t0).alloc _).alloc _, q1.alloc _, q2, (((Below.refl _ _).alloc (Nat.le_refl _) _).alloc (by simp) _).alloc (by simp; omega) _⟩
theorem putO_other {W : World} {l : Nat} {o : Obj} {b : Nat} (h : b ≠ l) : (W.putObj l o).heap[b]? = W.heap[b]? := World.putObj_heap_other (by omega)
theorem putO_size (W : World) (l : Nat) (o : Obj) : (W.putObj l o).heap.size = W.heap.size := by simp [World.putObj]
/-- what the loop leaves: all blocks, or an error -/
def ItP (p : Pk) (W : World) (Z : List (Int × ByteArray)) (E : Value) : Prop := (∃ cv, Ry p W cv Z ∧ E = .nilIface) ∨ (Z = [] ∧ ∃ x, E = iE x ∧ Rx p W E)
/-- all blocks have come: the answer is laid down -/
theorem fin_all {p : Pk} {W : World} {cv : Value} {acc : List (Int × ByteArray)} (h : Ry p W cv acc) (R' : Loop) :
    let W9 := W.putObj p.L (.loop R')
    let WF := (W9.setCell ⟨p.RL, 0, none⟩ cv).setCell ⟨p.RE, 0, none⟩ .nilIface
    Blk W9 p.O #[cv] ∧ Blk W9 p.RL #[.slice none 0 0] ∧ Blk W9 p.RE #[.nilIface] ∧ WF.heap[p.DF]? = some (.deferred (some [])) ∧ Blk (WF.putObj p.DF (.deferred none)) p.RL #[cv] ∧ Blk (WF.putObj p.DF (.deferred none)) p.RE #[.nilIface] ∧ (WF.putObj p.DF (.deferred none)).ownsRow p.w.heap.size 33 2 cv acc.length (bkL acc) ∧ Below p.w.heap.size p.w (WF.putObj p.DF (.deferred none)) := by
  intro W9 WF
  obtain ⟨⟨a1, a2, a4, a5⟩, ⟨b1, b3, b4⟩, ⟨c2, c3'⟩, f1⟩ := h.sep.apart
  obtain ⟨m1, m2, m3, m5, m6⟩ := p.mem
  have p9 : ∀ y, y ≠ p.L → W9.heap[y]? = W.heap[y]? := fun y hy => putO_other hy
  have qO : Blk W9 p.O #[cv] := blk_same h.o (p9 _ c3')
  have qR : Blk W9 p.RL #[.slice none 0 0] := blk_same h.rl (p9 _ a5)
  have qE : Blk W9 p.RE #[.nilIface] := blk_same h.re (p9 _ b4)
  have kF : ∀ y, y ≠ p.L → y ≠ p.RL → y ≠ p.RE → WF.heap[y]? = W.heap[y]? := fun y h1 h2 h3 => (Below.heap_setCell _ _ _ _ h3).trans ((Below.heap_setCell _ _ _ _ h2).trans (p9 y h1))
  have sF : WF.heap.size = W.heap.size := by simp [WF, W9, World.setCell, World.putObj]
  have hD : WF.heap[p.DF]? = some (.deferred (some [])) := (kF _ f1 a4.symm b3.symm).trans h.df
  have rR : Blk WF p.RL #[cv] := (qR.set 0 cv).other (p := ⟨p.RE, 0, none⟩) a1 _
  have rE : Blk WF p.RE #[.nilIface] := (qE.other (p := ⟨p.RL, 0, none⟩) (fun e => a1 e.symm) _).set 0 .nilIface
  have sg : ∀ (X : World) (b i : Nat) (u : Value), X.grownBy (X.setCell ⟨b, i, none⟩ u) (some b) := fun X b i u => ⟨rfl, rfl, rfl, by simp [World.setCell], fun k _ hk => Below.heap_setCell _ _ _ _ (fun e => hk (by rw [e]))⟩
  have o9 : W9.ownsRow p.w.heap.size 33 2 cv acc.length (bkL acc) := ownsRow_putObj h.own _ h.lp rfl
  have oF : WF.ownsRow p.w.heap.size 33 2 cv acc.length (bkL acc) := (o9.kept (sg _ p.RL 0 _) (.inr (fun e => h.ne _ e m1))).kept (sg _ p.RE 0 _) (.inr (fun e => h.ne _ e m2))
  refine ⟨qO, qR, qE, hD, blk_same rR (putO_other a4), blk_same rE (putO_other b3), ownsRow_putObj oF _ hD rfl, ?_⟩
  refine h.bel.trans ⟨rfl, rfl, rfl, by rw [putO_size, sF]; exact Nat.le_refl _, fun b hb => ?_⟩
  have g1 := h.sep.far _ m1
  have g2 := h.sep.far _ m2
  have g5 := h.sep.far _ m5
  have g6 := h.sep.far _ m6
  exact (putO_other (by omega)).trans (kF b (by omega) (by omega) (by omega))
/-- a round has left: the answer lies there -/
theorem fin_err {p : Pk} {W : World} {E : Value} (h : Rx p W E) (hs : p.Sep) (R' : Loop) :
    let W9 := W.putObj p.L (.loop R')
    W9.heap[p.DF]? = some (.deferred (some [])) ∧ Blk (W9.putObj p.DF (.deferred none)) p.RL #[.slice none 0 0] ∧ Blk (W9.putObj p.DF (.deferred none)) p.RE #[E] ∧ Below p.w.heap.size p.w (W9.putObj p.DF (.deferred none)) := by
  intro W9
  obtain ⟨⟨a1, a2, a4, a5⟩, ⟨b1, b3, b4⟩, ⟨c2, c3'⟩, f1⟩ := hs.apart
  obtain ⟨m1, m2, m3, m5, m6⟩ := p.mem
  have p9 : ∀ y, y ≠ p.L → W9.heap[y]? = W.heap[y]? := fun y hy => putO_other hy
  refine ⟨(p9 _ f1).trans h.df, blk_same (blk_same h.rl (p9 _ a5)) (putO_other a4), blk_same (blk_same h.re (p9 _ b4)) (putO_other b3), ?_⟩
  refine h.bel.trans ⟨rfl, rfl, rfl, by rw [putO_size, putO_size]; exact Nat.le_refl _, fun b hb => ?_⟩
  have g5 := hs.far _ m5
  have g6 := hs.far _ m6
  exact (putO_other (by omega)).trans (p9 b (by omega))
set_option maxRecDepth 100000 in
set_option maxHeartbeats 4000000 in
theorem list_of (cap : Value) (Z : List (Int × ByteArray)) (E : Value) (e5 : Addr) (w : World) (hE : w.cell? ⟨0, 0, none⟩ = some (iE e5)) (hIt : ∀ (p : Pk) (W : World), p.w = w → Yok p → Yerr p → Ymany p e5 → Ry p W (.slice none 0 0) [] → Calls Tryd.prog 59 #[.func (.yield p.L) #[] #[], cap] W fun e W' => e = .returned (.tuple #[]) ∧ ItP p W' Z E) :
    Calls Tryd.prog 36 #[.func (.func 59) #[] #[cap]] w fun e w' => ∃ v, e = .returned (.tuple #[v, E]) ∧ w'.ownsRow w.heap.size 33 2 v Z.length (bkL Z) ∧ Below w.heap.size w w' := by
  refine (callsIn_wide (n := 4)).1 (callsIn_of_wp_marks Tryd.func36 rfl trivial ?_ rfl)
  simp only [Tryd.ntmps36, List.size_toArray, List.length_cons, List.length_nil, Nat.reduceAdd, Nat.reduceSub, Array.replicate_succ, Array.replicate_zero, List.push_toArray, List.append_toArray, List.nil_append, List.cons_append]
  have hF := hid (three_new w #[.slice none 0 0] #[.nilIface] #[.slice none 0 0] 23 60 23)
  replace hE := hid hE
  replace hIt := hid hIt
  gi_wp2_with fail
  refine wpIn_rangeFunc ?_
  intro fn hfn
  obtain ⟨w', hw'⟩ : ∃ w', ((w.alloc (.cells #[.slice none 0 0] 23)).alloc (.cells #[.nilIface] 60)).alloc (.cells #[.slice none 0 0] 23) = w' := ⟨_, rfl⟩
  rw [hw'] at hF ⊢
  clear hw'
  obtain ⟨hsz, q0, q1, q2, hb5⟩ := hF.out
  obtain ⟨R, hR⟩ : ∃ R : Loop, R = { state := .ready, pending := none, fn := fn, tmps := lbT (.func (.func 59) #[] #[cap]) undef w.heap.size (w.heap.size + 1) (w.heap.size + 1 + 1) undef undef (.func (.func 59) #[] #[cap]) undef undef, params := #[8, 9], assign := lbAs, body := lbBd, defers := w'.heap.size } := ⟨_, rfl⟩
  obtain ⟨p, hp⟩ : ∃ p : Pk, p = { w := w, RL := w.heap.size, RE := w.heap.size + 1, O := w.heap.size + 1 + 1, DF := w'.heap.size, L := w'.heap.size + 1, R := R } := ⟨_, rfl⟩
  refine ⟨w'.heap.size + 1, [{ target := .collected w'.heap.size, args := #[] }], (w'.alloc (.deferred (some []))).alloc (.loop R), { target := .fn (.func 59) #[cap], args := #[.func (.yield (w'.heap.size + 1)) #[] #[]] }, (w'.alloc (.deferred (some []))).alloc (.loop R), 59, #[.func (.yield (w'.heap.size + 1)) #[] #[], cap], (w'.alloc (.deferred (some []))).alloc (.loop R), ?_, ?_, fun _ _ => trivial, ?_, fun _ => by omega, ?_⟩
  · rw [hR]
    exact run_enterLoop_outer _ _ _ _ _
  · simp [resolve, go_sem]
  · simp [invoke, go_sem, enters_of Tryd.func59 (by kernel_rfl) rfl]
  have hb7 : Below w'.heap.size w' ((w'.alloc (.deferred (some []))).alloc (.loop R)) := ((Below.refl _ _).alloc (Nat.le_refl _) _).alloc (by simp) _
  have hL7 : ((w'.alloc (.deferred (some []))).alloc (.loop R)).heap[w'.heap.size + 1]? = some (.loop R) := by
    have := World.alloc_heap_new (w'.alloc (.deferred (some []))) (.loop R)
    rwa [World.size_alloc] at this
  have hD7 : ((w'.alloc (.deferred (some []))).alloc (.loop R)).heap[w'.heap.size]? = some (.deferred (some [])) := (Below.heap_alloc _ _ _ (by simp)).trans (World.alloc_heap_new w' _)
  obtain ⟨W7, hW7⟩ : ∃ W7, (w'.alloc (.deferred (some []))).alloc (.loop R) = W7 := ⟨_, rfl⟩
  rw [hW7] at hb7 hL7 hD7 ⊢
  clear hW7
  have hbw7 : Below w.heap.size w W7 := hb5.trans (hb7.mono hb5.size)
  have hS : p.Sep := by
    subst hp
    refine ⟨?_, fun b hb => ?_⟩
    · show ([w.heap.size, w.heap.size + 1, w.heap.size + 1 + 1, w'.heap.size, w'.heap.size + 1] : List Nat).Nodup
      simp only [List.nodup_cons, List.mem_cons, List.not_mem_nil, or_false, not_false_eq_true, List.nodup_nil, and_true, not_or]
      omega
    · have hb : b ∈ [w.heap.size, w.heap.size + 1, w.heap.size + 1 + 1, w'.heap.size, w'.heap.size + 1] := hb
      show w.heap.size ≤ b
      simp only [List.mem_cons, List.not_mem_nil, or_false] at hb
      omega
  have hRy : Ry p W7 (.slice none 0 0) [] := by
    subst hp
    exact ⟨hS, q0.below hb7 q0.lt, q1.below hb7 q1.lt, q2.below hb7 q2.lt, hD7, hL7, World.ownsRow_nil _ _ _ _, fun g e => by simp [Value.ownBlock] at e, hbw7⟩
  have hpe : p.R = { state := .ready, pending := none, fn := fn, tmps := lbT (.func (.func 59) #[] #[cap]) undef p.RL p.RE p.O undef undef (.func (.func 59) #[] #[cap]) undef undef, params := #[8, 9], assign := lbAs, body := lbBd, defers := p.DF } := by
    subst hp
    exact hR
  have hpw : p.w = w := by subst hp; rfl
  have hit := hIt.out p W7 hpw (yok_of p fn _ _ _ _ _ _ _ hpe) (yerr_of p fn _ _ _ _ _ _ _ hpe) (ymany_of p e5 (by rw [hpw]; exact hE.out) fn _ _ _ _ _ _ _ hpe) hRy
  have hpb : p.L = w'.heap.size + 1 ∧ p.RL = w.heap.size ∧ p.RE = w.heap.size + 1 ∧ p.O = w.heap.size + 1 + 1 ∧ p.DF = w'.heap.size := by subst hp; exact ⟨rfl, rfl, rfl, rfl, rfl⟩
  obtain ⟨k1, k3, k4, k5, k6⟩ := hpb
  rw [k1] at hit
  refine (callsIn_wide.2 hit).mono ?_
  rintro e W8 ⟨rfl, hP⟩
  rcases hP with ⟨cv, hC, hz0⟩ | ⟨hz1, x, hx, hX⟩
  · have hl8 := hC.lp
    have hend := run_endLoop (P := Tryd.prog) hl8 (by rw [hpe]; simp)
    have hpend : p.R.pending = none := by rw [hpe]
    obtain ⟨y1, y2, y3, z3, z1, z2, z4, z5⟩ := fin_all hC { p.R with state := .exhausted }
    obtain ⟨oa, ocap, hcv⟩ := ry_form hC
    obtain ⟨W9, hW9⟩ : ∃ W9, W8.putObj p.L (.loop { p.R with state := .exhausted }) = W9 := ⟨_, rfl⟩
    rw [hW9] at y1 y2 y3 z3 z1 z2 z4 z5 hend
    rw [hpw] at z4 z5
    rw [k1] at hend
    rw [k3, k4, k6] at z3 z1 z2 z4 z5
    rw [k5] at y1
    rw [k3] at y2
    rw [k4] at y3
    refine ⟨p.R.pending, W9, hend, ?_⟩
    rw [hpend]
    have x1 := y1.cell
    have x2 := y2.cell
    have f2 := y2.frozen
    have l2 := y2.lt
    have x3 := y3.cell
    have f3 := y3.frozen
    have l3 := y3.lt
    rw [hsz] at z3 z1 z2 z4 z5
    replace z1 := hid z1
    replace z2 := hid z2
    replace z3 := hid z3
    replace z4 := hid z4
    replace z5 := hid z5
    clear hW9 hend hpend hl8 hC hit hpe hRy hS hbw7 hD7 hL7 hb7 q0 q1 q2 hb5 hF hR hp y1 y2 y3 hpw k1 k3 k4 k5 k6
    subst hcv hz0
    have n1 : ¬ w.heap.size + 1 + 1 = w.heap.size := by omega
    gi_wp2
    refine ⟨by simp, .inl ⟨_, _, rfl, run_takeDeferred z3.out, ?_⟩⟩
    have c1 := z1.out.cell
    have c2 := z2.out.cell
    refine ⟨.tuple #[.slice oa Z.length ocap, .nilIface], ?_, .slice oa Z.length ocap, rfl, z4.out, z5.out⟩
    simp [results, Tryd.results36, go_sem, c1, c2]
  · have hl8 := hX.lp
    have hend := run_endLoop (P := Tryd.prog) hl8 (by simp)
    obtain ⟨z3, z1, z2, z5⟩ := fin_err hX hS { p.R with state := .exhausted, pending := some .ret }
    obtain ⟨W9, hW9⟩ : ∃ W9, W8.putObj p.L (.loop { p.R with state := .exhausted, pending := some .ret }) = W9 := ⟨_, rfl⟩
    rw [hW9] at z3 z1 z2 z5
    have hend2 : (Instr.endLoop (w'.heap.size + 1)).run Tryd.prog W8 = .ok (some .ret) W9 := by
      rw [← hW9, ← k1]
      exact hend
    rw [hpw] at z5
    rw [k3, k6] at z1
    rw [k4, k6] at z2
    rw [k6] at z3 z5
    refine ⟨some .ret, W9, hend2, ?_⟩
    subst hx hz1
    replace z1 := hid z1
    replace z2 := hid z2
    replace z3 := hid z3
    replace z5 := hid z5
    clear hW9 hend hend2 hl8 hX hit hpe hRy hS hbw7 hD7 hL7 hb7 q0 q1 q2 hb5 hF hR hp hpw k1 k3 k4 k5 k6
    dsimp only
    gi_wp2
    refine ⟨by simp, .inl ⟨_, _, rfl, run_takeDeferred z3.out, ?_⟩⟩
    have c1 := z1.out.cell
    have c2 := z2.out.cell
    refine ⟨.tuple #[.slice none 0 0, iE x], ?_, .slice none 0 0, rfl, World.ownsRow_nil _ _ _ _, z5.out⟩
    simp [results, Tryd.results36, go_sem, c1, c2]
set_option maxRecDepth 100000 in
set_option maxHeartbeats 4000000 in
theorem list_heard (cap : Value) (Z : List (Int × ByteArray)) (E : Value) (e5 : Addr) (w : World) (hE : w.cell? ⟨0, 0, none⟩ = some (iE e5)) (hIt : ∀ (p : Pk) (W : World), p.w = w → Yok p → Yerr p → Ymany p e5 → Ry p W (.slice none 0 0) [] → Calls Tryd.prog 70 #[.func (.yield p.L) #[] #[], cap] W fun e W' => e = .returned (.tuple #[]) ∧ ItP p W' Z E) :
    Calls Tryd.prog 36 #[.func (.func 70) #[] #[cap]] w fun e w' => ∃ v, e = .returned (.tuple #[v, E]) ∧ w'.ownsRow w.heap.size 33 2 v Z.length (bkL Z) ∧ Below w.heap.size w w' := by
  refine (callsIn_wide (n := 4)).1 (callsIn_of_wp_marks Tryd.func36 rfl trivial ?_ rfl)
  simp only [Tryd.ntmps36, List.size_toArray, List.length_cons, List.length_nil, Nat.reduceAdd, Nat.reduceSub, Array.replicate_succ, Array.replicate_zero, List.push_toArray, List.append_toArray, List.nil_append, List.cons_append]
  have hF := hid (three_new w #[.slice none 0 0] #[.nilIface] #[.slice none 0 0] 23 60 23)
  replace hE := hid hE
  replace hIt := hid hIt
  gi_wp2_with fail
  refine wpIn_rangeFunc ?_
  intro fn hfn
  obtain ⟨w', hw'⟩ : ∃ w', ((w.alloc (.cells #[.slice none 0 0] 23)).alloc (.cells #[.nilIface] 60)).alloc (.cells #[.slice none 0 0] 23) = w' := ⟨_, rfl⟩
  rw [hw'] at hF ⊢
  clear hw'
  obtain ⟨hsz, q0, q1, q2, hb5⟩ := hF.out
  obtain ⟨R, hR⟩ : ∃ R : Loop, R = { state := .ready, pending := none, fn := fn, tmps := lbT (.func (.func 70) #[] #[cap]) undef w.heap.size (w.heap.size + 1) (w.heap.size + 1 + 1) undef undef (.func (.func 70) #[] #[cap]) undef undef, params := #[8, 9], assign := lbAs, body := lbBd, defers := w'.heap.size } := ⟨_, rfl⟩
  obtain ⟨p, hp⟩ : ∃ p : Pk, p = { w := w, RL := w.heap.size, RE := w.heap.size + 1, O := w.heap.size + 1 + 1, DF := w'.heap.size, L := w'.heap.size + 1, R := R } := ⟨_, rfl⟩
  refine ⟨w'.heap.size + 1, [{ target := .collected w'.heap.size, args := #[] }], (w'.alloc (.deferred (some []))).alloc (.loop R), { target := .fn (.func 70) #[cap], args := #[.func (.yield (w'.heap.size + 1)) #[] #[]] }, (w'.alloc (.deferred (some []))).alloc (.loop R), 70, #[.func (.yield (w'.heap.size + 1)) #[] #[], cap], (w'.alloc (.deferred (some []))).alloc (.loop R), ?_, ?_, fun _ _ => trivial, ?_, fun _ => by omega, ?_⟩
  · rw [hR]
    exact run_enterLoop_outer _ _ _ _ _
  · simp [resolve, go_sem]
  · simp [invoke, go_sem, enters_of Tryd.func70 (by kernel_rfl) rfl]
  have hb7 : Below w'.heap.size w' ((w'.alloc (.deferred (some []))).alloc (.loop R)) := ((Below.refl _ _).alloc (Nat.le_refl _) _).alloc (by simp) _
  have hL7 : ((w'.alloc (.deferred (some []))).alloc (.loop R)).heap[w'.heap.size + 1]? = some (.loop R) := by
    have := World.alloc_heap_new (w'.alloc (.deferred (some []))) (.loop R)
    rwa [World.size_alloc] at this
  have hD7 : ((w'.alloc (.deferred (some []))).alloc (.loop R)).heap[w'.heap.size]? = some (.deferred (some [])) := (Below.heap_alloc _ _ _ (by simp)).trans (World.alloc_heap_new w' _)
  obtain ⟨W7, hW7⟩ : ∃ W7, (w'.alloc (.deferred (some []))).alloc (.loop R) = W7 := ⟨_, rfl⟩
  rw [hW7] at hb7 hL7 hD7 ⊢
  clear hW7
  have hbw7 : Below w.heap.size w W7 := hb5.trans (hb7.mono hb5.size)
  have hS : p.Sep := by
    subst hp
    refine ⟨?_, fun b hb => ?_⟩
    · show ([w.heap.size, w.heap.size + 1, w.heap.size + 1 + 1, w'.heap.size, w'.heap.size + 1] : List Nat).Nodup
      simp only [List.nodup_cons, List.mem_cons, List.not_mem_nil, or_false, not_false_eq_true, List.nodup_nil, and_true, not_or]
      omega
    · have hb : b ∈ [w.heap.size, w.heap.size + 1, w.heap.size + 1 + 1, w'.heap.size, w'.heap.size + 1] := hb
      show w.heap.size ≤ b
      simp only [List.mem_cons, List.not_mem_nil, or_false] at hb
      omega
  have hRy : Ry p W7 (.slice none 0 0) [] := by
    subst hp
    exact ⟨hS, q0.below hb7 q0.lt, q1.below hb7 q1.lt, q2.below hb7 q2.lt, hD7, hL7, World.ownsRow_nil _ _ _ _, fun g e => by simp [Value.ownBlock] at e, hbw7⟩
  have hpe : p.R = { state := .ready, pending := none, fn := fn, tmps := lbT (.func (.func 70) #[] #[cap]) undef p.RL p.RE p.O undef undef (.func (.func 70) #[] #[cap]) undef undef, params := #[8, 9], assign := lbAs, body := lbBd, defers := p.DF } := by
    subst hp
    exact hR
  have hpw : p.w = w := by subst hp; rfl
  have hit := hIt.out p W7 hpw (yok_of p fn _ _ _ _ _ _ _ hpe) (yerr_of p fn _ _ _ _ _ _ _ hpe) (ymany_of p e5 (by rw [hpw]; exact hE.out) fn _ _ _ _ _ _ _ hpe) hRy
  have hpb : p.L = w'.heap.size + 1 ∧ p.RL = w.heap.size ∧ p.RE = w.heap.size + 1 ∧ p.O = w.heap.size + 1 + 1 ∧ p.DF = w'.heap.size := by subst hp; exact ⟨rfl, rfl, rfl, rfl, rfl⟩
  obtain ⟨k1, k3, k4, k5, k6⟩ := hpb
  rw [k1] at hit
  refine (callsIn_wide.2 hit).mono ?_
  rintro e W8 ⟨rfl, hP⟩
  rcases hP with ⟨cv, hC, hz0⟩ | ⟨hz1, x, hx, hX⟩
  · have hl8 := hC.lp
    have hend := run_endLoop (P := Tryd.prog) hl8 (by rw [hpe]; simp)
    have hpend : p.R.pending = none := by rw [hpe]
    obtain ⟨y1, y2, y3, z3, z1, z2, z4, z5⟩ := fin_all hC { p.R with state := .exhausted }
    obtain ⟨oa, ocap, hcv⟩ := ry_form hC
    obtain ⟨W9, hW9⟩ : ∃ W9, W8.putObj p.L (.loop { p.R with state := .exhausted }) = W9 := ⟨_, rfl⟩
    rw [hW9] at y1 y2 y3 z3 z1 z2 z4 z5 hend
    rw [hpw] at z4 z5
    rw [k1] at hend
    rw [k3, k4, k6] at z3 z1 z2 z4 z5
    rw [k5] at y1
    rw [k3] at y2
    rw [k4] at y3
    refine ⟨p.R.pending, W9, hend, ?_⟩
    rw [hpend]
    have x1 := y1.cell
    have x2 := y2.cell
    have f2 := y2.frozen
    have l2 := y2.lt
    have x3 := y3.cell
    have f3 := y3.frozen
    have l3 := y3.lt
    rw [hsz] at z3 z1 z2 z4 z5
    replace z1 := hid z1
    replace z2 := hid z2
    replace z3 := hid z3
    replace z4 := hid z4
    replace z5 := hid z5
    clear hW9 hend hpend hl8 hC hit hpe hRy hS hbw7 hD7 hL7 hb7 q0 q1 q2 hb5 hF hR hp y1 y2 y3 hpw k1 k3 k4 k5 k6
    subst hcv hz0
    have n1 : ¬ w.heap.size + 1 + 1 = w.heap.size := by omega
    gi_wp2
    refine ⟨by simp, .inl ⟨_, _, rfl, run_takeDeferred z3.out, ?_⟩⟩
    have c1 := z1.out.cell
    have c2 := z2.out.cell
    refine ⟨.tuple #[.slice oa Z.length ocap, .nilIface], ?_, .slice oa Z.length ocap, rfl, z4.out, z5.out⟩
    simp [results, Tryd.results36, go_sem, c1, c2]
  · have hl8 := hX.lp
    have hend := run_endLoop (P := Tryd.prog) hl8 (by simp)
    obtain ⟨z3, z1, z2, z5⟩ := fin_err hX hS { p.R with state := .exhausted, pending := some .ret }
    obtain ⟨W9, hW9⟩ : ∃ W9, W8.putObj p.L (.loop { p.R with state := .exhausted, pending := some .ret }) = W9 := ⟨_, rfl⟩
    rw [hW9] at z3 z1 z2 z5
    have hend2 : (Instr.endLoop (w'.heap.size + 1)).run Tryd.prog W8 = .ok (some .ret) W9 := by
      rw [← hW9, ← k1]
      exact hend
    rw [hpw] at z5
    rw [k3, k6] at z1
    rw [k4, k6] at z2
    rw [k6] at z3 z5
    refine ⟨some .ret, W9, hend2, ?_⟩
    subst hx hz1
    replace z1 := hid z1
    replace z2 := hid z2
    replace z3 := hid z3
    replace z5 := hid z5
    clear hW9 hend hend2 hl8 hX hit hpe hRy hS hbw7 hD7 hL7 hb7 q0 q1 q2 hb5 hF hR hp hpw k1 k3 k4 k5 k6
    dsimp only
    gi_wp2
    refine ⟨by simp, .inl ⟨_, _, rfl, run_takeDeferred z3.out, ?_⟩⟩
    have c1 := z1.out.cell
    have c2 := z2.out.cell
    refine ⟨.tuple #[.slice none 0 0, iE x], ?_, .slice none 0 0, rfl, World.ownsRow_nil _ _ _ _, z5.out⟩
    simp [results, Tryd.results36, go_sem, c1, c2]
end Go.Proofs.YtakdhmlegickmaaDoor
