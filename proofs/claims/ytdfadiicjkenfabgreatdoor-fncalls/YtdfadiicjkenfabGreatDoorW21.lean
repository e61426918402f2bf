/- A cycle is told: the closure calls yield, and the round of the loop keeps it. -/
import Derived.Test.YtdfadiicjkenfabGreatDoorW20
import Derived.Test.YtdfadiicjkenfabGreatDoorW11
import Derived.RangeFuncBox
import Derived.RangeFuncCalls
import Derived.RangeFuncLeaves
import Derived.Shelf.Abstract
import Derived.Shelf.RegionOpen
import Derived.OwnWalkIn
import Derived.TacticsInMore
import Derived.Maps.OwnIn
import Derived.KernelRfl
namespace Go.Proofs.YtdfadiicjkenfabGreatDoor
open Go.ChangeShapes Go.WideShapes Go.ChangeAt Go.RowKit Go.Shelf
attribute [local go_sem] Oper.semAt_some
set_option linter.unusedVariables false
set_option linter.unusedSimpArgs false

/-- whether anybody listens is said anew -/
theorem CpSt.listen {p : Par} {z : Kps} {W : World} {x : Mx} {cv : Value} (h : CpSt p z W x cv) : CpSt p z (W.setCell ⟨p.I, 0, none⟩ (.bool true)) x cv := by
  have hg := set_grown W p.I 0 (.bool true)
  have k : ∀ b, b ≠ p.I → (W.setCell ⟨p.I, 0, none⟩ (.bool true)).heap[b]? = W.heap[b]? := fun b hne => Below.heap_setCell _ _ _ _ hne
  obtain ⟨⟨a1, a2, a3, a4, a5⟩, ⟨b1, b2, b3, b4⟩, ⟨c1, c2, c3⟩, _⟩ := h.sep.apart
  obtain ⟨m1, m2, m3, m4, m5, m6⟩ := p.mem
  have q : Blk (W.setCell ⟨p.I, 0, none⟩ (.bool true)) p.I #[.bool true] := h.lis.set 0 (.bool true)
  exact ⟨h.sep, h.blk.same (k _ a2), h.brd.kept (fun b hh => k b (fun e => h.sep.nb _ m3 (e ▸ hh))), by rw [sizeSet]; exact h.hil, h.box.same (k _ b1), h.own.kept hg (.inr (fun e => (h.ne _ e).1 m3)), q, h.yld.same (k _ c1.symm), (k _ c2.symm).trans h.loop, (k _ c3.symm).trans h.dfr, h.bel.setCell (p := ⟨p.I, 0, none⟩) (h.sep.far _ m3) _, h.ne, fun b A hm => ⟨(h.keep b A hm).1.same (k b (fun e => (h.keep b A hm).2.1 (e ▸ m3))), (h.keep b A hm).2⟩⟩
/-- a round has been gone through: the list is longer, the loop's record as it was -/
theorem CpSt.round {p : Par} {z : Kps} {W W' : World} {x : Mx} {cv v' : Value} {kd a v : Nat} (h : CpSt p z W x cv) (e1 : W'.os = W.os) (e2 : W'.tape = W.tape) (e3 : W'.output = W.output) (hs : W.heap.size ≤ W'.heap.size)
    (hk : ∀ b, b < W.heap.size → b ≠ p.O → cv.ownBlock ≠ some b → b ≠ p.L → W'.heap[b]? = W.heap[b]?) (hL : W'.heap[p.L]? = some (.loop p.R)) (hO : Blk W' p.O #[v'])
    (ho : W'.ownsRow p.w.heap.size 42 3 v' (x.cy.length + 1) (cyV x.cy ++ [.int .i64 (kd : Int), .int .i64 (a : Int), .int .i64 (v : Int)])) (hg : v'.ownBlock = cv.ownBlock ∨ ∃ g, v'.ownBlock = some g ∧ W.heap.size ≤ g) : CpSt p z W' (x.note kd a v) v' := by
  obtain ⟨⟨a1, a2, a3, a4, a5⟩, ⟨b1, b2, b3, b4⟩, ⟨c1, c2, c3⟩, ⟨d1, d2⟩, f1⟩ := h.sep.apart
  obtain ⟨m1, m2, m3, m4, m5, m6⟩ := p.mem
  have own : ∀ b, b ∈ p.bs ∨ brdB p.lo p.hi p.B p.Q b → cv.ownBlock ≠ some b := fun b hb e => by
    rcases hb with hb | hb
    · exact (h.ne b e).1 hb
    · exact (h.ne b e).2 hb
  have k : ∀ b, b ∈ p.bs ∨ brdB p.lo p.hi p.B p.Q b → b ≠ p.O → b ≠ p.L → W'.heap[b]? = W.heap[b]? := fun b hb h1 h2 => hk b (h.lt hb) h1 (own b hb) h2
  have kb : ∀ b, brdB p.lo p.hi p.B p.Q b → W'.heap[b]? = W.heap[b]? := fun b hb => k b (.inr hb) (fun e => h.sep.nb _ m2 (e ▸ hb)) (fun e => h.sep.nb _ m5 (e ▸ hb))
  refine ⟨h.sep, h.blk.same (k _ (.inl m1) a1 a4), h.brd.kept kb, Nat.le_trans h.hil hs, hO, ?_, h.lis.same (k _ (.inl m3) b1.symm c2), h.yld.same (k _ (.inl m4) b2.symm d1), hL, (k _ (.inl m6) b4.symm f1.symm).trans h.dfr, ?_, ?_, fun b A hm => ?_⟩
  · have : (x.note kd a v).cy = x.cy ++ [(kd, a, v)] := rfl
    rw [this, cyV_snoc, List.length_append]
    exact ho
  · refine h.bel.trans ⟨e1, e2, e3, hs, fun b hb => ?_⟩
    have hlt : b < W.heap.size := Nat.lt_of_lt_of_le hb h.bel.size
    refine hk b hlt (fun e => ?_) (fun e => ?_) (fun e => ?_)
    · have := h.sep.far _ m2; omega
    · have := (h.own.lt b e).1; omega
    · have := h.sep.far _ m5; omega
  · intro g e
    rcases hg with e' | ⟨g', e', hg'⟩
    · rw [e'] at e; exact h.ne g e
    · rw [e'] at e
      obtain rfl : g' = g := by simpa using e
      exact ⟨fun hh => by have := h.lt (.inl hh); omega, fun hh => by have := h.lt (.inr hh); omega⟩
  · obtain ⟨k1, k2, k3, k4⟩ := h.keep b A hm
    refine ⟨k1.same (hk b k1.lt (fun e => k2 (e ▸ m2)) k4 (fun e => k2 (e ▸ m5))), k2, k3, ?_⟩
    rcases hg with e' | ⟨g', e', hg'⟩
    · rw [e']; exact k4
    · rw [e']
      intro e
      obtain rfl : g' = b := by simpa using e
      have := k1.lt
      omega
/-- a round of the loop that keeps a cycle -/
def Yields (p : Par) : Prop := ∀ (m : Nat) (z : Kps) (W : World) (x : Mx) (cv : Value) (k a v : Nat), CpSt p z W x cv → x.cy.length ≤ 1000 →
  YieldAt Fence.wide m Tryz.prog p.L #[.agg #[.int .i64 (k : Int), .int .i64 (a : Int), .int .i64 (v : Int)]] W fun e W' => e = .returned (.bool true) ∧ ∃ cv', CpSt p z W' (x.note k a v) cv'
set_option maxRecDepth 100000 in
theorem tells_of (p : Par) (hY : Yields p) : Tells p := by
  intro z W x k a v ⟨cv, h⟩ hl
  obtain ⟨fn, tmps, assign, body, hy, hR⟩ := hY 2 z W x cv k a v h hl
  have i0 := h.lis.cell 0
  have v0 := h.yld.cell 0
  replace h := hid h
  replace hR := hid hR
  clear hY
  refine (callsIn_wide (n := 3)).1 (callsIn_of_wp Tryz.func69 rfl trivial ?_ rfl)
  simp only [Tryz.ntmps69, List.size_toArray, List.length_cons, List.length_nil, Nat.reduceAdd, Nat.reduceSub, Array.replicate_succ, Array.replicate_zero, List.push_toArray, List.append_toArray, List.nil_append, List.cons_append]
  gi_wp2
  refine hR.out.mono ?_
  rintro e W3 ⟨rfl, cv', h3⟩
  have i3 := h3.lis.cell
  have f3 := h3.lis.frozen
  have l3 := h3.lis.lt
  have h4 := hid h3.listen
  clear h3 i0 v0 h hy
  gi_wp2
  exact bodyPost_end (v := .tuple #[]) (by simp [results, Tryz.results69]) rfl ⟨rfl, _, h4.out⟩
end Go.Proofs.YtdfadiicjkenfabGreatDoor

/- The loop over the cycles: what a call on a processor answers when its work is done. -/
namespace Go.Proofs.YtdfadiicjkenfabGreatDoor
open Go.ChangeShapes Go.WideShapes Go.ChangeAt Go.RowKit Go.Shelf
attribute [local go_sem] Oper.semAt_some
set_option linter.unusedVariables false
set_option linter.unusedSimpArgs false

abbrev ansAs : Code := .region 3 #[({ dst := some 9, op := Op.alloc 42, type := 0, pos := "l06_cpu.go:83", after := #[], guard := none } : Oper), ({ dst := none, op := Op.store 42 (Operand.tmp 9) (Operand.tmp 13), type := 0, pos := "l06_cpu.go:83", after := #[{ on := 0, ground := Ground.data }, { on := 0, ground := Ground.phase }], guard := none } : Oper)] false
abbrev ansBd : Code := .block 1 (.region 4 #[({ dst := some 14, op := Op.load 33 (Operand.tmp 8), type := 33, pos := "l06_cpu.go:84", after := #[], guard := none } : Oper), ({ dst := some 15, op := Op.load 42 (Operand.tmp 9), type := 42, pos := "l06_cpu.go:84", after := #[], guard := none } : Oper), ({ dst := some 16, op := Op.buildSlice 33 1 #[(0, Operand.tmp 15)], type := 33, pos := "l06_cpu.go:84", after := #[{ on := 1, ground := Ground.data }], guard := none } : Oper), ({ dst := some 17, op := Op.call { callee := Callee.builtin Builtin.append, args := #[Operand.tmp 14, Operand.tmp 16], argTypes := #[33, 33] }, type := 33, pos := "l06_cpu.go:84", after := #[{ on := 0, ground := Ground.data }, { on := 2, ground := Ground.data }], guard := none } : Oper), ({ dst := none, op := Op.store 33 (Operand.tmp 8) (Operand.tmp 17), type := 0, pos := "l06_cpu.go:84", after := #[{ on := 3, ground := Ground.data }, { on := 3, ground := Ground.chain }, { on := 0, ground := Ground.phase }, { on := 1, ground := Ground.phase }, { on := 2, ground := Ground.phase }, { on := 3, ground := Ground.phase }], guard := none } : Oper)] false)
/-- the frame in which the loop is entered -/
abbrev ansT (t0 t1 t2 t3 t4 t5 t6 t7 t10 t11 t12 : Value) (O : Nat) (t9 t13 : Value) : Array Value :=
  #[t0, t1, t2, t3, t4, t5, t6, t7, .pointer (some ⟨O, 0, none⟩), t9, t10, t11, t12, t13, undef, undef, undef, undef, undef, undef, undef, undef, undef, undef, undef, undef, undef, undef, undef, undef]
set_option maxRecDepth 100000 in
set_option maxHeartbeats 1000000 in
theorem yields_of (p : Par) (fn : FuncId) (t0 t1 t2 t3 t4 t5 t6 t7 t10 t11 t12 t9 t13 : Value) (hR : p.R = { state := .ready, pending := none, fn := fn, tmps := ansT t0 t1 t2 t3 t4 t5 t6 t7 t10 t11 t12 p.O t9 t13, params := #[13], assign := ansAs, body := ansBd, defers := p.D }) : Yields p := by
  intro m z W x cv k a v h hl
  obtain ⟨i0, hi0, hz0, hz1, hz2⟩ := info_parts infoCy
  have hLp := h.loop
  have hLlt : p.L < W.heap.size := (Array.getElem?_eq_some_iff.1 hLp).1
  have hy := run_yield (P := Tryz.prog) (args := #[.agg #[.int .i64 (k : Int), .int .i64 (a : Int), .int .i64 (v : Int)]]) hLp (by rw [hR]; rfl)
  rw [hR] at hy
  have e : Array.foldl (fun (tmps : Array Value) (x : Tmp × Value) => match x with | (t, a) => tmps.setIfInBounds t a) (ansT t0 t1 t2 t3 t4 t5 t6 t7 t10 t11 t12 p.O t9 t13) ((#[13] : Array Tmp).zip #[Value.agg #[Value.int .i64 (k : Int), Value.int .i64 (a : Int), Value.int .i64 (v : Int)]]) = ansT t0 t1 t2 t3 t4 t5 t6 t7 t10 t11 t12 p.O t9 (.agg #[.int .i64 (k : Int), .int .i64 (a : Int), .int .i64 (v : Int)]) := by simp
  dsimp only at hy
  rw [e] at hy
  clear e
  refine ⟨fn, _, ansAs, ansBd, hy, roundIn_of_wpIn (F := Fence.wide) trivial ?_⟩
  clear hy
  -- the world in which the round begins
  obtain ⟨c3, hc3⟩ : ∃ c3 : Array Value, (#[.int .i64 (k : Int), .int .i64 (a : Int), .int .i64 (v : Int)] : Array Value) = c3 := ⟨_, rfl⟩
  have hOL := h.sep.apart.2.1.2.2.1
  have w1L : (W.alloc (.cells c3 42)).heap[p.L]? = some (.loop p.R) := (Below.heap_alloc _ _ _ hLlt).trans hLp
  have hbr := run_beginRound (P := Tryz.prog) w1L (by rw [hR])
  obtain ⟨Wb, hWb⟩ : ∃ Wb, (W.alloc (.cells c3 42)).putObj p.L (.loop { p.R with state := .busy }) = Wb := ⟨_, rfl⟩
  have hWbs : Wb.heap.size = W.heap.size + 1 := by rw [← hWb]; simp [World.putObj]
  have hWbk : ∀ b, b < W.heap.size → b ≠ p.L → Wb.heap[b]? = W.heap[b]? := fun b hb hne => by rw [← hWb, World.putObj_heap_other (by omega)]; exact Below.heap_alloc _ _ _ hb
  have hWbL : Wb.heap[p.L]? = some (.loop { p.R with state := .busy }) := by rw [← hWb]; exact World.putObj_heap_same (by simp; omega)
  have hWbn : Wb.heap[W.heap.size]? = some (.cells c3 42 (0, 0)) := by rw [← hWb, World.putObj_heap_other (by omega)]; exact heap_alloc_new W _
  have hWo : Wb.os = W.os ∧ Wb.tape = W.tape ∧ Wb.output = W.output := by rw [← hWb]; exact ⟨rfl, rfl, rfl⟩
  have own1 : Wb.ownsRow p.w.heap.size 42 3 cv x.cy.length (cyV x.cy) := by rw [← hWb]; exact ownsRow_putObj (h.own.alloc _) _ w1L rfl
  have box1 : Blk Wb p.O #[cv] := h.box.same (hWbk _ h.box.lt hOL)
  have cyc1 : Blk Wb W.heap.size c3 := ⟨_, hWbn⟩
  rw [hWb] at hbr
  have hbase := h.bel.size
  have hOlt := h.box.lt
  have hfin : Hid (∀ w2 v', w2.ownsRow p.w.heap.size 42 3 v' (x.cy.length + 1) (cyV x.cy ++ [.int .i64 (k : Int), .int .i64 (a : Int), .int .i64 (v : Int)]) → (Wb.alloc (.cells c3 42)).grownBy w2 cv.ownBlock → (v'.ownBlock = cv.ownBlock ∨ v'.ownBlock = some (Wb.alloc (.cells c3 42)).heap.size) →
      Blk w2 p.O #[cv] ∧ ∃ vv W', (Instr.endRound p.L none).run Tryz.prog (w2.setCell ⟨p.O, 0, none⟩ v') = .ok vv W' ∧ vv = .bool true ∧ CpSt p z W' (x.note k a v) v') := by
    intro w2 v' ho hg hat
    have own : ∀ b, b ∈ p.bs → cv.ownBlock ≠ some b := fun b hb e => (h.ne b e).1 hb
    obtain ⟨m1, m2, m3, m4, m5, m6⟩ := p.mem
    have hk2 : ∀ b, b < W.heap.size + 1 → cv.ownBlock ≠ some b → w2.heap[b]? = Wb.heap[b]? := fun b hb hne => (hg.block b (by rw [World.size_alloc, hWbs]; omega) (fun e => hne e.symm)).trans (Below.heap_alloc _ _ _ (by rw [hWbs]; exact hb))
    have hLw2 : w2.heap[p.L]? = some (.loop { p.R with state := .busy }) := (hk2 _ (by omega) (own _ m5)).trans hWbL
    have q2 : Blk w2 p.O #[cv] := box1.same (hk2 _ (by omega) (own _ m2))
    have hLs : (w2.setCell ⟨p.O, 0, none⟩ v').heap[p.L]? = some (.loop { p.R with state := .busy }) := (Below.heap_setCell _ _ _ _ (fun e => hOL e.symm)).trans hLw2
    have her := run_endRound (P := Tryz.prog) none hLs
    refine ⟨q2, _, _, her, rfl, ?_⟩
    have hgs := hg.size
    rw [World.size_alloc, hWbs] at hgs
    have hgO : v'.ownBlock ≠ some p.O := by
      rcases hat with e | e
      · rw [e]; exact own _ m2
      · rw [e, World.size_alloc, hWbs]; simp; omega
    have hgL : v'.ownBlock ≠ some p.L := by
      rcases hat with e | e
      · rw [e]; exact own _ m5
      · rw [e, World.size_alloc, hWbs]; simp; omega
    have hLlt2 : p.L < (w2.setCell ⟨p.O, 0, none⟩ v').heap.size := by rw [sizeSet]; omega
    refine h.round (v' := v') ?_ ?_ ?_ ?_ ?_ ?_ ?_ ?_ ?_
    · exact (hg.os.trans hWo.1)
    · exact (hg.tape.trans hWo.2.1)
    · exact (hg.output.trans hWo.2.2)
    · show W.heap.size ≤ ((w2.setCell ⟨p.O, 0, none⟩ v').putObj p.L _).heap.size
      rw [show ((w2.setCell ⟨p.O, 0, none⟩ v').putObj p.L _).heap.size = (w2.setCell ⟨p.O, 0, none⟩ v').heap.size by simp [World.putObj], sizeSet]
      omega
    · intro b hb hne hown hnL
      rw [World.putObj_heap_other (by omega), Below.heap_setCell _ _ _ _ hne, hk2 b (by omega) hown, hWbk b hb hnL]
    · rw [World.putObj_heap_same hLlt2]
      rw [hR]
      rfl
    · exact (q2.set 0 v').same (World.putObj_heap_other (by omega))
    · exact ownsRow_putObj (ho.kept (set_grown w2 p.O 0 v') (.inr hgO)) _ hLs rfl
    · rcases hat with e | e
      · exact .inl e
      · exact .inr ⟨_, e, by rw [World.size_alloc, hWbs]; omega⟩
  have b0 := box1.cell
  have bf := box1.frozen
  have bl := box1.lt
  have cc := cyc1.cell
  replace own1 := hid own1
  replace h := hid h
  replace hR := hid hR
  clear hLp w1L hWb hWbk hWbL hWbn hWo box1 cyc1
  have hcb : p.w.heap.size ≤ Wb.heap.size := by omega
  clear hWbs
  generalize x.cy.length = n at *
  generalize hXY : x.note k a v = xy at *
  clear hXY
  subst hc3
  have hbr2 := hid hbr
  clear hbr
  dsimp only [ansAs, ansBd, ansT]
  gi_wp2
  refine ⟨_, hbr2.out, ?_⟩
  gi_wp2_with (gi_at_builtin; refine wpListIn_append_own_at _ rfl _ _ 33 rfl p.w.heap.size 42 i0 _ 3 24 Tryz.underlying33 hi0 hz0 hz1 hz2 rfl (by omega) _ n (cyV x.cy) rfl (own1.out.alloc _) ⟨_, 0, none⟩ 1 1 [.int .i64 (k : Int), .int .i64 (a : Int), .int .i64 (v : Int)] rfl rfl (World.news_of_block (cs := #[.int .i64 (k : Int), .int .i64 (a : Int), .int .i64 (v : Int)]) (t := 42) (fr := (0, 0)) (heap_alloc_new _ _)) (by simp [Value.oneCell']) (by unfold maxLen; omega) (by omega) (by simp; omega) ?_; intro v' w2 ho hg hnil hat; obtain ⟨g9, c9, rfl⟩ := ownsRow_succ ho; obtain ⟨q2, vv, W9, hend, hvv, hC⟩ := hfin.out _ _ ho hg hat; have x2 := q2.cell; have f2 := q2.frozen; have z2 := q2.lt; replace hend := hid hend; replace hC := hid hC; replace hvv := hid hvv; clear ho hg hat hnil q2 hfin own1 b0 bf)
  exact ⟨vv, W9, hend.out, by rw [hvv.out], _, hC.out⟩
end Go.Proofs.YtdfadiicjkenfabGreatDoor
