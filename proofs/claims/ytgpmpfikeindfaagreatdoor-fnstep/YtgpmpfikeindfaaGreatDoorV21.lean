/- A cycle is told: the closure calls yield, and the round of the loop keeps it. -/
import Derived.Test.YtgpmpfikeindfaaGreatDoorV20
import Derived.Test.YtgpmpfikeindfaaGreatDoorV09
import Derived.RangeFuncBox
import Derived.RangeFuncCalls
import Derived.RangeFuncLeaves
import Derived.Shelf.Abstract
import Derived.Shelf.RegionOpen
import Derived.OwnWalkIn
import Derived.TacticsInMore
import Derived.Maps.OwnIn
import Derived.KernelRfl
import Derived.Laws.EntriesVeiled
import Derived.Test.YtgpmpfikeindfaaGreatDoorV11
import Derived.BigRegion
namespace Go.Proofs.YtgpmpfikeindfaaGreatDoor
open Go.ChangeShapes Go.WideShapes Go.ChangeAt Go.RowKit Go.Shelf
attribute [local go_sem] Oper.semAt_some
set_option linter.unusedVariables false
set_option linter.unusedSimpArgs false

/-- whether anybody listens is said anew -/
theorem CpSt.listen {p : Par} {z : Kps} {W : World} {x : Mx} {cv : Value} (h : CpSt p z W x cv) : CpSt p z (W.setCell ⟨p.I, 0, none⟩ (.bool true)) x cv := by
  have hg := set_grown W p.I 0 (.bool true)
  have k : ∀ b, b ≠ p.I → (W.setCell ⟨p.I, 0, none⟩ (.bool true)).heap[b]? = W.heap[b]? := fun b hne => Below.heap_setCell _ _ _ _ hne
  obtain ⟨⟨a1, a2, a3, a4, a5⟩, ⟨b1, b2, b3, b4⟩, ⟨c1, c2, c3⟩, _⟩ := h.sep.apart
  obtain ⟨m1, m2, m3, m4, m5, m6⟩ := p.mem
  have q : Blk (W.setCell ⟨p.I, 0, none⟩ (.bool true)) p.I #[.bool true] := h.lis.set 0 (.bool true)
  exact ⟨h.sep, h.blk.same (k _ a2), h.brd.kept (fun b hh => k b (fun e => h.sep.nb _ m3 (e ▸ hh))), by rw [sizeSet]; exact h.hil, h.box.same (k _ b1), h.own.kept hg (.inr (fun e => (h.ne _ e).1 m3)), q, h.yld.same (k _ c1.symm), (k _ c2.symm).trans h.loop, (k _ c3.symm).trans h.dfr, h.bel.setCell (p := ⟨p.I, 0, none⟩) (h.sep.far _ m3) _, h.ne, fun b A hm => ⟨(h.keep b A hm).1.same (k b (fun e => (h.keep b A hm).2.1 (e ▸ m3))), (h.keep b A hm).2⟩⟩
/-- a round has been gone through: the list is longer, the loop's record as it was -/
theorem CpSt.round {p : Par} {z : Kps} {W W' : World} {x : Mx} {cv v' : Value} {kd a v : Nat} (h : CpSt p z W x cv) (e1 : W'.os = W.os) (e2 : W'.tape = W.tape) (e3 : W'.output = W.output) (hs : W.heap.size ≤ W'.heap.size)
    (hk : ∀ b, b < W.heap.size → b ≠ p.O → cv.ownBlock ≠ some b → b ≠ p.L → W'.heap[b]? = W.heap[b]?) (hL : W'.heap[p.L]? = some (.loop p.R)) (hO : Blk W' p.O #[v'])
    (ho : W'.ownsRow p.w.heap.size 42 3 v' (x.cy.length + 1) (cyV x.cy ++ [.int .i64 (kd : Int), .int .i64 (a : Int), .int .i64 (v : Int)])) (hg : v'.ownBlock = cv.ownBlock ∨ ∃ g, v'.ownBlock = some g ∧ W.heap.size ≤ g) : CpSt p z W' (x.note kd a v) v' := by
  obtain ⟨⟨a1, a2, a3, a4, a5⟩, ⟨b1, b2, b3, b4⟩, ⟨c1, c2, c3⟩, ⟨d1, d2⟩, f1⟩ := h.sep.apart
  obtain ⟨m1, m2, m3, m4, m5, m6⟩ := p.mem
  have own : ∀ b, b ∈ p.bs ∨ brdB p.lo p.hi p.B p.Q b → cv.ownBlock ≠ some b := fun b hb e => by
    rcases hb with hb | hb
    · exact (h.ne b e).1 hb
    · exact (h.ne b e).2 hb
  have k : ∀ b, b ∈ p.bs ∨ brdB p.lo p.hi p.B p.Q b → b ≠ p.O → b ≠ p.L → W'.heap[b]? = W.heap[b]? := fun b hb h1 h2 => hk b (h.lt hb) h1 (own b hb) h2
  have kb : ∀ b, brdB p.lo p.hi p.B p.Q b → W'.heap[b]? = W.heap[b]? := fun b hb => k b (.inr hb) (fun e => h.sep.nb _ m2 (e ▸ hb)) (fun e => h.sep.nb _ m5 (e ▸ hb))
  refine ⟨h.sep, h.blk.same (k _ (.inl m1) a1 a4), h.brd.kept kb, Nat.le_trans h.hil hs, hO, ?_, h.lis.same (k _ (.inl m3) b1.symm c2), h.yld.same (k _ (.inl m4) b2.symm d1), hL, (k _ (.inl m6) b4.symm f1.symm).trans h.dfr, ?_, ?_, fun b A hm => ?_⟩
  · have : (x.note kd a v).cy = x.cy ++ [(kd, a, v)] := rfl
    rw [this, cyV_snoc, List.length_append]
    exact ho
  · refine h.bel.trans ⟨e1, e2, e3, hs, fun b hb => ?_⟩
    have hlt : b < W.heap.size := Nat.lt_of_lt_of_le hb h.bel.size
    refine hk b hlt (fun e => ?_) (fun e => ?_) (fun e => ?_)
    · have := h.sep.far _ m2; omega
    · have := (h.own.lt b e).1; omega
    · have := h.sep.far _ m5; omega
  · intro g e
    rcases hg with e' | ⟨g', e', hg'⟩
    · rw [e'] at e; exact h.ne g e
    · rw [e'] at e
      obtain rfl : g' = g := by simpa using e
      exact ⟨fun hh => by have := h.lt (.inl hh); omega, fun hh => by have := h.lt (.inr hh); omega⟩
  · obtain ⟨k1, k2, k3, k4⟩ := h.keep b A hm
    refine ⟨k1.same (hk b k1.lt (fun e => k2 (e ▸ m2)) k4 (fun e => k2 (e ▸ m5))), k2, k3, ?_⟩
    rcases hg with e' | ⟨g', e', hg'⟩
    · rw [e']; exact k4
    · rw [e']
      intro e
      obtain rfl : g' = b := by simpa using e
      have := k1.lt
      omega
/-- a round of the loop that keeps a cycle -/
def Yields (p : Par) : Prop := ∀ (m : Nat) (z : Kps) (W : World) (x : Mx) (cv : Value) (k a v : Nat), CpSt p z W x cv → x.cy.length ≤ 1000 →
  YieldAt Fence.wide m Tryz.prog p.L #[.agg #[.int .i64 (k : Int), .int .i64 (a : Int), .int .i64 (v : Int)]] W fun e W' => e = .returned (.bool true) ∧ ∃ cv', CpSt p z W' (x.note k a v) cv'
set_option maxRecDepth 100000 in
theorem tells_of (p : Par) (hY : Yields p) : Tells p := by
  intro z W x k a v ⟨cv, h⟩ hl
  obtain ⟨fn, tmps, assign, body, hy, hR⟩ := hY 2 z W x cv k a v h hl
  have i0 := h.lis.cell 0
  have v0 := h.yld.cell 0
  replace h := hid h
  replace hR := hid hR
  clear hY
  refine (callsIn_wide (n := 3)).1 (callsIn_of_wp Tryz.func63 rfl trivial ?_ rfl)
  simp only [Tryz.ntmps63, List.size_toArray, List.length_cons, List.length_nil, Nat.reduceAdd, Nat.reduceSub, Array.replicate_succ, Array.replicate_zero, List.push_toArray, List.append_toArray, List.nil_append, List.cons_append]
  gi_wp2
  refine hR.out.mono ?_
  rintro e W3 ⟨rfl, cv', h3⟩
  have i3 := h3.lis.cell
  have f3 := h3.lis.frozen
  have l3 := h3.lis.lt
  have h4 := hid h3.listen
  clear h3 i0 v0 h hy
  gi_wp2
  exact bodyPost_end (v := .tuple #[]) (by simp [results, Tryz.results63]) rfl ⟨rfl, _, h4.out⟩
end Go.Proofs.YtgpmpfikeindfaaGreatDoor

/- The loop over the cycles: what a call on a processor answers when its work is done. -/
namespace Go.Proofs.YtgpmpfikeindfaaGreatDoor
open Go.ChangeShapes Go.WideShapes Go.ChangeAt Go.RowKit Go.Shelf
attribute [local go_sem] Oper.semAt_some
set_option linter.unusedVariables false
set_option linter.unusedSimpArgs false

abbrev ansAs : Code := .region 3 #[({ dst := some 9, op := Op.alloc 42, type := 0, pos := "l06_cpu.go:83", after := #[], guard := none } : Oper), ({ dst := none, op := Op.store 42 (Operand.tmp 9) (Operand.tmp 13), type := 0, pos := "l06_cpu.go:83", after := #[{ on := 0, ground := Ground.data }, { on := 0, ground := Ground.phase }], guard := none } : Oper)] false
abbrev ansBd : Code := .block 1 (.region 4 #[({ dst := some 14, op := Op.load 33 (Operand.tmp 8), type := 33, pos := "l06_cpu.go:84", after := #[], guard := none } : Oper), ({ dst := some 15, op := Op.load 42 (Operand.tmp 9), type := 42, pos := "l06_cpu.go:84", after := #[], guard := none } : Oper), ({ dst := some 16, op := Op.buildSlice 33 1 #[(0, Operand.tmp 15)], type := 33, pos := "l06_cpu.go:84", after := #[{ on := 1, ground := Ground.data }], guard := none } : Oper), ({ dst := some 17, op := Op.call { callee := Callee.builtin Builtin.append, args := #[Operand.tmp 14, Operand.tmp 16], argTypes := #[33, 33] }, type := 33, pos := "l06_cpu.go:84", after := #[{ on := 0, ground := Ground.data }, { on := 2, ground := Ground.data }], guard := none } : Oper), ({ dst := none, op := Op.store 33 (Operand.tmp 8) (Operand.tmp 17), type := 0, pos := "l06_cpu.go:84", after := #[{ on := 3, ground := Ground.data }, { on := 3, ground := Ground.chain }, { on := 0, ground := Ground.phase }, { on := 1, ground := Ground.phase }, { on := 2, ground := Ground.phase }, { on := 3, ground := Ground.phase }], guard := none } : Oper)] false)
/-- the frame in which the loop is entered -/
abbrev ansT (t0 t1 t2 t3 t4 t5 t6 t7 t10 t11 t12 : Value) (O : Nat) (t9 t13 : Value) : Array Value :=
  #[t0, t1, t2, t3, t4, t5, t6, t7, .pointer (some ⟨O, 0, none⟩), t9, t10, t11, t12, t13, undef, undef, undef, undef, undef, undef, undef, undef, undef, undef, undef, undef, undef, undef, undef, undef]
set_option maxRecDepth 100000 in
set_option maxHeartbeats 1000000 in
theorem yields_of (p : Par) (fn : FuncId) (t0 t1 t2 t3 t4 t5 t6 t7 t10 t11 t12 t9 t13 : Value) (hR : p.R = { state := .ready, pending := none, fn := fn, tmps := ansT t0 t1 t2 t3 t4 t5 t6 t7 t10 t11 t12 p.O t9 t13, params := #[13], assign := ansAs, body := ansBd, defers := p.D }) : Yields p := by
  intro m z W x cv k a v h hl
  obtain ⟨i0, hi0, hz0, hz1, hz2⟩ := info_parts infoCy
  have hLp := h.loop
  have hLlt : p.L < W.heap.size := (Array.getElem?_eq_some_iff.1 hLp).1
  have hy := run_yield (P := Tryz.prog) (args := #[.agg #[.int .i64 (k : Int), .int .i64 (a : Int), .int .i64 (v : Int)]]) hLp (by rw [hR]; rfl)
  rw [hR] at hy
  have e : Array.foldl (fun (tmps : Array Value) (x : Tmp × Value) => match x with | (t, a) => tmps.setIfInBounds t a) (ansT t0 t1 t2 t3 t4 t5 t6 t7 t10 t11 t12 p.O t9 t13) ((#[13] : Array Tmp).zip #[Value.agg #[Value.int .i64 (k : Int), Value.int .i64 (a : Int), Value.int .i64 (v : Int)]]) = ansT t0 t1 t2 t3 t4 t5 t6 t7 t10 t11 t12 p.O t9 (.agg #[.int .i64 (k : Int), .int .i64 (a : Int), .int .i64 (v : Int)]) := by simp
  dsimp only at hy
  rw [e] at hy
  clear e
  refine ⟨fn, _, ansAs, ansBd, hy, roundIn_of_wpIn (F := Fence.wide) trivial ?_⟩
  clear hy
  -- the world in which the round begins
  obtain ⟨c3, hc3⟩ : ∃ c3 : Array Value, (#[.int .i64 (k : Int), .int .i64 (a : Int), .int .i64 (v : Int)] : Array Value) = c3 := ⟨_, rfl⟩
  have hOL := h.sep.apart.2.1.2.2.1
  have w1L : (W.alloc (.cells c3 42)).heap[p.L]? = some (.loop p.R) := (Below.heap_alloc _ _ _ hLlt).trans hLp
  have hbr := run_beginRound (P := Tryz.prog) w1L (by rw [hR])
  obtain ⟨Wb, hWb⟩ : ∃ Wb, (W.alloc (.cells c3 42)).putObj p.L (.loop { p.R with state := .busy }) = Wb := ⟨_, rfl⟩
  have hWbs : Wb.heap.size = W.heap.size + 1 := by rw [← hWb]; simp [World.putObj]
  have hWbk : ∀ b, b < W.heap.size → b ≠ p.L → Wb.heap[b]? = W.heap[b]? := fun b hb hne => by rw [← hWb, World.putObj_heap_other (by omega)]; exact Below.heap_alloc _ _ _ hb
  have hWbL : Wb.heap[p.L]? = some (.loop { p.R with state := .busy }) := by rw [← hWb]; exact World.putObj_heap_same (by simp; omega)
  have hWbn : Wb.heap[W.heap.size]? = some (.cells c3 42 (0, 0)) := by rw [← hWb, World.putObj_heap_other (by omega)]; exact heap_alloc_new W _
  have hWo : Wb.os = W.os ∧ Wb.tape = W.tape ∧ Wb.output = W.output := by rw [← hWb]; exact ⟨rfl, rfl, rfl⟩
  have own1 : Wb.ownsRow p.w.heap.size 42 3 cv x.cy.length (cyV x.cy) := by rw [← hWb]; exact ownsRow_putObj (h.own.alloc _) _ w1L rfl
  have box1 : Blk Wb p.O #[cv] := h.box.same (hWbk _ h.box.lt hOL)
  have cyc1 : Blk Wb W.heap.size c3 := ⟨_, hWbn⟩
  rw [hWb] at hbr
  have hbase := h.bel.size
  have hOlt := h.box.lt
  have hfin : Hid (∀ w2 v', w2.ownsRow p.w.heap.size 42 3 v' (x.cy.length + 1) (cyV x.cy ++ [.int .i64 (k : Int), .int .i64 (a : Int), .int .i64 (v : Int)]) → (Wb.alloc (.cells c3 42)).grownBy w2 cv.ownBlock → (v'.ownBlock = cv.ownBlock ∨ v'.ownBlock = some (Wb.alloc (.cells c3 42)).heap.size) →
      Blk w2 p.O #[cv] ∧ ∃ vv W', (Instr.endRound p.L none).run Tryz.prog (w2.setCell ⟨p.O, 0, none⟩ v') = .ok vv W' ∧ vv = .bool true ∧ CpSt p z W' (x.note k a v) v') := by
    intro w2 v' ho hg hat
    have own : ∀ b, b ∈ p.bs → cv.ownBlock ≠ some b := fun b hb e => (h.ne b e).1 hb
    obtain ⟨m1, m2, m3, m4, m5, m6⟩ := p.mem
    have hk2 : ∀ b, b < W.heap.size + 1 → cv.ownBlock ≠ some b → w2.heap[b]? = Wb.heap[b]? := fun b hb hne => (hg.block b (by rw [World.size_alloc, hWbs]; omega) (fun e => hne e.symm)).trans (Below.heap_alloc _ _ _ (by rw [hWbs]; exact hb))
    have hLw2 : w2.heap[p.L]? = some (.loop { p.R with state := .busy }) := (hk2 _ (by omega) (own _ m5)).trans hWbL
    have q2 : Blk w2 p.O #[cv] := box1.same (hk2 _ (by omega) (own _ m2))
    have hLs : (w2.setCell ⟨p.O, 0, none⟩ v').heap[p.L]? = some (.loop { p.R with state := .busy }) := (Below.heap_setCell _ _ _ _ (fun e => hOL e.symm)).trans hLw2
    have her := run_endRound (P := Tryz.prog) none hLs
    refine ⟨q2, _, _, her, rfl, ?_⟩
    have hgs := hg.size
    rw [World.size_alloc, hWbs] at hgs
    have hgO : v'.ownBlock ≠ some p.O := by
      rcases hat with e | e
      · rw [e]; exact own _ m2
      · rw [e, World.size_alloc, hWbs]; simp; omega
    have hgL : v'.ownBlock ≠ some p.L := by
      rcases hat with e | e
      · rw [e]; exact own _ m5
      · rw [e, World.size_alloc, hWbs]; simp; omega
    have hLlt2 : p.L < (w2.setCell ⟨p.O, 0, none⟩ v').heap.size := by rw [sizeSet]; omega
    refine h.round (v' := v') ?_ ?_ ?_ ?_ ?_ ?_ ?_ ?_ ?_
    · exact (hg.os.trans hWo.1)
    · exact (hg.tape.trans hWo.2.1)
    · exact (hg.output.trans hWo.2.2)
    · show W.heap.size ≤ ((w2.setCell ⟨p.O, 0, none⟩ v').putObj p.L _).heap.size
      rw [show ((w2.setCell ⟨p.O, 0, none⟩ v').putObj p.L _).heap.size = (w2.setCell ⟨p.O, 0, none⟩ v').heap.size by simp [World.putObj], sizeSet]
      omega
    · intro b hb hne hown hnL
      rw [World.putObj_heap_other (by omega), Below.heap_setCell _ _ _ _ hne, hk2 b (by omega) hown, hWbk b hb hnL]
    · rw [World.putObj_heap_same hLlt2]
      rw [hR]
      rfl
    · exact (q2.set 0 v').same (World.putObj_heap_other (by omega))
    · exact ownsRow_putObj (ho.kept (set_grown w2 p.O 0 v') (.inr hgO)) _ hLs rfl
    · rcases hat with e | e
      · exact .inl e
      · exact .inr ⟨_, e, by rw [World.size_alloc, hWbs]; omega⟩
  have b0 := box1.cell
  have bf := box1.frozen
  have bl := box1.lt
  have cc := cyc1.cell
  replace own1 := hid own1
  replace h := hid h
  replace hR := hid hR
  clear hLp w1L hWb hWbk hWbL hWbn hWo box1 cyc1
  have hcb : p.w.heap.size ≤ Wb.heap.size := by omega
  clear hWbs
  generalize x.cy.length = n at *
  generalize hXY : x.note k a v = xy at *
  clear hXY
  subst hc3
  have hbr2 := hid hbr
  clear hbr
  dsimp only [ansAs, ansBd, ansT]
  gi_wp2
  refine ⟨_, hbr2.out, ?_⟩
  gi_wp2_with (gi_at_builtin; refine wpListIn_append_own_at _ rfl _ _ 33 rfl p.w.heap.size 42 i0 _ 3 24 Tryz.underlying33 hi0 hz0 hz1 hz2 rfl (by omega) _ n (cyV x.cy) rfl (own1.out.alloc _) ⟨_, 0, none⟩ 1 1 [.int .i64 (k : Int), .int .i64 (a : Int), .int .i64 (v : Int)] rfl rfl (World.news_of_block (cs := #[.int .i64 (k : Int), .int .i64 (a : Int), .int .i64 (v : Int)]) (t := 42) (fr := (0, 0)) (heap_alloc_new _ _)) (by simp [Value.oneCell']) (by unfold maxLen; omega) (by omega) (by simp; omega) ?_; intro v' w2 ho hg hnil hat; obtain ⟨g9, c9, rfl⟩ := ownsRow_succ ho; obtain ⟨q2, vv, W9, hend, hvv, hC⟩ := hfin.out _ _ ho hg hat; have x2 := q2.cell; have f2 := q2.frozen; have z2 := q2.lt; replace hend := hid hend; replace hC := hid hC; replace hvv := hid hvv; clear ho hg hat hnil q2 hfin own1 b0 bf)
  exact ⟨vv, W9, hend.out, by rw [hvv.out], _, hC.out⟩
end Go.Proofs.YtgpmpfikeindfaaGreatDoor

/- The iterator over the cycles: it makes what tells them, and does the work. -/
namespace Go.Proofs.YtgpmpfikeindfaaGreatDoor
open Go.ChangeShapes Go.WideShapes Go.ChangeAt Go.RowKit Go.Shelf
set_option linter.unusedVariables false
set_option linter.unusedSimpArgs false

theorem cp_start {p : Par} {z : Kps} {W : World} {c : Cp} {M : Mem} (hs : Sep p) (blk : Blk W p.Y (proA c p.B p.n p.I p.V)) (brd : Brd W p.lo p.hi p.B p.r p.s p.G p.Q M) (hil : p.hi ≤ W.heap.size) (box : Blk W p.O #[.slice none 0 0]) (lis : Blk W p.I #[.bool true]) (yld : Blk W p.V #[.func (.yield p.L) #[] #[]])
    (loop : W.heap[p.L]? = some (.loop p.R)) (dfr : W.heap[p.D]? = some (.deferred (some []))) (bel : Below p.w.heap.size p.w W) (hz : ∀ b A, (b, A) ∈ z → Blk W b A ∧ b ∉ p.bs ∧ ¬ brdB p.lo p.hi p.B p.Q b) : At p z W ⟨c, M, []⟩ :=
  ⟨.slice none 0 0, hs, blk, brd, hil, box, World.ownsRow_nil W p.w.heap.size 42 3, lis, yld, loop, dfr, bel, fun g e => by simp [Value.ownBlock] at e, fun b A hm => ⟨(hz b A hm).1, (hz b A hm).2.1, (hz b A hm).2.2, by simp [Value.ownBlock]⟩⟩
theorem cycles_impl (Y : Nat) (wv : Value) (w : World) (hv : ∃ f cap, wv = .func f cap #[]) : Calls Tryz.prog 41 #[.pointer (some ⟨Y, 0, none⟩), wv] w fun e w' => e = .returned (.func (.func 62) #[] #[.pointer (some ⟨w.heap.size, 0, none⟩), .pointer (some ⟨w.heap.size + 1, 0, none⟩)]) ∧ w' = (w.alloc (.cells #[.pointer (some ⟨Y, 0, none⟩)] 53)).alloc (.cells #[wv] 1) := by
  obtain ⟨f, cap, rfl⟩ := hv
  go_enter Tryz.func41, Tryz.ntmps41
  go_wp2
  go_ret
  exact ⟨rfl, rfl⟩
set_option maxRecDepth 100000 in
theorem clo_impl (p : Par) (z : Kps) (wf : FuncId) (bp bw : Nat) (W : World) (c : Cp) (M : Mem) (X : Mx) (en : ∀ args w, (callFunc wf args).run Tryz.prog w = .ok (.enter wf args) w)
    (hV : p.V = W.heap.size) (hI : p.I = W.heap.size + 1) (hs : Sep p) (blk : Blk W p.Y (proT c p.B p.n .nilFunc)) (brd : Brd W p.lo p.hi p.B p.r p.s p.G p.Q M) (box : Blk W p.O #[.slice none 0 0])
    (loop : W.heap[p.L]? = some (.loop p.R)) (dfr : W.heap[p.D]? = some (.deferred (some []))) (bel : Below p.w.heap.size p.w W) (qp : Blk W bp #[.pointer (some ⟨p.Y, 0, none⟩)]) (qw : Blk W bw #[.func (.func wf) #[.pointer (some ⟨p.Y, 0, none⟩)] #[]]) (hbY : bw ≠ p.Y) (hz : ∀ b A, (b, A) ∈ z → Blk W b A ∧ b ∉ p.bs ∧ ¬ brdB p.lo p.hi p.B p.Q b)
    (hw : ∀ W2, At p z W2 ⟨c, M, []⟩ → Calls Tryz.prog wf #[.pointer (some ⟨p.Y, 0, none⟩)] W2 fun e W' => e = .returned (.tuple #[]) ∧ At p z W' X) :
    Calls Tryz.prog 62 #[.func (.yield p.L) #[] #[], .pointer (some ⟨bp, 0, none⟩), .pointer (some ⟨bw, 0, none⟩)] W fun e W' => e = .returned (.tuple #[]) ∧ At p z W' X := by
  obtain ⟨W2, hW2⟩ : ∃ W2, (W.alloc (.cells #[.func (.yield p.L) #[] #[]] 107)).alloc (.cells #[.bool true] 4) = W2 := ⟨_, rfl⟩
  have hb : Below W.heap.size W W2 := by rw [← hW2]; exact ((Below.refl _ _).alloc (Nat.le_refl _) _).alloc (by simp) _
  have yv : Blk W2 p.V #[.func (.yield p.L) #[] #[]] := by rw [← hW2, hV]; exact (Blk.new W _ _).alloc _
  have li : Blk W2 p.I #[.bool true] := by
    have := Blk.new (W.alloc (.cells #[.func (.yield p.L) #[] #[]] 107)) #[.bool true] 4
    rw [World.size_alloc] at this
    rw [← hW2, hI]
    exact this
  have hhi : p.hi ≤ W.heap.size := Nat.le_trans brd.ord.1 (Nat.le_of_lt brd.blk.lt)
  have k : ∀ b, b < W.heap.size → b ≠ p.Y → (W2.setCell ⟨p.Y, 16, none⟩ (telV p.I p.V)).heap[b]? = W.heap[b]? := fun b hlt hne => (Below.heap_setCell _ _ _ _ hne).trans (hb.block b hlt)
  obtain ⟨⟨a1, a2, a3, a4, a5⟩, _⟩ := hs.apart
  obtain ⟨m1, m2, m3, m4, m5, m6⟩ := p.mem
  have bl2 := blk.below hb blk.lt
  have x2 := bl2.cell
  have f2 := bl2.frozen
  have l2 := bl2.lt
  have p2 := (qp.below hb qp.lt).cell
  have w3 := (qw.same (k _ qw.lt hbY)).cell
  have hS : Hid (At p z (W2.setCell ⟨p.Y, 16, none⟩ (telV p.I p.V)) ⟨c, M, []⟩) := by
    refine cp_start hs (bl2.set 16 _) (brd.kept (fun b hh => k b (brd.lt hhi hh) (fun e => hs.nb _ m1 (e ▸ hh)))) (by rw [sizeSet]; exact Nat.le_trans hhi hb.size) (box.same (k _ box.lt a1.symm)) (li.other (fun e => a2 e.symm) _) (yv.other (fun e => a3 e.symm) _) ?_ ?_ ?_ ?_
    · exact (k _ (Array.getElem?_eq_some_iff.1 loop).1 a4.symm).trans loop
    · exact (k _ (Array.getElem?_eq_some_iff.1 dfr).1 a5.symm).trans dfr
    · exact (bel.trans (hb.mono bel.size)).setCell (p := ⟨p.Y, 16, none⟩) (hs.far _ m1) _
    · intro b A hm
      obtain ⟨k1, k2, k3⟩ := hz b A hm
      exact ⟨k1.same (k b k1.lt (fun e => k2 (e ▸ m1))), k2, k3⟩
  replace hw := hid hw
  rw [← hV] at hI
  have hWs : W.heap.size = p.V := hV.symm
  have hVs : p.V + 1 = p.I := hI.symm
  clear hz hb yv li k bl2 hs blk brd box loop dfr bel qp qw hV hI hhi
  go_enter Tryz.func62, Tryz.ntmps62
  go_upto_region 3 with fail
  obtain ⟨W3, hW3⟩ : ∃ W3, W2.setCell ⟨p.Y, 16, none⟩ (telV p.I p.V) = W3 := ⟨_, rfl⟩
  rw [hW3] at hS w3 ⊢
  clear hW3 x2 f2 l2 p2 hW2
  go_wp2_with fail
  refine (hw.out _ hS.out).mono ?_
  rintro e w4 ⟨rfl, h4⟩
  replace h4 := hid h4
  clear hS w3 hw
  go_wp2
  exact bodyPost_end (v := .tuple #[]) (by simp [results, Tryz.results62]) rfl ⟨rfl, h4.out⟩
end Go.Proofs.YtgpmpfikeindfaaGreatDoor

/- The statement by which a call on a processor returns. -/
namespace Go.Proofs.YtgpmpfikeindfaaGreatDoor
open Go.ChangeShapes Go.WideShapes Go.ChangeAt Go.RowKit
set_option linter.unusedVariables false
set_option linter.unusedSimpArgs false

set_option maxRecDepth 100000 in
set_option maxHeartbeats 2000000 in
/-- the statement that returns -/
theorem ans_ret (Y B O C4 C5 n I V : Nat) (u1 u2 w5 w6 w7 w8 : Value) (X : Mx) (a3 : Option Addr) (n3 c3 : Nat) (T1 T12 : Value) (W : World) (df : List Deferred) (Q : Exit → Act → World → Prop)
    (hu1 : ∃ a b c, u1 = .slice a b c) (hu2 : ∃ a b c, u2 = .slice a b c) (n1 : Y ≠ C4) (n2 : Y ≠ C5) (n3' : B ≠ C4) (n4 : B ≠ C5) (n5 : O ≠ C4) (n6 : O ≠ C5) (n7 : C4 ≠ C5)
    (x1 : ∀ i, W.cell? ⟨Y, i, none⟩ = (proA X.c B n I V)[i]?) (x2 : ∀ i, W.cell? ⟨B, i, none⟩ = (#[u1, u2, .int .i64 X.m.page, .int .i64 X.m.screen, .bool X.m.locked, w5, w6, w7, w8] : Array Value)[i]?) (x3 : ∀ i, W.cell? ⟨O, i, none⟩ = (#[.slice a3 n3 c3] : Array Value)[i]?)
    (x4 : ∀ i, W.cell? ⟨C4, i, none⟩ = zC[i]?) (f4 : ∀ i, W.frozen? ⟨C4, i, none⟩ = false) (l4 : C4 < W.heap.size) (x5 : ∀ i, W.cell? ⟨C5, i, none⟩ = zM[i]?) (f5 : ∀ i, W.frozen? ⟨C5, i, none⟩ = false) (l5 : C5 < W.heap.size)
    (h : ∀ tm : Array Value, tm[4]? = some (.pointer (some ⟨C4, 0, none⟩)) → tm[5]? = some (.pointer (some ⟨C5, 0, none⟩)) → tm[6]? = some (.slice a3 n3 c3) → tm[7]? = some (.int .i64 0) → Q .normal { tmps := tm, defers := df } (((((((((((((((((((W.setCell ⟨C4, 0, none⟩ (.int .i64 (X.c.b : Int))).setCell ⟨C4, 1, none⟩ (.int .i64 (X.c.c : Int))).setCell ⟨C4, 2, none⟩ (.int .i64 (X.c.d : Int))).setCell ⟨C4, 3, none⟩ (.int .i64 (X.c.e : Int))).setCell ⟨C4, 4, none⟩ (.int .i64 (X.c.h : Int))).setCell ⟨C4, 5, none⟩ (.int .i64 (X.c.l : Int))).setCell ⟨C4, 6, none⟩ (.int .i64 0)).setCell ⟨C4, 7, none⟩ (.int .i64 (X.c.a : Int))).setCell ⟨C4, 8, none⟩ (.int .i64 (X.c.f : Int))).setCell ⟨C4, 9, none⟩ (.int .i64 (X.c.sp : Int))).setCell ⟨C4, 10, none⟩ (.int .i64 (X.c.pc : Int))).setCell ⟨C4, 11, none⟩ (.bool X.c.iff)).setCell ⟨C4, 12, none⟩ (.bool X.c.ei)).setCell ⟨C4, 13, none⟩ (.bool X.c.halt)).setCell ⟨C5, 0, none⟩ (u1)).setCell ⟨C5, 1, none⟩ (u2)).setCell ⟨C5, 2, none⟩ (.int .i64 X.m.page)).setCell ⟨C5, 3, none⟩ (.int .i64 X.m.screen)).setCell ⟨C5, 4, none⟩ (.bool X.m.locked)).drew) :
    (Code.region 5 #[({ dst := some 18, op := Op.move (Operand.tmp 0), type := 53, pos := "l06_cpu.go:86", after := #[], guard := none } : Oper), ({ dst := some 19, op := Op.nilCheck (Operand.tmp 18), type := 0, pos := "l06_cpu.go:86", after := #[{ on := 0, ground := Ground.data }], guard := none } : Oper), ({ dst := some 20, op := Op.fieldAddr 86 (Operand.tmp 19) 0, type := 0, pos := "l06_cpu.go:86", after := #[{ on := 1, ground := Ground.data }], guard := none } : Oper), ({ dst := some 21, op := Op.load 25 (Operand.tmp 20), type := 25, pos := "l06_cpu.go:86", after := #[{ on := 2, ground := Ground.data }], guard := none } : Oper), ({ dst := some 22, op := Op.move (Operand.tmp 0), type := 53, pos := "l06_cpu.go:86", after := #[{ on := 12, ground := Ground.gcOnly Departure.lateStores }], guard := none } : Oper), ({ dst := some 23, op := Op.nilCheck (Operand.tmp 22), type := 0, pos := "l06_cpu.go:86", after := #[{ on := 4, ground := Ground.data }, { on := 12, ground := Ground.gcOnly Departure.lateStores }], guard := none } : Oper), ({ dst := some 24, op := Op.fieldAddr 86 (Operand.tmp 23) 1, type := 0, pos := "l06_cpu.go:86", after := #[{ on := 5, ground := Ground.data }, { on := 12, ground := Ground.gcOnly Departure.lateStores }], guard := none } : Oper), ({ dst := some 25, op := Op.load 72 (Operand.tmp 24), type := 72, pos := "l06_cpu.go:86", after := #[{ on := 6, ground := Ground.data }, { on := 12, ground := Ground.gcOnly Departure.lateStores }], guard := none } : Oper), ({ dst := some 26, op := Op.nilCheck (Operand.tmp 25), type := 0, pos := "l06_cpu.go:86", after := #[{ on := 7, ground := Ground.data }, { on := 12, ground := Ground.gcOnly Departure.lateStores }], guard := none } : Oper), ({ dst := some 27, op := Op.fieldAddr 78 (Operand.tmp 26) 0, type := 0, pos := "l06_cpu.go:86", after := #[{ on := 8, ground := Ground.data }, { on := 12, ground := Ground.gcOnly Departure.lateStores }], guard := none } : Oper), ({ dst := some 28, op := Op.load 30 (Operand.tmp 27), type := 30, pos := "l06_cpu.go:86", after := #[{ on := 9, ground := Ground.data }, { on := 12, ground := Ground.gcOnly Departure.lateStores }], guard := none } : Oper), ({ dst := some 29, op := Op.load 33 (Operand.tmp 8), type := 33, pos := "l06_cpu.go:86", after := #[{ on := 13, ground := Ground.gcOnly Departure.lateStores }], guard := none } : Oper), ({ dst := none, op := Op.store 25 (Operand.tmp 4) (Operand.tmp 21), type := 0, pos := "l06_cpu.go:86", after := #[{ on := 3, ground := Ground.data }, { on := 0, ground := Ground.phase }, { on := 1, ground := Ground.phase }, { on := 2, ground := Ground.phase }, { on := 3, ground := Ground.phase }, { on := 4, ground := Ground.textOnly Departure.lateStores }, { on := 5, ground := Ground.textOnly Departure.lateStores }, { on := 6, ground := Ground.textOnly Departure.lateStores }, { on := 7, ground := Ground.textOnly Departure.lateStores }, { on := 8, ground := Ground.textOnly Departure.lateStores }, { on := 9, ground := Ground.textOnly Departure.lateStores }, { on := 10, ground := Ground.textOnly Departure.lateStores }, { on := 11, ground := Ground.textOnly Departure.lateStores }], guard := none } : Oper), ({ dst := none, op := Op.store 30 (Operand.tmp 5) (Operand.tmp 28), type := 0, pos := "l06_cpu.go:86", after := #[{ on := 10, ground := Ground.data }, { on := 12, ground := Ground.chain }, { on := 0, ground := Ground.phase }, { on := 1, ground := Ground.phase }, { on := 2, ground := Ground.phase }, { on := 3, ground := Ground.phase }, { on := 4, ground := Ground.phase }, { on := 5, ground := Ground.phase }, { on := 6, ground := Ground.phase }, { on := 7, ground := Ground.phase }, { on := 8, ground := Ground.phase }, { on := 9, ground := Ground.phase }, { on := 10, ground := Ground.phase }, { on := 11, ground := Ground.textOnly Departure.lateStores }, { on := 12, ground := Ground.phase }], guard := none } : Oper), ({ dst := some 6, op := Op.assign (Operand.tmp 29), type := 33, pos := "l06_cpu.go:86", after := #[{ on := 11, ground := Ground.data }, { on := 13, ground := Ground.chain }, { on := 0, ground := Ground.phase }, { on := 1, ground := Ground.phase }, { on := 2, ground := Ground.phase }, { on := 3, ground := Ground.phase }, { on := 4, ground := Ground.phase }, { on := 5, ground := Ground.phase }, { on := 6, ground := Ground.phase }, { on := 7, ground := Ground.phase }, { on := 8, ground := Ground.phase }, { on := 9, ground := Ground.phase }, { on := 10, ground := Ground.phase }, { on := 11, ground := Ground.phase }, { on := 12, ground := Ground.phase }, { on := 13, ground := Ground.phase }], guard := none } : Oper), ({ dst := some 7, op := Op.assign (Operand.const (Value.int IntKind.i64 0)), type := 3, pos := "l06_cpu.go:86", after := #[{ on := 14, ground := Ground.chain }, { on := 0, ground := Ground.phase }, { on := 1, ground := Ground.phase }, { on := 2, ground := Ground.phase }, { on := 3, ground := Ground.phase }, { on := 4, ground := Ground.phase }, { on := 5, ground := Ground.phase }, { on := 6, ground := Ground.phase }, { on := 7, ground := Ground.phase }, { on := 8, ground := Ground.phase }, { on := 9, ground := Ground.phase }, { on := 10, ground := Ground.phase }, { on := 11, ground := Ground.phase }, { on := 12, ground := Ground.phase }, { on := 13, ground := Ground.phase }, { on := 14, ground := Ground.phase }], guard := none } : Oper)] true).wp Tryz.prog Q { tmps := #[.pointer (some ⟨Y, 0, none⟩), T1, undef, undef, .pointer (some ⟨C4, 0, none⟩), .pointer (some ⟨C5, 0, none⟩), .slice none 0 0, .int .i64 0, .pointer (some ⟨O, 0, none⟩), undef, .pointer (some ⟨Y, 0, none⟩), T1, T12, undef, undef, undef, undef, undef, undef, undef, undef, undef, undef, undef, undef, undef, undef, undef, undef, undef], defers := df } W := by
  obtain ⟨a, b, c, rfl⟩ := hu1
  obtain ⟨a', b', c', rfl⟩ := hu2
  replace h := hid h
  go_region
  exact h.out _ rfl rfl rfl rfl
end Go.Proofs.YtgpmpfikeindfaaGreatDoor
