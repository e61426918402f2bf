/- The loop over the blocks of a text: one round, whichever way it ends. -/
import Derived.Test.YtakdhmlegickmaaDoorZbw
import Derived.Test.YtakdhmlegickmaaDoorUgw
import Derived.RangeFuncBox
import Derived.RangeFuncCalls
import Derived.RangeFuncLeaves
import Derived.Shelf.Abstract
import Derived.Shelf.RegionOpen
import Derived.OwnWalkIn
import Derived.TacticsInMore
import Derived.Maps.OwnIn
import Derived.KernelRfl
namespace Go.Proofs.YtakdhmlegickmaaDoor
open Go.ChangeShapes Go.WideShapes Go.ChangeAt Go.RowKit Go.Shelf
attribute [local go_sem] Oper.semAt_some
set_option linter.unusedVariables false
set_option linter.unusedSimpArgs false

theorem blk_same {w w' : World} {b : Nat} {A : Array Value} (h : Blk w b A) (e : w'.heap[b]? = w.heap[b]?) : Blk w' b A := by
  obtain ⟨t, h⟩ := h
  exact ⟨t, e.trans h⟩
/-- the loop's own blocks: the answer's two cells, the list's box, the rounds' deferred calls, the record -/
structure Pk where
  w : World
  RL : Nat
  RE : Nat
  O : Nat
  DF : Nat
  L : Nat
  R : Loop
def Pk.bs (p : Pk) : List Nat := [p.RL, p.RE, p.O, p.DF, p.L]
structure Pk.Sep (p : Pk) : Prop where
  nd : p.bs.Nodup
  far : ∀ b, b ∈ p.bs → p.w.heap.size ≤ b
theorem Pk.Sep.apart {p : Pk} (h : p.Sep) : (p.RL ≠ p.RE ∧ p.RL ≠ p.O ∧ p.RL ≠ p.DF ∧ p.RL ≠ p.L) ∧ (p.RE ≠ p.O ∧ p.RE ≠ p.DF ∧ p.RE ≠ p.L) ∧ (p.O ≠ p.DF ∧ p.O ≠ p.L) ∧ p.DF ≠ p.L := by
  have := h.nd
  unfold Pk.bs at this
  simp only [List.nodup_cons, List.mem_cons, List.not_mem_nil, or_false, not_false_eq_true, List.nodup_nil, and_true, not_or] at this
  omega
theorem Pk.mem (p : Pk) : p.RL ∈ p.bs ∧ p.RE ∈ p.bs ∧ p.O ∈ p.bs ∧ p.DF ∈ p.bs ∧ p.L ∈ p.bs := by simp [Pk.bs]
/-- between two rounds -/
structure Ry (p : Pk) (W : World) (cv : Value) (acc : List (Int × ByteArray)) : Prop where
  sep : p.Sep
  rl : Blk W p.RL #[.slice none 0 0]
  re : Blk W p.RE #[.nilIface]
  o : Blk W p.O #[cv]
  df : W.heap[p.DF]? = some (.deferred (some []))
  lp : W.heap[p.L]? = some (.loop p.R)
  own : W.ownsRow p.w.heap.size 33 2 cv acc.length (bkL acc)
  ne : ∀ g, cv.ownBlock = some g → g ∉ p.bs
  bel : Below p.w.heap.size p.w W
/-- a round has left -/
structure Rx (p : Pk) (W : World) (E : Value) : Prop where
  rl : Blk W p.RL #[.slice none 0 0]
  re : Blk W p.RE #[E]
  df : W.heap[p.DF]? = some (.deferred (some []))
  lp : W.heap[p.L]? = some (.loop { p.R with state := .done, pending := some .ret })
  bel : Below p.w.heap.size p.w W
theorem Ry.below {p : Pk} {W W' : World} {cv : Value} {acc : List (Int × ByteArray)} (h : Ry p W cv acc) (hb : Below W.heap.size W W') : Ry p W' cv acc :=
  ⟨h.sep, h.rl.below hb h.rl.lt, h.re.below hb h.re.lt, h.o.below hb h.o.lt, (hb.block _ (Array.getElem?_eq_some_iff.1 h.df).1).trans h.df, (hb.block _ (Array.getElem?_eq_some_iff.1 h.lp).1).trans h.lp, own_belowU h.own hb, h.ne, h.bel.trans (hb.mono h.bel.size)⟩
abbrev lbAs : Code := Code.seq (.region 3 #[({ dst := some 5, op := Op.alloc 33, type := 0, pos := "l09_tap.go:93", after := #[], guard := none } : Oper), ({ dst := none, op := Op.store 33 (Operand.tmp 5) (Operand.tmp 8), type := 0, pos := "l09_tap.go:93", after := #[{ on := 0, ground := Ground.data }, { on := 0, ground := Ground.phase }], guard := none } : Oper)] false) (.region 4 #[({ dst := some 6, op := Op.assign (Operand.tmp 9), type := 60, pos := "l09_tap.go:93", after := #[], guard := none } : Oper)] false)
abbrev lbBd : Code := Code.block 1 (Code.seq (Code.seq (.region 5 #[({ dst := some 10, op := Op.move (Operand.tmp 6), type := 60, pos := "l09_tap.go:94", after := #[], guard := none } : Oper), ({ dst := some 11, op := Op.binOp BinOp.neq 60 (Operand.tmp 10) (Operand.const Value.nilIface) 60, type := 4, pos := "l09_tap.go:94", after := #[{ on := 0, ground := Ground.data }], guard := none } : Oper)] false) (.cond (.tmp 11) (Code.seq (.region 6 #[({ dst := some 12, op := Op.move (Operand.tmp 6), type := 60, pos := "l09_tap.go:95", after := #[{ on := 1, ground := Ground.gcOnly Departure.lateStores }], guard := none } : Oper), ({ dst := none, op := Op.store 23 (Operand.tmp 2) (Operand.const (Value.slice none 0 0)), type := 0, pos := "l09_tap.go:95", after := #[{ on := 0, ground := Ground.textOnly Departure.lateStores }], guard := none } : Oper), ({ dst := none, op := Op.store 60 (Operand.tmp 3) (Operand.tmp 12), type := 0, pos := "l09_tap.go:95", after := #[{ on := 0, ground := Ground.data }, { on := 1, ground := Ground.chain }, { on := 0, ground := Ground.phase }, { on := 1, ground := Ground.phase }], guard := none } : Oper)] false) .ret) .skip)) (Code.seq (Code.seq (.region 7 #[({ dst := some 13, op := Op.load 23 (Operand.tmp 4), type := 23, pos := "l09_tap.go:97", after := #[], guard := none } : Oper), ({ dst := some 14, op := Op.call { callee := Callee.builtin Builtin.len, args := #[Operand.tmp 13], argTypes := #[23] }, type := 3, pos := "l09_tap.go:97", after := #[{ on := 0, ground := Ground.data }], guard := none } : Oper), ({ dst := some 15, op := Op.binOp BinOp.eql 3 (Operand.tmp 14) (Operand.const (Value.int IntKind.i64 6)) 3, type := 4, pos := "l09_tap.go:97", after := #[{ on := 1, ground := Ground.data }], guard := none } : Oper)] false) (.cond (.tmp 15) (Code.seq (.region 8 #[({ dst := some 16, op := Op.load 60 (Operand.global 0), type := 60, pos := "l09_tap.go:98", after := #[], guard := none } : Oper), ({ dst := none, op := Op.store 23 (Operand.tmp 2) (Operand.const (Value.slice none 0 0)), type := 0, pos := "l09_tap.go:98", after := #[{ on := 0, ground := Ground.textOnly Departure.inlinedCapture }], guard := none } : Oper), ({ dst := none, op := Op.store 60 (Operand.tmp 3) (Operand.tmp 16), type := 0, pos := "l09_tap.go:98", after := #[{ on := 0, ground := Ground.data }, { on := 1, ground := Ground.chain }, { on := 0, ground := Ground.phase }, { on := 1, ground := Ground.phase }], guard := none } : Oper)] true) .ret) .skip)) (.region 9 #[({ dst := some 17, op := Op.load 23 (Operand.tmp 4), type := 23, pos := "l09_tap.go:100", after := #[], guard := none } : Oper), ({ dst := some 18, op := Op.load 33 (Operand.tmp 5), type := 33, pos := "l09_tap.go:100", after := #[], guard := none } : Oper), ({ dst := some 19, op := Op.buildSlice 23 1 #[(0, Operand.tmp 18)], type := 23, pos := "l09_tap.go:100", after := #[{ on := 1, ground := Ground.data }], guard := none } : Oper), ({ dst := some 20, op := Op.call { callee := Callee.builtin Builtin.append, args := #[Operand.tmp 17, Operand.tmp 19], argTypes := #[23, 23] }, type := 23, pos := "l09_tap.go:100", after := #[{ on := 0, ground := Ground.data }, { on := 2, ground := Ground.data }], guard := none } : Oper), ({ dst := none, op := Op.store 23 (Operand.tmp 4) (Operand.tmp 20), type := 0, pos := "l09_tap.go:100", after := #[{ on := 3, ground := Ground.data }, { on := 3, ground := Ground.chain }, { on := 0, ground := Ground.phase }, { on := 1, ground := Ground.phase }, { on := 2, ground := Ground.phase }, { on := 3, ground := Ground.phase }], guard := none } : Oper)] false)))
/-- the frame in which the loop is entered -/
abbrev lbT (t0 t1 : Value) (RL RE O : Nat) (t5 t6 t7 t8 t9 : Value) : Array Value :=
  #[t0, t1, .pointer (some ⟨RL, 0, none⟩), .pointer (some ⟨RE, 0, none⟩), .pointer (some ⟨O, 0, none⟩), t5, t6, t7, t8, t9, undef, undef, undef, undef, undef, undef, undef, undef, undef, undef, undef, undef]
def Yerr (p : Pk) : Prop := ∀ (m : Nat) (W : World) (cv : Value) (acc : List (Int × ByteArray)) (F : Int) (D : ByteArray) (x : Addr), Ry p W cv acc →
  YieldAt Fence.wide m Tryd.prog p.L #[bkV F D, iE x] W fun e W' => e = .returned (.bool false) ∧ Rx p W' (iE x)
theorem rx_fin {p : Pk} {W Wb : World} {cv : Value} {acc : List (Int × ByteArray)} (h : Ry p W cv acc) (hWbs : Wb.heap.size = W.heap.size + 1) (hWbk : ∀ b, b < W.heap.size → b ≠ p.L → Wb.heap[b]? = W.heap[b]?) (hWbL : Wb.heap[p.L]? = some (.loop { p.R with state := .busy })) (hWo : Wb.os = W.os ∧ Wb.tape = W.tape ∧ Wb.output = W.output) (E : Value) (WF : World) (hW : WF = (Wb.setCell ⟨p.RL, 0, none⟩ (.slice none 0 0)).setCell ⟨p.RE, 0, none⟩ E ∨ WF = ((Wb.setCell ⟨p.RL, 0, none⟩ (.slice none 0 0)).setCell ⟨p.RE, 0, none⟩ E).drew) :
    ∃ v W', (Instr.endRound p.L (some .ret)).run Tryd.prog WF = .ok v W' ∧ v = .bool false ∧ Rx p W' E := by
  obtain ⟨⟨a1, a2, a4, a5⟩, ⟨b1, b3, b4⟩, ⟨c2, c3'⟩, f1⟩ := h.sep.apart
  obtain ⟨m1, m2, m3, m5, m6⟩ := p.mem
  have hL1 : ((Wb.setCell ⟨p.RL, 0, none⟩ (.slice none 0 0)).setCell ⟨p.RE, 0, none⟩ E).heap[p.L]? = some (.loop { p.R with state := .busy }) := (Below.heap_setCell _ _ _ _ (fun e => b4 e.symm)).trans ((Below.heap_setCell _ _ _ _ (fun e => a5 e.symm)).trans hWbL)
  have qR : Blk Wb p.RL #[.slice none 0 0] := blk_same h.rl (hWbk _ h.rl.lt a5)
  have qE : Blk Wb p.RE #[.nilIface] := blk_same h.re (hWbk _ h.re.lt b4)
  have k : ∀ b, b < W.heap.size → b ≠ p.L → b ≠ p.RL → b ≠ p.RE → ((Wb.setCell ⟨p.RL, 0, none⟩ (.slice none 0 0)).setCell ⟨p.RE, 0, none⟩ E).heap[b]? = W.heap[b]? := fun b hb h1 h2 h3 => (Below.heap_setCell _ _ _ _ h3).trans ((Below.heap_setCell _ _ _ _ h2).trans (hWbk b hb h1))
  have r1 : Blk ((Wb.setCell ⟨p.RL, 0, none⟩ (.slice none 0 0)).setCell ⟨p.RE, 0, none⟩ E) p.RL #[.slice none 0 0] := (qR.set 0 (.slice none 0 0)).other (p := ⟨p.RE, 0, none⟩) a1 _
  have r2 : Blk ((Wb.setCell ⟨p.RL, 0, none⟩ (.slice none 0 0)).setCell ⟨p.RE, 0, none⟩ E) p.RE #[E] := (qE.other (p := ⟨p.RL, 0, none⟩) (fun e => a1 e.symm) _).set 0 E
  have hdf := (k _ (Array.getElem?_eq_some_iff.1 h.df).1 f1 a4.symm b3.symm).trans h.df
  have hs : W.heap.size ≤ ((Wb.setCell ⟨p.RL, 0, none⟩ (.slice none 0 0)).setCell ⟨p.RE, 0, none⟩ E).heap.size := by simp [World.setCell, hWbs]
  have hbel : ∀ b, b < p.w.heap.size → ((Wb.setCell ⟨p.RL, 0, none⟩ (.slice none 0 0)).setCell ⟨p.RE, 0, none⟩ E).heap[b]? = p.w.heap[b]? := fun b hb => (k b (Nat.lt_of_lt_of_le hb h.bel.size) (fun e => by have := h.sep.far _ m6; omega) (fun e => by have := h.sep.far _ m1; omega) (fun e => by have := h.sep.far _ m2; omega)).trans (h.bel.block b hb)
  obtain ⟨V, hV⟩ : ∃ V, (Wb.setCell ⟨p.RL, 0, none⟩ (.slice none 0 0)).setCell ⟨p.RE, 0, none⟩ E = V := ⟨_, rfl⟩
  have e1 : V.os = W.os ∧ V.tape = W.tape ∧ V.output = W.output := by rw [← hV]; exact hWo
  rw [hV] at hL1 r1 r2 hdf hs hbel hW
  clear hV
  have hlt : p.L < V.heap.size := (Array.getElem?_eq_some_iff.1 hL1).1
  have fin : ∀ X : World, X.heap = V.heap → X.os = V.os → X.tape = V.tape → X.output = V.output → ∃ v W', (Instr.endRound p.L (some .ret)).run Tryd.prog X = .ok v W' ∧ v = .bool false ∧ Rx p W' E := by
    intro X hX o1 o2 o3
    have her := run_endRound (P := Tryd.prog) (w := X) (some .ret) (by rw [hX]; exact hL1)
    refine ⟨_, _, her, rfl, ?_⟩
    have po : ∀ b, b ≠ p.L → (X.putObj p.L (.loop { p.R with state := .done, pending := some .ret })).heap[b]? = V.heap[b]? := fun b hb => by rw [World.putObj_heap_other (by omega), hX]
    refine ⟨blk_same r1 (po _ a5), blk_same r2 (po _ b4), (po _ f1).trans hdf, ?_, ?_⟩
    · exact World.putObj_heap_same (by rw [hX]; exact hlt)
    · refine ⟨?_, ?_, ?_, ?_, fun b hb => ?_⟩
      · exact o1.trans (e1.1.trans h.bel.os)
      · exact o2.trans (e1.2.1.trans h.bel.tape)
      · exact o3.trans (e1.2.2.trans h.bel.output)
      · have : (X.putObj p.L (.loop { p.R with state := .done, pending := some .ret })).heap.size = V.heap.size := by simp [World.putObj, hX]
        show _ ≤ (X.putObj p.L (.loop { p.R with state := .done, pending := some .ret })).heap.size
        rw [this]
        exact Nat.le_trans h.bel.size hs
      · exact (po b (fun e => by have := h.sep.far _ m6; omega)).trans (hbel b hb)
  rcases hW with rfl | rfl
  · exact fin WF rfl rfl rfl rfl
  · exact fin V.drew rfl rfl rfl rfl
set_option maxRecDepth 100000 in
set_option maxHeartbeats 2000000 in
theorem yerr_of (p : Pk) (fn : FuncId) (t0 t1 t5 t6 t7 t8 t9 : Value) (hR : p.R = { state := .ready, pending := none, fn := fn, tmps := lbT t0 t1 p.RL p.RE p.O t5 t6 t7 t8 t9, params := #[8, 9], assign := lbAs, body := lbBd, defers := p.DF }) : Yerr p := by
  intro m W cv acc F D x h
  have hLp := h.lp
  have hLlt : p.L < W.heap.size := (Array.getElem?_eq_some_iff.1 hLp).1
  have hy := run_yield (P := Tryd.prog) (args := #[bkV F D, iE x]) hLp (by rw [hR]; rfl)
  rw [hR] at hy
  have e : Array.foldl (fun (tmps : Array Value) (x : Tmp × Value) => match x with | (t, a) => tmps.setIfInBounds t a) (lbT t0 t1 p.RL p.RE p.O t5 t6 t7 t8 t9) ((#[8, 9] : Array Tmp).zip #[bkV F D, iE x]) = lbT t0 t1 p.RL p.RE p.O t5 t6 t7 (bkV F D) (iE x) := by simp
  dsimp only at hy
  rw [e] at hy
  clear e
  refine ⟨fn, _, lbAs, lbBd, hy, roundIn_of_wpIn (F := Fence.wide) trivial ?_⟩
  clear hy
  obtain ⟨c3, hc3⟩ : ∃ c3 : Array Value, bkA F D = c3 := ⟨_, rfl⟩
  have w1L : (W.alloc (.cells c3 33)).heap[p.L]? = some (.loop p.R) := (Below.heap_alloc _ _ _ hLlt).trans hLp
  have hbr := run_beginRound (P := Tryd.prog) w1L (by rw [hR])
  obtain ⟨Wb, hWb⟩ : ∃ Wb, (W.alloc (.cells c3 33)).putObj p.L (.loop { p.R with state := .busy }) = Wb := ⟨_, rfl⟩
  have hWbs : Wb.heap.size = W.heap.size + 1 := by rw [← hWb]; simp [World.putObj]
  have hWbk : ∀ b, b < W.heap.size → b ≠ p.L → Wb.heap[b]? = W.heap[b]? := fun b hb hne => by rw [← hWb, World.putObj_heap_other (by omega)]; exact Below.heap_alloc _ _ _ hb
  have hWbL : Wb.heap[p.L]? = some (.loop { p.R with state := .busy }) := by rw [← hWb]; exact World.putObj_heap_same (by simp; omega)
  have hWbn : Wb.heap[W.heap.size]? = some (.cells c3 33 (0, 0)) := by rw [← hWb, World.putObj_heap_other (by omega)]; exact heap_alloc_new W _
  have hWo : Wb.os = W.os ∧ Wb.tape = W.tape ∧ Wb.output = W.output := by rw [← hWb]; exact ⟨rfl, rfl, rfl⟩
  obtain ⟨⟨a1, a2, a4, a5⟩, ⟨b1, b3, b4⟩, ⟨c2, c3'⟩, f1⟩ := h.sep.apart
  have hfin := hid (rx_fin h hWbs hWbk hWbL hWo (iE x))
  have qR : Blk Wb p.RL #[.slice none 0 0] := blk_same h.rl (hWbk _ h.rl.lt a5)
  have qE : Blk Wb p.RE #[.nilIface] := blk_same h.re (hWbk _ h.re.lt b4)
  have x1 := qR.cell
  have y1 := qR.frozen
  have z1 := qR.lt
  have x2 := qE.cell
  have y2 := qE.frozen
  have z2 := qE.lt
  rw [hWb] at hbr
  replace h := hid h
  replace hR := hid hR
  have hbr2 := hid hbr
  clear hbr hLp w1L hWb hWbk hWbL hWbn hWo hWbs hLlt qR qE a2 a4 b1 b3 c2 c3' f1
  subst hc3
  have a1' : ¬ p.RE = p.RL := fun e => a1 e.symm
  dsimp only [lbAs, lbBd, lbT]
  gi_wp2
  refine ⟨_, hbr2.out, ?_⟩
  gi_wp2
  obtain ⟨v, W9, hend, hvv, hC⟩ := hfin.out _ (.inl rfl)
  exact ⟨v, W9, hend, by rw [hvv], hC⟩
end Go.Proofs.YtakdhmlegickmaaDoor
