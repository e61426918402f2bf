/- The loop over the blocks of a text: a block too many, and a block that is kept. -/
import Derived.Test.YtakdhmlegickmaaDoorZiw
namespace Go.Proofs.YtakdhmlegickmaaDoor
open Go.ChangeShapes Go.WideShapes Go.ChangeAt Go.RowKit Go.Shelf
attribute [local go_sem] Oper.semAt_some
set_option linter.unusedVariables false
set_option linter.unusedSimpArgs false

def Ymany (p : Pk) (e5 : Addr) : Prop := ∀ (m : Nat) (W : World) (cv : Value) (acc : List (Int × ByteArray)) (F : Int) (D : ByteArray), Ry p W cv acc → acc.length = 6 →
  YieldAt Fence.wide m Tryd.prog p.L #[bkV F D, .nilIface] W fun e W' => e = .returned (.bool false) ∧ Rx p W' (iE e5)
theorem ry_form {p : Pk} {W : World} {cv : Value} {acc : List (Int × ByteArray)} (h : Ry p W cv acc) : ∃ oa cap, cv = .slice oa acc.length cap := by
  obtain ⟨_, ⟨h1, h0⟩ | ⟨g, cap, _, h1, _⟩⟩ := h.own
  · exact ⟨none, 0, by rw [h1, h0]⟩
  · exact ⟨_, _, h1⟩
set_option maxRecDepth 100000 in
set_option maxHeartbeats 2000000 in
theorem ymany_of (p : Pk) (e5 : Addr) (hE : p.w.cell? ⟨0, 0, none⟩ = some (iE e5)) (fn : FuncId) (t0 t1 t5 t6 t7 t8 t9 : Value) (hR : p.R = { state := .ready, pending := none, fn := fn, tmps := lbT t0 t1 p.RL p.RE p.O t5 t6 t7 t8 t9, params := #[8, 9], assign := lbAs, body := lbBd, defers := p.DF }) : Ymany p e5 := by
  intro m W cv acc F D h h6
  obtain ⟨oa, ocap, rfl⟩ := ry_form h
  have hLp := h.lp
  have hLlt : p.L < W.heap.size := (Array.getElem?_eq_some_iff.1 hLp).1
  have hy := run_yield (P := Tryd.prog) (args := #[bkV F D, .nilIface]) hLp (by rw [hR]; rfl)
  rw [hR] at hy
  have e : Array.foldl (fun (tmps : Array Value) (x : Tmp × Value) => match x with | (t, a) => tmps.setIfInBounds t a) (lbT t0 t1 p.RL p.RE p.O t5 t6 t7 t8 t9) ((#[8, 9] : Array Tmp).zip #[bkV F D, .nilIface]) = lbT t0 t1 p.RL p.RE p.O t5 t6 t7 (bkV F D) (.nilIface) := by simp
  dsimp only at hy
  rw [e] at hy
  clear e
  refine ⟨fn, _, lbAs, lbBd, hy, roundIn_of_wpIn (F := Fence.wide) trivial ?_⟩
  clear hy
  obtain ⟨c3, hc3⟩ : ∃ c3 : Array Value, bkA F D = c3 := ⟨_, rfl⟩
  have w1L : (W.alloc (.cells c3 33)).heap[p.L]? = some (.loop p.R) := (Below.heap_alloc _ _ _ hLlt).trans hLp
  have hbr := run_beginRound (P := Tryd.prog) w1L (by rw [hR])
  obtain ⟨Wb, hWb⟩ : ∃ Wb, (W.alloc (.cells c3 33)).putObj p.L (.loop { p.R with state := .busy }) = Wb := ⟨_, rfl⟩
  have hWbs : Wb.heap.size = W.heap.size + 1 := by rw [← hWb]; simp [World.putObj]
  have hWbk : ∀ b, b < W.heap.size → b ≠ p.L → Wb.heap[b]? = W.heap[b]? := fun b hb hne => by rw [← hWb, World.putObj_heap_other (by omega)]; exact Below.heap_alloc _ _ _ hb
  have hWbL : Wb.heap[p.L]? = some (.loop { p.R with state := .busy }) := by rw [← hWb]; exact World.putObj_heap_same (by simp; omega)
  have hWbn : Wb.heap[W.heap.size]? = some (.cells c3 33 (0, 0)) := by rw [← hWb, World.putObj_heap_other (by omega)]; exact heap_alloc_new W _
  have hWo : Wb.os = W.os ∧ Wb.tape = W.tape ∧ Wb.output = W.output := by rw [← hWb]; exact ⟨rfl, rfl, rfl⟩
  obtain ⟨⟨a1, a2, a4, a5⟩, ⟨b1, b3, b4⟩, ⟨c2, c3'⟩, f1⟩ := h.sep.apart
  have hfin := hid (rx_fin h hWbs hWbk hWbL hWo (iE e5))
  have qR : Blk Wb p.RL #[.slice none 0 0] := blk_same h.rl (hWbk _ h.rl.lt a5)
  have qE : Blk Wb p.RE #[.nilIface] := blk_same h.re (hWbk _ h.re.lt b4)
  have qO : Blk Wb p.O #[.slice oa acc.length ocap] := blk_same h.o (hWbk _ h.o.lt c3')
  have hg5 := World.block_lt_of_cell? p.w _ hE
  simp only at hg5
  have fL := h.sep.far _ p.mem.2.2.2.2
  have fRL := h.sep.far _ p.mem.1
  have fRE := h.sep.far _ p.mem.2.1
  have xg : Wb.cell? ⟨0, 0, none⟩ = some (iE e5) := by
    have e1 : Wb.heap[0]? = p.w.heap[0]? := (hWbk _ (Nat.lt_of_lt_of_le hg5 h.bel.size) (by omega)).trans (h.bel.block _ hg5)
    exact (World.cell?_of_block (a := ⟨0, 0, none⟩) e1).trans hE
  have x1 := qR.cell
  have y1 := qR.frozen
  have z1 := qR.lt
  have x2 := qE.cell
  have y2 := qE.frozen
  have z2 := qE.lt
  have x3 := qO.cell
  rw [h6] at x3
  have n1 : ¬ p.RL = 0 := by omega
  have n2 : ¬ p.RE = 0 := by omega
  have n3 : ¬ 0 = p.RL := by omega
  have n4 : ¬ 0 = p.RE := by omega
  rw [hWb] at hbr
  replace h := hid h
  replace hR := hid hR
  replace hE := hid hE
  have hbr2 := hid hbr
  clear hbr hLp w1L hWb hWbk hWbL hWbn hWo hWbs hLlt qR qE qO a2 a4 b1 b3 c2 c3' f1 h6 hg5 fL fRL fRE
  subst hc3
  have a1' : ¬ p.RE = p.RL := fun e => a1 e.symm
  have hmx : Tryd.prog.follows .mixedOrders = true := by kernel_rfl
  dsimp only [lbAs, lbBd, lbT]
  gi_wp2
  refine ⟨_, hbr2.out, ?_⟩
  gi_wp2
  gi_region_with_o (fail)
  all_goals
    gi_wp2
    obtain ⟨v, W9, hend, hvv, hC⟩ := hfin.out _ (by first | exact .inr rfl | exact .inl rfl)
    exact ⟨v, W9, hend, by rw [hvv], hC⟩
end Go.Proofs.YtakdhmlegickmaaDoor
