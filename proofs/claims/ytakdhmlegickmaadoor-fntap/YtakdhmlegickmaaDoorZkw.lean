/- The loop over the blocks of a text: a block that is kept. -/
import Derived.Test.YtakdhmlegickmaaDoorZjw
namespace Go.Proofs.YtakdhmlegickmaaDoor
open Go.ChangeShapes Go.WideShapes Go.ChangeAt Go.RowKit Go.Shelf
attribute [local go_sem] Oper.semAt_some
set_option linter.unusedVariables false
set_option linter.unusedSimpArgs false

def Yok (p : Pk) : Prop := ∀ (m : Nat) (W : World) (cv : Value) (acc : List (Int × ByteArray)) (F : Int) (D : ByteArray), Ry p W cv acc → acc.length < 6 →
  YieldAt Fence.wide m Tryd.prog p.L #[bkV F D, .nilIface] W fun e W' => e = .returned (.bool true) ∧ ∃ cv', Ry p W' cv' (acc ++ [(F, D)]) ∧ (∀ b, b < W.heap.size → b ≠ p.O → b ≠ p.L → cv.ownBlock ≠ some b → W'.heap[b]? = W.heap[b]?) ∧ W.heap.size ≤ W'.heap.size ∧ (cv'.ownBlock = cv.ownBlock ∨ ∃ g, cv'.ownBlock = some g ∧ W.heap.size ≤ g)
set_option maxRecDepth 100000 in
set_option maxHeartbeats 2000000 in
theorem yok_of (p : Pk) (fn : FuncId) (t0 t1 t5 t6 t7 t8 t9 : Value) (hR : p.R = { state := .ready, pending := none, fn := fn, tmps := lbT t0 t1 p.RL p.RE p.O t5 t6 t7 t8 t9, params := #[8, 9], assign := lbAs, body := lbBd, defers := p.DF }) : Yok p := by
  intro m W cv acc F D h h6
  obtain ⟨i0, hi0, hz0, hz1, hz2⟩ := info_parts infoBk
  obtain ⟨oa, ocap, hcv⟩ := ry_form h
  have hLp := h.lp
  have hLlt : p.L < W.heap.size := (Array.getElem?_eq_some_iff.1 hLp).1
  have hy := run_yield (P := Tryd.prog) (args := #[bkV F D, .nilIface]) hLp (by rw [hR]; rfl)
  rw [hR] at hy
  have e : Array.foldl (fun (tmps : Array Value) (x : Tmp × Value) => match x with | (t, a) => tmps.setIfInBounds t a) (lbT t0 t1 p.RL p.RE p.O t5 t6 t7 t8 t9) ((#[8, 9] : Array Tmp).zip #[bkV F D, .nilIface]) = lbT t0 t1 p.RL p.RE p.O t5 t6 t7 (bkV F D) (.nilIface) := by simp
  dsimp only at hy
  rw [e] at hy
  clear e
  refine ⟨fn, _, lbAs, lbBd, hy, roundIn_of_wpIn (F := Fence.wide) trivial ?_⟩
  clear hy
  obtain ⟨c3, hc3⟩ : ∃ c3 : Array Value, bkA F D = c3 := ⟨_, rfl⟩
  have w1L : (W.alloc (.cells c3 33)).heap[p.L]? = some (.loop p.R) := (Below.heap_alloc _ _ _ hLlt).trans hLp
  have hbr := run_beginRound (P := Tryd.prog) w1L (by rw [hR])
  obtain ⟨Wb, hWb⟩ : ∃ Wb, (W.alloc (.cells c3 33)).putObj p.L (.loop { p.R with state := .busy }) = Wb := ⟨_, rfl⟩
  have hWbs : Wb.heap.size = W.heap.size + 1 := by rw [← hWb]; simp [World.putObj]
  have hWbk : ∀ b, b < W.heap.size → b ≠ p.L → Wb.heap[b]? = W.heap[b]? := fun b hb hne => by rw [← hWb, World.putObj_heap_other (by omega)]; exact Below.heap_alloc _ _ _ hb
  have hWbL : Wb.heap[p.L]? = some (.loop { p.R with state := .busy }) := by rw [← hWb]; exact World.putObj_heap_same (by simp; omega)
  have hWbn : Wb.heap[W.heap.size]? = some (.cells c3 33 (0, 0)) := by rw [← hWb, World.putObj_heap_other (by omega)]; exact heap_alloc_new W _
  have hWo : Wb.os = W.os ∧ Wb.tape = W.tape ∧ Wb.output = W.output := by rw [← hWb]; exact ⟨rfl, rfl, rfl⟩
  obtain ⟨⟨a1, a2, a4, a5⟩, ⟨b1, b3, b4⟩, ⟨c2, c3'⟩, f1⟩ := h.sep.apart
  obtain ⟨m1, m2, m3, m5, m6⟩ := p.mem
  have own1 : Wb.ownsRow p.w.heap.size 33 2 cv acc.length (bkL acc) := by rw [← hWb]; exact ownsRow_putObj (h.own.alloc _) _ w1L rfl
  have box1 : Blk Wb p.O #[cv] := blk_same h.o (hWbk _ h.o.lt c3')
  have cyc1 : Blk Wb W.heap.size c3 := ⟨_, hWbn⟩
  rw [hWb] at hbr
  have hbase := h.bel.size
  have hOlt := h.o.lt
  have own : ∀ b, b ∈ p.bs → cv.ownBlock ≠ some b := fun b hb e => h.ne b e hb
  have hfin : Hid (∀ w2 v', w2.ownsRow p.w.heap.size 33 2 v' (acc.length + 1) (bkL acc ++ [.int .i64 F, .string D]) → (Wb.alloc (.cells c3 33)).grownBy w2 cv.ownBlock → (v'.ownBlock = cv.ownBlock ∨ v'.ownBlock = some (Wb.alloc (.cells c3 33)).heap.size) →
      Blk w2 p.O #[cv] ∧ ∃ vv W', (Instr.endRound p.L none).run Tryd.prog (w2.setCell ⟨p.O, 0, none⟩ v') = .ok vv W' ∧ vv = .bool true ∧ Ry p W' v' (acc ++ [(F, D)]) ∧ (∀ b, b < W.heap.size → b ≠ p.O → b ≠ p.L → cv.ownBlock ≠ some b → W'.heap[b]? = W.heap[b]?) ∧ W.heap.size ≤ W'.heap.size ∧ (v'.ownBlock = cv.ownBlock ∨ ∃ g, v'.ownBlock = some g ∧ W.heap.size ≤ g)) := by
    intro w2 v' ho hg hat
    have hk2 : ∀ b, b < W.heap.size + 1 → cv.ownBlock ≠ some b → w2.heap[b]? = Wb.heap[b]? := fun b hb hne => (hg.block b (by rw [World.size_alloc, hWbs]; omega) (fun e => hne e.symm)).trans (Below.heap_alloc _ _ _ (by rw [hWbs]; exact hb))
    have hLw2 : w2.heap[p.L]? = some (.loop { p.R with state := .busy }) := (hk2 _ (by omega) (own _ m6)).trans hWbL
    have q2 : Blk w2 p.O #[cv] := blk_same box1 (hk2 _ (by omega) (own _ m3))
    have hLs : (w2.setCell ⟨p.O, 0, none⟩ v').heap[p.L]? = some (.loop { p.R with state := .busy }) := (Below.heap_setCell _ _ _ _ (fun e => c3' e.symm)).trans hLw2
    have her := run_endRound (P := Tryd.prog) none hLs
    have hgs := hg.size
    rw [World.size_alloc, hWbs] at hgs
    have hssz : (w2.setCell ⟨p.O, 0, none⟩ v').heap.size = w2.heap.size := by simp [World.setCell]
    have hLlt2 : p.L < (w2.setCell ⟨p.O, 0, none⟩ v').heap.size := by rw [hssz]; omega
    have hnb : ∀ b, b ∈ p.bs → v'.ownBlock ≠ some b := fun b hb e => by
      rcases hat with e1 | e1
      · rw [e1] at e; exact own b hb e
      · rw [e1, World.size_alloc, hWbs] at e
        have hbl : b < W.heap.size := by
          have hb' : b ∈ [p.RL, p.RE, p.O, p.DF, p.L] := hb
          simp only [List.mem_cons, List.not_mem_nil, or_false] at hb'
          rcases hb' with rfl | rfl | rfl | rfl | rfl
          · exact h.rl.lt
          · exact h.re.lt
          · exact h.o.lt
          · exact (Array.getElem?_eq_some_iff.1 h.df).1
          · exact hLlt
        simp at e
        omega
    have k : ∀ b, b < W.heap.size → b ≠ p.O → b ≠ p.L → cv.ownBlock ≠ some b → ((w2.setCell ⟨p.O, 0, none⟩ v').putObj p.L (.loop { p.R with state := .ready, pending := none })).heap[b]? = W.heap[b]? := fun b hb hne hnL hown => by
      rw [World.putObj_heap_other (by omega), Below.heap_setCell _ _ _ _ hne, hk2 b (by omega) hown, hWbk b hb hnL]
    have hat2 : v'.ownBlock = cv.ownBlock ∨ ∃ g, v'.ownBlock = some g ∧ W.heap.size ≤ g := by
      rcases hat with e | e
      · exact .inl e
      · exact .inr ⟨_, e, by rw [World.size_alloc, hWbs]; omega⟩
    have hsz9 : W.heap.size ≤ ((w2.setCell ⟨p.O, 0, none⟩ v').putObj p.L (.loop { p.R with state := .ready, pending := none })).heap.size := by
      rw [show ((w2.setCell ⟨p.O, 0, none⟩ v').putObj p.L (.loop { p.R with state := .ready, pending := none })).heap.size = (w2.setCell ⟨p.O, 0, none⟩ v').heap.size by simp [World.putObj], hssz]
      omega
    have sg : w2.grownBy (w2.setCell ⟨p.O, 0, none⟩ v') (some p.O) := ⟨rfl, rfl, rfl, by simp [World.setCell], fun k _ hk => Below.heap_setCell _ _ _ _ (fun e => hk (by rw [e]))⟩
    refine ⟨q2, _, _, her, rfl, ⟨h.sep, blk_same h.rl (k _ h.rl.lt a2 a5 (own _ m1)), blk_same h.re (k _ h.re.lt b1 b4 (own _ m2)), ?_, (k _ (Array.getElem?_eq_some_iff.1 h.df).1 c2.symm f1 (own _ m5)).trans h.df, ?_, ?_, fun g e => fun hb => hnb g hb e, ?_⟩, k, hsz9, hat2⟩
    · exact blk_same (q2.set 0 v') (World.putObj_heap_other (by omega))
    · show ((w2.setCell ⟨p.O, 0, none⟩ v').putObj p.L _).heap[p.L]? = _
      rw [World.putObj_heap_same hLlt2]
      rw [hR]
      rfl
    · rw [bkL_snoc, List.length_append]
      exact ownsRow_putObj (ho.kept sg (.inr (hnb _ m3))) _ hLs rfl
    · refine h.bel.trans ⟨hg.os.trans hWo.1, hg.tape.trans hWo.2.1, hg.output.trans hWo.2.2, hsz9, fun b hb => ?_⟩
      exact k b (Nat.lt_of_lt_of_le hb hbase) (fun e => by have := h.sep.far _ m3; omega) (fun e => by have := h.sep.far _ m6; omega) (fun e => by have := (h.own.lt b e).1; omega)
  have b0 := box1.cell
  have bf := box1.frozen
  have bl := box1.lt
  have cc := cyc1.cell
  replace own1 := hid own1
  replace h := hid h
  replace hR := hid hR
  clear hLp w1L hWb hWbk hWbL hWbn hWo box1 cyc1 own
  have hcb : p.w.heap.size ≤ Wb.heap.size := by omega
  clear hWbs
  obtain ⟨n, hn⟩ : ∃ n, acc.length = n := ⟨_, rfl⟩
  rw [hn] at hfin own1 hcv h6
  subst hcv
  have h6b : ((n : Int) == 6) = false := by rw [beq_eq_false_iff_ne]; omega
  subst hc3
  have hbr2 := hid hbr
  clear hbr hn
  dsimp only [lbAs, lbBd, lbT]
  gi_wp2
  refine ⟨_, hbr2.out, ?_⟩
  gi_wp2_with (gi_at_builtin; refine wpListIn_append_own_at _ rfl _ _ 23 rfl p.w.heap.size 33 i0 _ 2 24 Tryd.underlying23 hi0 hz0 hz1 hz2 rfl (by omega) _ n (bkL acc) rfl (own1.out.alloc _) ⟨_, 0, none⟩ 1 1 [.int .i64 F, .string D] rfl rfl (World.news_of_block (cs := #[.int .i64 F, .string D]) (t := 33) (fr := (0, 0)) (heap_alloc_new _ _)) (by simp [Value.oneCell']) (by unfold maxLen; omega) (by omega) (by simp; omega) ?_; intro v' w2 ho hg hnil hat; obtain ⟨g9, c9, rfl⟩ := ownsRow_succ ho; obtain ⟨q2, vv, W9, hend, hvv, hC⟩ := hfin.out _ _ ho hg hat; have x2 := q2.cell; have f2 := q2.frozen; have z2 := q2.lt; replace hend := hid hend; replace hC := hid hC; replace hvv := hid hvv; clear ho hg hat hnil q2 hfin own1 b0 bf)
  exact ⟨vv, W9, hend.out, by rw [hvv.out], _, hC.out⟩
end Go.Proofs.YtakdhmlegickmaaDoor
