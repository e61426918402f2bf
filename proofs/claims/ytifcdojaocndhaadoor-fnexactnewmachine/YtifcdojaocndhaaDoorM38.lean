/- The loops that gather pulses: PulsesOf's and TapePulses'. -/
import Derived.Test.YtifcdojaocndhaaDoorM36
import Derived.Test.YtifcdojaocndhaaDoorM37
import Derived.Test.YtifcdojaocndhaaDoorM20
import Derived.Test.YtifcdojaocndhaaDoorM12
import Derived.Deep.DeepCutAuto
namespace Go.Proofs.YtifcdojaocndhaaDoor
open Go.ChangeShapes Go.WideShapes Go.ChangeAt Go.RowKit Go.Shelf
attribute [local go_sem] Oper.semAt_some
set_option linter.unusedVariables false
set_option linter.unusedSimpArgs false

abbrev tpAs : Code := .region 9 #[({ dst := some 8, op := Op.assign (Operand.tmp 22), type := 3, pos := "l10_pulse.go:244", after := #[], guard := none } : Oper)] false
abbrev tpBd : Code := Code.block 3 (.region 10 #[({ dst := some 23, op := Op.load 27 (Operand.tmp 5), type := 27, pos := "l10_pulse.go:245", after := #[], guard := none } : Oper), ({ dst := some 24, op := Op.move (Operand.tmp 8), type := 3, pos := "l10_pulse.go:245", after := #[], guard := none } : Oper), ({ dst := some 25, op := Op.buildSlice 27 1 #[(0, Operand.tmp 24)], type := 27, pos := "l10_pulse.go:245", after := #[{ on := 1, ground := Ground.data }], guard := none } : Oper), ({ dst := some 26, op := Op.call { callee := Callee.builtin Builtin.append, args := #[Operand.tmp 23, Operand.tmp 25], argTypes := #[27, 27] }, type := 27, pos := "l10_pulse.go:245", after := #[{ on := 0, ground := Ground.data }, { on := 2, ground := Ground.data }], guard := none } : Oper), ({ dst := none, op := Op.store 27 (Operand.tmp 5) (Operand.tmp 26), type := 0, pos := "l10_pulse.go:245", after := #[{ on := 3, ground := Ground.data }, { on := 3, ground := Ground.chain }, { on := 0, ground := Ground.phase }, { on := 1, ground := Ground.phase }, { on := 2, ground := Ground.phase }, { on := 3, ground := Ground.phase }], guard := none } : Oper)] false)
abbrev tpT (a0 a1 a2 a3 a4 a6 a7 a8 a9 a10 a11 a12 a13 a14 a15 a16 a17 a18 a19 a20 a21 a23 a24 a25 a26 a27 a28 a29 a30 a31 : Value) (O : Nat) (x : Value) : Array Value := #[a0, a1, a2, a3, a4, .pointer (some ⟨O, 0, none⟩), a6, a7, a8, a9, a10, a11, a12, a13, a14, a15, a16, a17, a18, a19, a20, a21, x, a23, a24, a25, a26, a27, a28, a29, a30, a31]
set_option maxRecDepth 100000 in
set_option maxHeartbeats 4000000 in
theorem tp_sink (p : Pj) (fn : FuncId) (a0 a1 a2 a3 a4 a6 a7 a8 a9 a10 a11 a12 a13 a14 a15 a16 a17 a18 a19 a20 a21 a23 a24 a25 a26 a27 a28 a29 a30 a31 x0 : Value) (hR : p.R = { state := .ready, pending := none, fn := fn, tmps := tpT a0 a1 a2 a3 a4 a6 a7 a8 a9 a10 a11 a12 a13 a14 a15 a16 a17 a18 a19 a20 a21 a23 a24 a25 a26 a27 a28 a29 a30 a31 p.O x0, params := #[22], assign := tpAs, body := tpBd, defers := p.DF }) :
    Sink p.w.heap.size p.L p.bs (fun _ => True) 65536 (Sj p) := by
  refine ⟨fun h k => h.cong k, fun h => h.lt, fun m W cv acc x h _ hlen => ?_⟩
  refine YieldAt.any (k := 2) ?_
  obtain ⟨i0, hi0, hz0, hz1, hz2⟩ := info_parts infoI
  obtain ⟨oa, ocap, hcv⟩ := h.form
  obtain ⟨m1, m2, m3⟩ := p.mem
  obtain ⟨n1, n2, n3⟩ := h.nd
  have hLp := h.lp
  have hLlt : p.L < W.heap.size := (Array.getElem?_eq_some_iff.1 hLp).1
  have hy := run_yield (P := Tryd.prog) (args := #[.int .i64 x]) hLp (by rw [hR]; rfl)
  rw [hR] at hy
  have e : Array.foldl (fun (tmps : Array Value) (x : Tmp × Value) => match x with | (t, a) => tmps.setIfInBounds t a) (tpT a0 a1 a2 a3 a4 a6 a7 a8 a9 a10 a11 a12 a13 a14 a15 a16 a17 a18 a19 a20 a21 a23 a24 a25 a26 a27 a28 a29 a30 a31 p.O x0) ((#[22] : Array Tmp).zip #[.int .i64 x]) = tpT a0 a1 a2 a3 a4 a6 a7 a8 a9 a10 a11 a12 a13 a14 a15 a16 a17 a18 a19 a20 a21 a23 a24 a25 a26 a27 a28 a29 a30 a31 p.O (.int .i64 x) := by simp
  dsimp only at hy
  rw [e] at hy
  clear e
  refine ⟨fn, _, tpAs, tpBd, hy, roundIn_of_wpIn (F := Fence.wide) trivial ?_⟩
  clear hy
  have hbr := run_beginRound (P := Tryd.prog) hLp (by rw [hR])
  obtain ⟨Wb, hWb⟩ : ∃ Wb, W.putObj p.L (.loop { p.R with state := .busy }) = Wb := ⟨_, rfl⟩
  have kb : ∀ b, b ≠ p.L → Wb.heap[b]? = W.heap[b]? := fun b hb => by rw [← hWb, World.putObj_heap_other (by omega)]
  have sb : Wb.heap.size = W.heap.size := by rw [← hWb]; simp [World.putObj]
  have lb : Wb.heap[p.L]? = some (.loop { p.R with state := .busy }) := by rw [← hWb]; exact World.putObj_heap_same hLlt
  have hWo : Wb.os = W.os ∧ Wb.tape = W.tape ∧ Wb.output = W.output := by rw [← hWb]; exact ⟨rfl, rfl, rfl⟩
  have own : ∀ b, b ∈ p.bs → cv.ownBlock ≠ some b := fun b hb e => h.ne b e hb
  have own1 : Wb.ownsRow p.w.heap.size 3 1 cv acc.length (acc.map (Value.int .i64)) := own_sameV h.own (by omega) (fun g e => kb g (fun e2 => own _ m3 (e2 ▸ e)))
  have box1 : Blk Wb p.O #[cv] := by
    obtain ⟨t, hq⟩ := h.o
    exact ⟨t, (kb _ n2).trans hq⟩
  rw [hWb] at hbr
  have hbase := h.bel.size
  have hfin : Hid (∀ w2 v', w2.ownsRow p.w.heap.size 3 1 v' (acc.length + 1) (acc.map (Value.int .i64) ++ [.int .i64 x]) → (Wb.alloc (.cells #[.int .i64 x] 3)).grownBy w2 cv.ownBlock → (v'.ownBlock = cv.ownBlock ∨ v'.ownBlock = some (Wb.alloc (.cells #[.int .i64 x] 3)).heap.size) →
      Blk w2 p.O #[cv] ∧ ∃ vv W', (Instr.endRound p.L none).run Tryd.prog (w2.setCell ⟨p.O, 0, none⟩ v') = .ok vv W' ∧ vv = .bool true ∧ Sj p W' v' (acc ++ [x]) ∧ Kp p.bs W cv W' v') := by
    intro w2 v' ho hg hat
    have hk2 : ∀ b, b < W.heap.size → cv.ownBlock ≠ some b → w2.heap[b]? = Wb.heap[b]? := fun b hb hne => (hg.block b (by rw [World.size_alloc]; omega) (fun e => hne e.symm)).trans (Below.heap_alloc _ _ _ (by omega))
    have hLw2 : w2.heap[p.L]? = some (.loop { p.R with state := .busy }) := (hk2 _ hLlt (own _ m3)).trans lb
    have q2 : Blk w2 p.O #[cv] := by
      obtain ⟨t, hq⟩ := box1
      exact ⟨t, (hk2 _ h.o.lt (own _ m1)).trans hq⟩
    have hLs : (w2.setCell ⟨p.O, 0, none⟩ v').heap[p.L]? = some (.loop { p.R with state := .busy }) := (Below.heap_setCell _ _ _ _ (fun e => n2 e.symm)).trans hLw2
    have her := run_endRound (P := Tryd.prog) none hLs
    have hgs := hg.size
    rw [World.size_alloc] at hgs
    have hssz : (w2.setCell ⟨p.O, 0, none⟩ v').heap.size = w2.heap.size := by simp [World.setCell]
    have hLlt2 : p.L < (w2.setCell ⟨p.O, 0, none⟩ v').heap.size := by rw [hssz]; omega
    have hltb := h.lt.1
    have hnb : ∀ b, b ∈ p.bs → v'.ownBlock ≠ some b := fun b hb e => by
      rcases hat with e1 | e1
      · rw [e1] at e; exact own b hb e
      · rw [e1, World.size_alloc] at e
        have hbl := (hltb b hb).2
        simp at e
        omega
    obtain ⟨LR, hLR⟩ : ∃ LR : Loop, { { p.R with state := LoopState.busy } with state := .ready, pending := none } = LR := ⟨_, rfl⟩
    have hLR2 : LR = p.R := by rw [← hLR, hR]
    have k : ∀ b, b < W.heap.size → b ≠ p.O → b ≠ p.L → cv.ownBlock ≠ some b → ((w2.setCell ⟨p.O, 0, none⟩ v').putObj p.L (.loop LR)).heap[b]? = W.heap[b]? := fun b hb hne hnL hown => by
      rw [World.putObj_heap_other (by omega), Below.heap_setCell _ _ _ _ hne, hk2 b hb hown, kb b hnL]
    have hsz9 : ((w2.setCell ⟨p.O, 0, none⟩ v').putObj p.L (.loop LR)).heap.size = w2.heap.size := by
      rw [show ((w2.setCell ⟨p.O, 0, none⟩ v').putObj p.L (.loop LR)).heap.size = (w2.setCell ⟨p.O, 0, none⟩ v').heap.size by simp [World.putObj], hssz]
    have sg : w2.grownBy (w2.setCell ⟨p.O, 0, none⟩ v') (some p.O) := ⟨rfl, rfl, rfl, by simp [World.setCell], fun k _ hk => Below.heap_setCell _ _ _ _ (fun e => hk (by rw [e]))⟩
    have hDlt := (Array.getElem?_eq_some_iff.1 h.df).1
    have hres : Sj p ((w2.setCell ⟨p.O, 0, none⟩ v').putObj p.L (.loop LR)) v' (acc ++ [x]) ∧ Kp p.bs W cv ((w2.setCell ⟨p.O, 0, none⟩ v').putObj p.L (.loop LR)) v' := by
      refine ⟨⟨h.nd, h.far, ?_, (k _ hDlt n1.symm n3 (own _ m2)).trans h.df, ?_, ?_, fun g e hb => hnb g hb e, ?_⟩, ⟨by omega, fun b hb hf ho2 => k b hb (fun e => hf (e ▸ m1)) (fun e => hf (e ▸ m3)) ho2, ?_⟩⟩
      · obtain ⟨t, hq⟩ := q2.set 0 v'
        exact ⟨t, (World.putObj_heap_other (by omega)).trans hq⟩
      · rw [World.putObj_heap_same hLlt2, hLR2]
      · rw [List.map_append, List.length_append]
        exact ownsRow_putObj (ho.kept sg (.inr (hnb _ m1))) _ hLs rfl
      · refine h.bel.trans ⟨hg.os.trans hWo.1, hg.tape.trans hWo.2.1, hg.output.trans hWo.2.2, by omega, fun b hb => ?_⟩
        exact k b (Nat.lt_of_lt_of_le hb hbase) (fun e => by have := h.far.1; omega) (fun e => by have := h.far.2.2; omega) (fun e => by have := (h.own.lt b e).1; omega)
      · rcases hat with e | e
        · exact .inl e
        · exact .inr ⟨_, e, by rw [World.size_alloc]; omega⟩
    exact ⟨q2, _, _, her, rfl, by rw [← hLR] at hres; exact hres⟩
  have b0 := box1.cell
  have bf := box1.frozen
  have bl := box1.lt
  have hcb : p.w.heap.size ≤ Wb.heap.size := by omega
  replace own1 := hid own1
  replace h := hid h
  replace hR := hid hR
  have hbr2 := hid hbr
  clear hbr hLp hWb kb lb hWo box1 own sb hLlt m1 m2 m3 n1 n2 n3 hbase
  obtain ⟨n, hn⟩ : ∃ n, acc.length = n := ⟨_, rfl⟩
  rw [hn] at hfin own1 hcv hlen
  subst hcv
  clear hn
  dsimp only [tpAs, tpBd, tpT]
  gi_wp2
  refine ⟨_, hbr2.out, ?_⟩
  gi_wp2_with (gi_at_builtin; refine wpListIn_append_own_at _ rfl _ _ 27 rfl p.w.heap.size 3 i0 _ 1 8 Tryd.underlying27 hi0 hz0 hz1 hz2 rfl (by omega) _ n (acc.map (Value.int .i64)) rfl (own1.out.alloc _) ⟨_, 0, none⟩ 1 1 [.int .i64 x] rfl rfl (World.news_of_block (cs := #[.int .i64 x]) (t := 3) (fr := (0, 0)) (heap_alloc_new _ _)) (by simp [Value.oneCell']) (by unfold maxLen; omega) (by omega) (by simp; omega) ?_; intro v' w2 ho hg hnil hat; obtain ⟨g9, c9, rfl⟩ := ownsRow_succ ho; obtain ⟨q2, vv, W9, hend, hvv, hC⟩ := hfin.out _ _ ho hg hat; have x2 := q2.cell; have f2 := q2.frozen; have z2 := q2.lt; replace hend := hid hend; replace hC := hid hC; replace hvv := hid hvv; clear ho hg hat hnil q2 hfin own1 b0 bf)
  exact ⟨vv, W9, hend.out, by rw [hvv.out], _, hC.out⟩
end Go.Proofs.YtifcdojaocndhaaDoor

/- A loop that gathers numbers: its start and its end. -/
namespace Go.Proofs.YtifcdojaocndhaaDoor
open Go.ChangeShapes Go.WideShapes Go.ChangeAt Go.RowKit Go.Shelf
attribute [local go_sem] Oper.semAt_some
set_option linter.unusedVariables false
set_option linter.unusedSimpArgs false

theorem Sj.fin {p : Pj} {W : World} {v : Value} {acc : List Int} (h : Sj p W v acc) (R' : Loop) :
    let W9 := W.putObj p.L (.loop R')
    Blk W9 p.O #[v] ∧ W9.heap[p.DF]? = some (.deferred (some [])) ∧ (W9.putObj p.DF (.deferred none)).ownsRow p.w.heap.size 3 1 v acc.length (acc.map (Value.int .i64)) ∧ Below p.w.heap.size p.w (W9.putObj p.DF (.deferred none)) ∧ (∀ b, b ≠ p.L → b ≠ p.DF → (W9.putObj p.DF (.deferred none)).heap[b]? = W.heap[b]?) ∧ (W9.putObj p.DF (.deferred none)).heap.size = W.heap.size := by
  intro W9
  obtain ⟨n1, n2, n3⟩ := h.nd
  obtain ⟨m1, m2, m3⟩ := p.mem
  have k9 : ∀ b, b ≠ p.L → W9.heap[b]? = W.heap[b]? := fun b hb => World.putObj_heap_other (by omega)
  have ke : ∀ b, b ≠ p.L → b ≠ p.DF → (W9.putObj p.DF (.deferred none)).heap[b]? = W.heap[b]? := fun b h1 h2 => (World.putObj_heap_other (by omega)).trans (k9 b h1)
  have se : (W9.putObj p.DF (.deferred none)).heap.size = W.heap.size := by simp [W9, World.putObj]
  refine ⟨?_, (k9 _ n3).trans h.df, own_sameV h.own (by omega) (fun g e => ke g (fun e2 => h.ne g e (e2 ▸ m3)) (fun e2 => h.ne g e (e2 ▸ m2))), ?_, ke, se⟩
  · obtain ⟨t, hq⟩ := h.o
    exact ⟨t, (k9 _ n2).trans hq⟩
  · exact h.bel.trans ⟨rfl, rfl, rfl, by omega, fun b hb => ke b (fun e => by have := h.far.2.2; omega) (fun e => by have := h.far.2.1; omega)⟩
/-- a loop that begins: its own blocks lie above all that was there -/
theorem Sj.start {p : Pj} {w W6 : World} {R : Loop} (hb : Below w.heap.size w W6) (hO : Blk W6 p.O #[.slice none 0 0]) (hf : w.heap.size ≤ p.O) (hpw : p.w = w) (hD : p.DF = W6.heap.size) (hL : p.L = W6.heap.size + 1) (hR : p.R = R) : Sj p ((W6.alloc (.deferred (some []))).alloc (.loop R)) (.slice none 0 0) [] := by
  have hb7 : Below W6.heap.size W6 ((W6.alloc (.deferred (some []))).alloc (.loop R)) := ((Below.refl _ _).alloc (Nat.le_refl _) _).alloc (by simp) _
  have hL7 : ((W6.alloc (.deferred (some []))).alloc (.loop R)).heap[W6.heap.size + 1]? = some (.loop R) := by
    have := World.alloc_heap_new (W6.alloc (.deferred (some []))) (.loop R)
    rwa [World.size_alloc] at this
  have hD7 : ((W6.alloc (.deferred (some []))).alloc (.loop R)).heap[W6.heap.size]? = some (.deferred (some [])) := (Below.heap_alloc _ _ _ (by simp)).trans (World.alloc_heap_new W6 _)
  have hl := hO.lt
  have hs := hb.size
  refine ⟨by omega, by rw [hpw]; omega, hO.below hb7 hl, by rw [hD]; exact hD7, by rw [hL, hR]; exact hL7, World.ownsRow_nil _ _ _ _, fun g e => by simp [Value.ownBlock] at e, ?_⟩
  rw [hpw]
  exact hb.trans (hb7.mono hs)
end Go.Proofs.YtifcdojaocndhaaDoor

/- The pulses of a block: the program. -/
namespace Go.Proofs.YtifcdojaocndhaaDoor
open Go.ChangeShapes Go.WideShapes Go.ChangeAt Go.RowKit Go.Shelf
attribute [local go_sem] Oper.semAt_some
set_option linter.unusedVariables false
set_option linter.unusedSimpArgs false

end Go.Proofs.YtifcdojaocndhaaDoor

/- What is at fault with a tape: the program. -/
namespace Go.Proofs.YtifcdojaocndhaaDoor
open Go.ChangeShapes Go.WideShapes Go.ChangeAt Go.RowKit
set_option linter.unusedVariables false
set_option linter.unusedSimpArgs false

set_option maxRecDepth 100000 in
set_option maxHeartbeats 2000000 in
theorem tapeFault_impl (a : Option Addr) (cap : Nat) (l : List (Int × ByteArray)) (w : World) (h : BkR w a l) (hl : l.length ≤ 1048576) (hs : ∀ x ∈ l, x.2.size ≤ maxLen) :
    Calls Tryd.prog 132 #[.slice a l.length cap] w fun e w' => e = .returned (.int .i64 (tap2 l).2) ∧ Below w.heap.size w w' := by
  by_cases h1 : 4096 < l.length
  · have e : tap2 l = (ByteArray.empty, 2) := if_pos h1
    rw [e]
    go_enter Tryd.func132, Tryd.ntmps132
    go_wp2
    go_ret
    exact ⟨rfl, Below.refl _ _⟩
  by_cases h6 : 6 < l.length
  · have e : tap2 l = (ByteArray.empty, 1) := by
      unfold tap2
      rw [if_neg h1, if_neg]
      intro hc
      have := allL_len hc
      omega
    rw [e]
    go_enter Tryd.func132, Tryd.ntmps132
    go_wp2
    go_ret
    exact ⟨rfl, Below.refl _ _⟩
  have hno : Hid (∀ k, k < l.length → okB (l.getD k bkz).1 (l.getD k bkz).2 = false → (tap2 l).2 = 1) := fun k hk hb => by
    unfold tap2
    rw [if_neg h1, allL_no hk hb]
    rfl
  have hyes : Hid ((∀ k, k < l.length → okB (l.getD k bkz).1 (l.getD k bkz).2 = true) → (tap2 l).2 = 0) := fun hh => by
    unfold tap2
    rw [if_neg h1, allL_yes hh, if_pos (by simpa using by omega)]
  have hsz : Hid (∀ k, k < l.length → (l.getD k bkz).2.size ≤ maxLen) := fun k hk => hs _ (getD_mem hk)
  clear hs
  replace h := hid h
  obtain ⟨Q, hQ⟩ : ∃ Q, (tap2 l).2 = Q := ⟨_, rfl⟩
  rw [hQ] at hno hyes ⊢
  clear hQ
  go_enter Tryd.func132, Tryd.ntmps132
  go_wp2
  go_loopw [13] (fun i wr => ∃ k : Nat, k ≤ l.length ∧ i = .int .i64 k ∧ (∀ j, j < k → okB (l.getD j bkz).1 (l.getD j bkz).2 = true) ∧ Below w.heap.size w wr) (fun i _ => l.length - (intOf i).toNat)
  case atStart => exact ⟨0, by omega, rfl, fun j hj => by omega, Below.refl _ _⟩
  case round =>
    obtain ⟨k, hk, rfl, hj, hW⟩ := hrel
    by_cases hlt : k < l.length
    · obtain ⟨g, o, rfl, x1, x2⟩ := (h.out.below hW).at hlt
      have hz := hsz.out k hlt
      have hO := hid (fun W => bkokP_impl (l.getD k bkz).1 (l.getD k bkz).2 W hz)
      cases hb : okB (l.getD k bkz).1 (l.getD k bkz).2
      · have hE := hid (hno.out k hlt hb)
        clear hj hno hyes
        rw [hb] at hO
        generalize (l.getD k bkz).1 = F at *
        generalize (l.getD k bkz).2 = D at *
        have hW1 := hid (hW.alloc hW.size (.cells (bkA F D) 75))
        clear hz hW
        go_wp2_with fail
        refine (hO.out _).mono ?_
        rintro e w2 ⟨rfl, hb2⟩
        have hW2 := hid (new_trans hW1.out hb2)
        clear hb2 hW1 x1 x2
        go_wp2_with fail
        go_ret
        exact ⟨ret_int hE.out.symm, hW2.out⟩
      · have hj2 : Hid (∀ j, j < k + 1 → okB (l.getD j bkz).1 (l.getD j bkz).2 = true) := fun j hj1 => by
          by_cases e : j = k
          · rw [e]; exact hb
          · exact hj j (by omega)
        clear hj hno hyes
        rw [hb] at hO
        generalize (l.getD k bkz).1 = F at *
        generalize (l.getD k bkz).2 = D at *
        have hW1 := hid (hW.alloc hW.size (.cells (bkA F D) 75))
        clear hz hW
        go_wp2_with fail
        refine (hO.out _).mono ?_
        rintro e w2 ⟨rfl, hb2⟩
        have hW2 := hid (new_trans hW1.out hb2)
        clear hb2 hW1 x1 x2
        go_wp2_with fail
        go_roundw
        case rel => exact ⟨k + 1, by omega, by go_num, hj2.out, hW2.out⟩
        case measure => simp [intOf]; omega
    · obtain rfl : k = l.length := by omega
      have hE := hid (hyes.out hj)
      replace hW := hid hW
      clear hj hno hyes
      go_wp2_with fail
      go_ret
      exact ⟨ret_int hE.out.symm, hW.out⟩
end Go.Proofs.YtifcdojaocndhaaDoor
