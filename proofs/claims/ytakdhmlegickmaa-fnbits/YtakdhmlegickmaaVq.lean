/- The bits of a text: the program and the specification. -/
import Derived.Test.YtakdhmlegickmaaVl
import Derived.Test.YtakdhmlegickmaaVb
import Derived.Test.YtakdhmlegickmaaVs
namespace Go.Proofs.Ytakdhmlegickmaa
open Go.ChangeShapes Go.WideShapes Go.ChangeAt Go.RowKit Go.Shelf
attribute [local go_sem] Oper.semAt_some
set_option linter.unusedVariables false
set_option linter.unusedSimpArgs false

abbrev boAs : Code := .region 7 #[({ dst := some 5, op := Op.assign (Operand.tmp 14), type := 3, pos := "l10_pulse.go:204", after := #[], guard := none } : Oper)] false
abbrev boBd : Code := Code.block 1 (.region 8 #[({ dst := some 15, op := Op.load 25 (Operand.tmp 4), type := 25, pos := "l10_pulse.go:205", after := #[], guard := none } : Oper), ({ dst := some 16, op := Op.move (Operand.tmp 5), type := 3, pos := "l10_pulse.go:205", after := #[], guard := none } : Oper), ({ dst := some 17, op := Op.buildSlice 25 1 #[(0, Operand.tmp 16)], type := 25, pos := "l10_pulse.go:205", after := #[{ on := 1, ground := Ground.data }], guard := none } : Oper), ({ dst := some 18, op := Op.call { callee := Callee.builtin Builtin.append, args := #[Operand.tmp 15, Operand.tmp 17], argTypes := #[25, 25] }, type := 25, pos := "l10_pulse.go:205", after := #[{ on := 0, ground := Ground.data }, { on := 2, ground := Ground.data }], guard := none } : Oper), ({ dst := none, op := Op.store 25 (Operand.tmp 4) (Operand.tmp 18), type := 0, pos := "l10_pulse.go:205", after := #[{ on := 3, ground := Ground.data }, { on := 3, ground := Ground.chain }, { on := 0, ground := Ground.phase }, { on := 1, ground := Ground.phase }, { on := 2, ground := Ground.phase }, { on := 3, ground := Ground.phase }], guard := none } : Oper)] false)
abbrev boT (a0 a1 a2 a3 a5 a6 a7 a8 a9 a10 a11 a12 a13 a15 a16 a17 a18 a19 : Value) (O : Nat) (x : Value) : Array Value := #[a0, a1, a2, a3, .pointer (some ⟨O, 0, none⟩), a5, a6, a7, a8, a9, a10, a11, a12, a13, x, a15, a16, a17, a18, a19]
set_option maxRecDepth 100000 in
set_option maxHeartbeats 4000000 in
theorem bo_sink (p : Pj) (fn : FuncId) (a0 a1 a2 a3 a5 a6 a7 a8 a9 a10 a11 a12 a13 a15 a16 a17 a18 a19 x0 : Value) (hR : p.R = { state := .ready, pending := none, fn := fn, tmps := boT a0 a1 a2 a3 a5 a6 a7 a8 a9 a10 a11 a12 a13 a15 a16 a17 a18 a19 p.O x0, params := #[14], assign := boAs, body := boBd, defers := p.DF }) :
    Sink p.w.heap.size p.L p.bs (fun _ => True) 65536 (Sj p) := by
  refine ⟨fun h k => h.cong k, fun h => h.lt, fun m W cv acc x h _ hlen => ?_⟩
  refine YieldAt.any (k := 2) ?_
  obtain ⟨i0, hi0, hz0, hz1, hz2⟩ := info_parts infoI
  obtain ⟨oa, ocap, hcv⟩ := h.form
  obtain ⟨m1, m2, m3⟩ := p.mem
  obtain ⟨n1, n2, n3⟩ := h.nd
  have hLp := h.lp
  have hLlt : p.L < W.heap.size := (Array.getElem?_eq_some_iff.1 hLp).1
  have hy := run_yield (P := Try.prog) (args := #[.int .i64 x]) hLp (by rw [hR]; rfl)
  rw [hR] at hy
  have e : Array.foldl (fun (tmps : Array Value) (x : Tmp × Value) => match x with | (t, a) => tmps.setIfInBounds t a) (boT a0 a1 a2 a3 a5 a6 a7 a8 a9 a10 a11 a12 a13 a15 a16 a17 a18 a19 p.O x0) ((#[14] : Array Tmp).zip #[.int .i64 x]) = boT a0 a1 a2 a3 a5 a6 a7 a8 a9 a10 a11 a12 a13 a15 a16 a17 a18 a19 p.O (.int .i64 x) := by simp
  dsimp only at hy
  rw [e] at hy
  clear e
  refine ⟨fn, _, boAs, boBd, hy, roundIn_of_wpIn (F := Fence.wide) trivial ?_⟩
  clear hy
  have hbr := run_beginRound (P := Try.prog) hLp (by rw [hR])
  obtain ⟨Wb, hWb⟩ : ∃ Wb, W.putObj p.L (.loop { p.R with state := .busy }) = Wb := ⟨_, rfl⟩
  have kb : ∀ b, b ≠ p.L → Wb.heap[b]? = W.heap[b]? := fun b hb => by rw [← hWb, World.putObj_heap_other (by omega)]
  have sb : Wb.heap.size = W.heap.size := by rw [← hWb]; simp [World.putObj]
  have lb : Wb.heap[p.L]? = some (.loop { p.R with state := .busy }) := by rw [← hWb]; exact World.putObj_heap_same hLlt
  have hWo : Wb.os = W.os ∧ Wb.tape = W.tape ∧ Wb.output = W.output := by rw [← hWb]; exact ⟨rfl, rfl, rfl⟩
  have own : ∀ b, b ∈ p.bs → cv.ownBlock ≠ some b := fun b hb e => h.ne b e hb
  have own1 : Wb.ownsRow p.w.heap.size 3 1 cv acc.length (acc.map (Value.int .i64)) := own_sameV h.own (by omega) (fun g e => kb g (fun e2 => own _ m3 (e2 ▸ e)))
  have box1 : Blk Wb p.O #[cv] := by
    obtain ⟨t, hq⟩ := h.o
    exact ⟨t, (kb _ n2).trans hq⟩
  rw [hWb] at hbr
  have hbase := h.bel.size
  have hfin : Hid (∀ w2 v', w2.ownsRow p.w.heap.size 3 1 v' (acc.length + 1) (acc.map (Value.int .i64) ++ [.int .i64 x]) → (Wb.alloc (.cells #[.int .i64 x] 3)).grownBy w2 cv.ownBlock → (v'.ownBlock = cv.ownBlock ∨ v'.ownBlock = some (Wb.alloc (.cells #[.int .i64 x] 3)).heap.size) →
      Blk w2 p.O #[cv] ∧ ∃ vv W', (Instr.endRound p.L none).run Try.prog (w2.setCell ⟨p.O, 0, none⟩ v') = .ok vv W' ∧ vv = .bool true ∧ Sj p W' v' (acc ++ [x]) ∧ Kp p.bs W cv W' v') := by
    intro w2 v' ho hg hat
    have hk2 : ∀ b, b < W.heap.size → cv.ownBlock ≠ some b → w2.heap[b]? = Wb.heap[b]? := fun b hb hne => (hg.block b (by rw [World.size_alloc]; omega) (fun e => hne e.symm)).trans (Below.heap_alloc _ _ _ (by omega))
    have hLw2 : w2.heap[p.L]? = some (.loop { p.R with state := .busy }) := (hk2 _ hLlt (own _ m3)).trans lb
    have q2 : Blk w2 p.O #[cv] := by
      obtain ⟨t, hq⟩ := box1
      exact ⟨t, (hk2 _ h.o.lt (own _ m1)).trans hq⟩
    have hLs : (w2.setCell ⟨p.O, 0, none⟩ v').heap[p.L]? = some (.loop { p.R with state := .busy }) := (Below.heap_setCell _ _ _ _ (fun e => n2 e.symm)).trans hLw2
    have her := run_endRound (P := Try.prog) none hLs
    have hgs := hg.size
    rw [World.size_alloc] at hgs
    have hssz : (w2.setCell ⟨p.O, 0, none⟩ v').heap.size = w2.heap.size := by simp [World.setCell]
    have hLlt2 : p.L < (w2.setCell ⟨p.O, 0, none⟩ v').heap.size := by rw [hssz]; omega
    have hltb := h.lt.1
    have hnb : ∀ b, b ∈ p.bs → v'.ownBlock ≠ some b := fun b hb e => by
      rcases hat with e1 | e1
      · rw [e1] at e; exact own b hb e
      · rw [e1, World.size_alloc] at e
        have hbl := (hltb b hb).2
        simp at e
        omega
    obtain ⟨LR, hLR⟩ : ∃ LR : Loop, { { p.R with state := LoopState.busy } with state := .ready, pending := none } = LR := ⟨_, rfl⟩
    have hLR2 : LR = p.R := by rw [← hLR, hR]
    have k : ∀ b, b < W.heap.size → b ≠ p.O → b ≠ p.L → cv.ownBlock ≠ some b → ((w2.setCell ⟨p.O, 0, none⟩ v').putObj p.L (.loop LR)).heap[b]? = W.heap[b]? := fun b hb hne hnL hown => by
      rw [World.putObj_heap_other (by omega), Below.heap_setCell _ _ _ _ hne, hk2 b hb hown, kb b hnL]
    have hsz9 : ((w2.setCell ⟨p.O, 0, none⟩ v').putObj p.L (.loop LR)).heap.size = w2.heap.size := by
      rw [show ((w2.setCell ⟨p.O, 0, none⟩ v').putObj p.L (.loop LR)).heap.size = (w2.setCell ⟨p.O, 0, none⟩ v').heap.size by simp [World.putObj], hssz]
    have sg : w2.grownBy (w2.setCell ⟨p.O, 0, none⟩ v') (some p.O) := ⟨rfl, rfl, rfl, by simp [World.setCell], fun k _ hk => Below.heap_setCell _ _ _ _ (fun e => hk (by rw [e]))⟩
    have hDlt := (Array.getElem?_eq_some_iff.1 h.df).1
    have hres : Sj p ((w2.setCell ⟨p.O, 0, none⟩ v').putObj p.L (.loop LR)) v' (acc ++ [x]) ∧ Kp p.bs W cv ((w2.setCell ⟨p.O, 0, none⟩ v').putObj p.L (.loop LR)) v' := by
      refine ⟨⟨h.nd, h.far, ?_, (k _ hDlt n1.symm n3 (own _ m2)).trans h.df, ?_, ?_, fun g e hb => hnb g hb e, ?_⟩, ⟨by omega, fun b hb hf ho2 => k b hb (fun e => hf (e ▸ m1)) (fun e => hf (e ▸ m3)) ho2, ?_⟩⟩
      · obtain ⟨t, hq⟩ := q2.set 0 v'
        exact ⟨t, (World.putObj_heap_other (by omega)).trans hq⟩
      · rw [World.putObj_heap_same hLlt2, hLR2]
      · rw [List.map_append, List.length_append]
        exact ownsRow_putObj (ho.kept sg (.inr (hnb _ m1))) _ hLs rfl
      · refine h.bel.trans ⟨hg.os.trans hWo.1, hg.tape.trans hWo.2.1, hg.output.trans hWo.2.2, by omega, fun b hb => ?_⟩
        exact k b (Nat.lt_of_lt_of_le hb hbase) (fun e => by have := h.far.1; omega) (fun e => by have := h.far.2.2; omega) (fun e => by have := (h.own.lt b e).1; omega)
      · rcases hat with e | e
        · exact .inl e
        · exact .inr ⟨_, e, by rw [World.size_alloc]; omega⟩
    exact ⟨q2, _, _, her, rfl, by rw [← hLR] at hres; exact hres⟩
  have b0 := box1.cell
  have bf := box1.frozen
  have bl := box1.lt
  have hcb : p.w.heap.size ≤ Wb.heap.size := by omega
  replace own1 := hid own1
  replace h := hid h
  replace hR := hid hR
  have hbr2 := hid hbr
  clear hbr hLp hWb kb lb hWo box1 own sb hLlt m1 m2 m3 n1 n2 n3 hbase
  obtain ⟨n, hn⟩ : ∃ n, acc.length = n := ⟨_, rfl⟩
  rw [hn] at hfin own1 hcv hlen
  subst hcv
  clear hn
  dsimp only [boAs, boBd, boT]
  gi_wp2
  refine ⟨_, hbr2.out, ?_⟩
  gi_wp2_with (gi_at_builtin; refine wpListIn_append_own_at _ rfl _ _ 25 rfl p.w.heap.size 3 i0 _ 1 8 Try.underlying25 hi0 hz0 hz1 hz2 rfl (by omega) _ n (acc.map (Value.int .i64)) rfl (own1.out.alloc _) ⟨_, 0, none⟩ 1 1 [.int .i64 x] rfl rfl (World.news_of_block (cs := #[.int .i64 x]) (t := 3) (fr := (0, 0)) (heap_alloc_new _ _)) (by simp [Value.oneCell']) (by unfold maxLen; omega) (by omega) (by simp; omega) ?_; intro v' w2 ho hg hnil hat; obtain ⟨g9, c9, rfl⟩ := ownsRow_succ ho; obtain ⟨q2, vv, W9, hend, hvv, hC⟩ := hfin.out _ _ ho hg hat; have x2 := q2.cell; have f2 := q2.frozen; have z2 := q2.lt; replace hend := hid hend; replace hC := hid hC; replace hvv := hid hvv; clear ho hg hat hnil q2 hfin own1 b0 bf)
  exact ⟨vv, W9, hend.out, by rw [hvv.out], _, hC.out⟩
set_option maxRecDepth 100000 in
set_option maxHeartbeats 4000000 in
theorem bitsof_impl (t : ByteArray) (w : World) (ht : t.size ≤ maxLen) : Calls Try.prog 8 #[.string t] w fun e w' => ∃ v, e = .returned (.tuple #[v, .int .i64 (bits2 t).2]) ∧ Grow w w' v (bits2 t).1 := by
  unfold maxLen at ht
  by_cases h1 : 65536 < t.size
  · have e : bits2 t = ([], 2) := if_pos h1
    rw [e]
    refine (callsIn_wide (n := 5)).1 (callsIn_of_wp_marks Try.func8 rfl trivial ?_ rfl)
    simp only [Try.ntmps8, List.size_toArray, List.length_cons, List.length_nil, Nat.reduceAdd, Nat.reduceSub, Array.replicate_succ, Array.replicate_zero, List.push_toArray, List.append_toArray, List.nil_append, List.cons_append]
    gi_wp2
    refine ⟨.tuple #[.slice none 0 0, .int .i64 2], ?_, _, rfl, ⟨World.ownsRow_nil _ _ _ _, Below.refl _ _⟩⟩
    simp [results, Try.results8]
  by_cases h2 : 400 < t.size
  · have e : bits2 t = ([], 8) := by unfold bits2; rw [if_neg h1, if_pos h2]
    rw [e]
    refine (callsIn_wide (n := 5)).1 (callsIn_of_wp_marks Try.func8 rfl trivial ?_ rfl)
    simp only [Try.ntmps8, List.size_toArray, List.length_cons, List.length_nil, Nat.reduceAdd, Nat.reduceSub, Array.replicate_succ, Array.replicate_zero, List.push_toArray, List.append_toArray, List.nil_append, List.cons_append]
    gi_wp2
    refine ⟨.tuple #[.slice none 0 0, .int .i64 8], ?_, _, rfl, ⟨World.ownsRow_nil _ _ _ _, Below.refl _ _⟩⟩
    simp [results, Try.results8]
  · have e : bits2 t = (bitL t (8 * t.size), 0) := by unfold bits2; rw [if_neg h1, if_neg h2]
    rw [e]
    clear e
    have hBP := hid (fun W => eachBit_impl t W)
    have hIt : Hid (∀ {base L N : Nat} {fix : List Nat} {T : Int → Prop} {S : World → Value → List Int → Prop} (K : Sink base L fix T N S) (hT : ∀ b : Nat, b < 2 → T b) (BT : Nat) (W : World) (v : Value) (pre : List Int) (h : S W v pre) (hq : Blk W BT #[.string t]) (hf : BT ∉ fix) (hn : v.ownBlock ≠ some BT) (hp : pre.length + 8 * t.size ≤ N) (d : Nat), CallsIn Fence.wide (d + 2) Try.prog 23 #[.func (.yield L) #[] #[], .pointer (some ⟨BT, 0, none⟩)] W fun e W' => e = .returned (.tuple #[]) ∧ ∃ v', S W' v' (pre ++ bitL t (8 * t.size)) ∧ Kp fix W v W' v') := fun K hT BT W v pre h hq hf hn hp d => bitit_impl K hT t BT W v pre h hq hf hn (by omega) hp d
    have hd1 : decide ((65536 : Int) < (t.size : Int)) = false := decide_eq_false (by omega)
    have hd2 : decide ((400 : Int) < (t.size : Int)) = false := decide_eq_false (by omega)
    have hPl := bitL_len t (8 * t.size)
    generalize bitL t (8 * t.size) = PL at *
    refine (callsIn_wide (n := 5)).1 (callsIn_of_wp_marks Try.func8 rfl trivial ?_ rfl)
    simp only [Try.ntmps8, List.size_toArray, List.length_cons, List.length_nil, Nat.reduceAdd, Nat.reduceSub, Array.replicate_succ, Array.replicate_zero, List.push_toArray, List.append_toArray, List.nil_append, List.cons_append]
    gi_wp2_with fail
    refine ⟨trivial, ?_⟩
    refine (callsIn_wide.2 (hBP.out _)).mono ?_
    rintro e W5 ⟨rfl, hw5⟩
    have hb1 := (Below.refl w.heap.size w).alloc (Nat.le_refl _) (.cells #[.slice none 0 0] 25)
    have hO1 := Blk.new w #[.slice none 0 0] 25
    have hb2 : Hid (Below w.heap.size w W5) := by rw [hw5]; exact hb1.alloc hb1.size _
    have hO5 : Hid (Blk W5 w.heap.size #[.slice none 0 0]) := by rw [hw5]; exact hO1.alloc _
    have hq5 : Hid (Blk W5 (w.heap.size + 1) #[.string t]) := by
      rw [hw5]
      have := Blk.new (w.alloc (.cells #[.slice none 0 0] 25)) #[.string t] 9
      rw [World.size_alloc] at this
      exact this
    have hs5 : Hid (W5.heap.size = w.heap.size + 1 + 1) := by unfold Hid; rw [hw5]; simp
    clear hw5 hb1 hO1 hBP
    gi_wp2_with fail
    refine wpIn_rangeFunc ?_
    intro fn hfn
    obtain ⟨R, hR⟩ : ∃ R : Loop, R = { state := .ready, pending := none, fn := fn, tmps := boT (.string t) undef (.slice none 0 0) (.int .i64 0) undef (.string t) (.int .i64 (t.size : Int)) (.bool false) (.string t) (.int .i64 (t.size : Int)) (.bool false) (.string t) (.func (.func 23) #[] #[.pointer (some ⟨w.heap.size + 1, 0, none⟩)]) undef undef undef undef undef w.heap.size undef, params := #[14], assign := boAs, body := boBd, defers := W5.heap.size } := ⟨_, rfl⟩
    obtain ⟨p, hp⟩ : ∃ p : Pj, p = { w := w, O := w.heap.size, DF := W5.heap.size, L := W5.heap.size + 1, R := R } := ⟨_, rfl⟩
    refine ⟨W5.heap.size + 1, [{ target := .collected W5.heap.size, args := #[] }], (W5.alloc (.deferred (some []))).alloc (.loop R), { target := .fn (.func 23) #[.pointer (some ⟨w.heap.size + 1, 0, none⟩)], args := #[.func (.yield (W5.heap.size + 1)) #[] #[]] }, (W5.alloc (.deferred (some []))).alloc (.loop R), 23, #[.func (.yield (W5.heap.size + 1)) #[] #[], .pointer (some ⟨w.heap.size + 1, 0, none⟩)], (W5.alloc (.deferred (some []))).alloc (.loop R), ?_, ?_, fun _ _ => trivial, ?_, fun _ => by omega, ?_⟩
    · rw [hR]
      exact run_enterLoop_outer _ _ _ _ _
    · simp [resolve, go_sem]
    · simp [invoke, go_sem, enters_of Try.func23 (by kernel_rfl) rfl]
    have hpb : p.w = w ∧ p.O = w.heap.size ∧ p.DF = W5.heap.size ∧ p.L = W5.heap.size + 1 ∧ p.R = R := by subst hp; exact ⟨rfl, rfl, rfl, rfl, rfl⟩
    obtain ⟨k0, k1, k2, k3, k4⟩ := hpb
    have hpe : p.R = { state := .ready, pending := none, fn := fn, tmps := boT (.string t) undef (.slice none 0 0) (.int .i64 0) undef (.string t) (.int .i64 (t.size : Int)) (.bool false) (.string t) (.int .i64 (t.size : Int)) (.bool false) (.string t) (.func (.func 23) #[] #[.pointer (some ⟨w.heap.size + 1, 0, none⟩)]) undef undef undef undef undef p.O undef, params := #[14], assign := boAs, body := boBd, defers := p.DF } := by
      rw [k4, k1, k2]
      exact hR
    have hst := Sj.start (R := R) hb2.out (by rw [k1]; exact hO5.out) (by omega) k0 k2 k3 k4
    have hsk := bo_sink p fn _ _ _ _ _ _ _ _ _ _ _ _ _ _ _ _ _ _ _ hpe
    have h5 := hs5.out
    have hq7 : Blk ((W5.alloc (.deferred (some []))).alloc (.loop R)) (w.heap.size + 1) #[.string t] := (hq5.out.alloc _).alloc _
    have hit := hIt.out hsk (fun _ _ => trivial) (w.heap.size + 1) _ (.slice none 0 0) [] hst hq7 (fun hm => by
      have hm' : w.heap.size + 1 ∈ [p.O, p.DF, p.L] := hm
      simp only [List.mem_cons, List.not_mem_nil, or_false] at hm'
      omega) (by simp [Value.ownBlock]) (by simp; omega) 2
    rw [k3] at hit
    refine hit.mono ?_
    rintro e W8 ⟨rfl, v8, hS8, hK8⟩
    rw [List.nil_append] at hS8
    have hl8 := hS8.lp
    have hend := run_endLoop (P := Try.prog) hl8 (by rw [hpe]; simp)
    have hpend : p.R.pending = none := by rw [hpe]
    obtain ⟨y1, y2, y3, y4, _, _⟩ := hS8.fin { p.R with state := .exhausted }
    obtain ⟨oa, cap, hv8⟩ := hS8.form
    obtain ⟨W9, hW9⟩ : ∃ W9, W8.putObj p.L (.loop { p.R with state := .exhausted }) = W9 := ⟨_, rfl⟩
    rw [hW9] at hend y1 y2 y3 y4
    rw [k3] at hend
    rw [k0] at y3 y4
    rw [k1] at y1
    rw [k2] at y2 y3 y4
    refine ⟨p.R.pending, W9, hend, ?_⟩
    rw [hpend]
    have x9 := y1.cell
    replace y2 := hid y2
    replace y3 := hid y3
    replace y4 := hid y4
    clear hend hpend hl8 hS8 hK8 hit hsk hpe hW9 k0 k1 k2 k3 k4 hR hp hst hq7 y1 hIt hO5 hb2 hq5 h5 hPl
    subst hv8
    gi_wp2
    refine ⟨by simp, .inl ⟨_, _, rfl, run_takeDeferred y2.out, ?_⟩⟩
    refine ⟨.tuple #[.slice oa PL.length cap, .int .i64 0], ?_, _, rfl, ⟨y3.out, y4.out⟩⟩
    simp [results, Try.results8]
set_option maxRecDepth 100000 in
set_option maxHeartbeats 2000000 in
theorem bitsof_spec (t : ByteArray) (w : World) (ht : t.size ≤ maxLen) : Calls Try.prog 10 #[.string t] w fun e w' => ∃ v, e = .returned (.tuple #[v, .int .i64 (bits2 t).2]) ∧ Grow w w' v (bits2 t).1 := by
  unfold maxLen at ht
  have hN := hid (Grow.nil w)
  by_cases h1 : 65536 < t.size
  · have e : bits2 t = ([], 2) := if_pos h1
    rw [e]
    go_enter Try.func10, Try.ntmps10
    go_wp2
    go_ret2
    exact ⟨_, rfl, hN.out⟩
  by_cases h2 : 400 < t.size
  · have e : bits2 t = ([], 8) := by unfold bits2; rw [if_neg h1, if_pos h2]
    rw [e]
    go_enter Try.func10, Try.ntmps10
    go_wp2
    go_ret2
    exact ⟨_, rfl, hN.out⟩
  · have e : bits2 t = (bitL t (8 * t.size), 0) := by unfold bits2; rw [if_neg h1, if_neg h2]
    rw [e]
    have hP := hid (fun W => bits_spec t W (by omega))
    generalize bitL t (8 * t.size) = PL at *
    go_enter Try.func10, Try.ntmps10
    go_wp2_with fail
    refine (hP.out _).mono ?_
    rintro e w2 ⟨v2, rfl, hG⟩
    obtain ⟨oa, cap, rfl⟩ := hG.form
    replace hG := hid hG
    go_wp2_with fail
    go_ret2
    exact ⟨_, rfl, hG.out⟩
end Go.Proofs.Ytakdhmlegickmaa
