/- A text is compressed: the program. -/
import Derived.Test.YtghcagibdcblnaaLls
import Derived.Test.YtghcagibdcblnaaLms
import Derived.Test.YtghcagibdcblnaaLns
namespace Go.Proofs.Ytghcagibdcblnaa
open Go.ChangeShapes Go.WideShapes Go.ChangeAt Go.RowKit Go.Shelf
attribute [local go_sem] Oper.semAt_some
set_option linter.unusedVariables false
set_option linter.unusedSimpArgs false

abbrev loAs : Code := .region 7 #[({ dst := some 5, op := Op.alloc 102, type := 0, pos := "l12_rle.go:122", after := #[], guard := none } : Oper), ({ dst := none, op := Op.store 102 (Operand.tmp 5) (Operand.tmp 14), type := 0, pos := "l12_rle.go:122", after := #[{ on := 0, ground := Ground.data }, { on := 0, ground := Ground.phase }], guard := none } : Oper)] false
abbrev loBd : Code := Code.block 1 (.region 8 #[({ dst := some 15, op := Op.load 70 (Operand.tmp 4), type := 70, pos := "l12_rle.go:123", after := #[], guard := none } : Oper), ({ dst := some 16, op := Op.load 102 (Operand.tmp 5), type := 102, pos := "l12_rle.go:123", after := #[], guard := none } : Oper), ({ dst := some 17, op := Op.call { callee := Callee.value (Operand.func 66), args := #[Operand.tmp 16], argTypes := #[102] }, type := 70, pos := "l12_rle.go:123", after := #[{ on := 1, ground := Ground.data }], guard := none } : Oper), ({ dst := some 18, op := Op.call { callee := Callee.builtin Builtin.append, args := #[Operand.tmp 15, Operand.tmp 17], argTypes := #[70, 70] }, type := 70, pos := "l12_rle.go:123", after := #[{ on := 0, ground := Ground.data }, { on := 2, ground := Ground.data }, { on := 2, ground := Ground.chain }], guard := none } : Oper), ({ dst := none, op := Op.store 70 (Operand.tmp 4) (Operand.tmp 18), type := 0, pos := "l12_rle.go:123", after := #[{ on := 3, ground := Ground.data }, { on := 3, ground := Ground.chain }, { on := 0, ground := Ground.phase }, { on := 1, ground := Ground.phase }, { on := 2, ground := Ground.phase }, { on := 3, ground := Ground.phase }], guard := none } : Oper)] true)
abbrev loT (a0 a1 a2 a3 a5 a6 a7 a8 a9 a10 a11 a12 a13 a15 a16 a17 a18 a19 a20 : Value) (O : Nat) (x : Value) : Array Value := #[a0, a1, a2, a3, .pointer (some ⟨O, 0, none⟩), a5, a6, a7, a8, a9, a10, a11, a12, a13, x, a15, a16, a17, a18, a19, a20]
set_option maxRecDepth 100000 in
set_option maxHeartbeats 4000000 in
theorem lo_sink (p : Pg) (hk : p.ks = []) (fn : FuncId) (a0 a1 a2 a3 a5 a6 a7 a8 a9 a10 a11 a12 a13 a15 a16 a17 a18 a19 a20 x0 : Value) (hR : p.R = { state := .ready, pending := none, fn := fn, tmps := loT a0 a1 a2 a3 a5 a6 a7 a8 a9 a10 a11 a12 a13 a15 a16 a17 a18 a19 a20 p.O x0, params := #[14], assign := loAs, body := loBd, defers := p.DF }) :
    SinkR p.w.heap.size p.L p.bs (Sg p) := by
  refine ⟨fun h k => h.cong k, fun h => h.lt, fun m W cv acc b n h hn1 hn2 hlen => ?_⟩
  refine YieldAt.any (k := 2) ?_
  obtain ⟨oa, ocap, hcv⟩ := h.form
  obtain ⟨m1, m2, m3, m4⟩ := p.mem
  obtain ⟨n1, n2, n3⟩ := h.nd
  obtain ⟨l1, l2, l3⟩ := h.lt
  have hLp := h.lp
  have hLlt : p.L < W.heap.size := (Array.getElem?_eq_some_iff.1 hLp).1
  have hy := run_yield (P := Try.prog) (args := #[rnV b n]) hLp (by rw [hR]; rfl)
  rw [hR] at hy
  have e : Array.foldl (fun (tmps : Array Value) (x : Tmp × Value) => match x with | (t, a) => tmps.setIfInBounds t a) (loT a0 a1 a2 a3 a5 a6 a7 a8 a9 a10 a11 a12 a13 a15 a16 a17 a18 a19 a20 p.O x0) ((#[14] : Array Tmp).zip #[rnV b n]) = loT a0 a1 a2 a3 a5 a6 a7 a8 a9 a10 a11 a12 a13 a15 a16 a17 a18 a19 a20 p.O (rnV b n) := by simp
  dsimp only at hy
  rw [e] at hy
  clear e
  refine ⟨fn, _, loAs, loBd, hy, roundIn_of_wpIn (F := Fence.wide) trivial ?_⟩
  clear hy
  have w1L : (W.alloc (.cells (rnA b n) 102)).heap[p.L]? = some (.loop p.R) := (Below.heap_alloc _ _ _ hLlt).trans hLp
  have hbr := run_beginRound (P := Try.prog) w1L (by rw [hR])
  obtain ⟨Wb, hWb⟩ : ∃ Wb, (W.alloc (.cells (rnA b n) 102)).putObj p.L (.loop { p.R with state := .busy }) = Wb := ⟨_, rfl⟩
  rw [hWb] at hbr
  have hfin : Hid (∀ (wa w2 : World) (v' : Value), Below Wb.heap.size Wb wa → wa.grownBy w2 cv.ownBlock → w2.ownsRow p.w.heap.size 5 1 v' (acc.length + (pkL b n).length) (acc.map (Value.int .u8) ++ (pkL b n).map (Value.int .u8)) → (v'.ownBlock = cv.ownBlock ∨ v'.ownBlock = some wa.heap.size) → ∃ vv W', (Instr.endRound p.L none).run Try.prog (w2.setCell ⟨p.O, 0, none⟩ v') = .ok vv W' ∧ vv = .bool true ∧ Sg p W' v' (acc ++ pkL b n) ∧ Kp p.bs W cv W' v') := fun wa w2 v' hB hg ho hat => h.fin ⟨by rw [hR], by rw [hR]⟩ (pkL b n) hWb hB hg ho hat
  have kb : ∀ b, b < W.heap.size → b ≠ p.L → Wb.heap[b]? = W.heap[b]? := fun b hb hne => by rw [← hWb, World.putObj_heap_other (by omega)]; exact Below.heap_alloc _ _ _ hb
  have sb : Wb.heap.size = W.heap.size + 1 := by rw [← hWb]; simp [World.putObj]
  have own1 : Wb.ownsRow p.w.heap.size 5 1 cv acc.length (acc.map (Value.int .u8)) := own_sameV h.own (by omega) (fun g e => kb g (h.own.lt g e).2 (fun e2 => h.ne g e (e2 ▸ m3)))
  have qO : Blk Wb p.O #[cv] := blk_sameG h.o (kb _ h.o.lt n2)
  have qX : Blk Wb W.heap.size (rnA b n) := by
    refine blk_sameG (Blk.new W (rnA b n) 102) ?_
    rw [← hWb, World.putObj_heap_other (by omega)]
  have hOb : cv.ownBlock ≠ some p.O := fun e => h.ne _ e m1
  have hpl := pkL_len b hn1
  have hco := hid (fun X (hX : Below Wb.heap.size Wb X) => packed_impl b n X hn2)
  have hbase : p.w.heap.size ≤ Wb.heap.size := by omega
  replace hbr := hid hbr
  replace h := hid h
  replace hR := hid hR
  clear hLp w1L hWb kb sb hLlt m1 m2 m3 m4 n1 n2 n3 l1 l2 l3
  obtain ⟨len, hl⟩ : ∃ k, acc.length = k := ⟨_, rfl⟩
  obtain ⟨mm, hmm⟩ : ∃ k, (pkL b n).length = k := ⟨_, rfl⟩
  rw [hl] at hfin own1 hcv hlen
  rw [hmm] at hfin hpl
  subst hcv
  clear hl
  dsimp only [loAs, loBd, loT]
  gi_wp2
  refine ⟨_, hbr.out, ?_⟩
  gi_wp2
  refine lm_reg _ _ _ Wb _ p.O W.heap.size p.w.heap.size oa len ocap b n mm (acc.map (Value.int .u8)) (pkL b n) rfl rfl qO qX own1 (fun X hX => (hco.out X hX).mono (by
    rintro e w' ⟨g, m9, rfl, hm9, hR9⟩
    obtain rfl : mm = m9 := hmm.symm.trans hm9
    exact ⟨g, rfl, hR9⟩)) hmm hOb hbase (by omega) (by simp) ?_
  rintro w9 e9 ⟨wa, w2, hB, hg, ho, hat, rfl⟩
  obtain ⟨vv, W9, hend, hvv, hC⟩ := hfin.out wa w2 e9.2 hB hg ho hat
  simp only [putsA, Act.put, List.setIfInBounds_toArray, List.set_cons_zero, List.set_cons_succ]
  clear hfin hB hg ho hat qO qX own1 hco
  exact ⟨vv, W9, hend, by rw [hvv], _, hC⟩
set_option maxRecDepth 100000 in
set_option maxHeartbeats 4000000 in
theorem cmp_impl (t : ByteArray) (w : World) (ht : t.size ≤ maxLen) : Calls Try.prog 61 #[.string t] w fun e w' => e = .returned (.tuple #[.string (cmp2 t).1, .int .i64 (cmp2 t).2]) ∧ Below w.heap.size w w' := by
  unfold maxLen at ht
  unfold cmp2
  by_cases h1 : 65536 < t.size
  · rw [if_pos h1]
    refine (callsIn_wide (n := 5)).1 (callsIn_of_wp_marks Try.func61 rfl trivial ?_ rfl)
    simp only [Try.ntmps61, List.size_toArray, List.length_cons, List.length_nil, Nat.reduceAdd, Nat.reduceSub, Array.replicate_succ, Array.replicate_zero, List.push_toArray, List.append_toArray, List.nil_append, List.cons_append]
    gi_wp2
    refine ⟨.tuple #[.string eS0, .int .i64 2], ?_, rfl, Below.refl _ _⟩
    simp [results, Try.results61]
  rw [if_neg h1]
  by_cases h2 : 4096 < t.size
  · rw [if_pos h2]
    refine (callsIn_wide (n := 5)).1 (callsIn_of_wp_marks Try.func61 rfl trivial ?_ rfl)
    simp only [Try.ntmps61, List.size_toArray, List.length_cons, List.length_nil, Nat.reduceAdd, Nat.reduceSub, Array.replicate_succ, Array.replicate_zero, List.push_toArray, List.append_toArray, List.nil_append, List.cons_append]
    gi_wp2
    refine ⟨.tuple #[.string eS0, .int .i64 8], ?_, rfl, Below.refl _ _⟩
    simp [results, Try.results61]
  rw [if_neg h2]
  have hBP := hid (fun W => runsOf_impl t W)
  have hIt : Hid (∀ {base L : Nat} {fix : List Nat} {S : World → Value → List Int → Prop} (K : SinkR base L fix S) (BT : Nat) (W : World) (v : Value) (h : S W v []) (hq : Blk W BT #[.string t]) (d : Nat), CallsIn Fence.wide (d + 2) Try.prog 67 #[.func (.yield L) #[] #[], .pointer (some ⟨BT, 0, none⟩)] W fun e W' => e = .returned (.tuple #[]) ∧ ∃ v', S W' v' (cmpE (bts t)) ∧ Kp fix W v W' v') := fun K BT W v h hq d => runit_impl K t BT W v h hq (by omega) d
  have hd1 : decide ((65536 : Int) < (t.size : Int)) = false := decide_eq_false (by omega)
  have hd2 : decide ((4096 : Int) < (t.size : Int)) = false := decide_eq_false (by omega)
  have hPl : (cmpE (bts t)).length ≤ 8192 := by
    have := cmpE_len (bts t)
    rw [bts_len] at this
    omega
  generalize cmpE (bts t) = PL at *
  refine (callsIn_wide (n := 5)).1 (callsIn_of_wp_marks Try.func61 rfl trivial ?_ rfl)
  simp only [Try.ntmps61, List.size_toArray, List.length_cons, List.length_nil, Nat.reduceAdd, Nat.reduceSub, Array.replicate_succ, Array.replicate_zero, List.push_toArray, List.append_toArray, List.nil_append, List.cons_append]
  gi_wp2_with fail
  refine ⟨trivial, ?_⟩
  refine (callsIn_wide.2 (hBP.out _)).mono ?_
  rintro e W5 ⟨rfl, hw5⟩
  have hb1 := (Below.refl w.heap.size w).alloc (Nat.le_refl _) (.cells #[.slice none 0 0] 70)
  have hO1 := Blk.new w #[.slice none 0 0] 70
  have hb2 : Hid (Below w.heap.size w W5) := by rw [hw5]; exact hb1.alloc hb1.size _
  have hO5 : Hid (Blk W5 w.heap.size #[.slice none 0 0]) := by rw [hw5]; exact hO1.alloc _
  have hq5 : Hid (Blk W5 (w.heap.size + 1) #[.string t]) := by
    rw [hw5]
    have := Blk.new (w.alloc (.cells #[.slice none 0 0] 70)) #[.string t] 9
    rw [World.size_alloc] at this
    exact this
  have hs5 : Hid (W5.heap.size = w.heap.size + 1 + 1) := by unfold Hid; rw [hw5]; simp
  clear hw5 hb1 hO1 hBP
  gi_wp2_with fail
  refine wpIn_rangeFunc ?_
  intro fn hfn
  obtain ⟨R, hR⟩ : ∃ R : Loop, R = { state := .ready, pending := none, fn := fn, tmps := loT (.string t) undef (.string ⟨#[]⟩) (.int .i64 0) undef (.string t) (.int .i64 (t.size : Int)) (.bool false) (.string t) (.int .i64 (t.size : Int)) (.bool false) (.string t) (.func (.func 67) #[] #[.pointer (some ⟨w.heap.size + 1, 0, none⟩)]) undef undef undef undef undef undef w.heap.size undef, params := #[14], assign := loAs, body := loBd, defers := W5.heap.size } := ⟨_, rfl⟩
  obtain ⟨p, hp⟩ : ∃ p : Pg, p = { w := w, O := w.heap.size, DF := W5.heap.size, L := W5.heap.size + 1, R := R, ks := [] } := ⟨_, rfl⟩
  refine ⟨W5.heap.size + 1, [{ target := .collected W5.heap.size, args := #[] }], (W5.alloc (.deferred (some []))).alloc (.loop R), { target := .fn (.func 67) #[.pointer (some ⟨w.heap.size + 1, 0, none⟩)], args := #[.func (.yield (W5.heap.size + 1)) #[] #[]] }, (W5.alloc (.deferred (some []))).alloc (.loop R), 67, #[.func (.yield (W5.heap.size + 1)) #[] #[], .pointer (some ⟨w.heap.size + 1, 0, none⟩)], (W5.alloc (.deferred (some []))).alloc (.loop R), ?_, ?_, fun _ _ => trivial, ?_, fun _ => by omega, ?_⟩
  · rw [hR]
    exact run_enterLoop_outer _ _ _ _ _
  · simp [resolve, go_sem]
  · simp [invoke, go_sem, enters_of Try.func67 (by kernel_rfl) rfl]
  have hpb : p.w = w ∧ p.O = w.heap.size ∧ p.DF = W5.heap.size ∧ p.L = W5.heap.size + 1 ∧ p.R = R ∧ p.ks = [] := by subst hp; exact ⟨rfl, rfl, rfl, rfl, rfl, rfl⟩
  obtain ⟨k0, k1, k2, k3, k4, k5⟩ := hpb
  have hpe : p.R = { state := .ready, pending := none, fn := fn, tmps := loT (.string t) undef (.string ⟨#[]⟩) (.int .i64 0) undef (.string t) (.int .i64 (t.size : Int)) (.bool false) (.string t) (.int .i64 (t.size : Int)) (.bool false) (.string t) (.func (.func 67) #[] #[.pointer (some ⟨w.heap.size + 1, 0, none⟩)]) undef undef undef undef undef undef p.O undef, params := #[14], assign := loAs, body := loBd, defers := p.DF } := by
    rw [k4, k1, k2]
    exact hR
  have hst := Sg.start (R := R) hb2.out (by rw [k1]; exact hO5.out) (by omega) (by rw [k5]; intro x hx; cases hx) k0 k2 k3 k4
  have hsk := lo_sink p k5 fn _ _ _ _ _ _ _ _ _ _ _ _ _ _ _ _ _ _ _ _ hpe
  have h5 := hs5.out
  have hq7 : Blk ((W5.alloc (.deferred (some []))).alloc (.loop R)) (w.heap.size + 1) #[.string t] := (hq5.out.alloc _).alloc _
  have hit := hIt.out hsk (w.heap.size + 1) _ (.slice none 0 0) hst hq7 2
  rw [k3] at hit
  refine hit.mono ?_
  rintro e W8 ⟨rfl, v8, hS8, hK8⟩
  have hl8 := hS8.lp
  have hend := run_endLoop (P := Try.prog) hl8 (by rw [hpe]; simp)
  have hpend : p.R.pending = none := by rw [hpe]
  obtain ⟨y1, y2, y3, _, y4, y5⟩ := hS8.stop { p.R with state := .exhausted }
  obtain ⟨oa, cap, hv8⟩ := hS8.form
  obtain ⟨W9, hW9⟩ : ∃ W9, W8.putObj p.L (.loop { p.R with state := .exhausted }) = W9 := ⟨_, rfl⟩
  rw [hW9] at hend y1 y2 y3 y4
  rw [k3] at hend
  rw [k0] at y3 y4
  rw [k1] at y1
  rw [k2] at y2
  refine ⟨p.R.pending, W9, hend, ?_⟩
  rw [hpend]
  have x9 := y1.cell
  have hcs := own_string (xs := PL) y3
  replace y2 := hid y2
  have hb9 : Hid (Below w.heap.size w (W9.putObj W5.heap.size (.deferred none))) := y4.trans ⟨rfl, rfl, rfl, by simp [World.putObj], fun b hb => World.putObj_heap_other (by omega)⟩
  clear y4
  clear hend hpend hl8 hS8 hK8 hit hsk hpe hW9 k0 k1 k2 k3 k4 k5 hR hp hst hq7 y1 hIt hO5 hb2 hq5 h5 hPl y5 y3
  subst hv8
  gi_wp2
  refine ⟨by simp, .inl ⟨_, _, rfl, run_takeDeferred y2.out, ?_⟩⟩
  refine ⟨.tuple #[.string (strOfNums PL), .int .i64 0], ?_, rfl, ?_⟩
  · simp [results, Try.results61]
  · exact hb9.out
end Go.Proofs.Ytghcagibdcblnaa
