/- A loop over a function that gathers bytes: what it holds between two rounds, and the end of a round. -/
import Derived.Test.YtghcagibdcblnaaGreatDoorF29
import Derived.Test.YtghcagibdcblnaaGreatDoorF28
import Derived.Test.YtghcagibdcblnaaGreatDoorLmf
namespace Go.Proofs.YtghcagibdcblnaaGreatDoor
open Go.ChangeShapes Go.WideShapes Go.ChangeAt Go.RowKit Go.Shelf
attribute [local go_sem] Oper.semAt_some
set_option linter.unusedVariables false
set_option linter.unusedSimpArgs false

/-- the loop's own blocks: the list's box, the rounds' deferred calls, the record; and what else is kept as it is -/
structure Pg where
  w : World
  O : Nat
  DF : Nat
  L : Nat
  R : Loop
  ks : List (Nat × Array Value)
def Pg.bs (p : Pg) : List Nat := p.O :: p.DF :: p.L :: p.ks.map (·.1)
theorem Pg.mem (p : Pg) : p.O ∈ p.bs ∧ p.DF ∈ p.bs ∧ p.L ∈ p.bs ∧ ∀ x ∈ p.ks, x.1 ∈ p.bs := by
  refine ⟨by simp [Pg.bs], by simp [Pg.bs], by simp [Pg.bs], fun x hx => ?_⟩
  unfold Pg.bs
  exact List.mem_cons_of_mem _ (List.mem_cons_of_mem _ (List.mem_cons_of_mem _ (List.mem_map.2 ⟨x, hx, rfl⟩)))
structure Sg (p : Pg) (W : World) (cv : Value) (acc : List Int) : Prop where
  nd : p.O ≠ p.DF ∧ p.O ≠ p.L ∧ p.DF ≠ p.L
  ndk : ∀ x ∈ p.ks, x.1 ≠ p.O ∧ x.1 ≠ p.DF ∧ x.1 ≠ p.L
  far : ∀ b ∈ p.bs, p.w.heap.size ≤ b
  o : Blk W p.O #[cv]
  df : W.heap[p.DF]? = some (.deferred (some []))
  lp : W.heap[p.L]? = some (.loop p.R)
  ks : ∀ x ∈ p.ks, Blk W x.1 x.2
  own : W.ownsRow p.w.heap.size 5 1 cv acc.length (acc.map (Value.int .u8))
  ne : ∀ g, cv.ownBlock = some g → g ∉ p.bs
  bel : Below p.w.heap.size p.w W
theorem Sg.lt {p : Pg} {W : World} {cv : Value} {acc : List Int} (h : Sg p W cv acc) : (∀ b, b ∈ p.bs → p.w.heap.size ≤ b ∧ b < W.heap.size) ∧ (∀ g, cv.ownBlock = some g → p.w.heap.size ≤ g ∧ g < W.heap.size) ∧ p.w.heap.size ≤ W.heap.size := by
  refine ⟨fun b hb => ⟨h.far b hb, ?_⟩, fun g e => h.own.lt g e, h.bel.size⟩
  have hb' : b ∈ p.O :: p.DF :: p.L :: p.ks.map (·.1) := hb
  simp only [List.mem_cons] at hb'
  rcases hb' with rfl | rfl | rfl | hb'
  · exact h.o.lt
  · exact (Array.getElem?_eq_some_iff.1 h.df).1
  · exact (Array.getElem?_eq_some_iff.1 h.lp).1
  · obtain ⟨x, hx, rfl⟩ := List.mem_map.1 hb'
    exact (h.ks x hx).lt
theorem blk_sameG {w w' : World} {b : Nat} {A : Array Value} (h : Blk w b A) (e : w'.heap[b]? = w.heap[b]?) : Blk w' b A := by
  obtain ⟨t, h⟩ := h
  exact ⟨t, e.trans h⟩
theorem Sg.cong {p : Pg} {W W' : World} {cv : Value} {acc : List Int} (h : Sg p W cv acc) (k : SameOn p.w.heap.size p.bs cv W W') : Sg p W' cv acc := by
  obtain ⟨m1, m2, m3, m4⟩ := p.mem
  refine ⟨h.nd, h.ndk, h.far, blk_sameG h.o (k.fix _ m1), (k.fix _ m2).trans h.df, (k.fix _ m3).trans h.lp, fun x hx => blk_sameG (h.ks x hx) (k.fix _ (m4 x hx)), own_sameV h.own k.size k.own, h.ne, ?_⟩
  exact ⟨k.os.trans h.bel.os, k.tape.trans h.bel.tape, k.output.trans h.bel.output, Nat.le_trans h.bel.size k.size, fun b hb => (k.low b hb).trans (h.bel.block b hb)⟩
theorem Sg.form {p : Pg} {W : World} {cv : Value} {acc : List Int} (h : Sg p W cv acc) : ∃ oa cap, cv = .slice oa acc.length cap := ownsRow_form h.own
/-- the end of a round -/
theorem Sg.fin {p : Pg} {W : World} {cv : Value} {acc : List Int} (h : Sg p W cv acc) (hR : p.R.state = .ready ∧ p.R.pending = none) (xs : List Int) {o : Obj} {Wb : World} (hWb : (W.alloc o).putObj p.L (.loop { p.R with state := .busy }) = Wb) {wa w2 : World} {v' : Value} (hB : Below Wb.heap.size Wb wa) (hg : wa.grownBy w2 cv.ownBlock)
    (ho : w2.ownsRow p.w.heap.size 5 1 v' (acc.length + xs.length) (acc.map (Value.int .u8) ++ xs.map (Value.int .u8))) (hat : v'.ownBlock = cv.ownBlock ∨ v'.ownBlock = some wa.heap.size) :
    ∃ vv W', (Instr.endRound p.L none).run Tryz.prog (w2.setCell ⟨p.O, 0, none⟩ v') = .ok vv W' ∧ vv = .bool true ∧ Sg p W' v' (acc ++ xs) ∧ Kp p.bs W cv W' v' := by
  obtain ⟨m1, m2, m3, m4⟩ := p.mem
  obtain ⟨n1, n2, n3⟩ := h.nd
  obtain ⟨l1, l2, l3⟩ := h.lt
  have hLlt := (l1 _ m3).2
  have own : ∀ b, b ∈ p.bs → cv.ownBlock ≠ some b := fun b hb e => h.ne b e hb
  have sb : Wb.heap.size = W.heap.size + 1 := by rw [← hWb]; simp [World.putObj]
  have kb : ∀ b, b < W.heap.size → b ≠ p.L → Wb.heap[b]? = W.heap[b]? := fun b hb hne => by rw [← hWb, World.putObj_heap_other (by omega)]; exact Below.heap_alloc _ _ _ hb
  have lb : Wb.heap[p.L]? = some (.loop { p.R with state := .busy }) := by rw [← hWb]; exact World.putObj_heap_same (by simp; omega)
  have hWo : Wb.os = W.os ∧ Wb.tape = W.tape ∧ Wb.output = W.output := by rw [← hWb]; exact ⟨rfl, rfl, rfl⟩
  have hsa := hB.size
  have hk2 : ∀ b, b < W.heap.size → cv.ownBlock ≠ some b → w2.heap[b]? = Wb.heap[b]? := fun b hb hne => (hg.block b (by omega) (fun e => hne e.symm)).trans (hB.block b (by omega))
  have hLw2 : w2.heap[p.L]? = some (.loop { p.R with state := .busy }) := (hk2 _ hLlt (own _ m3)).trans lb
  have q2 : Blk w2 p.O #[cv] := blk_sameG h.o ((hk2 _ h.o.lt (own _ m1)).trans (kb _ h.o.lt n2))
  have hLs : (w2.setCell ⟨p.O, 0, none⟩ v').heap[p.L]? = some (.loop { p.R with state := .busy }) := (Below.heap_setCell _ _ _ _ (fun e => n2 e.symm)).trans hLw2
  have her := run_endRound (P := Tryz.prog) none hLs
  have hgs := hg.size
  have hssz : (w2.setCell ⟨p.O, 0, none⟩ v').heap.size = w2.heap.size := by simp [World.setCell]
  have hLlt2 : p.L < (w2.setCell ⟨p.O, 0, none⟩ v').heap.size := by rw [hssz]; omega
  have hnb : ∀ b, b ∈ p.bs → v'.ownBlock ≠ some b := fun b hb e => by
    rcases hat with e1 | e1
    · rw [e1] at e; exact own b hb e
    · rw [e1] at e
      have hbl := (l1 b hb).2
      simp at e
      omega
  obtain ⟨LR, hLR⟩ : ∃ LR : Loop, { { p.R with state := LoopState.busy } with state := .ready, pending := none } = LR := ⟨_, rfl⟩
  have hLR2 : LR = p.R := by
    rw [← hLR]
    obtain ⟨e1, e2⟩ := hR
    generalize p.R = R0 at *
    cases R0
    simp only at e1 e2
    rw [e1, e2]
  have k : ∀ b, b < W.heap.size → b ≠ p.O → b ≠ p.L → cv.ownBlock ≠ some b → ((w2.setCell ⟨p.O, 0, none⟩ v').putObj p.L (.loop LR)).heap[b]? = W.heap[b]? := fun b hb hne hnL hown => by
    rw [World.putObj_heap_other (by omega), Below.heap_setCell _ _ _ _ hne, hk2 b hb hown, kb b hb hnL]
  have hsz9 : ((w2.setCell ⟨p.O, 0, none⟩ v').putObj p.L (.loop LR)).heap.size = w2.heap.size := by
    rw [show ((w2.setCell ⟨p.O, 0, none⟩ v').putObj p.L (.loop LR)).heap.size = (w2.setCell ⟨p.O, 0, none⟩ v').heap.size by simp [World.putObj], hssz]
  have sg : w2.grownBy (w2.setCell ⟨p.O, 0, none⟩ v') (some p.O) := ⟨rfl, rfl, rfl, by simp [World.setCell], fun k _ hk => Below.heap_setCell _ _ _ _ (fun e => hk (by rw [e]))⟩
  have hDlt := (Array.getElem?_eq_some_iff.1 h.df).1
  have hres : Sg p ((w2.setCell ⟨p.O, 0, none⟩ v').putObj p.L (.loop LR)) v' (acc ++ xs) ∧ Kp p.bs W cv ((w2.setCell ⟨p.O, 0, none⟩ v').putObj p.L (.loop LR)) v' := by
    refine ⟨⟨h.nd, h.ndk, h.far, ?_, (k _ hDlt n1.symm n3 (own _ m2)).trans h.df, ?_, fun x hx => ?_, ?_, fun g e hb => hnb g hb e, ?_⟩, ⟨by omega, fun b hb hf ho2 => k b hb (fun e => hf (e ▸ m1)) (fun e => hf (e ▸ m3)) ho2, ?_⟩⟩
    · exact blk_sameG (q2.set 0 v') (World.putObj_heap_other (by omega))
    · rw [World.putObj_heap_same hLlt2, hLR2]
    · exact blk_sameG (h.ks x hx) (k _ (h.ks x hx).lt (h.ndk x hx).1 (h.ndk x hx).2.2 (own _ (m4 x hx)))
    · rw [List.map_append, List.length_append]
      exact ownsRow_putObj (ho.kept sg (.inr (hnb _ m1))) _ hLs rfl
    · refine h.bel.trans ⟨hg.os.trans (hB.os.trans hWo.1), hg.tape.trans (hB.tape.trans hWo.2.1), hg.output.trans (hB.output.trans hWo.2.2), by omega, fun b hb => ?_⟩
      exact k b (Nat.lt_of_lt_of_le hb l3) (fun e => by have := h.far _ m1; omega) (fun e => by have := h.far _ m3; omega) (fun e => by have := (h.own.lt b e).1; omega)
    · rcases hat with e | e
      · exact .inl e
      · exact .inr ⟨_, e, by omega⟩
  exact ⟨_, _, her, rfl, by rw [← hLR] at hres; exact hres⟩
/-- the loop is left -/
theorem Sg.stop {p : Pg} {W : World} {v : Value} {acc : List Int} (h : Sg p W v acc) (R' : Loop) :
    let W9 := W.putObj p.L (.loop R')
    Blk W9 p.O #[v] ∧ W9.heap[p.DF]? = some (.deferred (some [])) ∧ W9.ownsRow p.w.heap.size 5 1 v acc.length (acc.map (Value.int .u8)) ∧ (∀ x ∈ p.ks, Blk W9 x.1 x.2) ∧ Below p.w.heap.size p.w W9 ∧ W9.heap.size = W.heap.size := by
  intro W9
  obtain ⟨n1, n2, n3⟩ := h.nd
  obtain ⟨m1, m2, m3, m4⟩ := p.mem
  have k9 : ∀ b, b ≠ p.L → W9.heap[b]? = W.heap[b]? := fun b hb => World.putObj_heap_other (by omega)
  have s9 : W9.heap.size = W.heap.size := by simp [W9, World.putObj]
  refine ⟨blk_sameG h.o (k9 _ n2), (k9 _ n3).trans h.df, own_sameV h.own (by omega) (fun g e => k9 g (fun e2 => h.ne g e (e2 ▸ m3))), fun x hx => blk_sameG (h.ks x hx) (k9 _ (h.ndk x hx).2.2), ?_, s9⟩
  exact h.bel.trans ⟨rfl, rfl, rfl, by omega, fun b hb => k9 b (fun e => by have := h.far _ m3; omega)⟩
/-- a loop that begins: its own blocks lie above all that was there -/
theorem Sg.start {p : Pg} {w W6 : World} {R : Loop} (hb : Below w.heap.size w W6) (hO : Blk W6 p.O #[.slice none 0 0]) (hf : w.heap.size ≤ p.O) (hks : ∀ x ∈ p.ks, Blk W6 x.1 x.2 ∧ w.heap.size ≤ x.1 ∧ x.1 ≠ p.O) (hpw : p.w = w) (hD : p.DF = W6.heap.size) (hL : p.L = W6.heap.size + 1) (hR : p.R = R) : Sg p ((W6.alloc (.deferred (some []))).alloc (.loop R)) (.slice none 0 0) [] := by
  have hb7 : Below W6.heap.size W6 ((W6.alloc (.deferred (some []))).alloc (.loop R)) := ((Below.refl _ _).alloc (Nat.le_refl _) _).alloc (by simp) _
  have hL7 : ((W6.alloc (.deferred (some []))).alloc (.loop R)).heap[W6.heap.size + 1]? = some (.loop R) := by
    have := World.alloc_heap_new (W6.alloc (.deferred (some []))) (.loop R)
    rwa [World.size_alloc] at this
  have hD7 : ((W6.alloc (.deferred (some []))).alloc (.loop R)).heap[W6.heap.size]? = some (.deferred (some [])) := (Below.heap_alloc _ _ _ (by simp)).trans (World.alloc_heap_new W6 _)
  have hl := hO.lt
  have hs := hb.size
  refine ⟨by omega, fun x hx => ?_, fun b hbm => ?_, hO.below hb7 hl, by rw [hD]; exact hD7, by rw [hL, hR]; exact hL7, fun x hx => (hks x hx).1.below hb7 (hks x hx).1.lt, World.ownsRow_nil _ _ _ _, fun g e => by simp [Value.ownBlock] at e, ?_⟩
  · have h1 := hks x hx
    have h2 := h1.1.lt
    exact ⟨h1.2.2, by omega, by omega⟩
  · have hb' : b ∈ p.O :: p.DF :: p.L :: p.ks.map (·.1) := hbm
    simp only [List.mem_cons] at hb'
    rw [hpw]
    rcases hb' with rfl | rfl | rfl | hb'
    · exact hf
    · omega
    · omega
    · obtain ⟨x, hx, rfl⟩ := List.mem_map.1 hb'
      exact (hks x hx).2.1
  · rw [hpw]
    exact hb.trans (hb7.mono hs)
end Go.Proofs.YtghcagibdcblnaaGreatDoor

/- A text is compressed: the program. -/
namespace Go.Proofs.YtghcagibdcblnaaGreatDoor
open Go.ChangeShapes Go.WideShapes Go.ChangeAt Go.RowKit Go.Shelf
attribute [local go_sem] Oper.semAt_some
set_option linter.unusedVariables false
set_option linter.unusedSimpArgs false

abbrev loAs : Code := .region 7 #[({ dst := some 5, op := Op.alloc 126, type := 0, pos := "l12_rle.go:122", after := #[], guard := none } : Oper), ({ dst := none, op := Op.store 126 (Operand.tmp 5) (Operand.tmp 14), type := 0, pos := "l12_rle.go:122", after := #[{ on := 0, ground := Ground.data }, { on := 0, ground := Ground.phase }], guard := none } : Oper)] false
abbrev loBd : Code := Code.block 1 (.region 8 #[({ dst := some 15, op := Op.load 22 (Operand.tmp 4), type := 22, pos := "l12_rle.go:123", after := #[], guard := none } : Oper), ({ dst := some 16, op := Op.load 126 (Operand.tmp 5), type := 126, pos := "l12_rle.go:123", after := #[], guard := none } : Oper), ({ dst := some 17, op := Op.call { callee := Callee.value (Operand.func 84), args := #[Operand.tmp 16], argTypes := #[126] }, type := 22, pos := "l12_rle.go:123", after := #[{ on := 1, ground := Ground.data }], guard := none } : Oper), ({ dst := some 18, op := Op.call { callee := Callee.builtin Builtin.append, args := #[Operand.tmp 15, Operand.tmp 17], argTypes := #[22, 22] }, type := 22, pos := "l12_rle.go:123", after := #[{ on := 0, ground := Ground.data }, { on := 2, ground := Ground.data }, { on := 2, ground := Ground.chain }], guard := none } : Oper), ({ dst := none, op := Op.store 22 (Operand.tmp 4) (Operand.tmp 18), type := 0, pos := "l12_rle.go:123", after := #[{ on := 3, ground := Ground.data }, { on := 3, ground := Ground.chain }, { on := 0, ground := Ground.phase }, { on := 1, ground := Ground.phase }, { on := 2, ground := Ground.phase }, { on := 3, ground := Ground.phase }], guard := none } : Oper)] true)
abbrev loT (a0 a1 a2 a3 a5 a6 a7 a8 a9 a10 a11 a12 a13 a15 a16 a17 a18 a19 a20 : Value) (O : Nat) (x : Value) : Array Value := #[a0, a1, a2, a3, .pointer (some ⟨O, 0, none⟩), a5, a6, a7, a8, a9, a10, a11, a12, a13, x, a15, a16, a17, a18, a19, a20]
set_option maxRecDepth 100000 in
set_option maxHeartbeats 4000000 in
theorem lo_sink (p : Pg) (hk : p.ks = []) (fn : FuncId) (a0 a1 a2 a3 a5 a6 a7 a8 a9 a10 a11 a12 a13 a15 a16 a17 a18 a19 a20 x0 : Value) (hR : p.R = { state := .ready, pending := none, fn := fn, tmps := loT a0 a1 a2 a3 a5 a6 a7 a8 a9 a10 a11 a12 a13 a15 a16 a17 a18 a19 a20 p.O x0, params := #[14], assign := loAs, body := loBd, defers := p.DF }) :
    SinkR p.w.heap.size p.L p.bs (Sg p) := by
  refine ⟨fun h k => h.cong k, fun h => h.lt, fun m W cv acc b n h hn1 hn2 hlen => ?_⟩
  refine YieldAt.any (k := 2) ?_
  obtain ⟨oa, ocap, hcv⟩ := h.form
  obtain ⟨m1, m2, m3, m4⟩ := p.mem
  obtain ⟨n1, n2, n3⟩ := h.nd
  obtain ⟨l1, l2, l3⟩ := h.lt
  have hLp := h.lp
  have hLlt : p.L < W.heap.size := (Array.getElem?_eq_some_iff.1 hLp).1
  have hy := run_yield (P := Tryz.prog) (args := #[rnV b n]) hLp (by rw [hR]; rfl)
  rw [hR] at hy
  have e : Array.foldl (fun (tmps : Array Value) (x : Tmp × Value) => match x with | (t, a) => tmps.setIfInBounds t a) (loT a0 a1 a2 a3 a5 a6 a7 a8 a9 a10 a11 a12 a13 a15 a16 a17 a18 a19 a20 p.O x0) ((#[14] : Array Tmp).zip #[rnV b n]) = loT a0 a1 a2 a3 a5 a6 a7 a8 a9 a10 a11 a12 a13 a15 a16 a17 a18 a19 a20 p.O (rnV b n) := by simp
  dsimp only at hy
  rw [e] at hy
  clear e
  refine ⟨fn, _, loAs, loBd, hy, roundIn_of_wpIn (F := Fence.wide) trivial ?_⟩
  clear hy
  have w1L : (W.alloc (.cells (rnA b n) 126)).heap[p.L]? = some (.loop p.R) := (Below.heap_alloc _ _ _ hLlt).trans hLp
  have hbr := run_beginRound (P := Tryz.prog) w1L (by rw [hR])
  obtain ⟨Wb, hWb⟩ : ∃ Wb, (W.alloc (.cells (rnA b n) 126)).putObj p.L (.loop { p.R with state := .busy }) = Wb := ⟨_, rfl⟩
  rw [hWb] at hbr
  have hfin : Hid (∀ (wa w2 : World) (v' : Value), Below Wb.heap.size Wb wa → wa.grownBy w2 cv.ownBlock → w2.ownsRow p.w.heap.size 5 1 v' (acc.length + (pkL b n).length) (acc.map (Value.int .u8) ++ (pkL b n).map (Value.int .u8)) → (v'.ownBlock = cv.ownBlock ∨ v'.ownBlock = some wa.heap.size) → ∃ vv W', (Instr.endRound p.L none).run Tryz.prog (w2.setCell ⟨p.O, 0, none⟩ v') = .ok vv W' ∧ vv = .bool true ∧ Sg p W' v' (acc ++ pkL b n) ∧ Kp p.bs W cv W' v') := fun wa w2 v' hB hg ho hat => h.fin ⟨by rw [hR], by rw [hR]⟩ (pkL b n) hWb hB hg ho hat
  have kb : ∀ b, b < W.heap.size → b ≠ p.L → Wb.heap[b]? = W.heap[b]? := fun b hb hne => by rw [← hWb, World.putObj_heap_other (by omega)]; exact Below.heap_alloc _ _ _ hb
  have sb : Wb.heap.size = W.heap.size + 1 := by rw [← hWb]; simp [World.putObj]
  have own1 : Wb.ownsRow p.w.heap.size 5 1 cv acc.length (acc.map (Value.int .u8)) := own_sameV h.own (by omega) (fun g e => kb g (h.own.lt g e).2 (fun e2 => h.ne g e (e2 ▸ m3)))
  have qO : Blk Wb p.O #[cv] := blk_sameG h.o (kb _ h.o.lt n2)
  have qX : Blk Wb W.heap.size (rnA b n) := by
    refine blk_sameG (Blk.new W (rnA b n) 126) ?_
    rw [← hWb, World.putObj_heap_other (by omega)]
  have hOb : cv.ownBlock ≠ some p.O := fun e => h.ne _ e m1
  have hpl := pkL_len b hn1
  have hco := hid (fun X (hX : Below Wb.heap.size Wb X) => packed_impl b n X hn2)
  have hbase : p.w.heap.size ≤ Wb.heap.size := by omega
  replace hbr := hid hbr
  replace h := hid h
  replace hR := hid hR
  clear hLp w1L hWb kb sb hLlt m1 m2 m3 m4 n1 n2 n3 l1 l2 l3
  obtain ⟨len, hl⟩ : ∃ k, acc.length = k := ⟨_, rfl⟩
  obtain ⟨mm, hmm⟩ : ∃ k, (pkL b n).length = k := ⟨_, rfl⟩
  rw [hl] at hfin own1 hcv hlen
  rw [hmm] at hfin hpl
  subst hcv
  clear hl
  dsimp only [loAs, loBd, loT]
  gi_wp2
  refine ⟨_, hbr.out, ?_⟩
  gi_wp2
  refine lm_reg _ _ _ Wb _ p.O W.heap.size p.w.heap.size oa len ocap b n mm (acc.map (Value.int .u8)) (pkL b n) rfl rfl qO qX own1 (fun X hX => (hco.out X hX).mono (by
    rintro e w' ⟨g, m9, rfl, hm9, hR9⟩
    obtain rfl : mm = m9 := hmm.symm.trans hm9
    exact ⟨g, rfl, hR9⟩)) hmm hOb hbase (by omega) (by simp) ?_
  rintro w9 e9 ⟨wa, w2, hB, hg, ho, hat, rfl⟩
  obtain ⟨vv, W9, hend, hvv, hC⟩ := hfin.out wa w2 e9.2 hB hg ho hat
  simp only [putsA, Act.put, List.setIfInBounds_toArray, List.set_cons_zero, List.set_cons_succ]
  clear hfin hB hg ho hat qO qX own1 hco
  exact ⟨vv, W9, hend, by rw [hvv], _, hC⟩
set_option maxRecDepth 100000 in
set_option maxHeartbeats 4000000 in
theorem cmp_impl (t : ByteArray) (w : World) (ht : t.size ≤ maxLen) : Calls Tryz.prog 62 #[.string t] w fun e w' => e = .returned (.tuple #[.string (cmp2 t).1, .int .i64 (cmp2 t).2]) ∧ Below w.heap.size w w' := by
  unfold maxLen at ht
  unfold cmp2
  by_cases h1 : 65536 < t.size
  · rw [if_pos h1]
    refine (callsIn_wide (n := 5)).1 (callsIn_of_wp_marks Tryz.func62 rfl trivial ?_ rfl)
    simp only [Tryz.ntmps62, List.size_toArray, List.length_cons, List.length_nil, Nat.reduceAdd, Nat.reduceSub, Array.replicate_succ, Array.replicate_zero, List.push_toArray, List.append_toArray, List.nil_append, List.cons_append]
    gi_wp2
    refine ⟨.tuple #[.string eS0, .int .i64 2], ?_, rfl, Below.refl _ _⟩
    simp [results, Tryz.results62]
  rw [if_neg h1]
  by_cases h2 : 4096 < t.size
  · rw [if_pos h2]
    refine (callsIn_wide (n := 5)).1 (callsIn_of_wp_marks Tryz.func62 rfl trivial ?_ rfl)
    simp only [Tryz.ntmps62, List.size_toArray, List.length_cons, List.length_nil, Nat.reduceAdd, Nat.reduceSub, Array.replicate_succ, Array.replicate_zero, List.push_toArray, List.append_toArray, List.nil_append, List.cons_append]
    gi_wp2
    refine ⟨.tuple #[.string eS0, .int .i64 8], ?_, rfl, Below.refl _ _⟩
    simp [results, Tryz.results62]
  rw [if_neg h2]
  have hBP := hid (fun W => runsOf_impl t W)
  have hIt : Hid (∀ {base L : Nat} {fix : List Nat} {S : World → Value → List Int → Prop} (K : SinkR base L fix S) (BT : Nat) (W : World) (v : Value) (h : S W v []) (hq : Blk W BT #[.string t]) (d : Nat), CallsIn Fence.wide (d + 2) Tryz.prog 94 #[.func (.yield L) #[] #[], .pointer (some ⟨BT, 0, none⟩)] W fun e W' => e = .returned (.tuple #[]) ∧ ∃ v', S W' v' (cmpE (bts t)) ∧ Kp fix W v W' v') := fun K BT W v h hq d => runit_impl K t BT W v h hq (by omega) d
  have hd1 : decide ((65536 : Int) < (t.size : Int)) = false := decide_eq_false (by omega)
  have hd2 : decide ((4096 : Int) < (t.size : Int)) = false := decide_eq_false (by omega)
  have hPl : (cmpE (bts t)).length ≤ 8192 := by
    have := cmpE_len (bts t)
    rw [bts_len] at this
    omega
  generalize cmpE (bts t) = PL at *
  refine (callsIn_wide (n := 5)).1 (callsIn_of_wp_marks Tryz.func62 rfl trivial ?_ rfl)
  simp only [Tryz.ntmps62, List.size_toArray, List.length_cons, List.length_nil, Nat.reduceAdd, Nat.reduceSub, Array.replicate_succ, Array.replicate_zero, List.push_toArray, List.append_toArray, List.nil_append, List.cons_append]
  gi_wp2_with fail
  refine ⟨trivial, ?_⟩
  refine (callsIn_wide.2 (hBP.out _)).mono ?_
  rintro e W5 ⟨rfl, hw5⟩
  have hb1 := (Below.refl w.heap.size w).alloc (Nat.le_refl _) (.cells #[.slice none 0 0] 22)
  have hO1 := Blk.new w #[.slice none 0 0] 22
  have hb2 : Hid (Below w.heap.size w W5) := by rw [hw5]; exact hb1.alloc hb1.size _
  have hO5 : Hid (Blk W5 w.heap.size #[.slice none 0 0]) := by rw [hw5]; exact hO1.alloc _
  have hq5 : Hid (Blk W5 (w.heap.size + 1) #[.string t]) := by
    rw [hw5]
    have := Blk.new (w.alloc (.cells #[.slice none 0 0] 22)) #[.string t] 9
    rw [World.size_alloc] at this
    exact this
  have hs5 : Hid (W5.heap.size = w.heap.size + 1 + 1) := by unfold Hid; rw [hw5]; simp
  clear hw5 hb1 hO1 hBP
  gi_wp2_with fail
  refine wpIn_rangeFunc ?_
  intro fn hfn
  obtain ⟨R, hR⟩ : ∃ R : Loop, R = { state := .ready, pending := none, fn := fn, tmps := loT (.string t) undef (.string ⟨#[]⟩) (.int .i64 0) undef (.string t) (.int .i64 (t.size : Int)) (.bool false) (.string t) (.int .i64 (t.size : Int)) (.bool false) (.string t) (.func (.func 94) #[] #[.pointer (some ⟨w.heap.size + 1, 0, none⟩)]) undef undef undef undef undef undef w.heap.size undef, params := #[14], assign := loAs, body := loBd, defers := W5.heap.size } := ⟨_, rfl⟩
  obtain ⟨p, hp⟩ : ∃ p : Pg, p = { w := w, O := w.heap.size, DF := W5.heap.size, L := W5.heap.size + 1, R := R, ks := [] } := ⟨_, rfl⟩
  refine ⟨W5.heap.size + 1, [{ target := .collected W5.heap.size, args := #[] }], (W5.alloc (.deferred (some []))).alloc (.loop R), { target := .fn (.func 94) #[.pointer (some ⟨w.heap.size + 1, 0, none⟩)], args := #[.func (.yield (W5.heap.size + 1)) #[] #[]] }, (W5.alloc (.deferred (some []))).alloc (.loop R), 94, #[.func (.yield (W5.heap.size + 1)) #[] #[], .pointer (some ⟨w.heap.size + 1, 0, none⟩)], (W5.alloc (.deferred (some []))).alloc (.loop R), ?_, ?_, fun _ _ => trivial, ?_, fun _ => by omega, ?_⟩
  · rw [hR]
    exact run_enterLoop_outer _ _ _ _ _
  · simp [resolve, go_sem]
  · simp [invoke, go_sem, enters_of Tryz.func94 (by kernel_rfl) rfl]
  have hpb : p.w = w ∧ p.O = w.heap.size ∧ p.DF = W5.heap.size ∧ p.L = W5.heap.size + 1 ∧ p.R = R ∧ p.ks = [] := by subst hp; exact ⟨rfl, rfl, rfl, rfl, rfl, rfl⟩
  obtain ⟨k0, k1, k2, k3, k4, k5⟩ := hpb
  have hpe : p.R = { state := .ready, pending := none, fn := fn, tmps := loT (.string t) undef (.string ⟨#[]⟩) (.int .i64 0) undef (.string t) (.int .i64 (t.size : Int)) (.bool false) (.string t) (.int .i64 (t.size : Int)) (.bool false) (.string t) (.func (.func 94) #[] #[.pointer (some ⟨w.heap.size + 1, 0, none⟩)]) undef undef undef undef undef undef p.O undef, params := #[14], assign := loAs, body := loBd, defers := p.DF } := by
    rw [k4, k1, k2]
    exact hR
  have hst := Sg.start (R := R) hb2.out (by rw [k1]; exact hO5.out) (by omega) (by rw [k5]; intro x hx; cases hx) k0 k2 k3 k4
  have hsk := lo_sink p k5 fn _ _ _ _ _ _ _ _ _ _ _ _ _ _ _ _ _ _ _ _ hpe
  have h5 := hs5.out
  have hq7 : Blk ((W5.alloc (.deferred (some []))).alloc (.loop R)) (w.heap.size + 1) #[.string t] := (hq5.out.alloc _).alloc _
  have hit := hIt.out hsk (w.heap.size + 1) _ (.slice none 0 0) hst hq7 2
  rw [k3] at hit
  refine hit.mono ?_
  rintro e W8 ⟨rfl, v8, hS8, hK8⟩
  have hl8 := hS8.lp
  have hend := run_endLoop (P := Tryz.prog) hl8 (by rw [hpe]; simp)
  have hpend : p.R.pending = none := by rw [hpe]
  obtain ⟨y1, y2, y3, _, y4, y5⟩ := hS8.stop { p.R with state := .exhausted }
  obtain ⟨oa, cap, hv8⟩ := hS8.form
  obtain ⟨W9, hW9⟩ : ∃ W9, W8.putObj p.L (.loop { p.R with state := .exhausted }) = W9 := ⟨_, rfl⟩
  rw [hW9] at hend y1 y2 y3 y4
  rw [k3] at hend
  rw [k0] at y3 y4
  rw [k1] at y1
  rw [k2] at y2
  refine ⟨p.R.pending, W9, hend, ?_⟩
  rw [hpend]
  have x9 := y1.cell
  have hcs := own_string (xs := PL) y3
  replace y2 := hid y2
  have hb9 : Hid (Below w.heap.size w (W9.putObj W5.heap.size (.deferred none))) := y4.trans ⟨rfl, rfl, rfl, by simp [World.putObj], fun b hb => World.putObj_heap_other (by omega)⟩
  clear y4
  clear hend hpend hl8 hS8 hK8 hit hsk hpe hW9 k0 k1 k2 k3 k4 k5 hR hp hst hq7 y1 hIt hO5 hb2 hq5 h5 hPl y5 y3
  subst hv8
  gi_wp2
  refine ⟨by simp, .inl ⟨_, _, rfl, run_takeDeferred y2.out, ?_⟩⟩
  refine ⟨.tuple #[.string (strOfNums PL), .int .i64 0], ?_, rfl, ?_⟩
  · simp [results, Tryz.results62]
  · exact hb9.out
end Go.Proofs.YtghcagibdcblnaaGreatDoor
