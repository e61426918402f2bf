/- Rows of bytes that grow: small facts. -/
import Derived.Test.YtghcagibdcblnaaDoorR02
import Derived.Maps.AppendAt
import Derived.KernelRfl
import Derived.Maps.OwnIn
import Derived.Lib.AppendZeros
import Derived.RangeFuncBox
import Derived.RangeFuncCalls
import Derived.RangeFuncLeaves
import Derived.Shelf.Abstract
import Derived.Shelf.RegionOpen
import Derived.OwnWalkIn
import Derived.TacticsInMore
import Derived.LoopNIn
import Derived.LoopIn
namespace Go.Proofs.YtghcagibdcblnaaDoor
open Go.ChangeShapes Go.WideShapes Go.ChangeAt Go.RowKit
set_option linter.unusedVariables false

theorem infoB : (Tryd.prog.info? 5).map (fun i => (i.zero, i.size, i.bytes)) = some (some (.int .u8 0), 1, 1) := by kernel_rfl
theorem own_belowL {W W' : World} {lo n z : Nat} {e : TypeId} {v : Value} {xs : List Value} (h : W.ownsRow lo e z v n xs) (hb : Below W.heap.size W W') : W'.ownsRow lo e z v n xs := by
  obtain ⟨hl, ⟨rfl, h0⟩ | ⟨g, cap, cur, rfl, hbb, hh, h1, h2, h3, h4⟩⟩ := h
  · exact ⟨hl, .inl ⟨rfl, h0⟩⟩
  · exact ⟨hl, .inr ⟨g, cap, cur, rfl, hbb, (hb.block g (Array.getElem?_eq_some_iff.1 hh).1).trans hh, h1, h2, h3, h4⟩⟩
theorem ownsRow_form {W : World} {lo n z : Nat} {e : TypeId} {v : Value} {xs : List Value} (h : W.ownsRow lo e z v n xs) : ∃ g c, v = .slice g n c := by
  obtain ⟨_, ⟨h1, h0⟩ | ⟨g, cap, _, h1, _⟩⟩ := h
  · exact ⟨none, 0, by rw [h1, h0]⟩
  · exact ⟨_, _, h1⟩
end Go.Proofs.YtghcagibdcblnaaDoor

/- What a loop over a function leaves as it was, from round to round. -/
namespace Go.Proofs.YtghcagibdcblnaaDoor
open Go.ChangeShapes Go.WideShapes Go.ChangeAt Go.RowKit Go.Shelf
set_option linter.unusedVariables false
set_option linter.unusedSimpArgs false

/-- two worlds that agree on what a loop holds -/
structure SameOn (base : Nat) (fix : List Nat) (v : Value) (W W' : World) : Prop where
  os : W'.os = W.os
  tape : W'.tape = W.tape
  output : W'.output = W.output
  size : W.heap.size ≤ W'.heap.size
  low : ∀ b, b < base → W'.heap[b]? = W.heap[b]?
  fix : ∀ b, b ∈ fix → W'.heap[b]? = W.heap[b]?
  own : ∀ g, v.ownBlock = some g → W'.heap[g]? = W.heap[g]?
/-- what a round leaves as it was -/
structure Kp (fix : List Nat) (W : World) (v : Value) (W' : World) (v' : Value) : Prop where
  size : W.heap.size ≤ W'.heap.size
  same : ∀ b, b < W.heap.size → b ∉ fix → v.ownBlock ≠ some b → W'.heap[b]? = W.heap[b]?
  own : v'.ownBlock = v.ownBlock ∨ ∃ g, v'.ownBlock = some g ∧ W.heap.size ≤ g
theorem Kp.refl (fix : List Nat) (W : World) (v : Value) : Kp fix W v W v := ⟨Nat.le_refl _, fun _ _ _ _ => rfl, .inl rfl⟩
theorem Kp.ne {fix : List Nat} {W W' : World} {v v' : Value} (h : Kp fix W v W' v') {b : Nat} (hb : b < W.heap.size) (hn : v.ownBlock ≠ some b) : v'.ownBlock ≠ some b := by
  rcases h.own with e | ⟨g, e, hl⟩
  · rw [e]; exact hn
  · rw [e]
    intro e2
    simp at e2
    omega
theorem Kp.trans {fix : List Nat} {W W' W'' : World} {v v' v'' : Value} (h : Kp fix W v W' v') (k : Kp fix W' v' W'' v'') : Kp fix W v W'' v'' := by
  refine ⟨Nat.le_trans h.size k.size, fun b hb hf hn => ?_, ?_⟩
  · exact (k.same b (Nat.lt_of_lt_of_le hb h.size) hf (h.ne hb hn)).trans (h.same b hb hf hn)
  · rcases k.own with e | ⟨g, e, hl⟩
    · rw [e]; exact h.own
    · exact .inr ⟨g, e, Nat.le_trans h.size hl⟩
theorem Kp.below {fix : List Nat} {W W' : World} {v : Value} (hb : Below W.heap.size W W') : Kp fix W v W' v := ⟨hb.size, fun b h _ _ => hb.block b h, .inl rfl⟩
theorem Kp.blk {fix : List Nat} {W W' : World} {v v' : Value} (h : Kp fix W v W' v') {b : Nat} {A : Array Value} (hq : Blk W b A) (hf : b ∉ fix) (hn : v.ownBlock ≠ some b) : Blk W' b A := by
  have e := h.same b hq.lt hf hn
  obtain ⟨t, hq⟩ := hq
  exact ⟨t, e.trans hq⟩
theorem YieldAt.any {P : Program} {k m l : Nat} {args : Array Value} {W : World} {R : Ending → World → Prop} (h : YieldAt Fence.wide k P l args W R) : YieldAt Fence.wide m P l args W R := by
  obtain ⟨fn, tmps, assign, body, hy, hf, hr⟩ := h
  exact ⟨fn, tmps, assign, body, hy, hf, fun c cs _ => hr c cs (room_wide _)⟩
/-- a loop that gathers numbers: the list's box, the rounds' deferred calls, the record -/
structure Pj where
  w : World
  O : Nat
  DF : Nat
  L : Nat
  R : Loop
def Pj.bs (p : Pj) : List Nat := [p.O, p.DF, p.L]
theorem Pj.mem (p : Pj) : p.O ∈ p.bs ∧ p.DF ∈ p.bs ∧ p.L ∈ p.bs := by simp [Pj.bs]
theorem own_sameV {W W' : World} {lo n z : Nat} {e : TypeId} {v : Value} {xs : List Value} (h : W.ownsRow lo e z v n xs) (hs : W.heap.size ≤ W'.heap.size) (hk : ∀ g, v.ownBlock = some g → W'.heap[g]? = W.heap[g]?) : W'.ownsRow lo e z v n xs := by
  obtain ⟨hl, ⟨rfl, h0⟩ | ⟨g, cap, cur, rfl, hb, hh, h1, h2, h3, h4⟩⟩ := h
  · exact ⟨hl, .inl ⟨rfl, h0⟩⟩
  · exact ⟨hl, .inr ⟨g, cap, cur, rfl, hb, (hk g rfl).trans hh, h1, h2, h3, h4⟩⟩
end Go.Proofs.YtghcagibdcblnaaDoor

/- A loop over a function that gathers bytes: what it holds between two rounds, and the end of a round. -/
namespace Go.Proofs.YtghcagibdcblnaaDoor
open Go.ChangeShapes Go.WideShapes Go.ChangeAt Go.RowKit Go.Shelf
attribute [local go_sem] Oper.semAt_some
set_option linter.unusedVariables false
set_option linter.unusedSimpArgs false

/-- the loop's own blocks: the list's box, the rounds' deferred calls, the record; and what else is kept as it is -/
structure Pg where
  w : World
  O : Nat
  DF : Nat
  L : Nat
  R : Loop
  ks : List (Nat × Array Value)
def Pg.bs (p : Pg) : List Nat := p.O :: p.DF :: p.L :: p.ks.map (·.1)
theorem Pg.mem (p : Pg) : p.O ∈ p.bs ∧ p.DF ∈ p.bs ∧ p.L ∈ p.bs ∧ ∀ x ∈ p.ks, x.1 ∈ p.bs := by
  refine ⟨by simp [Pg.bs], by simp [Pg.bs], by simp [Pg.bs], fun x hx => ?_⟩
  unfold Pg.bs
  exact List.mem_cons_of_mem _ (List.mem_cons_of_mem _ (List.mem_cons_of_mem _ (List.mem_map.2 ⟨x, hx, rfl⟩)))
structure Sg (p : Pg) (W : World) (cv : Value) (acc : List Int) : Prop where
  nd : p.O ≠ p.DF ∧ p.O ≠ p.L ∧ p.DF ≠ p.L
  ndk : ∀ x ∈ p.ks, x.1 ≠ p.O ∧ x.1 ≠ p.DF ∧ x.1 ≠ p.L
  far : ∀ b ∈ p.bs, p.w.heap.size ≤ b
  o : Blk W p.O #[cv]
  df : W.heap[p.DF]? = some (.deferred (some []))
  lp : W.heap[p.L]? = some (.loop p.R)
  ks : ∀ x ∈ p.ks, Blk W x.1 x.2
  own : W.ownsRow p.w.heap.size 5 1 cv acc.length (acc.map (Value.int .u8))
  ne : ∀ g, cv.ownBlock = some g → g ∉ p.bs
  bel : Below p.w.heap.size p.w W
theorem Sg.lt {p : Pg} {W : World} {cv : Value} {acc : List Int} (h : Sg p W cv acc) : (∀ b, b ∈ p.bs → p.w.heap.size ≤ b ∧ b < W.heap.size) ∧ (∀ g, cv.ownBlock = some g → p.w.heap.size ≤ g ∧ g < W.heap.size) ∧ p.w.heap.size ≤ W.heap.size := by
  refine ⟨fun b hb => ⟨h.far b hb, ?_⟩, fun g e => h.own.lt g e, h.bel.size⟩
  have hb' : b ∈ p.O :: p.DF :: p.L :: p.ks.map (·.1) := hb
  simp only [List.mem_cons] at hb'
  rcases hb' with rfl | rfl | rfl | hb'
  · exact h.o.lt
  · exact (Array.getElem?_eq_some_iff.1 h.df).1
  · exact (Array.getElem?_eq_some_iff.1 h.lp).1
  · obtain ⟨x, hx, rfl⟩ := List.mem_map.1 hb'
    exact (h.ks x hx).lt
theorem blk_sameG {w w' : World} {b : Nat} {A : Array Value} (h : Blk w b A) (e : w'.heap[b]? = w.heap[b]?) : Blk w' b A := by
  obtain ⟨t, h⟩ := h
  exact ⟨t, e.trans h⟩
theorem Sg.cong {p : Pg} {W W' : World} {cv : Value} {acc : List Int} (h : Sg p W cv acc) (k : SameOn p.w.heap.size p.bs cv W W') : Sg p W' cv acc := by
  obtain ⟨m1, m2, m3, m4⟩ := p.mem
  refine ⟨h.nd, h.ndk, h.far, blk_sameG h.o (k.fix _ m1), (k.fix _ m2).trans h.df, (k.fix _ m3).trans h.lp, fun x hx => blk_sameG (h.ks x hx) (k.fix _ (m4 x hx)), own_sameV h.own k.size k.own, h.ne, ?_⟩
  exact ⟨k.os.trans h.bel.os, k.tape.trans h.bel.tape, k.output.trans h.bel.output, Nat.le_trans h.bel.size k.size, fun b hb => (k.low b hb).trans (h.bel.block b hb)⟩
theorem Sg.form {p : Pg} {W : World} {cv : Value} {acc : List Int} (h : Sg p W cv acc) : ∃ oa cap, cv = .slice oa acc.length cap := ownsRow_form h.own
/-- the end of a round -/
theorem Sg.fin {p : Pg} {W : World} {cv : Value} {acc : List Int} (h : Sg p W cv acc) (hR : p.R.state = .ready ∧ p.R.pending = none) (xs : List Int) {o : Obj} {Wb : World} (hWb : (W.alloc o).putObj p.L (.loop { p.R with state := .busy }) = Wb) {wa w2 : World} {v' : Value} (hB : Below Wb.heap.size Wb wa) (hg : wa.grownBy w2 cv.ownBlock)
    (ho : w2.ownsRow p.w.heap.size 5 1 v' (acc.length + xs.length) (acc.map (Value.int .u8) ++ xs.map (Value.int .u8))) (hat : v'.ownBlock = cv.ownBlock ∨ v'.ownBlock = some wa.heap.size) :
    ∃ vv W', (Instr.endRound p.L none).run Tryd.prog (w2.setCell ⟨p.O, 0, none⟩ v') = .ok vv W' ∧ vv = .bool true ∧ Sg p W' v' (acc ++ xs) ∧ Kp p.bs W cv W' v' := by
  obtain ⟨m1, m2, m3, m4⟩ := p.mem
  obtain ⟨n1, n2, n3⟩ := h.nd
  obtain ⟨l1, l2, l3⟩ := h.lt
  have hLlt := (l1 _ m3).2
  have own : ∀ b, b ∈ p.bs → cv.ownBlock ≠ some b := fun b hb e => h.ne b e hb
  have sb : Wb.heap.size = W.heap.size + 1 := by rw [← hWb]; simp [World.putObj]
  have kb : ∀ b, b < W.heap.size → b ≠ p.L → Wb.heap[b]? = W.heap[b]? := fun b hb hne => by rw [← hWb, World.putObj_heap_other (by omega)]; exact Below.heap_alloc _ _ _ hb
  have lb : Wb.heap[p.L]? = some (.loop { p.R with state := .busy }) := by rw [← hWb]; exact World.putObj_heap_same (by simp; omega)
  have hWo : Wb.os = W.os ∧ Wb.tape = W.tape ∧ Wb.output = W.output := by rw [← hWb]; exact ⟨rfl, rfl, rfl⟩
  have hsa := hB.size
  have hk2 : ∀ b, b < W.heap.size → cv.ownBlock ≠ some b → w2.heap[b]? = Wb.heap[b]? := fun b hb hne => (hg.block b (by omega) (fun e => hne e.symm)).trans (hB.block b (by omega))
  have hLw2 : w2.heap[p.L]? = some (.loop { p.R with state := .busy }) := (hk2 _ hLlt (own _ m3)).trans lb
  have q2 : Blk w2 p.O #[cv] := blk_sameG h.o ((hk2 _ h.o.lt (own _ m1)).trans (kb _ h.o.lt n2))
  have hLs : (w2.setCell ⟨p.O, 0, none⟩ v').heap[p.L]? = some (.loop { p.R with state := .busy }) := (Below.heap_setCell _ _ _ _ (fun e => n2 e.symm)).trans hLw2
  have her := run_endRound (P := Tryd.prog) none hLs
  have hgs := hg.size
  have hssz : (w2.setCell ⟨p.O, 0, none⟩ v').heap.size = w2.heap.size := by simp [World.setCell]
  have hLlt2 : p.L < (w2.setCell ⟨p.O, 0, none⟩ v').heap.size := by rw [hssz]; omega
  have hnb : ∀ b, b ∈ p.bs → v'.ownBlock ≠ some b := fun b hb e => by
    rcases hat with e1 | e1
    · rw [e1] at e; exact own b hb e
    · rw [e1] at e
      have hbl := (l1 b hb).2
      simp at e
      omega
  obtain ⟨LR, hLR⟩ : ∃ LR : Loop, { { p.R with state := LoopState.busy } with state := .ready, pending := none } = LR := ⟨_, rfl⟩
  have hLR2 : LR = p.R := by
    rw [← hLR]
    obtain ⟨e1, e2⟩ := hR
    generalize p.R = R0 at *
    cases R0
    simp only at e1 e2
    rw [e1, e2]
  have k : ∀ b, b < W.heap.size → b ≠ p.O → b ≠ p.L → cv.ownBlock ≠ some b → ((w2.setCell ⟨p.O, 0, none⟩ v').putObj p.L (.loop LR)).heap[b]? = W.heap[b]? := fun b hb hne hnL hown => by
    rw [World.putObj_heap_other (by omega), Below.heap_setCell _ _ _ _ hne, hk2 b hb hown, kb b hb hnL]
  have hsz9 : ((w2.setCell ⟨p.O, 0, none⟩ v').putObj p.L (.loop LR)).heap.size = w2.heap.size := by
    rw [show ((w2.setCell ⟨p.O, 0, none⟩ v').putObj p.L (.loop LR)).heap.size = (w2.setCell ⟨p.O, 0, none⟩ v').heap.size by simp [World.putObj], hssz]
  have sg : w2.grownBy (w2.setCell ⟨p.O, 0, none⟩ v') (some p.O) := ⟨rfl, rfl, rfl, by simp [World.setCell], fun k _ hk => Below.heap_setCell _ _ _ _ (fun e => hk (by rw [e]))⟩
  have hDlt := (Array.getElem?_eq_some_iff.1 h.df).1
  have hres : Sg p ((w2.setCell ⟨p.O, 0, none⟩ v').putObj p.L (.loop LR)) v' (acc ++ xs) ∧ Kp p.bs W cv ((w2.setCell ⟨p.O, 0, none⟩ v').putObj p.L (.loop LR)) v' := by
    refine ⟨⟨h.nd, h.ndk, h.far, ?_, (k _ hDlt n1.symm n3 (own _ m2)).trans h.df, ?_, fun x hx => ?_, ?_, fun g e hb => hnb g hb e, ?_⟩, ⟨by omega, fun b hb hf ho2 => k b hb (fun e => hf (e ▸ m1)) (fun e => hf (e ▸ m3)) ho2, ?_⟩⟩
    · exact blk_sameG (q2.set 0 v') (World.putObj_heap_other (by omega))
    · rw [World.putObj_heap_same hLlt2, hLR2]
    · exact blk_sameG (h.ks x hx) (k _ (h.ks x hx).lt (h.ndk x hx).1 (h.ndk x hx).2.2 (own _ (m4 x hx)))
    · rw [List.map_append, List.length_append]
      exact ownsRow_putObj (ho.kept sg (.inr (hnb _ m1))) _ hLs rfl
    · refine h.bel.trans ⟨hg.os.trans (hB.os.trans hWo.1), hg.tape.trans (hB.tape.trans hWo.2.1), hg.output.trans (hB.output.trans hWo.2.2), by omega, fun b hb => ?_⟩
      exact k b (Nat.lt_of_lt_of_le hb l3) (fun e => by have := h.far _ m1; omega) (fun e => by have := h.far _ m3; omega) (fun e => by have := (h.own.lt b e).1; omega)
    · rcases hat with e | e
      · exact .inl e
      · exact .inr ⟨_, e, by omega⟩
  exact ⟨_, _, her, rfl, by rw [← hLR] at hres; exact hres⟩
/-- the loop is left -/
theorem Sg.stop {p : Pg} {W : World} {v : Value} {acc : List Int} (h : Sg p W v acc) (R' : Loop) :
    let W9 := W.putObj p.L (.loop R')
    Blk W9 p.O #[v] ∧ W9.heap[p.DF]? = some (.deferred (some [])) ∧ W9.ownsRow p.w.heap.size 5 1 v acc.length (acc.map (Value.int .u8)) ∧ (∀ x ∈ p.ks, Blk W9 x.1 x.2) ∧ Below p.w.heap.size p.w W9 ∧ W9.heap.size = W.heap.size := by
  intro W9
  obtain ⟨n1, n2, n3⟩ := h.nd
  obtain ⟨m1, m2, m3, m4⟩ := p.mem
  have k9 : ∀ b, b ≠ p.L → W9.heap[b]? = W.heap[b]? := fun b hb => World.putObj_heap_other (by omega)
  have s9 : W9.heap.size = W.heap.size := by simp [W9, World.putObj]
  refine ⟨blk_sameG h.o (k9 _ n2), (k9 _ n3).trans h.df, own_sameV h.own (by omega) (fun g e => k9 g (fun e2 => h.ne g e (e2 ▸ m3))), fun x hx => blk_sameG (h.ks x hx) (k9 _ (h.ndk x hx).2.2), ?_, s9⟩
  exact h.bel.trans ⟨rfl, rfl, rfl, by omega, fun b hb => k9 b (fun e => by have := h.far _ m3; omega)⟩
/-- a loop that begins: its own blocks lie above all that was there -/
theorem Sg.start {p : Pg} {w W6 : World} {R : Loop} (hb : Below w.heap.size w W6) (hO : Blk W6 p.O #[.slice none 0 0]) (hf : w.heap.size ≤ p.O) (hks : ∀ x ∈ p.ks, Blk W6 x.1 x.2 ∧ w.heap.size ≤ x.1 ∧ x.1 ≠ p.O) (hpw : p.w = w) (hD : p.DF = W6.heap.size) (hL : p.L = W6.heap.size + 1) (hR : p.R = R) : Sg p ((W6.alloc (.deferred (some []))).alloc (.loop R)) (.slice none 0 0) [] := by
  have hb7 : Below W6.heap.size W6 ((W6.alloc (.deferred (some []))).alloc (.loop R)) := ((Below.refl _ _).alloc (Nat.le_refl _) _).alloc (by simp) _
  have hL7 : ((W6.alloc (.deferred (some []))).alloc (.loop R)).heap[W6.heap.size + 1]? = some (.loop R) := by
    have := World.alloc_heap_new (W6.alloc (.deferred (some []))) (.loop R)
    rwa [World.size_alloc] at this
  have hD7 : ((W6.alloc (.deferred (some []))).alloc (.loop R)).heap[W6.heap.size]? = some (.deferred (some [])) := (Below.heap_alloc _ _ _ (by simp)).trans (World.alloc_heap_new W6 _)
  have hl := hO.lt
  have hs := hb.size
  refine ⟨by omega, fun x hx => ?_, fun b hbm => ?_, hO.below hb7 hl, by rw [hD]; exact hD7, by rw [hL, hR]; exact hL7, fun x hx => (hks x hx).1.below hb7 (hks x hx).1.lt, World.ownsRow_nil _ _ _ _, fun g e => by simp [Value.ownBlock] at e, ?_⟩
  · have h1 := hks x hx
    have h2 := h1.1.lt
    exact ⟨h1.2.2, by omega, by omega⟩
  · have hb' : b ∈ p.O :: p.DF :: p.L :: p.ks.map (·.1) := hbm
    simp only [List.mem_cons] at hb'
    rw [hpw]
    rcases hb' with rfl | rfl | rfl | hb'
    · exact hf
    · omega
    · omega
    · obtain ⟨x, hx, rfl⟩ := List.mem_map.1 hb'
      exact (hks x hx).2.1
  · rw [hpw]
    exact hb.trans (hb7.mono hs)
end Go.Proofs.YtghcagibdcblnaaDoor
