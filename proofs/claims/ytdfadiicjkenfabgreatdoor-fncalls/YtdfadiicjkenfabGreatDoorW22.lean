/- The iterator over the cycles: it makes what tells them, and does the work. -/
import Derived.Test.YtdfadiicjkenfabGreatDoorW21
import Derived.Laws.EntriesVeiled
import Derived.Test.YtdfadiicjkenfabGreatDoorW20
import Derived.Test.YtdfadiicjkenfabGreatDoorW14
import Derived.BigRegion
namespace Go.Proofs.YtdfadiicjkenfabGreatDoor
open Go.ChangeShapes Go.WideShapes Go.ChangeAt Go.RowKit Go.Shelf
set_option linter.unusedVariables false
set_option linter.unusedSimpArgs false

theorem cp_start {p : Par} {z : Kps} {W : World} {c : Cp} {M : Mem} (hs : Sep p) (blk : Blk W p.Y (proA c p.B p.n p.I p.V)) (brd : Brd W p.lo p.hi p.B p.r p.s p.G p.Q M) (hil : p.hi ≤ W.heap.size) (box : Blk W p.O #[.slice none 0 0]) (lis : Blk W p.I #[.bool true]) (yld : Blk W p.V #[.func (.yield p.L) #[] #[]])
    (loop : W.heap[p.L]? = some (.loop p.R)) (dfr : W.heap[p.D]? = some (.deferred (some []))) (bel : Below p.w.heap.size p.w W) (hz : ∀ b A, (b, A) ∈ z → Blk W b A ∧ b ∉ p.bs ∧ ¬ brdB p.lo p.hi p.B p.Q b) : At p z W ⟨c, M, []⟩ :=
  ⟨.slice none 0 0, hs, blk, brd, hil, box, World.ownsRow_nil W p.w.heap.size 42 3, lis, yld, loop, dfr, bel, fun g e => by simp [Value.ownBlock] at e, fun b A hm => ⟨(hz b A hm).1, (hz b A hm).2.1, (hz b A hm).2.2, by simp [Value.ownBlock]⟩⟩
theorem cycles_impl (Y : Nat) (wv : Value) (w : World) (hv : ∃ f cap, wv = .func f cap #[]) : Calls Tryz.prog 46 #[.pointer (some ⟨Y, 0, none⟩), wv] w fun e w' => e = .returned (.func (.func 68) #[] #[.pointer (some ⟨w.heap.size, 0, none⟩), .pointer (some ⟨w.heap.size + 1, 0, none⟩)]) ∧ w' = (w.alloc (.cells #[.pointer (some ⟨Y, 0, none⟩)] 58)).alloc (.cells #[wv] 1) := by
  obtain ⟨f, cap, rfl⟩ := hv
  go_enter Tryz.func46, Tryz.ntmps46
  go_wp2
  go_ret
  exact ⟨rfl, rfl⟩
set_option maxRecDepth 100000 in
theorem clo_impl (p : Par) (z : Kps) (wf : FuncId) (bp bw : Nat) (W : World) (c : Cp) (M : Mem) (X : Mx) (en : ∀ args w, (callFunc wf args).run Tryz.prog w = .ok (.enter wf args) w)
    (hV : p.V = W.heap.size) (hI : p.I = W.heap.size + 1) (hs : Sep p) (blk : Blk W p.Y (proT c p.B p.n .nilFunc)) (brd : Brd W p.lo p.hi p.B p.r p.s p.G p.Q M) (box : Blk W p.O #[.slice none 0 0])
    (loop : W.heap[p.L]? = some (.loop p.R)) (dfr : W.heap[p.D]? = some (.deferred (some []))) (bel : Below p.w.heap.size p.w W) (qp : Blk W bp #[.pointer (some ⟨p.Y, 0, none⟩)]) (qw : Blk W bw #[.func (.func wf) #[.pointer (some ⟨p.Y, 0, none⟩)] #[]]) (hbY : bw ≠ p.Y) (hz : ∀ b A, (b, A) ∈ z → Blk W b A ∧ b ∉ p.bs ∧ ¬ brdB p.lo p.hi p.B p.Q b)
    (hw : ∀ W2, At p z W2 ⟨c, M, []⟩ → Calls Tryz.prog wf #[.pointer (some ⟨p.Y, 0, none⟩)] W2 fun e W' => e = .returned (.tuple #[]) ∧ At p z W' X) :
    Calls Tryz.prog 68 #[.func (.yield p.L) #[] #[], .pointer (some ⟨bp, 0, none⟩), .pointer (some ⟨bw, 0, none⟩)] W fun e W' => e = .returned (.tuple #[]) ∧ At p z W' X := by
  obtain ⟨W2, hW2⟩ : ∃ W2, (W.alloc (.cells #[.func (.yield p.L) #[] #[]] 115)).alloc (.cells #[.bool true] 4) = W2 := ⟨_, rfl⟩
  have hb : Below W.heap.size W W2 := by rw [← hW2]; exact ((Below.refl _ _).alloc (Nat.le_refl _) _).alloc (by simp) _
  have yv : Blk W2 p.V #[.func (.yield p.L) #[] #[]] := by rw [← hW2, hV]; exact (Blk.new W _ _).alloc _
  have li : Blk W2 p.I #[.bool true] := by
    have := Blk.new (W.alloc (.cells #[.func (.yield p.L) #[] #[]] 115)) #[.bool true] 4
    rw [World.size_alloc] at this
    rw [← hW2, hI]
    exact this
  have hhi : p.hi ≤ W.heap.size := Nat.le_trans brd.ord.1 (Nat.le_of_lt brd.blk.lt)
  have k : ∀ b, b < W.heap.size → b ≠ p.Y → (W2.setCell ⟨p.Y, 16, none⟩ (telV p.I p.V)).heap[b]? = W.heap[b]? := fun b hlt hne => (Below.heap_setCell _ _ _ _ hne).trans (hb.block b hlt)
  obtain ⟨⟨a1, a2, a3, a4, a5⟩, _⟩ := hs.apart
  obtain ⟨m1, m2, m3, m4, m5, m6⟩ := p.mem
  have bl2 := blk.below hb blk.lt
  have x2 := bl2.cell
  have f2 := bl2.frozen
  have l2 := bl2.lt
  have p2 := (qp.below hb qp.lt).cell
  have w3 := (qw.same (k _ qw.lt hbY)).cell
  have hS : Hid (At p z (W2.setCell ⟨p.Y, 16, none⟩ (telV p.I p.V)) ⟨c, M, []⟩) := by
    refine cp_start hs (bl2.set 16 _) (brd.kept (fun b hh => k b (brd.lt hhi hh) (fun e => hs.nb _ m1 (e ▸ hh)))) (by rw [sizeSet]; exact Nat.le_trans hhi hb.size) (box.same (k _ box.lt a1.symm)) (li.other (fun e => a2 e.symm) _) (yv.other (fun e => a3 e.symm) _) ?_ ?_ ?_ ?_
    · exact (k _ (Array.getElem?_eq_some_iff.1 loop).1 a4.symm).trans loop
    · exact (k _ (Array.getElem?_eq_some_iff.1 dfr).1 a5.symm).trans dfr
    · exact (bel.trans (hb.mono bel.size)).setCell (p := ⟨p.Y, 16, none⟩) (hs.far _ m1) _
    · intro b A hm
      obtain ⟨k1, k2, k3⟩ := hz b A hm
      exact ⟨k1.same (k b k1.lt (fun e => k2 (e ▸ m1))), k2, k3⟩
  replace hw := hid hw
  rw [← hV] at hI
  have hWs : W.heap.size = p.V := hV.symm
  have hVs : p.V + 1 = p.I := hI.symm
  clear hz hb yv li k bl2 hs blk brd box loop dfr bel qp qw hV hI hhi
  go_enter Tryz.func68, Tryz.ntmps68
  go_upto_region 3 with fail
  obtain ⟨W3, hW3⟩ : ∃ W3, W2.setCell ⟨p.Y, 16, none⟩ (telV p.I p.V) = W3 := ⟨_, rfl⟩
  rw [hW3] at hS w3 ⊢
  clear hW3 x2 f2 l2 p2 hW2
  go_wp2_with fail
  refine (hw.out _ hS.out).mono ?_
  rintro e w4 ⟨rfl, h4⟩
  replace h4 := hid h4
  clear hS w3 hw
  go_wp2
  exact bodyPost_end (v := .tuple #[]) (by simp [results, Tryz.results68]) rfl ⟨rfl, h4.out⟩
end Go.Proofs.YtdfadiicjkenfabGreatDoor

/- The statement by which a call on a processor returns. -/
namespace Go.Proofs.YtdfadiicjkenfabGreatDoor
open Go.ChangeShapes Go.WideShapes Go.ChangeAt Go.RowKit
set_option linter.unusedVariables false
set_option linter.unusedSimpArgs false

set_option maxRecDepth 100000 in
set_option maxHeartbeats 2000000 in
/-- the statement that returns -/
theorem ans_ret (Y B O C4 C5 n I V : Nat) (u1 u2 w5 w6 w7 w8 : Value) (X : Mx) (a3 : Option Addr) (n3 c3 : Nat) (T1 T12 : Value) (W : World) (df : List Deferred) (Q : Exit → Act → World → Prop)
    (hu1 : ∃ a b c, u1 = .slice a b c) (hu2 : ∃ a b c, u2 = .slice a b c) (n1 : Y ≠ C4) (n2 : Y ≠ C5) (n3' : B ≠ C4) (n4 : B ≠ C5) (n5 : O ≠ C4) (n6 : O ≠ C5) (n7 : C4 ≠ C5)
    (x1 : ∀ i, W.cell? ⟨Y, i, none⟩ = (proA X.c B n I V)[i]?) (x2 : ∀ i, W.cell? ⟨B, i, none⟩ = (#[u1, u2, .int .i64 X.m.page, .int .i64 X.m.screen, .bool X.m.locked, w5, w6, w7, w8] : Array Value)[i]?) (x3 : ∀ i, W.cell? ⟨O, i, none⟩ = (#[.slice a3 n3 c3] : Array Value)[i]?)
    (x4 : ∀ i, W.cell? ⟨C4, i, none⟩ = zC[i]?) (f4 : ∀ i, W.frozen? ⟨C4, i, none⟩ = false) (l4 : C4 < W.heap.size) (x5 : ∀ i, W.cell? ⟨C5, i, none⟩ = zM[i]?) (f5 : ∀ i, W.frozen? ⟨C5, i, none⟩ = false) (l5 : C5 < W.heap.size)
    (h : ∀ tm : Array Value, tm[4]? = some (.pointer (some ⟨C4, 0, none⟩)) → tm[5]? = some (.pointer (some ⟨C5, 0, none⟩)) → tm[6]? = some (.slice a3 n3 c3) → tm[7]? = some (.int .i64 0) → Q .normal { tmps := tm, defers := df } (((((((((((((((((((W.setCell ⟨C4, 0, none⟩ (.int .i64 (X.c.b : Int))).setCell ⟨C4, 1, none⟩ (.int .i64 (X.c.c : Int))).setCell ⟨C4, 2, none⟩ (.int .i64 (X.c.d : Int))).setCell ⟨C4, 3, none⟩ (.int .i64 (X.c.e : Int))).setCell ⟨C4, 4, none⟩ (.int .i64 (X.c.h : Int))).setCell ⟨C4, 5, none⟩ (.int .i64 (X.c.l : Int))).setCell ⟨C4, 6, none⟩ (.int .i64 0)).setCell ⟨C4, 7, none⟩ (.int .i64 (X.c.a : Int))).setCell ⟨C4, 8, none⟩ (.int .i64 (X.c.f : Int))).setCell ⟨C4, 9, none⟩ (.int .i64 (X.c.sp : Int))).setCell ⟨C4, 10, none⟩ (.int .i64 (X.c.pc : Int))).setCell ⟨C4, 11, none⟩ (.bool X.c.iff)).setCell ⟨C4, 12, none⟩ (.bool X.c.ei)).setCell ⟨C4, 13, none⟩ (.bool X.c.halt)).setCell ⟨C5, 0, none⟩ (u1)).setCell ⟨C5, 1, none⟩ (u2)).setCell ⟨C5, 2, none⟩ (.int .i64 X.m.page)).setCell ⟨C5, 3, none⟩ (.int .i64 X.m.screen)).setCell ⟨C5, 4, none⟩ (.bool X.m.locked)).drew) :
    (Code.region 5 #[({ dst := some 18, op := Op.move (Operand.tmp 0), type := 58, pos := "l06_cpu.go:86", after := #[], guard := none } : Oper), ({ dst := some 19, op := Op.nilCheck (Operand.tmp 18), type := 0, pos := "l06_cpu.go:86", after := #[{ on := 0, ground := Ground.data }], guard := none } : Oper), ({ dst := some 20, op := Op.fieldAddr 90 (Operand.tmp 19) 0, type := 0, pos := "l06_cpu.go:86", after := #[{ on := 1, ground := Ground.data }], guard := none } : Oper), ({ dst := some 21, op := Op.load 25 (Operand.tmp 20), type := 25, pos := "l06_cpu.go:86", after := #[{ on := 2, ground := Ground.data }], guard := none } : Oper), ({ dst := some 22, op := Op.move (Operand.tmp 0), type := 58, pos := "l06_cpu.go:86", after := #[{ on := 12, ground := Ground.gcOnly Departure.lateStores }], guard := none } : Oper), ({ dst := some 23, op := Op.nilCheck (Operand.tmp 22), type := 0, pos := "l06_cpu.go:86", after := #[{ on := 4, ground := Ground.data }, { on := 12, ground := Ground.gcOnly Departure.lateStores }], guard := none } : Oper), ({ dst := some 24, op := Op.fieldAddr 90 (Operand.tmp 23) 1, type := 0, pos := "l06_cpu.go:86", after := #[{ on := 5, ground := Ground.data }, { on := 12, ground := Ground.gcOnly Departure.lateStores }], guard := none } : Oper), ({ dst := some 25, op := Op.load 66 (Operand.tmp 24), type := 66, pos := "l06_cpu.go:86", after := #[{ on := 6, ground := Ground.data }, { on := 12, ground := Ground.gcOnly Departure.lateStores }], guard := none } : Oper), ({ dst := some 26, op := Op.nilCheck (Operand.tmp 25), type := 0, pos := "l06_cpu.go:86", after := #[{ on := 7, ground := Ground.data }, { on := 12, ground := Ground.gcOnly Departure.lateStores }], guard := none } : Oper), ({ dst := some 27, op := Op.fieldAddr 81 (Operand.tmp 26) 0, type := 0, pos := "l06_cpu.go:86", after := #[{ on := 8, ground := Ground.data }, { on := 12, ground := Ground.gcOnly Departure.lateStores }], guard := none } : Oper), ({ dst := some 28, op := Op.load 30 (Operand.tmp 27), type := 30, pos := "l06_cpu.go:86", after := #[{ on := 9, ground := Ground.data }, { on := 12, ground := Ground.gcOnly Departure.lateStores }], guard := none } : Oper), ({ dst := some 29, op := Op.load 33 (Operand.tmp 8), type := 33, pos := "l06_cpu.go:86", after := #[{ on := 13, ground := Ground.gcOnly Departure.lateStores }], guard := none } : Oper), ({ dst := none, op := Op.store 25 (Operand.tmp 4) (Operand.tmp 21), type := 0, pos := "l06_cpu.go:86", after := #[{ on := 3, ground := Ground.data }, { on := 0, ground := Ground.phase }, { on := 1, ground := Ground.phase }, { on := 2, ground := Ground.phase }, { on := 3, ground := Ground.phase }, { on := 4, ground := Ground.textOnly Departure.lateStores }, { on := 5, ground := Ground.textOnly Departure.lateStores }, { on := 6, ground := Ground.textOnly Departure.lateStores }, { on := 7, ground := Ground.textOnly Departure.lateStores }, { on := 8, ground := Ground.textOnly Departure.lateStores }, { on := 9, ground := Ground.textOnly Departure.lateStores }, { on := 10, ground := Ground.textOnly Departure.lateStores }, { on := 11, ground := Ground.textOnly Departure.lateStores }], guard := none } : Oper), ({ dst := none, op := Op.store 30 (Operand.tmp 5) (Operand.tmp 28), type := 0, pos := "l06_cpu.go:86", after := #[{ on := 10, ground := Ground.data }, { on := 12, ground := Ground.chain }, { on := 0, ground := Ground.phase }, { on := 1, ground := Ground.phase }, { on := 2, ground := Ground.phase }, { on := 3, ground := Ground.phase }, { on := 4, ground := Ground.phase }, { on := 5, ground := Ground.phase }, { on := 6, ground := Ground.phase }, { on := 7, ground := Ground.phase }, { on := 8, ground := Ground.phase }, { on := 9, ground := Ground.phase }, { on := 10, ground := Ground.phase }, { on := 11, ground := Ground.textOnly Departure.lateStores }, { on := 12, ground := Ground.phase }], guard := none } : Oper), ({ dst := some 6, op := Op.assign (Operand.tmp 29), type := 33, pos := "l06_cpu.go:86", after := #[{ on := 11, ground := Ground.data }, { on := 13, ground := Ground.chain }, { on := 0, ground := Ground.phase }, { on := 1, ground := Ground.phase }, { on := 2, ground := Ground.phase }, { on := 3, ground := Ground.phase }, { on := 4, ground := Ground.phase }, { on := 5, ground := Ground.phase }, { on := 6, ground := Ground.phase }, { on := 7, ground := Ground.phase }, { on := 8, ground := Ground.phase }, { on := 9, ground := Ground.phase }, { on := 10, ground := Ground.phase }, { on := 11, ground := Ground.phase }, { on := 12, ground := Ground.phase }, { on := 13, ground := Ground.phase }], guard := none } : Oper), ({ dst := some 7, op := Op.assign (Operand.const (Value.int IntKind.i64 0)), type := 3, pos := "l06_cpu.go:86", after := #[{ on := 14, ground := Ground.chain }, { on := 0, ground := Ground.phase }, { on := 1, ground := Ground.phase }, { on := 2, ground := Ground.phase }, { on := 3, ground := Ground.phase }, { on := 4, ground := Ground.phase }, { on := 5, ground := Ground.phase }, { on := 6, ground := Ground.phase }, { on := 7, ground := Ground.phase }, { on := 8, ground := Ground.phase }, { on := 9, ground := Ground.phase }, { on := 10, ground := Ground.phase }, { on := 11, ground := Ground.phase }, { on := 12, ground := Ground.phase }, { on := 13, ground := Ground.phase }, { on := 14, ground := Ground.phase }], guard := none } : Oper)] true).wp Tryz.prog Q { tmps := #[.pointer (some ⟨Y, 0, none⟩), T1, undef, undef, .pointer (some ⟨C4, 0, none⟩), .pointer (some ⟨C5, 0, none⟩), .slice none 0 0, .int .i64 0, .pointer (some ⟨O, 0, none⟩), undef, .pointer (some ⟨Y, 0, none⟩), T1, T12, undef, undef, undef, undef, undef, undef, undef, undef, undef, undef, undef, undef, undef, undef, undef, undef, undef], defers := df } W := by
  obtain ⟨a, b, c, rfl⟩ := hu1
  obtain ⟨a', b', c', rfl⟩ := hu2
  replace h := hid h
  go_region
  exact h.out _ rfl rfl rfl rfl
end Go.Proofs.YtdfadiicjkenfabGreatDoor
