/- One channel of the sound chip: the program. -/
import Derived.Test.YtjdgfbaioafjcaaDoorYm
import Derived.Deep.Matrix
namespace Go.Proofs.YtjdgfbaioafjcaaDoor
open Go.ChangeShapes Go.WideShapes Go.ChangeAt Go.RowKit
set_option linter.unusedVariables false
set_option linter.unusedSimpArgs false

set_option maxRecDepth 100000 in
set_option maxHeartbeats 8000000 in
theorem chr0ff {A0 A2 A6 A7 A8 A9 A10 A11 u12 u13 u14 u15 u16 u17 u18 u19 u20 u21 u22 u23 u24 u25 u26 u27 u28 u29 u30 u31 u32 u33 u34 u35 u36 u37 u38 u39 u40 u41 A42 : Value} {x0 x1 x2 x6 sel c0 c1 noise ec ZT ZN : Int} {r3 r4 r5 r7 s e V0 b : Nat} {o1 : Bool} {wr : World} {df : List Deferred} {Q : Exit → Act → World → Prop}
    (hSS : ∀ W, Below wr.heap.size wr W → (∀ i, W.cell? ⟨b, i, none⟩ = (sgA (⟨x0, x1, x2, r3, r4, r5, x6, r7, sel, c0, c1, false, o1, noise, s, e, ec⟩ : Sg))[i]?))
    (hS3 : ∀ W u v x, Below wr.heap.size wr W → ∀ i, (((W.setCell ⟨b + 1 + 1, 0, none⟩ u).setCell ⟨b + 1 + 1, 1, none⟩ v).setCell ⟨b + 1 + 1, 2, none⟩ x).cell? ⟨b, i, none⟩ = (sgA (⟨x0, x1, x2, r3, r4, r5, x6, r7, sel, c0, c1, false, o1, noise, s, e, ec⟩ : Sg))[i]?)
    (hX2 : ∀ W, Below wr.heap.size wr W → (∀ i, i < 6 → (W.cell? ⟨b + 1 + 1, i, none⟩).isSome = true) ∧ (∀ i, W.frozen? ⟨b + 1 + 1, i, none⟩ = false) ∧ b + 1 + 1 < W.heap.size)
    (hv : ∀ w1, Calls Tryd.prog 55 #[sgV (⟨x0, x1, x2, r3, r4, r5, x6, r7, sel, c0, c1, false, o1, noise, s, e, ec⟩ : Sg), .int .i64 ((0 : Nat) : Int)] w1 fun r w' => r = .returned (.int .i64 (V0 : Nat)) ∧ Below w1.heap.size w1 w') (gT : bits .and .i64 (r3 : Int) 1 = ZT) (gN : bits .and .i64 (r3 : Int) 4 = ZN) (gS : bits .and .i64 (s : Int) 1 = 0)
    (h : ∀ v12 v13 v14 v15 v16 v17 v18 v19 v20 v21 v22 v23 v24 v25 v26 v27 v28 v29 v30 v31 v32 v33 v34 v35 v36 v37 v38 v39 v40 W2, Below wr.heap.size wr W2 → Q .normal { tmps := #[A0, .pointer (some ⟨b, 0, none⟩), A2, .pointer (some ⟨b + 1 + 1, 0, none⟩), .int .i64 (r3 : Int), .int .i64 0, A6, A7, A8, A9, A10, A11, v12, v13, v14, v15, v16, v17, v18, v19, v20, v21, v22, v23, v24, v25, v26, v27, v28, v29, v30, v31, v32, v33, v34, v35, v36, v37, v38, v39, v40, u41, A42], defers := df } (((W2.setCell ⟨b + 1 + 1, 0, none⟩ (.bool (ZT != 0))).setCell ⟨b + 1 + 1, 1, none⟩ (.bool (ZN != 0))).setCell ⟨b + 1 + 1, 2, none⟩ (.int .i64 (V0 : Int)))) :
    (Code.region 6 #[({ dst := some 12, op := Op.move (Operand.tmp 5), type := 3, pos := "l08_psg.go:57", after := #[], guard := none } : Oper), ({ dst := some 13, op := Op.move (Operand.tmp 5), type := 3, pos := "l08_psg.go:57", after := #[], guard := none } : Oper), ({ dst := some 14, op := Op.fieldAddr 27 (Operand.tmp 1) 3, type := 0, pos := "l08_psg.go:57", after := #[], guard := none } : Oper), ({ dst := some 15, op := Op.indexAddr 25 (Operand.tmp 14) (Operand.tmp 13), type := 0, pos := "l08_psg.go:57", after := #[{ on := 2, ground := Ground.data }, { on := 1, ground := Ground.data }], guard := none } : Oper), ({ dst := some 16, op := Op.load 4 (Operand.tmp 15), type := 4, pos := "l08_psg.go:57", after := #[{ on := 3, ground := Ground.data }], guard := none } : Oper), ({ dst := some 17, op := Op.move (Operand.tmp 16), type := 4, pos := "l08_psg.go:57", after := #[{ on := 4, ground := Ground.data }], guard := none } : Oper), ({ dst := some 18, op := Op.move (Operand.tmp 4), type := 3, pos := "l08_psg.go:57", after := #[{ on := 5, ground := Ground.guard }], guard := some (5, false) } : Oper), ({ dst := some 19, op := Op.move (Operand.tmp 5), type := 3, pos := "l08_psg.go:57", after := #[{ on := 5, ground := Ground.guard }], guard := some (5, false) } : Oper), ({ dst := some 20, op := Op.binOp BinOp.shl 3 (Operand.const (Value.int IntKind.i64 1)) (Operand.tmp 19) 3, type := 3, pos := "l08_psg.go:57", after := #[{ on := 7, ground := Ground.data }, { on := 5, ground := Ground.guard }], guard := some (5, false) } : Oper), ({ dst := some 21, op := Op.binOp BinOp.and 3 (Operand.tmp 18) (Operand.tmp 20) 3, type := 3, pos := "l08_psg.go:57", after := #[{ on := 6, ground := Ground.data }, { on := 8, ground := Ground.data }, { on := 5, ground := Ground.guard }], guard := some (5, false) } : Oper), ({ dst := some 22, op := Op.binOp BinOp.neq 3 (Operand.tmp 21) (Operand.const (Value.int IntKind.i64 0)) 3, type := 4, pos := "l08_psg.go:57", after := #[{ on := 9, ground := Ground.data }, { on := 5, ground := Ground.guard }], guard := some (5, false) } : Oper), ({ dst := some 23, op := Op.pick (Operand.tmp 17) (Operand.const (Value.bool true)) (Operand.tmp 22), type := 4, pos := "l08_psg.go:57", after := #[{ on := 5, ground := Ground.data }, { on := 10, ground := Ground.data }], guard := none } : Oper), ({ dst := some 24, op := Op.fieldAddr 27 (Operand.tmp 1) 5, type := 0, pos := "l08_psg.go:57", after := #[], guard := none } : Oper), ({ dst := some 25, op := Op.load 3 (Operand.tmp 24), type := 3, pos := "l08_psg.go:57", after := #[{ on := 12, ground := Ground.data }], guard := none } : Oper), ({ dst := some 26, op := Op.binOp BinOp.and 3 (Operand.tmp 25) (Operand.const (Value.int IntKind.i64 1)) 3, type := 3, pos := "l08_psg.go:57", after := #[{ on := 13, ground := Ground.data }], guard := none } : Oper), ({ dst := some 27, op := Op.binOp BinOp.neq 3 (Operand.tmp 26) (Operand.const (Value.int IntKind.i64 0)) 3, type := 4, pos := "l08_psg.go:57", after := #[{ on := 14, ground := Ground.data }], guard := none } : Oper), ({ dst := some 28, op := Op.move (Operand.tmp 27), type := 4, pos := "l08_psg.go:57", after := #[{ on := 15, ground := Ground.data }, { on := 5, ground := Ground.chain }], guard := none } : Oper), ({ dst := some 29, op := Op.move (Operand.tmp 4), type := 3, pos := "l08_psg.go:57", after := #[{ on := 16, ground := Ground.guard }], guard := some (16, false) } : Oper), ({ dst := some 30, op := Op.move (Operand.tmp 5), type := 3, pos := "l08_psg.go:57", after := #[{ on := 16, ground := Ground.guard }], guard := some (16, false) } : Oper), ({ dst := some 31, op := Op.binOp BinOp.add 3 (Operand.const (Value.int IntKind.i64 2)) (Operand.tmp 30) 3, type := 3, pos := "l08_psg.go:57", after := #[{ on := 18, ground := Ground.data }, { on := 16, ground := Ground.guard }], guard := some (16, false) } : Oper), ({ dst := some 32, op := Op.binOp BinOp.shl 3 (Operand.const (Value.int IntKind.i64 1)) (Operand.tmp 31) 3, type := 3, pos := "l08_psg.go:57", after := #[{ on := 19, ground := Ground.data }, { on := 16, ground := Ground.guard }], guard := some (16, false) } : Oper), ({ dst := some 33, op := Op.binOp BinOp.and 3 (Operand.tmp 29) (Operand.tmp 32) 3, type := 3, pos := "l08_psg.go:57", after := #[{ on := 17, ground := Ground.data }, { on := 20, ground := Ground.data }, { on := 16, ground := Ground.guard }], guard := some (16, false) } : Oper), ({ dst := some 34, op := Op.binOp BinOp.neq 3 (Operand.tmp 33) (Operand.const (Value.int IntKind.i64 0)) 3, type := 4, pos := "l08_psg.go:57", after := #[{ on := 21, ground := Ground.data }, { on := 16, ground := Ground.guard }], guard := some (16, false) } : Oper), ({ dst := some 35, op := Op.pick (Operand.tmp 28) (Operand.const (Value.bool true)) (Operand.tmp 34), type := 4, pos := "l08_psg.go:57", after := #[{ on := 16, ground := Ground.data }, { on := 22, ground := Ground.data }], guard := none } : Oper), ({ dst := some 36, op := Op.load 27 (Operand.tmp 1), type := 27, pos := "l08_psg.go:57", after := #[], guard := none } : Oper), ({ dst := some 37, op := Op.move (Operand.tmp 5), type := 3, pos := "l08_psg.go:57", after := #[], guard := none } : Oper), ({ dst := some 38, op := Op.call { callee := Callee.value (Operand.func 55), args := #[Operand.tmp 36, Operand.tmp 37], argTypes := #[27, 3] }, type := 3, pos := "l08_psg.go:60", after := #[{ on := 24, ground := Ground.data }, { on := 25, ground := Ground.data }, { on := 16, ground := Ground.chain }], guard := none } : Oper), ({ dst := some 39, op := Op.build 52 #[(0, Operand.tmp 23), (1, Operand.tmp 35), (2, Operand.tmp 38)], type := 52, pos := "l08_psg.go:57", after := #[{ on := 11, ground := Ground.data }, { on := 23, ground := Ground.data }, { on := 26, ground := Ground.data }], guard := none } : Oper), ({ dst := some 40, op := Op.indexAddr 53 (Operand.tmp 3) (Operand.tmp 12), type := 0, pos := "l08_psg.go:57", after := #[{ on := 0, ground := Ground.data }, { on := 0, ground := Ground.phase }, { on := 1, ground := Ground.phase }, { on := 2, ground := Ground.phase }, { on := 3, ground := Ground.phase }, { on := 4, ground := Ground.phase }, { on := 5, ground := Ground.phase }, { on := 6, ground := Ground.phase }, { on := 7, ground := Ground.phase }, { on := 8, ground := Ground.phase }, { on := 9, ground := Ground.phase }, { on := 10, ground := Ground.phase }, { on := 11, ground := Ground.phase }, { on := 12, ground := Ground.phase }, { on := 13, ground := Ground.phase }, { on := 14, ground := Ground.phase }, { on := 15, ground := Ground.phase }, { on := 16, ground := Ground.phase }, { on := 17, ground := Ground.phase }, { on := 18, ground := Ground.phase }, { on := 19, ground := Ground.phase }, { on := 20, ground := Ground.phase }, { on := 21, ground := Ground.phase }, { on := 22, ground := Ground.phase }, { on := 23, ground := Ground.phase }, { on := 24, ground := Ground.phase }, { on := 25, ground := Ground.phase }, { on := 26, ground := Ground.phase }, { on := 27, ground := Ground.phase }], guard := none } : Oper), ({ dst := none, op := Op.store 52 (Operand.tmp 40) (Operand.tmp 39), type := 0, pos := "l08_psg.go:57", after := #[{ on := 28, ground := Ground.data }, { on := 27, ground := Ground.data }, { on := 26, ground := Ground.chain }, { on := 0, ground := Ground.phase }, { on := 1, ground := Ground.phase }, { on := 2, ground := Ground.phase }, { on := 3, ground := Ground.phase }, { on := 4, ground := Ground.phase }, { on := 5, ground := Ground.phase }, { on := 6, ground := Ground.phase }, { on := 7, ground := Ground.phase }, { on := 8, ground := Ground.phase }, { on := 9, ground := Ground.phase }, { on := 10, ground := Ground.phase }, { on := 11, ground := Ground.phase }, { on := 12, ground := Ground.phase }, { on := 13, ground := Ground.phase }, { on := 14, ground := Ground.phase }, { on := 15, ground := Ground.phase }, { on := 16, ground := Ground.phase }, { on := 17, ground := Ground.phase }, { on := 18, ground := Ground.phase }, { on := 19, ground := Ground.phase }, { on := 20, ground := Ground.phase }, { on := 21, ground := Ground.phase }, { on := 22, ground := Ground.phase }, { on := 23, ground := Ground.phase }, { on := 24, ground := Ground.phase }, { on := 25, ground := Ground.phase }, { on := 26, ground := Ground.phase }, { on := 27, ground := Ground.phase }], guard := none } : Oper)] true).wp Tryd.prog Q { tmps := #[A0, .pointer (some ⟨b, 0, none⟩), A2, .pointer (some ⟨b + 1 + 1, 0, none⟩), .int .i64 (r3 : Int), .int .i64 0, A6, A7, A8, A9, A10, A11, u12, u13, u14, u15, u16, u17, u18, u19, u20, u21, u22, u23, u24, u25, u26, u27, u28, u29, u30, u31, u32, u33, u34, u35, u36, u37, u38, u39, u40, u41, A42], defers := df } wr := by
  replace hSS := hid hSS
  replace hS3 := hid hS3
  replace hX2 := hid hX2
  have hv0 := hid hv
  replace h := hid h
  clear hv
  have hD : Hid (Below wr.heap.size wr wr.drew) := (Below.refl _ _).drew
  have p1 : IntKind.i64.wrap 1 = 1 := rfl
  have p2 : IntKind.i64.wrap 2 = 2 := rfl
  have p3 : IntKind.i64.wrap 3 = 3 := rfl
  have p4 : IntKind.i64.wrap 4 = 4 := rfl
  have p8 : IntKind.i64.wrap 8 = 8 := rfl
  refine wp_region_noPanic ?_
  refine wp_region_held_drew (S := (fun w' => ∀ i, w'.cell? ⟨b, i, none⟩ = (sgA (⟨x0, x1, x2, r3, r4, r5, x6, r7, sel, c0, c1, false, o1, noise, s, e, ec⟩ : Sg))[i]?)) (by kernel_rfl) (hSS.out _ hD.out) (fun hHeld => ?_)
  refine wpAnyH_take (i := 0) (oi := ({ dst := some 12, op := Op.move (Operand.tmp 5), type := 3, pos := "l08_psg.go:57", after := #[], guard := none } : Oper)) (v := ?_) rfl (by kernel_rfl) (by kernel_rfl) (by kernel_rfl) (fun _ _ _ h => h) (Or.inl ⟨by rfl, ?_⟩) (by assumption) ?_
  rotate_left
  · intro w hSw
    (try dsimp only at hSw)
    go_simp
    (try with_reducible rfl)
  (try simp only [Act.put, List.setIfInBounds_toArray, List.set_cons_zero, List.set_cons_succ])
  refine wpAnyH_take (i := 1) (oi := ({ dst := some 13, op := Op.move (Operand.tmp 5), type := 3, pos := "l08_psg.go:57", after := #[], guard := none } : Oper)) (v := ?_) rfl (by kernel_rfl) (by kernel_rfl) (by kernel_rfl) (fun _ _ _ h => h) (Or.inl ⟨by rfl, ?_⟩) (by assumption) ?_
  rotate_left
  · intro w hSw
    (try dsimp only at hSw)
    go_simp
    (try with_reducible rfl)
  (try simp only [Act.put, List.setIfInBounds_toArray, List.set_cons_zero, List.set_cons_succ])
  refine wpAnyH_take (i := 2) (oi := ({ dst := some 14, op := Op.fieldAddr 27 (Operand.tmp 1) 3, type := 0, pos := "l08_psg.go:57", after := #[], guard := none } : Oper)) (v := ?_) rfl (by kernel_rfl) (by kernel_rfl) (by kernel_rfl) (fun _ _ _ h => h) (Or.inl ⟨by rfl, ?_⟩) (by assumption) ?_
  rotate_left
  · intro w hSw
    (try dsimp only at hSw)
    go_simp
    (try with_reducible rfl)
  (try simp only [Act.put, List.setIfInBounds_toArray, List.set_cons_zero, List.set_cons_succ])
  refine wpAnyH_take (i := 3) (oi := ({ dst := some 15, op := Op.indexAddr 25 (Operand.tmp 14) (Operand.tmp 13), type := 0, pos := "l08_psg.go:57", after := #[{ on := 2, ground := Ground.data }, { on := 1, ground := Ground.data }], guard := none } : Oper)) (v := ?_) rfl (by kernel_rfl) (by kernel_rfl) (by kernel_rfl) (fun _ _ _ h => h) (Or.inl ⟨by rfl, ?_⟩) (by assumption) ?_
  rotate_left
  · intro w hSw
    (try dsimp only at hSw)
    go_simp
    (try with_reducible rfl)
  (try simp only [Act.put, List.setIfInBounds_toArray, List.set_cons_zero, List.set_cons_succ])
  refine wpAnyH_take (i := 4) (oi := ({ dst := some 16, op := Op.load 4 (Operand.tmp 15), type := 4, pos := "l08_psg.go:57", after := #[{ on := 3, ground := Ground.data }], guard := none } : Oper)) (v := ?_) rfl (by kernel_rfl) (by kernel_rfl) (by kernel_rfl) (fun _ _ _ h => h) (Or.inl ⟨by rfl, ?_⟩) (by assumption) ?_
  rotate_left
  · intro w hSw
    (try dsimp only at hSw)
    go_simp
    (try with_reducible rfl)
  (try simp only [Act.put, List.setIfInBounds_toArray, List.set_cons_zero, List.set_cons_succ])
  refine wpAnyH_take (i := 5) (oi := ({ dst := some 17, op := Op.move (Operand.tmp 16), type := 4, pos := "l08_psg.go:57", after := #[{ on := 4, ground := Ground.data }], guard := none } : Oper)) (v := ?_) rfl (by kernel_rfl) (by kernel_rfl) (by kernel_rfl) (fun _ _ _ h => h) (Or.inl ⟨by rfl, ?_⟩) (by assumption) ?_
  rotate_left
  · intro w hSw
    (try dsimp only at hSw)
    go_simp
    (try with_reducible rfl)
  (try simp only [Act.put, List.setIfInBounds_toArray, List.set_cons_zero, List.set_cons_succ])
  refine wpAnyH_take (i := 6) (oi := ({ dst := some 18, op := Op.move (Operand.tmp 4), type := 3, pos := "l08_psg.go:57", after := #[{ on := 5, ground := Ground.guard }], guard := some (5, false) } : Oper)) (v := ?_) rfl (by kernel_rfl) (by kernel_rfl) (by kernel_rfl) (fun _ _ _ h => h) (Or.inl ⟨by rfl, ?_⟩) (by assumption) ?_
  rotate_left
  · intro w hSw
    (try dsimp only at hSw)
    go_simp
    (try with_reducible rfl)
  (try simp only [Act.put, List.setIfInBounds_toArray, List.set_cons_zero, List.set_cons_succ])
  refine wpAnyH_take (i := 7) (oi := ({ dst := some 19, op := Op.move (Operand.tmp 5), type := 3, pos := "l08_psg.go:57", after := #[{ on := 5, ground := Ground.guard }], guard := some (5, false) } : Oper)) (v := ?_) rfl (by kernel_rfl) (by kernel_rfl) (by kernel_rfl) (fun _ _ _ h => h) (Or.inl ⟨by rfl, ?_⟩) (by assumption) ?_
  rotate_left
  · intro w hSw
    (try dsimp only at hSw)
    go_simp
    (try with_reducible rfl)
  (try simp only [Act.put, List.setIfInBounds_toArray, List.set_cons_zero, List.set_cons_succ])
  refine wpAnyH_take (i := 8) (oi := ({ dst := some 20, op := Op.binOp BinOp.shl 3 (Operand.const (Value.int IntKind.i64 1)) (Operand.tmp 19) 3, type := 3, pos := "l08_psg.go:57", after := #[{ on := 7, ground := Ground.data }, { on := 5, ground := Ground.guard }], guard := some (5, false) } : Oper)) (v := .int .i64 1) rfl (by kernel_rfl) (by kernel_rfl) (by kernel_rfl) (fun _ _ _ h => h) (Or.inl ⟨by rfl, fun w hSw => by kernel_rfl⟩) (by assumption) ?_
  (try simp only [Act.put, List.setIfInBounds_toArray, List.set_cons_zero, List.set_cons_succ])
  refine wpAnyH_take (i := 9) (oi := ({ dst := some 21, op := Op.binOp BinOp.and 3 (Operand.tmp 18) (Operand.tmp 20) 3, type := 3, pos := "l08_psg.go:57", after := #[{ on := 6, ground := Ground.data }, { on := 8, ground := Ground.data }, { on := 5, ground := Ground.guard }], guard := some (5, false) } : Oper)) (v := ?_) rfl (by kernel_rfl) (by kernel_rfl) (by kernel_rfl) (fun _ _ _ h => h) (Or.inl ⟨by rfl, ?_⟩) (by assumption) ?_
  rotate_left
  · intro w hSw
    (try dsimp only at hSw)
    go_simp
    (try with_reducible rfl)
  (try simp only [Act.put, List.setIfInBounds_toArray, List.set_cons_zero, List.set_cons_succ])
  refine wpAnyH_take (i := 10) (oi := ({ dst := some 22, op := Op.binOp BinOp.neq 3 (Operand.tmp 21) (Operand.const (Value.int IntKind.i64 0)) 3, type := 4, pos := "l08_psg.go:57", after := #[{ on := 9, ground := Ground.data }, { on := 5, ground := Ground.guard }], guard := some (5, false) } : Oper)) (v := ?_) rfl (by kernel_rfl) (by kernel_rfl) (by kernel_rfl) (fun _ _ _ h => h) (Or.inl ⟨by rfl, ?_⟩) (by assumption) ?_
  rotate_left
  · intro w hSw
    (try dsimp only at hSw)
    go_simp
    (try with_reducible rfl)
  (try simp only [Act.put, List.setIfInBounds_toArray, List.set_cons_zero, List.set_cons_succ])
  refine wpAnyH_take (i := 11) (oi := ({ dst := some 23, op := Op.pick (Operand.tmp 17) (Operand.const (Value.bool true)) (Operand.tmp 22), type := 4, pos := "l08_psg.go:57", after := #[{ on := 5, ground := Ground.data }, { on := 10, ground := Ground.data }], guard := none } : Oper)) (v := ?_) rfl (by kernel_rfl) (by kernel_rfl) (by kernel_rfl) (fun _ _ _ h => h) (Or.inl ⟨by rfl, ?_⟩) (by assumption) ?_
  rotate_left
  · intro w hSw
    (try dsimp only at hSw)
    go_simp
    (try with_reducible rfl)
  (try simp only [Act.put, List.setIfInBounds_toArray, List.set_cons_zero, List.set_cons_succ])
  refine wpAnyH_take (i := 12) (oi := ({ dst := some 24, op := Op.fieldAddr 27 (Operand.tmp 1) 5, type := 0, pos := "l08_psg.go:57", after := #[], guard := none } : Oper)) (v := ?_) rfl (by kernel_rfl) (by kernel_rfl) (by kernel_rfl) (fun _ _ _ h => h) (Or.inl ⟨by rfl, ?_⟩) (by assumption) ?_
  rotate_left
  · intro w hSw
    (try dsimp only at hSw)
    go_simp
    (try with_reducible rfl)
  (try simp only [Act.put, List.setIfInBounds_toArray, List.set_cons_zero, List.set_cons_succ])
  refine wpAnyH_take (i := 13) (oi := ({ dst := some 25, op := Op.load 3 (Operand.tmp 24), type := 3, pos := "l08_psg.go:57", after := #[{ on := 12, ground := Ground.data }], guard := none } : Oper)) (v := ?_) rfl (by kernel_rfl) (by kernel_rfl) (by kernel_rfl) (fun _ _ _ h => h) (Or.inl ⟨by rfl, ?_⟩) (by assumption) ?_
  rotate_left
  · intro w hSw
    (try dsimp only at hSw)
    go_simp
    (try with_reducible rfl)
  (try simp only [Act.put, List.setIfInBounds_toArray, List.set_cons_zero, List.set_cons_succ])
  refine wpAnyH_take (i := 14) (oi := ({ dst := some 26, op := Op.binOp BinOp.and 3 (Operand.tmp 25) (Operand.const (Value.int IntKind.i64 1)) 3, type := 3, pos := "l08_psg.go:57", after := #[{ on := 13, ground := Ground.data }], guard := none } : Oper)) (v := ?_) rfl (by kernel_rfl) (by kernel_rfl) (by kernel_rfl) (fun _ _ _ h => h) (Or.inl ⟨by rfl, ?_⟩) (by assumption) ?_
  rotate_left
  · intro w hSw
    (try dsimp only at hSw)
    go_simp
    (try with_reducible rfl)
  (try simp only [Act.put, List.setIfInBounds_toArray, List.set_cons_zero, List.set_cons_succ])
  refine wpAnyH_take (i := 15) (oi := ({ dst := some 27, op := Op.binOp BinOp.neq 3 (Operand.tmp 26) (Operand.const (Value.int IntKind.i64 0)) 3, type := 4, pos := "l08_psg.go:57", after := #[{ on := 14, ground := Ground.data }], guard := none } : Oper)) (v := ?_) rfl (by kernel_rfl) (by kernel_rfl) (by kernel_rfl) (fun _ _ _ h => h) (Or.inl ⟨by rfl, ?_⟩) (by assumption) ?_
  rotate_left
  · intro w hSw
    (try dsimp only at hSw)
    go_simp
    (try with_reducible rfl)
  (try simp only [Act.put, List.setIfInBounds_toArray, List.set_cons_zero, List.set_cons_succ])
  refine wpAnyH_take (i := 16) (oi := ({ dst := some 28, op := Op.move (Operand.tmp 27), type := 4, pos := "l08_psg.go:57", after := #[{ on := 15, ground := Ground.data }, { on := 5, ground := Ground.chain }], guard := none } : Oper)) (v := ?_) rfl (by kernel_rfl) (by kernel_rfl) (by kernel_rfl) (fun _ _ _ h => h) (Or.inl ⟨by rfl, ?_⟩) (by assumption) ?_
  rotate_left
  · intro w hSw
    (try dsimp only at hSw)
    go_simp
    (try with_reducible rfl)
  (try simp only [Act.put, List.setIfInBounds_toArray, List.set_cons_zero, List.set_cons_succ])
  refine wpAnyH_take (i := 17) (oi := ({ dst := some 29, op := Op.move (Operand.tmp 4), type := 3, pos := "l08_psg.go:57", after := #[{ on := 16, ground := Ground.guard }], guard := some (16, false) } : Oper)) (v := ?_) rfl (by kernel_rfl) (by kernel_rfl) (by kernel_rfl) (fun _ _ _ h => h) (Or.inl ⟨by rfl, ?_⟩) (by assumption) ?_
  rotate_left
  · intro w hSw
    (try dsimp only at hSw)
    go_simp
    (try with_reducible rfl)
  (try simp only [Act.put, List.setIfInBounds_toArray, List.set_cons_zero, List.set_cons_succ])
  refine wpAnyH_take (i := 18) (oi := ({ dst := some 30, op := Op.move (Operand.tmp 5), type := 3, pos := "l08_psg.go:57", after := #[{ on := 16, ground := Ground.guard }], guard := some (16, false) } : Oper)) (v := ?_) rfl (by kernel_rfl) (by kernel_rfl) (by kernel_rfl) (fun _ _ _ h => h) (Or.inl ⟨by rfl, ?_⟩) (by assumption) ?_
  rotate_left
  · intro w hSw
    (try dsimp only at hSw)
    go_simp
    (try with_reducible rfl)
  (try simp only [Act.put, List.setIfInBounds_toArray, List.set_cons_zero, List.set_cons_succ])
  refine wpAnyH_take (i := 19) (oi := ({ dst := some 31, op := Op.binOp BinOp.add 3 (Operand.const (Value.int IntKind.i64 2)) (Operand.tmp 30) 3, type := 3, pos := "l08_psg.go:57", after := #[{ on := 18, ground := Ground.data }, { on := 16, ground := Ground.guard }], guard := some (16, false) } : Oper)) (v := .int .i64 2) rfl (by kernel_rfl) (by kernel_rfl) (by kernel_rfl) (fun _ _ _ h => h) (Or.inl ⟨by rfl, fun w hSw => by kernel_rfl⟩) (by assumption) ?_
  (try simp only [Act.put, List.setIfInBounds_toArray, List.set_cons_zero, List.set_cons_succ])
  refine wpAnyH_take (i := 20) (oi := ({ dst := some 32, op := Op.binOp BinOp.shl 3 (Operand.const (Value.int IntKind.i64 1)) (Operand.tmp 31) 3, type := 3, pos := "l08_psg.go:57", after := #[{ on := 19, ground := Ground.data }, { on := 16, ground := Ground.guard }], guard := some (16, false) } : Oper)) (v := .int .i64 4) rfl (by kernel_rfl) (by kernel_rfl) (by kernel_rfl) (fun _ _ _ h => h) (Or.inl ⟨by rfl, fun w hSw => by kernel_rfl⟩) (by assumption) ?_
  (try simp only [Act.put, List.setIfInBounds_toArray, List.set_cons_zero, List.set_cons_succ])
  refine wpAnyH_take (i := 21) (oi := ({ dst := some 33, op := Op.binOp BinOp.and 3 (Operand.tmp 29) (Operand.tmp 32) 3, type := 3, pos := "l08_psg.go:57", after := #[{ on := 17, ground := Ground.data }, { on := 20, ground := Ground.data }, { on := 16, ground := Ground.guard }], guard := some (16, false) } : Oper)) (v := ?_) rfl (by kernel_rfl) (by kernel_rfl) (by kernel_rfl) (fun _ _ _ h => h) (Or.inl ⟨by rfl, ?_⟩) (by assumption) ?_
  rotate_left
  · intro w hSw
    (try dsimp only at hSw)
    go_simp
    (try with_reducible rfl)
  (try simp only [Act.put, List.setIfInBounds_toArray, List.set_cons_zero, List.set_cons_succ])
  refine wpAnyH_take (i := 22) (oi := ({ dst := some 34, op := Op.binOp BinOp.neq 3 (Operand.tmp 33) (Operand.const (Value.int IntKind.i64 0)) 3, type := 4, pos := "l08_psg.go:57", after := #[{ on := 21, ground := Ground.data }, { on := 16, ground := Ground.guard }], guard := some (16, false) } : Oper)) (v := ?_) rfl (by kernel_rfl) (by kernel_rfl) (by kernel_rfl) (fun _ _ _ h => h) (Or.inl ⟨by rfl, ?_⟩) (by assumption) ?_
  rotate_left
  · intro w hSw
    (try dsimp only at hSw)
    go_simp
    (try with_reducible rfl)
  (try simp only [Act.put, List.setIfInBounds_toArray, List.set_cons_zero, List.set_cons_succ])
  refine wpAnyH_take (i := 23) (oi := ({ dst := some 35, op := Op.pick (Operand.tmp 28) (Operand.const (Value.bool true)) (Operand.tmp 34), type := 4, pos := "l08_psg.go:57", after := #[{ on := 16, ground := Ground.data }, { on := 22, ground := Ground.data }], guard := none } : Oper)) (v := ?_) rfl (by kernel_rfl) (by kernel_rfl) (by kernel_rfl) (fun _ _ _ h => h) (Or.inl ⟨by rfl, ?_⟩) (by assumption) ?_
  rotate_left
  · intro w hSw
    (try dsimp only at hSw)
    go_simp
    (try with_reducible rfl)
  (try simp only [Act.put, List.setIfInBounds_toArray, List.set_cons_zero, List.set_cons_succ])
  refine wpAnyH_take (i := 24) (oi := ({ dst := some 36, op := Op.load 27 (Operand.tmp 1), type := 27, pos := "l08_psg.go:57", after := #[], guard := none } : Oper)) (v := ?_) rfl (by kernel_rfl) (by kernel_rfl) (by kernel_rfl) (fun _ _ _ h => h) (Or.inl ⟨by rfl, ?_⟩) (by assumption) ?_
  rotate_left
  · intro w hSw
    (try dsimp only at hSw)
    go_simp
    (try with_reducible rfl)
  (try simp only [Act.put, List.setIfInBounds_toArray, List.set_cons_zero, List.set_cons_succ])
  refine wpAnyH_take (i := 25) (oi := ({ dst := some 37, op := Op.move (Operand.tmp 5), type := 3, pos := "l08_psg.go:57", after := #[], guard := none } : Oper)) (v := ?_) rfl (by kernel_rfl) (by kernel_rfl) (by kernel_rfl) (fun _ _ _ h => h) (Or.inl ⟨by rfl, ?_⟩) (by assumption) ?_
  rotate_left
  · intro w hSw
    (try dsimp only at hSw)
    go_simp
    (try with_reducible rfl)
  (try simp only [Act.put, List.setIfInBounds_toArray, List.set_cons_zero, List.set_cons_succ])
  refine wpAnyH_ready (rs := [26]) (by kernel_rfl) (by simp) ?_
  refine AllReadyH.cons (o := ({ dst := some 38, op := Op.call { callee := Callee.value (Operand.func 55), args := #[Operand.tmp 36, Operand.tmp 37], argTypes := #[27, 3] }, type := 3, pos := "l08_psg.go:60", after := #[{ on := 24, ground := Ground.data }, { on := 25, ground := Ground.data }, { on := 16, ground := Ground.chain }], guard := none } : Oper)) rfl (fun K hK => ?_) AllReadyH.nil
  go_simp
  refine (hv0.out _).mono ?_
  rintro e' w2 ⟨rfl, hb2⟩
  have hB2 := hid (new_trans hD.out hb2)
  clear hb2
  refine hK.out _ _ (hSS.out _ hB2.out) (fun hHeld => ?_)
  clear hK K
  (try simp only [Act.put, List.setIfInBounds_toArray, List.set_cons_zero, List.set_cons_succ])
  obtain ⟨x2', f2, l2⟩ := hX2.out _ hB2.out
  obtain ⟨y0, z0⟩ := Option.isSome_iff_exists.1 (x2' 0 (by omega))
  obtain ⟨y1, z1⟩ := Option.isSome_iff_exists.1 (x2' 1 (by omega))
  obtain ⟨y2, z2⟩ := Option.isSome_iff_exists.1 (x2' 2 (by omega))
  refine wpAnyH_take (i := 27) (oi := ({ dst := some 39, op := Op.build 52 #[(0, Operand.tmp 23), (1, Operand.tmp 35), (2, Operand.tmp 38)], type := 52, pos := "l08_psg.go:57", after := #[{ on := 11, ground := Ground.data }, { on := 23, ground := Ground.data }, { on := 26, ground := Ground.data }], guard := none } : Oper)) (v := ?_) rfl (by kernel_rfl) (by kernel_rfl) (by kernel_rfl) (fun _ _ _ h => h) (Or.inl ⟨by rfl, ?_⟩) (by assumption) ?_
  rotate_left
  · intro w hSw
    (try dsimp only at hSw)
    go_simp
    (try with_reducible rfl)
  (try simp only [Act.put, List.setIfInBounds_toArray, List.set_cons_zero, List.set_cons_succ])
  refine wpAnyH_take (i := 28) (oi := ({ dst := some 40, op := Op.indexAddr 53 (Operand.tmp 3) (Operand.tmp 12), type := 0, pos := "l08_psg.go:57", after := #[{ on := 0, ground := Ground.data }, { on := 0, ground := Ground.phase }, { on := 1, ground := Ground.phase }, { on := 2, ground := Ground.phase }, { on := 3, ground := Ground.phase }, { on := 4, ground := Ground.phase }, { on := 5, ground := Ground.phase }, { on := 6, ground := Ground.phase }, { on := 7, ground := Ground.phase }, { on := 8, ground := Ground.phase }, { on := 9, ground := Ground.phase }, { on := 10, ground := Ground.phase }, { on := 11, ground := Ground.phase }, { on := 12, ground := Ground.phase }, { on := 13, ground := Ground.phase }, { on := 14, ground := Ground.phase }, { on := 15, ground := Ground.phase }, { on := 16, ground := Ground.phase }, { on := 17, ground := Ground.phase }, { on := 18, ground := Ground.phase }, { on := 19, ground := Ground.phase }, { on := 20, ground := Ground.phase }, { on := 21, ground := Ground.phase }, { on := 22, ground := Ground.phase }, { on := 23, ground := Ground.phase }, { on := 24, ground := Ground.phase }, { on := 25, ground := Ground.phase }, { on := 26, ground := Ground.phase }, { on := 27, ground := Ground.phase }], guard := none } : Oper)) (v := ?_) rfl (by kernel_rfl) (by kernel_rfl) (by kernel_rfl) (fun _ _ _ h => h) (Or.inl ⟨by rfl, ?_⟩) (by assumption) ?_
  rotate_left
  · intro w hSw
    (try dsimp only at hSw)
    go_simp
    (try with_reducible rfl)
  (try simp only [Act.put, List.setIfInBounds_toArray, List.set_cons_zero, List.set_cons_succ])
  refine wpAnyH_ready (rs := [29]) (by kernel_rfl) (by simp) ?_
  refine AllReadyH.cons (o := ({ dst := none, op := Op.store 52 (Operand.tmp 40) (Operand.tmp 39), type := 0, pos := "l08_psg.go:57", after := #[{ on := 28, ground := Ground.data }, { on := 27, ground := Ground.data }, { on := 26, ground := Ground.chain }, { on := 0, ground := Ground.phase }, { on := 1, ground := Ground.phase }, { on := 2, ground := Ground.phase }, { on := 3, ground := Ground.phase }, { on := 4, ground := Ground.phase }, { on := 5, ground := Ground.phase }, { on := 6, ground := Ground.phase }, { on := 7, ground := Ground.phase }, { on := 8, ground := Ground.phase }, { on := 9, ground := Ground.phase }, { on := 10, ground := Ground.phase }, { on := 11, ground := Ground.phase }, { on := 12, ground := Ground.phase }, { on := 13, ground := Ground.phase }, { on := 14, ground := Ground.phase }, { on := 15, ground := Ground.phase }, { on := 16, ground := Ground.phase }, { on := 17, ground := Ground.phase }, { on := 18, ground := Ground.phase }, { on := 19, ground := Ground.phase }, { on := 20, ground := Ground.phase }, { on := 21, ground := Ground.phase }, { on := 22, ground := Ground.phase }, { on := 23, ground := Ground.phase }, { on := 24, ground := Ground.phase }, { on := 25, ground := Ground.phase }, { on := 26, ground := Ground.phase }, { on := 27, ground := Ground.phase }], guard := none } : Oper)) rfl (fun K hK => ?_) AllReadyH.nil
  go_simp
  refine hK.out _ _ (hS3.out _ _ _ _ hB2.out) (fun hHeld => ?_)
  clear hK K
  (try simp only [Act.put, List.setIfInBounds_toArray, List.set_cons_zero, List.set_cons_succ])
  refine wpAnyH_done (by kernel_rfl) ?_ _
  exact NoPanic.normal (h.out _ _ _ _ _ _ _ _ _ _ _ _ _ _ _ _ _ _ _ _ _ _ _ _ _ _ _ _ _ _ hB2.out)
set_option maxRecDepth 100000 in
set_option maxHeartbeats 8000000 in
theorem chr0ft {A0 A2 A6 A7 A8 A9 A10 A11 u12 u13 u14 u15 u16 u17 u18 u19 u20 u21 u22 u23 u24 u25 u26 u27 u28 u29 u30 u31 u32 u33 u34 u35 u36 u37 u38 u39 u40 u41 A42 : Value} {x0 x1 x2 x6 sel c0 c1 noise ec ZT : Int} {r3 r4 r5 r7 s e V0 b : Nat} {o1 : Bool} {wr : World} {df : List Deferred} {Q : Exit → Act → World → Prop}
    (hSS : ∀ W, Below wr.heap.size wr W → (∀ i, W.cell? ⟨b, i, none⟩ = (sgA (⟨x0, x1, x2, r3, r4, r5, x6, r7, sel, c0, c1, false, o1, noise, s, e, ec⟩ : Sg))[i]?))
    (hS3 : ∀ W u v x, Below wr.heap.size wr W → ∀ i, (((W.setCell ⟨b + 1 + 1, 0, none⟩ u).setCell ⟨b + 1 + 1, 1, none⟩ v).setCell ⟨b + 1 + 1, 2, none⟩ x).cell? ⟨b, i, none⟩ = (sgA (⟨x0, x1, x2, r3, r4, r5, x6, r7, sel, c0, c1, false, o1, noise, s, e, ec⟩ : Sg))[i]?)
    (hX2 : ∀ W, Below wr.heap.size wr W → (∀ i, i < 6 → (W.cell? ⟨b + 1 + 1, i, none⟩).isSome = true) ∧ (∀ i, W.frozen? ⟨b + 1 + 1, i, none⟩ = false) ∧ b + 1 + 1 < W.heap.size)
    (hv : ∀ w1, Calls Tryd.prog 55 #[sgV (⟨x0, x1, x2, r3, r4, r5, x6, r7, sel, c0, c1, false, o1, noise, s, e, ec⟩ : Sg), .int .i64 ((0 : Nat) : Int)] w1 fun r w' => r = .returned (.int .i64 (V0 : Nat)) ∧ Below w1.heap.size w1 w') (gT : bits .and .i64 (r3 : Int) 1 = ZT) (gS : bits .and .i64 (s : Int) 1 = 1)
    (h : ∀ v12 v13 v14 v15 v16 v17 v18 v19 v20 v21 v22 v23 v24 v25 v26 v27 v28 v29 v30 v31 v32 v33 v34 v35 v36 v37 v38 v39 v40 W2, Below wr.heap.size wr W2 → Q .normal { tmps := #[A0, .pointer (some ⟨b, 0, none⟩), A2, .pointer (some ⟨b + 1 + 1, 0, none⟩), .int .i64 (r3 : Int), .int .i64 0, A6, A7, A8, A9, A10, A11, v12, v13, v14, v15, v16, v17, v18, v19, v20, v21, v22, v23, v24, v25, v26, v27, v28, v29, v30, v31, v32, v33, v34, v35, v36, v37, v38, v39, v40, u41, A42], defers := df } (((W2.setCell ⟨b + 1 + 1, 0, none⟩ (.bool (ZT != 0))).setCell ⟨b + 1 + 1, 1, none⟩ (.bool true)).setCell ⟨b + 1 + 1, 2, none⟩ (.int .i64 (V0 : Int)))) :
    (Code.region 6 #[({ dst := some 12, op := Op.move (Operand.tmp 5), type := 3, pos := "l08_psg.go:57", after := #[], guard := none } : Oper), ({ dst := some 13, op := Op.move (Operand.tmp 5), type := 3, pos := "l08_psg.go:57", after := #[], guard := none } : Oper), ({ dst := some 14, op := Op.fieldAddr 27 (Operand.tmp 1) 3, type := 0, pos := "l08_psg.go:57", after := #[], guard := none } : Oper), ({ dst := some 15, op := Op.indexAddr 25 (Operand.tmp 14) (Operand.tmp 13), type := 0, pos := "l08_psg.go:57", after := #[{ on := 2, ground := Ground.data }, { on := 1, ground := Ground.data }], guard := none } : Oper), ({ dst := some 16, op := Op.load 4 (Operand.tmp 15), type := 4, pos := "l08_psg.go:57", after := #[{ on := 3, ground := Ground.data }], guard := none } : Oper), ({ dst := some 17, op := Op.move (Operand.tmp 16), type := 4, pos := "l08_psg.go:57", after := #[{ on := 4, ground := Ground.data }], guard := none } : Oper), ({ dst := some 18, op := Op.move (Operand.tmp 4), type := 3, pos := "l08_psg.go:57", after := #[{ on := 5, ground := Ground.guard }], guard := some (5, false) } : Oper), ({ dst := some 19, op := Op.move (Operand.tmp 5), type := 3, pos := "l08_psg.go:57", after := #[{ on := 5, ground := Ground.guard }], guard := some (5, false) } : Oper), ({ dst := some 20, op := Op.binOp BinOp.shl 3 (Operand.const (Value.int IntKind.i64 1)) (Operand.tmp 19) 3, type := 3, pos := "l08_psg.go:57", after := #[{ on := 7, ground := Ground.data }, { on := 5, ground := Ground.guard }], guard := some (5, false) } : Oper), ({ dst := some 21, op := Op.binOp BinOp.and 3 (Operand.tmp 18) (Operand.tmp 20) 3, type := 3, pos := "l08_psg.go:57", after := #[{ on := 6, ground := Ground.data }, { on := 8, ground := Ground.data }, { on := 5, ground := Ground.guard }], guard := some (5, false) } : Oper), ({ dst := some 22, op := Op.binOp BinOp.neq 3 (Operand.tmp 21) (Operand.const (Value.int IntKind.i64 0)) 3, type := 4, pos := "l08_psg.go:57", after := #[{ on := 9, ground := Ground.data }, { on := 5, ground := Ground.guard }], guard := some (5, false) } : Oper), ({ dst := some 23, op := Op.pick (Operand.tmp 17) (Operand.const (Value.bool true)) (Operand.tmp 22), type := 4, pos := "l08_psg.go:57", after := #[{ on := 5, ground := Ground.data }, { on := 10, ground := Ground.data }], guard := none } : Oper), ({ dst := some 24, op := Op.fieldAddr 27 (Operand.tmp 1) 5, type := 0, pos := "l08_psg.go:57", after := #[], guard := none } : Oper), ({ dst := some 25, op := Op.load 3 (Operand.tmp 24), type := 3, pos := "l08_psg.go:57", after := #[{ on := 12, ground := Ground.data }], guard := none } : Oper), ({ dst := some 26, op := Op.binOp BinOp.and 3 (Operand.tmp 25) (Operand.const (Value.int IntKind.i64 1)) 3, type := 3, pos := "l08_psg.go:57", after := #[{ on := 13, ground := Ground.data }], guard := none } : Oper), ({ dst := some 27, op := Op.binOp BinOp.neq 3 (Operand.tmp 26) (Operand.const (Value.int IntKind.i64 0)) 3, type := 4, pos := "l08_psg.go:57", after := #[{ on := 14, ground := Ground.data }], guard := none } : Oper), ({ dst := some 28, op := Op.move (Operand.tmp 27), type := 4, pos := "l08_psg.go:57", after := #[{ on := 15, ground := Ground.data }, { on := 5, ground := Ground.chain }], guard := none } : Oper), ({ dst := some 29, op := Op.move (Operand.tmp 4), type := 3, pos := "l08_psg.go:57", after := #[{ on := 16, ground := Ground.guard }], guard := some (16, false) } : Oper), ({ dst := some 30, op := Op.move (Operand.tmp 5), type := 3, pos := "l08_psg.go:57", after := #[{ on := 16, ground := Ground.guard }], guard := some (16, false) } : Oper), ({ dst := some 31, op := Op.binOp BinOp.add 3 (Operand.const (Value.int IntKind.i64 2)) (Operand.tmp 30) 3, type := 3, pos := "l08_psg.go:57", after := #[{ on := 18, ground := Ground.data }, { on := 16, ground := Ground.guard }], guard := some (16, false) } : Oper), ({ dst := some 32, op := Op.binOp BinOp.shl 3 (Operand.const (Value.int IntKind.i64 1)) (Operand.tmp 31) 3, type := 3, pos := "l08_psg.go:57", after := #[{ on := 19, ground := Ground.data }, { on := 16, ground := Ground.guard }], guard := some (16, false) } : Oper), ({ dst := some 33, op := Op.binOp BinOp.and 3 (Operand.tmp 29) (Operand.tmp 32) 3, type := 3, pos := "l08_psg.go:57", after := #[{ on := 17, ground := Ground.data }, { on := 20, ground := Ground.data }, { on := 16, ground := Ground.guard }], guard := some (16, false) } : Oper), ({ dst := some 34, op := Op.binOp BinOp.neq 3 (Operand.tmp 33) (Operand.const (Value.int IntKind.i64 0)) 3, type := 4, pos := "l08_psg.go:57", after := #[{ on := 21, ground := Ground.data }, { on := 16, ground := Ground.guard }], guard := some (16, false) } : Oper), ({ dst := some 35, op := Op.pick (Operand.tmp 28) (Operand.const (Value.bool true)) (Operand.tmp 34), type := 4, pos := "l08_psg.go:57", after := #[{ on := 16, ground := Ground.data }, { on := 22, ground := Ground.data }], guard := none } : Oper), ({ dst := some 36, op := Op.load 27 (Operand.tmp 1), type := 27, pos := "l08_psg.go:57", after := #[], guard := none } : Oper), ({ dst := some 37, op := Op.move (Operand.tmp 5), type := 3, pos := "l08_psg.go:57", after := #[], guard := none } : Oper), ({ dst := some 38, op := Op.call { callee := Callee.value (Operand.func 55), args := #[Operand.tmp 36, Operand.tmp 37], argTypes := #[27, 3] }, type := 3, pos := "l08_psg.go:60", after := #[{ on := 24, ground := Ground.data }, { on := 25, ground := Ground.data }, { on := 16, ground := Ground.chain }], guard := none } : Oper), ({ dst := some 39, op := Op.build 52 #[(0, Operand.tmp 23), (1, Operand.tmp 35), (2, Operand.tmp 38)], type := 52, pos := "l08_psg.go:57", after := #[{ on := 11, ground := Ground.data }, { on := 23, ground := Ground.data }, { on := 26, ground := Ground.data }], guard := none } : Oper), ({ dst := some 40, op := Op.indexAddr 53 (Operand.tmp 3) (Operand.tmp 12), type := 0, pos := "l08_psg.go:57", after := #[{ on := 0, ground := Ground.data }, { on := 0, ground := Ground.phase }, { on := 1, ground := Ground.phase }, { on := 2, ground := Ground.phase }, { on := 3, ground := Ground.phase }, { on := 4, ground := Ground.phase }, { on := 5, ground := Ground.phase }, { on := 6, ground := Ground.phase }, { on := 7, ground := Ground.phase }, { on := 8, ground := Ground.phase }, { on := 9, ground := Ground.phase }, { on := 10, ground := Ground.phase }, { on := 11, ground := Ground.phase }, { on := 12, ground := Ground.phase }, { on := 13, ground := Ground.phase }, { on := 14, ground := Ground.phase }, { on := 15, ground := Ground.phase }, { on := 16, ground := Ground.phase }, { on := 17, ground := Ground.phase }, { on := 18, ground := Ground.phase }, { on := 19, ground := Ground.phase }, { on := 20, ground := Ground.phase }, { on := 21, ground := Ground.phase }, { on := 22, ground := Ground.phase }, { on := 23, ground := Ground.phase }, { on := 24, ground := Ground.phase }, { on := 25, ground := Ground.phase }, { on := 26, ground := Ground.phase }, { on := 27, ground := Ground.phase }], guard := none } : Oper), ({ dst := none, op := Op.store 52 (Operand.tmp 40) (Operand.tmp 39), type := 0, pos := "l08_psg.go:57", after := #[{ on := 28, ground := Ground.data }, { on := 27, ground := Ground.data }, { on := 26, ground := Ground.chain }, { on := 0, ground := Ground.phase }, { on := 1, ground := Ground.phase }, { on := 2, ground := Ground.phase }, { on := 3, ground := Ground.phase }, { on := 4, ground := Ground.phase }, { on := 5, ground := Ground.phase }, { on := 6, ground := Ground.phase }, { on := 7, ground := Ground.phase }, { on := 8, ground := Ground.phase }, { on := 9, ground := Ground.phase }, { on := 10, ground := Ground.phase }, { on := 11, ground := Ground.phase }, { on := 12, ground := Ground.phase }, { on := 13, ground := Ground.phase }, { on := 14, ground := Ground.phase }, { on := 15, ground := Ground.phase }, { on := 16, ground := Ground.phase }, { on := 17, ground := Ground.phase }, { on := 18, ground := Ground.phase }, { on := 19, ground := Ground.phase }, { on := 20, ground := Ground.phase }, { on := 21, ground := Ground.phase }, { on := 22, ground := Ground.phase }, { on := 23, ground := Ground.phase }, { on := 24, ground := Ground.phase }, { on := 25, ground := Ground.phase }, { on := 26, ground := Ground.phase }, { on := 27, ground := Ground.phase }], guard := none } : Oper)] true).wp Tryd.prog Q { tmps := #[A0, .pointer (some ⟨b, 0, none⟩), A2, .pointer (some ⟨b + 1 + 1, 0, none⟩), .int .i64 (r3 : Int), .int .i64 0, A6, A7, A8, A9, A10, A11, u12, u13, u14, u15, u16, u17, u18, u19, u20, u21, u22, u23, u24, u25, u26, u27, u28, u29, u30, u31, u32, u33, u34, u35, u36, u37, u38, u39, u40, u41, A42], defers := df } wr := by
  replace hSS := hid hSS
  replace hS3 := hid hS3
  replace hX2 := hid hX2
  have hv0 := hid hv
  replace h := hid h
  clear hv
  have hD : Hid (Below wr.heap.size wr wr.drew) := (Below.refl _ _).drew
  have p1 : IntKind.i64.wrap 1 = 1 := rfl
  have p2 : IntKind.i64.wrap 2 = 2 := rfl
  have p3 : IntKind.i64.wrap 3 = 3 := rfl
  have p4 : IntKind.i64.wrap 4 = 4 := rfl
  have p8 : IntKind.i64.wrap 8 = 8 := rfl
  refine wp_region_noPanic ?_
  refine wp_region_held_drew (S := (fun w' => ∀ i, w'.cell? ⟨b, i, none⟩ = (sgA (⟨x0, x1, x2, r3, r4, r5, x6, r7, sel, c0, c1, false, o1, noise, s, e, ec⟩ : Sg))[i]?)) (by kernel_rfl) (hSS.out _ hD.out) (fun hHeld => ?_)
  refine wpAnyH_take (i := 0) (oi := ({ dst := some 12, op := Op.move (Operand.tmp 5), type := 3, pos := "l08_psg.go:57", after := #[], guard := none } : Oper)) (v := ?_) rfl (by kernel_rfl) (by kernel_rfl) (by kernel_rfl) (fun _ _ _ h => h) (Or.inl ⟨by rfl, ?_⟩) (by assumption) ?_
  rotate_left
  · intro w hSw
    (try dsimp only at hSw)
    go_simp
    (try with_reducible rfl)
  (try simp only [Act.put, List.setIfInBounds_toArray, List.set_cons_zero, List.set_cons_succ])
  refine wpAnyH_take (i := 1) (oi := ({ dst := some 13, op := Op.move (Operand.tmp 5), type := 3, pos := "l08_psg.go:57", after := #[], guard := none } : Oper)) (v := ?_) rfl (by kernel_rfl) (by kernel_rfl) (by kernel_rfl) (fun _ _ _ h => h) (Or.inl ⟨by rfl, ?_⟩) (by assumption) ?_
  rotate_left
  · intro w hSw
    (try dsimp only at hSw)
    go_simp
    (try with_reducible rfl)
  (try simp only [Act.put, List.setIfInBounds_toArray, List.set_cons_zero, List.set_cons_succ])
  refine wpAnyH_take (i := 2) (oi := ({ dst := some 14, op := Op.fieldAddr 27 (Operand.tmp 1) 3, type := 0, pos := "l08_psg.go:57", after := #[], guard := none } : Oper)) (v := ?_) rfl (by kernel_rfl) (by kernel_rfl) (by kernel_rfl) (fun _ _ _ h => h) (Or.inl ⟨by rfl, ?_⟩) (by assumption) ?_
  rotate_left
  · intro w hSw
    (try dsimp only at hSw)
    go_simp
    (try with_reducible rfl)
  (try simp only [Act.put, List.setIfInBounds_toArray, List.set_cons_zero, List.set_cons_succ])
  refine wpAnyH_take (i := 3) (oi := ({ dst := some 15, op := Op.indexAddr 25 (Operand.tmp 14) (Operand.tmp 13), type := 0, pos := "l08_psg.go:57", after := #[{ on := 2, ground := Ground.data }, { on := 1, ground := Ground.data }], guard := none } : Oper)) (v := ?_) rfl (by kernel_rfl) (by kernel_rfl) (by kernel_rfl) (fun _ _ _ h => h) (Or.inl ⟨by rfl, ?_⟩) (by assumption) ?_
  rotate_left
  · intro w hSw
    (try dsimp only at hSw)
    go_simp
    (try with_reducible rfl)
  (try simp only [Act.put, List.setIfInBounds_toArray, List.set_cons_zero, List.set_cons_succ])
  refine wpAnyH_take (i := 4) (oi := ({ dst := some 16, op := Op.load 4 (Operand.tmp 15), type := 4, pos := "l08_psg.go:57", after := #[{ on := 3, ground := Ground.data }], guard := none } : Oper)) (v := ?_) rfl (by kernel_rfl) (by kernel_rfl) (by kernel_rfl) (fun _ _ _ h => h) (Or.inl ⟨by rfl, ?_⟩) (by assumption) ?_
  rotate_left
  · intro w hSw
    (try dsimp only at hSw)
    go_simp
    (try with_reducible rfl)
  (try simp only [Act.put, List.setIfInBounds_toArray, List.set_cons_zero, List.set_cons_succ])
  refine wpAnyH_take (i := 5) (oi := ({ dst := some 17, op := Op.move (Operand.tmp 16), type := 4, pos := "l08_psg.go:57", after := #[{ on := 4, ground := Ground.data }], guard := none } : Oper)) (v := ?_) rfl (by kernel_rfl) (by kernel_rfl) (by kernel_rfl) (fun _ _ _ h => h) (Or.inl ⟨by rfl, ?_⟩) (by assumption) ?_
  rotate_left
  · intro w hSw
    (try dsimp only at hSw)
    go_simp
    (try with_reducible rfl)
  (try simp only [Act.put, List.setIfInBounds_toArray, List.set_cons_zero, List.set_cons_succ])
  refine wpAnyH_take (i := 6) (oi := ({ dst := some 18, op := Op.move (Operand.tmp 4), type := 3, pos := "l08_psg.go:57", after := #[{ on := 5, ground := Ground.guard }], guard := some (5, false) } : Oper)) (v := ?_) rfl (by kernel_rfl) (by kernel_rfl) (by kernel_rfl) (fun _ _ _ h => h) (Or.inl ⟨by rfl, ?_⟩) (by assumption) ?_
  rotate_left
  · intro w hSw
    (try dsimp only at hSw)
    go_simp
    (try with_reducible rfl)
  (try simp only [Act.put, List.setIfInBounds_toArray, List.set_cons_zero, List.set_cons_succ])
  refine wpAnyH_take (i := 7) (oi := ({ dst := some 19, op := Op.move (Operand.tmp 5), type := 3, pos := "l08_psg.go:57", after := #[{ on := 5, ground := Ground.guard }], guard := some (5, false) } : Oper)) (v := ?_) rfl (by kernel_rfl) (by kernel_rfl) (by kernel_rfl) (fun _ _ _ h => h) (Or.inl ⟨by rfl, ?_⟩) (by assumption) ?_
  rotate_left
  · intro w hSw
    (try dsimp only at hSw)
    go_simp
    (try with_reducible rfl)
  (try simp only [Act.put, List.setIfInBounds_toArray, List.set_cons_zero, List.set_cons_succ])
  refine wpAnyH_take (i := 8) (oi := ({ dst := some 20, op := Op.binOp BinOp.shl 3 (Operand.const (Value.int IntKind.i64 1)) (Operand.tmp 19) 3, type := 3, pos := "l08_psg.go:57", after := #[{ on := 7, ground := Ground.data }, { on := 5, ground := Ground.guard }], guard := some (5, false) } : Oper)) (v := .int .i64 1) rfl (by kernel_rfl) (by kernel_rfl) (by kernel_rfl) (fun _ _ _ h => h) (Or.inl ⟨by rfl, fun w hSw => by kernel_rfl⟩) (by assumption) ?_
  (try simp only [Act.put, List.setIfInBounds_toArray, List.set_cons_zero, List.set_cons_succ])
  refine wpAnyH_take (i := 9) (oi := ({ dst := some 21, op := Op.binOp BinOp.and 3 (Operand.tmp 18) (Operand.tmp 20) 3, type := 3, pos := "l08_psg.go:57", after := #[{ on := 6, ground := Ground.data }, { on := 8, ground := Ground.data }, { on := 5, ground := Ground.guard }], guard := some (5, false) } : Oper)) (v := ?_) rfl (by kernel_rfl) (by kernel_rfl) (by kernel_rfl) (fun _ _ _ h => h) (Or.inl ⟨by rfl, ?_⟩) (by assumption) ?_
  rotate_left
  · intro w hSw
    (try dsimp only at hSw)
    go_simp
    (try with_reducible rfl)
  (try simp only [Act.put, List.setIfInBounds_toArray, List.set_cons_zero, List.set_cons_succ])
  refine wpAnyH_take (i := 10) (oi := ({ dst := some 22, op := Op.binOp BinOp.neq 3 (Operand.tmp 21) (Operand.const (Value.int IntKind.i64 0)) 3, type := 4, pos := "l08_psg.go:57", after := #[{ on := 9, ground := Ground.data }, { on := 5, ground := Ground.guard }], guard := some (5, false) } : Oper)) (v := ?_) rfl (by kernel_rfl) (by kernel_rfl) (by kernel_rfl) (fun _ _ _ h => h) (Or.inl ⟨by rfl, ?_⟩) (by assumption) ?_
  rotate_left
  · intro w hSw
    (try dsimp only at hSw)
    go_simp
    (try with_reducible rfl)
  (try simp only [Act.put, List.setIfInBounds_toArray, List.set_cons_zero, List.set_cons_succ])
  refine wpAnyH_take (i := 11) (oi := ({ dst := some 23, op := Op.pick (Operand.tmp 17) (Operand.const (Value.bool true)) (Operand.tmp 22), type := 4, pos := "l08_psg.go:57", after := #[{ on := 5, ground := Ground.data }, { on := 10, ground := Ground.data }], guard := none } : Oper)) (v := ?_) rfl (by kernel_rfl) (by kernel_rfl) (by kernel_rfl) (fun _ _ _ h => h) (Or.inl ⟨by rfl, ?_⟩) (by assumption) ?_
  rotate_left
  · intro w hSw
    (try dsimp only at hSw)
    go_simp
    (try with_reducible rfl)
  (try simp only [Act.put, List.setIfInBounds_toArray, List.set_cons_zero, List.set_cons_succ])
  refine wpAnyH_take (i := 12) (oi := ({ dst := some 24, op := Op.fieldAddr 27 (Operand.tmp 1) 5, type := 0, pos := "l08_psg.go:57", after := #[], guard := none } : Oper)) (v := ?_) rfl (by kernel_rfl) (by kernel_rfl) (by kernel_rfl) (fun _ _ _ h => h) (Or.inl ⟨by rfl, ?_⟩) (by assumption) ?_
  rotate_left
  · intro w hSw
    (try dsimp only at hSw)
    go_simp
    (try with_reducible rfl)
  (try simp only [Act.put, List.setIfInBounds_toArray, List.set_cons_zero, List.set_cons_succ])
  refine wpAnyH_take (i := 13) (oi := ({ dst := some 25, op := Op.load 3 (Operand.tmp 24), type := 3, pos := "l08_psg.go:57", after := #[{ on := 12, ground := Ground.data }], guard := none } : Oper)) (v := ?_) rfl (by kernel_rfl) (by kernel_rfl) (by kernel_rfl) (fun _ _ _ h => h) (Or.inl ⟨by rfl, ?_⟩) (by assumption) ?_
  rotate_left
  · intro w hSw
    (try dsimp only at hSw)
    go_simp
    (try with_reducible rfl)
  (try simp only [Act.put, List.setIfInBounds_toArray, List.set_cons_zero, List.set_cons_succ])
  refine wpAnyH_take (i := 14) (oi := ({ dst := some 26, op := Op.binOp BinOp.and 3 (Operand.tmp 25) (Operand.const (Value.int IntKind.i64 1)) 3, type := 3, pos := "l08_psg.go:57", after := #[{ on := 13, ground := Ground.data }], guard := none } : Oper)) (v := ?_) rfl (by kernel_rfl) (by kernel_rfl) (by kernel_rfl) (fun _ _ _ h => h) (Or.inl ⟨by rfl, ?_⟩) (by assumption) ?_
  rotate_left
  · intro w hSw
    (try dsimp only at hSw)
    go_simp
    (try with_reducible rfl)
  (try simp only [Act.put, List.setIfInBounds_toArray, List.set_cons_zero, List.set_cons_succ])
  refine wpAnyH_take (i := 15) (oi := ({ dst := some 27, op := Op.binOp BinOp.neq 3 (Operand.tmp 26) (Operand.const (Value.int IntKind.i64 0)) 3, type := 4, pos := "l08_psg.go:57", after := #[{ on := 14, ground := Ground.data }], guard := none } : Oper)) (v := ?_) rfl (by kernel_rfl) (by kernel_rfl) (by kernel_rfl) (fun _ _ _ h => h) (Or.inl ⟨by rfl, ?_⟩) (by assumption) ?_
  rotate_left
  · intro w hSw
    (try dsimp only at hSw)
    go_simp
    (try with_reducible rfl)
  (try simp only [Act.put, List.setIfInBounds_toArray, List.set_cons_zero, List.set_cons_succ])
  refine wpAnyH_take (i := 16) (oi := ({ dst := some 28, op := Op.move (Operand.tmp 27), type := 4, pos := "l08_psg.go:57", after := #[{ on := 15, ground := Ground.data }, { on := 5, ground := Ground.chain }], guard := none } : Oper)) (v := ?_) rfl (by kernel_rfl) (by kernel_rfl) (by kernel_rfl) (fun _ _ _ h => h) (Or.inl ⟨by rfl, ?_⟩) (by assumption) ?_
  rotate_left
  · intro w hSw
    (try dsimp only at hSw)
    go_simp
    (try with_reducible rfl)
  (try simp only [Act.put, List.setIfInBounds_toArray, List.set_cons_zero, List.set_cons_succ])
  refine wpAnyH_take (i := 17) (oi := ({ dst := some 29, op := Op.move (Operand.tmp 4), type := 3, pos := "l08_psg.go:57", after := #[{ on := 16, ground := Ground.guard }], guard := some (16, false) } : Oper)) (v := undef) rfl (by kernel_rfl) (by kernel_rfl) (by kernel_rfl) (fun _ _ _ h => h) (Or.inr ⟨by rfl, rfl⟩) (by assumption) ?_
  (try simp only [Act.put, List.setIfInBounds_toArray, List.set_cons_zero, List.set_cons_succ])
  refine wpAnyH_take (i := 18) (oi := ({ dst := some 30, op := Op.move (Operand.tmp 5), type := 3, pos := "l08_psg.go:57", after := #[{ on := 16, ground := Ground.guard }], guard := some (16, false) } : Oper)) (v := undef) rfl (by kernel_rfl) (by kernel_rfl) (by kernel_rfl) (fun _ _ _ h => h) (Or.inr ⟨by rfl, rfl⟩) (by assumption) ?_
  (try simp only [Act.put, List.setIfInBounds_toArray, List.set_cons_zero, List.set_cons_succ])
  refine wpAnyH_take (i := 19) (oi := ({ dst := some 31, op := Op.binOp BinOp.add 3 (Operand.const (Value.int IntKind.i64 2)) (Operand.tmp 30) 3, type := 3, pos := "l08_psg.go:57", after := #[{ on := 18, ground := Ground.data }, { on := 16, ground := Ground.guard }], guard := some (16, false) } : Oper)) (v := undef) rfl (by kernel_rfl) (by kernel_rfl) (by kernel_rfl) (fun _ _ _ h => h) (Or.inr ⟨by rfl, rfl⟩) (by assumption) ?_
  (try simp only [Act.put, List.setIfInBounds_toArray, List.set_cons_zero, List.set_cons_succ])
  refine wpAnyH_take (i := 20) (oi := ({ dst := some 32, op := Op.binOp BinOp.shl 3 (Operand.const (Value.int IntKind.i64 1)) (Operand.tmp 31) 3, type := 3, pos := "l08_psg.go:57", after := #[{ on := 19, ground := Ground.data }, { on := 16, ground := Ground.guard }], guard := some (16, false) } : Oper)) (v := undef) rfl (by kernel_rfl) (by kernel_rfl) (by kernel_rfl) (fun _ _ _ h => h) (Or.inr ⟨by rfl, rfl⟩) (by assumption) ?_
  (try simp only [Act.put, List.setIfInBounds_toArray, List.set_cons_zero, List.set_cons_succ])
  refine wpAnyH_take (i := 21) (oi := ({ dst := some 33, op := Op.binOp BinOp.and 3 (Operand.tmp 29) (Operand.tmp 32) 3, type := 3, pos := "l08_psg.go:57", after := #[{ on := 17, ground := Ground.data }, { on := 20, ground := Ground.data }, { on := 16, ground := Ground.guard }], guard := some (16, false) } : Oper)) (v := undef) rfl (by kernel_rfl) (by kernel_rfl) (by kernel_rfl) (fun _ _ _ h => h) (Or.inr ⟨by rfl, rfl⟩) (by assumption) ?_
  (try simp only [Act.put, List.setIfInBounds_toArray, List.set_cons_zero, List.set_cons_succ])
  refine wpAnyH_take (i := 22) (oi := ({ dst := some 34, op := Op.binOp BinOp.neq 3 (Operand.tmp 33) (Operand.const (Value.int IntKind.i64 0)) 3, type := 4, pos := "l08_psg.go:57", after := #[{ on := 21, ground := Ground.data }, { on := 16, ground := Ground.guard }], guard := some (16, false) } : Oper)) (v := undef) rfl (by kernel_rfl) (by kernel_rfl) (by kernel_rfl) (fun _ _ _ h => h) (Or.inr ⟨by rfl, rfl⟩) (by assumption) ?_
  (try simp only [Act.put, List.setIfInBounds_toArray, List.set_cons_zero, List.set_cons_succ])
  refine wpAnyH_take (i := 23) (oi := ({ dst := some 35, op := Op.pick (Operand.tmp 28) (Operand.const (Value.bool true)) (Operand.tmp 34), type := 4, pos := "l08_psg.go:57", after := #[{ on := 16, ground := Ground.data }, { on := 22, ground := Ground.data }], guard := none } : Oper)) (v := ?_) rfl (by kernel_rfl) (by kernel_rfl) (by kernel_rfl) (fun _ _ _ h => h) (Or.inl ⟨by rfl, ?_⟩) (by assumption) ?_
  rotate_left
  · intro w hSw
    (try dsimp only at hSw)
    go_simp
    (try with_reducible rfl)
  (try simp only [Act.put, List.setIfInBounds_toArray, List.set_cons_zero, List.set_cons_succ])
  refine wpAnyH_take (i := 24) (oi := ({ dst := some 36, op := Op.load 27 (Operand.tmp 1), type := 27, pos := "l08_psg.go:57", after := #[], guard := none } : Oper)) (v := ?_) rfl (by kernel_rfl) (by kernel_rfl) (by kernel_rfl) (fun _ _ _ h => h) (Or.inl ⟨by rfl, ?_⟩) (by assumption) ?_
  rotate_left
  · intro w hSw
    (try dsimp only at hSw)
    go_simp
    (try with_reducible rfl)
  (try simp only [Act.put, List.setIfInBounds_toArray, List.set_cons_zero, List.set_cons_succ])
  refine wpAnyH_take (i := 25) (oi := ({ dst := some 37, op := Op.move (Operand.tmp 5), type := 3, pos := "l08_psg.go:57", after := #[], guard := none } : Oper)) (v := ?_) rfl (by kernel_rfl) (by kernel_rfl) (by kernel_rfl) (fun _ _ _ h => h) (Or.inl ⟨by rfl, ?_⟩) (by assumption) ?_
  rotate_left
  · intro w hSw
    (try dsimp only at hSw)
    go_simp
    (try with_reducible rfl)
  (try simp only [Act.put, List.setIfInBounds_toArray, List.set_cons_zero, List.set_cons_succ])
  refine wpAnyH_ready (rs := [26]) (by kernel_rfl) (by simp) ?_
  refine AllReadyH.cons (o := ({ dst := some 38, op := Op.call { callee := Callee.value (Operand.func 55), args := #[Operand.tmp 36, Operand.tmp 37], argTypes := #[27, 3] }, type := 3, pos := "l08_psg.go:60", after := #[{ on := 24, ground := Ground.data }, { on := 25, ground := Ground.data }, { on := 16, ground := Ground.chain }], guard := none } : Oper)) rfl (fun K hK => ?_) AllReadyH.nil
  go_simp
  refine (hv0.out _).mono ?_
  rintro e' w2 ⟨rfl, hb2⟩
  have hB2 := hid (new_trans hD.out hb2)
  clear hb2
  refine hK.out _ _ (hSS.out _ hB2.out) (fun hHeld => ?_)
  clear hK K
  (try simp only [Act.put, List.setIfInBounds_toArray, List.set_cons_zero, List.set_cons_succ])
  obtain ⟨x2', f2, l2⟩ := hX2.out _ hB2.out
  obtain ⟨y0, z0⟩ := Option.isSome_iff_exists.1 (x2' 0 (by omega))
  obtain ⟨y1, z1⟩ := Option.isSome_iff_exists.1 (x2' 1 (by omega))
  obtain ⟨y2, z2⟩ := Option.isSome_iff_exists.1 (x2' 2 (by omega))
  refine wpAnyH_take (i := 27) (oi := ({ dst := some 39, op := Op.build 52 #[(0, Operand.tmp 23), (1, Operand.tmp 35), (2, Operand.tmp 38)], type := 52, pos := "l08_psg.go:57", after := #[{ on := 11, ground := Ground.data }, { on := 23, ground := Ground.data }, { on := 26, ground := Ground.data }], guard := none } : Oper)) (v := ?_) rfl (by kernel_rfl) (by kernel_rfl) (by kernel_rfl) (fun _ _ _ h => h) (Or.inl ⟨by rfl, ?_⟩) (by assumption) ?_
  rotate_left
  · intro w hSw
    (try dsimp only at hSw)
    go_simp
    (try with_reducible rfl)
  (try simp only [Act.put, List.setIfInBounds_toArray, List.set_cons_zero, List.set_cons_succ])
  refine wpAnyH_take (i := 28) (oi := ({ dst := some 40, op := Op.indexAddr 53 (Operand.tmp 3) (Operand.tmp 12), type := 0, pos := "l08_psg.go:57", after := #[{ on := 0, ground := Ground.data }, { on := 0, ground := Ground.phase }, { on := 1, ground := Ground.phase }, { on := 2, ground := Ground.phase }, { on := 3, ground := Ground.phase }, { on := 4, ground := Ground.phase }, { on := 5, ground := Ground.phase }, { on := 6, ground := Ground.phase }, { on := 7, ground := Ground.phase }, { on := 8, ground := Ground.phase }, { on := 9, ground := Ground.phase }, { on := 10, ground := Ground.phase }, { on := 11, ground := Ground.phase }, { on := 12, ground := Ground.phase }, { on := 13, ground := Ground.phase }, { on := 14, ground := Ground.phase }, { on := 15, ground := Ground.phase }, { on := 16, ground := Ground.phase }, { on := 17, ground := Ground.phase }, { on := 18, ground := Ground.phase }, { on := 19, ground := Ground.phase }, { on := 20, ground := Ground.phase }, { on := 21, ground := Ground.phase }, { on := 22, ground := Ground.phase }, { on := 23, ground := Ground.phase }, { on := 24, ground := Ground.phase }, { on := 25, ground := Ground.phase }, { on := 26, ground := Ground.phase }, { on := 27, ground := Ground.phase }], guard := none } : Oper)) (v := ?_) rfl (by kernel_rfl) (by kernel_rfl) (by kernel_rfl) (fun _ _ _ h => h) (Or.inl ⟨by rfl, ?_⟩) (by assumption) ?_
  rotate_left
  · intro w hSw
    (try dsimp only at hSw)
    go_simp
    (try with_reducible rfl)
  (try simp only [Act.put, List.setIfInBounds_toArray, List.set_cons_zero, List.set_cons_succ])
  refine wpAnyH_ready (rs := [29]) (by kernel_rfl) (by simp) ?_
  refine AllReadyH.cons (o := ({ dst := none, op := Op.store 52 (Operand.tmp 40) (Operand.tmp 39), type := 0, pos := "l08_psg.go:57", after := #[{ on := 28, ground := Ground.data }, { on := 27, ground := Ground.data }, { on := 26, ground := Ground.chain }, { on := 0, ground := Ground.phase }, { on := 1, ground := Ground.phase }, { on := 2, ground := Ground.phase }, { on := 3, ground := Ground.phase }, { on := 4, ground := Ground.phase }, { on := 5, ground := Ground.phase }, { on := 6, ground := Ground.phase }, { on := 7, ground := Ground.phase }, { on := 8, ground := Ground.phase }, { on := 9, ground := Ground.phase }, { on := 10, ground := Ground.phase }, { on := 11, ground := Ground.phase }, { on := 12, ground := Ground.phase }, { on := 13, ground := Ground.phase }, { on := 14, ground := Ground.phase }, { on := 15, ground := Ground.phase }, { on := 16, ground := Ground.phase }, { on := 17, ground := Ground.phase }, { on := 18, ground := Ground.phase }, { on := 19, ground := Ground.phase }, { on := 20, ground := Ground.phase }, { on := 21, ground := Ground.phase }, { on := 22, ground := Ground.phase }, { on := 23, ground := Ground.phase }, { on := 24, ground := Ground.phase }, { on := 25, ground := Ground.phase }, { on := 26, ground := Ground.phase }, { on := 27, ground := Ground.phase }], guard := none } : Oper)) rfl (fun K hK => ?_) AllReadyH.nil
  go_simp
  refine hK.out _ _ (hS3.out _ _ _ _ hB2.out) (fun hHeld => ?_)
  clear hK K
  (try simp only [Act.put, List.setIfInBounds_toArray, List.set_cons_zero, List.set_cons_succ])
  refine wpAnyH_done (by kernel_rfl) ?_ _
  exact NoPanic.normal (h.out _ _ _ _ _ _ _ _ _ _ _ _ _ _ _ _ _ _ _ _ _ _ _ _ _ _ _ _ _ _ hB2.out)
end Go.Proofs.YtjdgfbaioafjcaaDoor
