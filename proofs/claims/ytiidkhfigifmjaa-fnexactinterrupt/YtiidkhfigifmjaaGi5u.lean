/- A drawn region of the law laws.FnExactInterrupt: whatever the order, the answer lies in variables of its own. -/
import Derived.Test.YtiidkhfigifmjaaU45
import Derived.Test.YtiidkhfigifmjaaU47
import Derived.Test.YtiidkhfigifmjaaClu
import Derived.Test.YtiidkhfigifmjaaMeu
namespace Go.Proofs.Ytiidkhfigifmjaa
open Go.ChangeShapes Go.WideShapes Go.ChangeAt Go.RowKit
set_option linter.unusedVariables false
set_option linter.unusedSimpArgs false

structure Gi5E where
  u2 : Value
  cv : Value
  g1 : Option Addr
  g2 : Option Addr
  j1 : Nat
  j2 : Nat
  lo : Nat
  hi : Nat
  b6 : Nat
  b7 : Nat
def gi5_V (X : Mx) (code : Int) (c0 : Cu) (M0 : Mem) (e1 e2 : Option Addr) (f1 f2 : Nat) : Nat → Gi5E → Value := fun i e => match i with
  | 0 => cuV c0
  | 1 => cuV c0
  | 2 => memV (.slice e1 M0.rom.length f1) (.slice e2 M0.ram.length f2) M0.page M0.screen M0.locked
  | 3 => e.u2
  | 4 => .tuple #[cpV X.c, memV (.slice e.g1 X.m.rom.length e.j1) (.slice e.g2 X.m.ram.length e.j2) X.m.page X.m.screen X.m.locked, e.cv, .int .i64 code]
  | 5 => .tuple #[cpV X.c, memV (.slice e.g1 X.m.rom.length e.j1) (.slice e.g2 X.m.ram.length e.j2) X.m.page X.m.screen X.m.locked, e.cv, .int .i64 code]
  | 6 => cpV X.c
  | 7 => memV (.slice e.g1 X.m.rom.length e.j1) (.slice e.g2 X.m.ram.length e.j2) X.m.page X.m.screen X.m.locked
  | 8 => e.cv
  | 9 => .int .i64 code
  | 10 => .pointer (some ⟨e.b6, 0, none⟩)
  | 11 => .pointer (some ⟨e.b7, 0, none⟩)
  | 14 => e.cv
  | 15 => .int .i64 code
  | _ => undef
def gi5_J (w1 : World) (X : Mx) (code : Int) (c0 : Cu) (M0 : Mem) (e1 e2 : Option Addr) (f1 f2 : Nat) (f : Nat → Bool) (e : Gi5E) (w : World) : Prop :=
  (f 3 = true → f 4 = false → MemR w e.u2 M0) ∧ ((f 5 = true → f 4 = true) ∧ (f 6 = true → f 4 = true) ∧ (f 7 = true → f 4 = true) ∧ (f 8 = true → f 4 = true) ∧ (f 9 = true → f 4 = true) ∧ (f 14 = true → f 4 = true) ∧ (f 15 = true → f 4 = true)) ∧ (f 12 = true → f 4 = true ∧ f 10 = true) ∧ (f 13 = true → f 4 = true ∧ f 11 = true) ∧ WI w1 w (f 4) (f 10) (f 11) (f 12) (f 13) X (memV (.slice e.g1 X.m.rom.length e.j1) (.slice e.g2 X.m.ram.length e.j2) X.m.page X.m.screen X.m.locked) e.cv e.lo e.hi e.b6 e.b7 #[.slice e.g1 X.m.rom.length e.j1, .slice e.g2 X.m.ram.length e.j2, .int .i64 X.m.page, .int .i64 X.m.screen, .bool X.m.locked]
def gi5_O : Array Oper := #[({ dst := some 28, op := Op.load 40 (Operand.tmp 2), type := 40, pos := "exact.go:2131", after := #[], guard := none } : Oper), ({ dst := some 29, op := Op.call { callee := Callee.value (Operand.func 13), args := #[Operand.tmp 28], argTypes := #[40] }, type := 25, pos := "exact.go:2131", after := #[{ on := 0, ground := Ground.data }], guard := none } : Oper), ({ dst := some 30, op := Op.load 41 (Operand.tmp 3), type := 41, pos := "exact.go:2131", after := #[], guard := none } : Oper), ({ dst := some 31, op := Op.call { callee := Callee.value (Operand.func 14), args := #[Operand.tmp 30], argTypes := #[41] }, type := 30, pos := "exact.go:2131", after := #[{ on := 2, ground := Ground.data }, { on := 1, ground := Ground.chain }], guard := none } : Oper), ({ dst := some 32, op := Op.call { callee := Callee.value (Operand.func 8), args := #[Operand.tmp 29, Operand.tmp 31], argTypes := #[25, 30] }, type := 33, pos := "exact.go:2131", after := #[{ on := 1, ground := Ground.data }, { on := 3, ground := Ground.data }, { on := 3, ground := Ground.chain }], guard := none } : Oper), ({ dst := some 27, op := Op.move (Operand.tmp 32), type := 33, pos := "exact.go:2131", after := #[{ on := 4, ground := Ground.data }], guard := none } : Oper), ({ dst := some 33, op := Op.extract (Operand.tmp 27) 0, type := 25, pos := "exact.go:2131", after := #[{ on := 5, ground := Ground.data }], guard := none } : Oper), ({ dst := some 34, op := Op.extract (Operand.tmp 27) 1, type := 30, pos := "exact.go:2131", after := #[{ on := 5, ground := Ground.data }, { on := 12, ground := Ground.gcOnly Departure.lateStores }], guard := none } : Oper), ({ dst := some 35, op := Op.extract (Operand.tmp 27) 2, type := 32, pos := "exact.go:2131", after := #[{ on := 5, ground := Ground.data }, { on := 13, ground := Ground.gcOnly Departure.lateStores }], guard := none } : Oper), ({ dst := some 36, op := Op.extract (Operand.tmp 27) 3, type := 3, pos := "exact.go:2131", after := #[{ on := 5, ground := Ground.data }, { on := 14, ground := Ground.gcOnly Departure.lateStores }], guard := none } : Oper), ({ dst := some 6, op := Op.alloc 25, type := 0, pos := "exact.go:2131", after := #[], guard := none } : Oper), ({ dst := some 7, op := Op.alloc 30, type := 0, pos := "exact.go:2131", after := #[], guard := none } : Oper), ({ dst := none, op := Op.store 25 (Operand.tmp 6) (Operand.tmp 33), type := 0, pos := "exact.go:2131", after := #[{ on := 10, ground := Ground.data }, { on := 6, ground := Ground.data }, { on := 4, ground := Ground.chain }, { on := 0, ground := Ground.phase }, { on := 1, ground := Ground.phase }, { on := 2, ground := Ground.phase }, { on := 3, ground := Ground.phase }, { on := 4, ground := Ground.phase }, { on := 5, ground := Ground.phase }, { on := 6, ground := Ground.phase }, { on := 7, ground := Ground.textOnly Departure.lateStores }, { on := 8, ground := Ground.textOnly Departure.lateStores }, { on := 9, ground := Ground.textOnly Departure.lateStores }, { on := 10, ground := Ground.phase }, { on := 11, ground := Ground.phase }], guard := none } : Oper), ({ dst := none, op := Op.store 30 (Operand.tmp 7) (Operand.tmp 34), type := 0, pos := "exact.go:2131", after := #[{ on := 11, ground := Ground.data }, { on := 7, ground := Ground.data }, { on := 12, ground := Ground.chain }, { on := 0, ground := Ground.phase }, { on := 1, ground := Ground.phase }, { on := 2, ground := Ground.phase }, { on := 3, ground := Ground.phase }, { on := 4, ground := Ground.phase }, { on := 5, ground := Ground.phase }, { on := 6, ground := Ground.phase }, { on := 7, ground := Ground.phase }, { on := 8, ground := Ground.textOnly Departure.lateStores }, { on := 9, ground := Ground.textOnly Departure.lateStores }, { on := 10, ground := Ground.phase }, { on := 11, ground := Ground.phase }, { on := 12, ground := Ground.phase }], guard := none } : Oper), ({ dst := some 8, op := Op.assign (Operand.tmp 35), type := 32, pos := "exact.go:2131", after := #[{ on := 8, ground := Ground.data }, { on := 13, ground := Ground.chain }, { on := 0, ground := Ground.phase }, { on := 1, ground := Ground.phase }, { on := 2, ground := Ground.phase }, { on := 3, ground := Ground.phase }, { on := 4, ground := Ground.phase }, { on := 5, ground := Ground.phase }, { on := 6, ground := Ground.phase }, { on := 7, ground := Ground.phase }, { on := 8, ground := Ground.phase }, { on := 9, ground := Ground.textOnly Departure.lateStores }, { on := 10, ground := Ground.phase }, { on := 11, ground := Ground.phase }, { on := 12, ground := Ground.phase }, { on := 13, ground := Ground.phase }], guard := none } : Oper), ({ dst := some 9, op := Op.assign (Operand.tmp 36), type := 3, pos := "exact.go:2131", after := #[{ on := 9, ground := Ground.data }, { on := 14, ground := Ground.chain }, { on := 0, ground := Ground.phase }, { on := 1, ground := Ground.phase }, { on := 2, ground := Ground.phase }, { on := 3, ground := Ground.phase }, { on := 4, ground := Ground.phase }, { on := 5, ground := Ground.phase }, { on := 6, ground := Ground.phase }, { on := 7, ground := Ground.phase }, { on := 8, ground := Ground.phase }, { on := 9, ground := Ground.phase }, { on := 10, ground := Ground.phase }, { on := 11, ground := Ground.phase }, { on := 12, ground := Ground.phase }, { on := 13, ground := Ground.phase }, { on := 14, ground := Ground.phase }], guard := none } : Oper)]
theorem gi5_no {s : Nat} (h : ([28, 29, 30, 31, 32, 27, 33, 34, 35, 36, 6, 7, 8, 9] : List Nat).contains s = false) : ∀ i, dstAt gi5_O i ≠ some s := by
  intro i hi
  have hl : i < 16 := by
    rcases Nat.lt_or_ge i 16 with h1 | h1
    · exact h1
    · unfold dstAt at hi
      rw [Array.getElem?_eq_none (by exact h1)] at hi
      cases hi
  rcases (by omega : i = 0 ∨ i = 1 ∨ i = 2 ∨ i = 3 ∨ i = 4 ∨ i = 5 ∨ i = 6 ∨ i = 7 ∨ i = 8 ∨ i = 9 ∨ i = 10 ∨ i = 11 ∨ i = 12 ∨ i = 13 ∨ i = 14 ∨ i = 15) with rfl | rfl | rfl | rfl | rfl | rfl | rfl | rfl | rfl | rfl | rfl | rfl | rfl | rfl | rfl | rfl
  all_goals first
    | (cases hi; simp at h)
    | cases hi
theorem gi5_vk (X : Mx) (code : Int) (c0 : Cu) (M0 : Mem) (e1 e2 : Option Addr) (f1 f2 : Nat) {f : Nat → Bool} (e e' : Gi5E) (q_cv : e'.cv = e.cv) (q_g1 : e'.g1 = e.g1) (q_g2 : e'.g2 = e.g2) (q_j1 : e'.j1 = e.j1) (q_j2 : e'.j2 = e.j2) (q_b6 : e'.b6 = e.b6) (q_b7 : e'.b7 = e.b7) (hn : f 3 = false) : ∀ j, f j = true → gi5_V X code c0 M0 e1 e2 f1 f2 j e' = gi5_V X code c0 M0 e1 e2 f1 f2 j e := by
  intro j hj
  unfold gi5_V
  split
  · rfl
  · rfl
  · rfl
  · rw [hn] at hj; cases hj
  · rw [q_cv, q_g1, q_g2, q_j1, q_j2]
  · rw [q_cv, q_g1, q_g2, q_j1, q_j2]
  · rfl
  · rw [q_g1, q_g2, q_j1, q_j2]
  · rw [q_cv]
  · rfl
  · rw [q_b6]
  · rw [q_b7]
  · rw [q_cv]
  · rfl
  · rfl
theorem gi5_va (X : Mx) (code : Int) (c0 : Cu) (M0 : Mem) (e1 e2 : Option Addr) (f1 f2 : Nat) {f : Nat → Bool} (e e' : Gi5E) (q_u2 : e'.u2 = e.u2) (q_cv : e'.cv = e.cv) (q_g1 : e'.g1 = e.g1) (q_g2 : e'.g2 = e.g2) (q_j1 : e'.j1 = e.j1) (q_j2 : e'.j2 = e.j2) (q_b7 : e'.b7 = e.b7) (hn : f 10 = false) : ∀ j, f j = true → gi5_V X code c0 M0 e1 e2 f1 f2 j e' = gi5_V X code c0 M0 e1 e2 f1 f2 j e := by
  intro j hj
  unfold gi5_V
  split
  · rfl
  · rfl
  · rfl
  · rw [q_u2]
  · rw [q_cv, q_g1, q_g2, q_j1, q_j2]
  · rw [q_cv, q_g1, q_g2, q_j1, q_j2]
  · rfl
  · rw [q_g1, q_g2, q_j1, q_j2]
  · rw [q_cv]
  · rfl
  · rw [hn] at hj; cases hj
  · rw [q_b7]
  · rw [q_cv]
  · rfl
  · rfl
theorem gi5_vb (X : Mx) (code : Int) (c0 : Cu) (M0 : Mem) (e1 e2 : Option Addr) (f1 f2 : Nat) {f : Nat → Bool} (e e' : Gi5E) (q_u2 : e'.u2 = e.u2) (q_cv : e'.cv = e.cv) (q_g1 : e'.g1 = e.g1) (q_g2 : e'.g2 = e.g2) (q_j1 : e'.j1 = e.j1) (q_j2 : e'.j2 = e.j2) (q_b6 : e'.b6 = e.b6) (hn : f 11 = false) : ∀ j, f j = true → gi5_V X code c0 M0 e1 e2 f1 f2 j e' = gi5_V X code c0 M0 e1 e2 f1 f2 j e := by
  intro j hj
  unfold gi5_V
  split
  · rfl
  · rfl
  · rfl
  · rw [q_u2]
  · rw [q_cv, q_g1, q_g2, q_j1, q_j2]
  · rw [q_cv, q_g1, q_g2, q_j1, q_j2]
  · rfl
  · rw [q_g1, q_g2, q_j1, q_j2]
  · rw [q_cv]
  · rfl
  · rw [q_b6]
  · rw [hn] at hj; cases hj
  · rw [q_cv]
  · rfl
  · rfl
theorem gi5_vc (X : Mx) (code : Int) (c0 : Cu) (M0 : Mem) (e1 e2 : Option Addr) (f1 f2 : Nat) {f : Nat → Bool} (e e' : Gi5E) (q_u2 : e'.u2 = e.u2) (q_b6 : e'.b6 = e.b6) (q_b7 : e'.b7 = e.b7) (hn : f 4 = false) (hla : (f 5 = true → f 4 = true) ∧ (f 6 = true → f 4 = true) ∧ (f 7 = true → f 4 = true) ∧ (f 8 = true → f 4 = true) ∧ (f 9 = true → f 4 = true) ∧ (f 14 = true → f 4 = true) ∧ (f 15 = true → f 4 = true)) : ∀ j, f j = true → gi5_V X code c0 M0 e1 e2 f1 f2 j e' = gi5_V X code c0 M0 e1 e2 f1 f2 j e := by
  intro j hj
  unfold gi5_V
  split
  · rfl
  · rfl
  · rfl
  · rw [q_u2]
  · rw [hn] at hj; cases hj
  · have h9 := hla.1 hj; rw [hn] at h9; cases h9
  · rfl
  · have h9 := hla.2.2.1 hj; rw [hn] at h9; cases h9
  · have h9 := hla.2.2.2.1 hj; rw [hn] at h9; cases h9
  · rfl
  · rw [q_b6]
  · rw [q_b7]
  · have h9 := hla.2.2.2.2.2.1 hj; rw [hn] at h9; cases h9
  · rfl
  · rfl
set_option maxRecDepth 100000 in
set_option maxHeartbeats 2000000 in
theorem gi5_s0 (A : Act) (w1 : World) (Q : Exit → Act → World → Prop) (X : Mx) (code : Int) (c0 : Cu) (M0 : Mem) (e1 e2 : Option Addr) (f1 f2 : Nat) (bc bm : Nat)
    (hc : A.tmps.getD 2 undef = .pointer (some ⟨bc, 0, none⟩)) (hm : A.tmps.getD 3 undef = .pointer (some ⟨bm, 0, none⟩))
    (qc : Blk w1 bc (cuA c0)) (qm : Blk w1 bm #[.slice e1 M0.rom.length f1, .slice e2 M0.ram.length f2, .int .i64 M0.page, .int .i64 M0.screen, .bool M0.locked]) (htc : ∀ W', Calls Try.prog 13 #[cuV c0] W' fun e w' => e = .returned (cuV c0) ∧ Below W'.heap.size W' w')
    (hto : ∀ W', Below w1.heap.size w1 W' → Calls Try.prog 14 #[memV (.slice e1 M0.rom.length f1) (.slice e2 M0.ram.length f2) M0.page M0.screen M0.locked] W' fun e w' => ∃ u, e = .returned u ∧ MemR w' u M0 ∧ Below W'.heap.size W' w')
    (hF : ∀ W' v, Below w1.heap.size w1 W' → MemR W' v M0 → Calls Try.prog 8 #[cuV c0, v] W' fun e w' => ∃ u cv, e = .returned (.tuple #[cpV X.c, u, cv, .int .i64 code]) ∧ Ans W' w' X u cv)
    (f : Nat → Bool) (e : Gi5E) (a : Act) (w : World) (hun : f 0 = false) (hdep : ∀ d ∈ (({ dst := some 28, op := Op.load 40 (Operand.tmp 2), type := 40, pos := "exact.go:2131", after := #[], guard := none } : Oper)).after, Region.binds .any d = true → f d.on = true) (hJ : gi5_J w1 X code c0 M0 e1 e2 f1 f2 f e w) (hFr : Fr gi5_O A f (fun j => gi5_V X code c0 M0 e1 e2 f1 f2 j e) a)
    (K : Act → World → Prop) (hK : Hid (∀ v e' w', v = gi5_V X code c0 M0 e1 e2 f1 f2 0 e' → (∀ j, f j = true → gi5_V X code c0 M0 e1 e2 f1 f2 j e' = gi5_V X code c0 M0 e1 e2 f1 f2 j e) → gi5_J w1 X code c0 M0 e1 e2 f1 f2 (fun j => j == 0 || f j) e' w' → K (a.put (({ dst := some 28, op := Op.load 40 (Operand.tmp 2), type := 40, pos := "exact.go:2131", after := #[], guard := none } : Oper)).dst v) w')) :
    if Region.wanted (({ dst := some 28, op := Op.load 40 (Operand.tmp 2), type := 40, pos := "exact.go:2131", after := #[], guard := none } : Oper)) (yielded gi5_O a.tmps) = true then Oper.wp Try.prog (({ dst := some 28, op := Op.load 40 (Operand.tmp 2), type := 40, pos := "exact.go:2131", after := #[], guard := none } : Oper)) a w K Q else K (a.put (({ dst := some 28, op := Op.load 40 (Operand.tmp 2), type := 40, pos := "exact.go:2131", after := #[], guard := none } : Oper)).dst undef) w := by
  obtain ⟨hme, hla, oA, oB, hW⟩ := hJ
  have v2 := (hFr.old 2 (gi5_no (by decide))).trans hc
  clear hFr
  replace hla := hid hla
  replace oA := hid oA
  replace oB := hid oB
  replace hW := hid hW
  replace hme := hid hme
  have y := (qc.below hW.out.bel qc.lt).cell
  clear hdep
  go_simp
  exact hK.out _ e _ rfl (fun _ _ => rfl) ⟨hme.out, hla.out, oA.out, oB.out, hW.out⟩
set_option maxRecDepth 100000 in
set_option maxHeartbeats 2000000 in
theorem gi5_s1 (A : Act) (w1 : World) (Q : Exit → Act → World → Prop) (X : Mx) (code : Int) (c0 : Cu) (M0 : Mem) (e1 e2 : Option Addr) (f1 f2 : Nat) (bc bm : Nat)
    (hc : A.tmps.getD 2 undef = .pointer (some ⟨bc, 0, none⟩)) (hm : A.tmps.getD 3 undef = .pointer (some ⟨bm, 0, none⟩))
    (qc : Blk w1 bc (cuA c0)) (qm : Blk w1 bm #[.slice e1 M0.rom.length f1, .slice e2 M0.ram.length f2, .int .i64 M0.page, .int .i64 M0.screen, .bool M0.locked]) (htc : ∀ W', Calls Try.prog 13 #[cuV c0] W' fun e w' => e = .returned (cuV c0) ∧ Below W'.heap.size W' w')
    (hto : ∀ W', Below w1.heap.size w1 W' → Calls Try.prog 14 #[memV (.slice e1 M0.rom.length f1) (.slice e2 M0.ram.length f2) M0.page M0.screen M0.locked] W' fun e w' => ∃ u, e = .returned u ∧ MemR w' u M0 ∧ Below W'.heap.size W' w')
    (hF : ∀ W' v, Below w1.heap.size w1 W' → MemR W' v M0 → Calls Try.prog 8 #[cuV c0, v] W' fun e w' => ∃ u cv, e = .returned (.tuple #[cpV X.c, u, cv, .int .i64 code]) ∧ Ans W' w' X u cv)
    (f : Nat → Bool) (e : Gi5E) (a : Act) (w : World) (hun : f 1 = false) (hdep : ∀ d ∈ (({ dst := some 29, op := Op.call { callee := Callee.value (Operand.func 13), args := #[Operand.tmp 28], argTypes := #[40] }, type := 25, pos := "exact.go:2131", after := #[{ on := 0, ground := Ground.data }], guard := none } : Oper)).after, Region.binds .any d = true → f d.on = true) (hJ : gi5_J w1 X code c0 M0 e1 e2 f1 f2 f e w) (hFr : Fr gi5_O A f (fun j => gi5_V X code c0 M0 e1 e2 f1 f2 j e) a)
    (K : Act → World → Prop) (hK : Hid (∀ v e' w', v = gi5_V X code c0 M0 e1 e2 f1 f2 1 e' → (∀ j, f j = true → gi5_V X code c0 M0 e1 e2 f1 f2 j e' = gi5_V X code c0 M0 e1 e2 f1 f2 j e) → gi5_J w1 X code c0 M0 e1 e2 f1 f2 (fun j => j == 1 || f j) e' w' → K (a.put (({ dst := some 29, op := Op.call { callee := Callee.value (Operand.func 13), args := #[Operand.tmp 28], argTypes := #[40] }, type := 25, pos := "exact.go:2131", after := #[{ on := 0, ground := Ground.data }], guard := none } : Oper)).dst v) w')) :
    if Region.wanted (({ dst := some 29, op := Op.call { callee := Callee.value (Operand.func 13), args := #[Operand.tmp 28], argTypes := #[40] }, type := 25, pos := "exact.go:2131", after := #[{ on := 0, ground := Ground.data }], guard := none } : Oper)) (yielded gi5_O a.tmps) = true then Oper.wp Try.prog (({ dst := some 29, op := Op.call { callee := Callee.value (Operand.func 13), args := #[Operand.tmp 28], argTypes := #[40] }, type := 25, pos := "exact.go:2131", after := #[{ on := 0, ground := Ground.data }], guard := none } : Oper)) a w K Q else K (a.put (({ dst := some 29, op := Op.call { callee := Callee.value (Operand.func 13), args := #[Operand.tmp 28], argTypes := #[40] }, type := 25, pos := "exact.go:2131", after := #[{ on := 0, ground := Ground.data }], guard := none } : Oper)).dst undef) w := by
  obtain ⟨hme, hla, oA, oB, hW⟩ := hJ
  have k0 : f 0 = true := hdep { on := 0, ground := .data } (by simp) rfl
  have v28 : a.tmps.getD 28 undef = cuV c0 := hFr.new 0 28 rfl k0
  clear hFr
  replace hla := hid hla
  replace oA := hid oA
  replace oB := hid oB
  replace hW := hid hW
  replace hme := hid hme
  clear hdep
  go_simp
  go_at_call 13
  refine (htc _).mono ?_
  rintro e' w' ⟨rfl, hb⟩
  replace hb := hid hb
  go_simp
  exact hK.out _ e _ rfl (fun _ _ => rfl) ⟨fun a b => (hme.out a b).below hb.out, hla.out, oA.out, oB.out, hW.out.below hb.out⟩
set_option maxRecDepth 100000 in
set_option maxHeartbeats 2000000 in
theorem gi5_s2 (A : Act) (w1 : World) (Q : Exit → Act → World → Prop) (X : Mx) (code : Int) (c0 : Cu) (M0 : Mem) (e1 e2 : Option Addr) (f1 f2 : Nat) (bc bm : Nat)
    (hc : A.tmps.getD 2 undef = .pointer (some ⟨bc, 0, none⟩)) (hm : A.tmps.getD 3 undef = .pointer (some ⟨bm, 0, none⟩))
    (qc : Blk w1 bc (cuA c0)) (qm : Blk w1 bm #[.slice e1 M0.rom.length f1, .slice e2 M0.ram.length f2, .int .i64 M0.page, .int .i64 M0.screen, .bool M0.locked]) (htc : ∀ W', Calls Try.prog 13 #[cuV c0] W' fun e w' => e = .returned (cuV c0) ∧ Below W'.heap.size W' w')
    (hto : ∀ W', Below w1.heap.size w1 W' → Calls Try.prog 14 #[memV (.slice e1 M0.rom.length f1) (.slice e2 M0.ram.length f2) M0.page M0.screen M0.locked] W' fun e w' => ∃ u, e = .returned u ∧ MemR w' u M0 ∧ Below W'.heap.size W' w')
    (hF : ∀ W' v, Below w1.heap.size w1 W' → MemR W' v M0 → Calls Try.prog 8 #[cuV c0, v] W' fun e w' => ∃ u cv, e = .returned (.tuple #[cpV X.c, u, cv, .int .i64 code]) ∧ Ans W' w' X u cv)
    (f : Nat → Bool) (e : Gi5E) (a : Act) (w : World) (hun : f 2 = false) (hdep : ∀ d ∈ (({ dst := some 30, op := Op.load 41 (Operand.tmp 3), type := 41, pos := "exact.go:2131", after := #[], guard := none } : Oper)).after, Region.binds .any d = true → f d.on = true) (hJ : gi5_J w1 X code c0 M0 e1 e2 f1 f2 f e w) (hFr : Fr gi5_O A f (fun j => gi5_V X code c0 M0 e1 e2 f1 f2 j e) a)
    (K : Act → World → Prop) (hK : Hid (∀ v e' w', v = gi5_V X code c0 M0 e1 e2 f1 f2 2 e' → (∀ j, f j = true → gi5_V X code c0 M0 e1 e2 f1 f2 j e' = gi5_V X code c0 M0 e1 e2 f1 f2 j e) → gi5_J w1 X code c0 M0 e1 e2 f1 f2 (fun j => j == 2 || f j) e' w' → K (a.put (({ dst := some 30, op := Op.load 41 (Operand.tmp 3), type := 41, pos := "exact.go:2131", after := #[], guard := none } : Oper)).dst v) w')) :
    if Region.wanted (({ dst := some 30, op := Op.load 41 (Operand.tmp 3), type := 41, pos := "exact.go:2131", after := #[], guard := none } : Oper)) (yielded gi5_O a.tmps) = true then Oper.wp Try.prog (({ dst := some 30, op := Op.load 41 (Operand.tmp 3), type := 41, pos := "exact.go:2131", after := #[], guard := none } : Oper)) a w K Q else K (a.put (({ dst := some 30, op := Op.load 41 (Operand.tmp 3), type := 41, pos := "exact.go:2131", after := #[], guard := none } : Oper)).dst undef) w := by
  obtain ⟨hme, hla, oA, oB, hW⟩ := hJ
  have v3 := (hFr.old 3 (gi5_no (by decide))).trans hm
  clear hFr
  replace hla := hid hla
  replace oA := hid oA
  replace oB := hid oB
  replace hW := hid hW
  replace hme := hid hme
  have y := (qm.below hW.out.bel qm.lt).cell
  clear hdep
  go_simp
  exact hK.out _ e _ rfl (fun _ _ => rfl) ⟨hme.out, hla.out, oA.out, oB.out, hW.out⟩
set_option maxRecDepth 100000 in
set_option maxHeartbeats 2000000 in
theorem gi5_s3 (A : Act) (w1 : World) (Q : Exit → Act → World → Prop) (X : Mx) (code : Int) (c0 : Cu) (M0 : Mem) (e1 e2 : Option Addr) (f1 f2 : Nat) (bc bm : Nat)
    (hc : A.tmps.getD 2 undef = .pointer (some ⟨bc, 0, none⟩)) (hm : A.tmps.getD 3 undef = .pointer (some ⟨bm, 0, none⟩))
    (qc : Blk w1 bc (cuA c0)) (qm : Blk w1 bm #[.slice e1 M0.rom.length f1, .slice e2 M0.ram.length f2, .int .i64 M0.page, .int .i64 M0.screen, .bool M0.locked]) (htc : ∀ W', Calls Try.prog 13 #[cuV c0] W' fun e w' => e = .returned (cuV c0) ∧ Below W'.heap.size W' w')
    (hto : ∀ W', Below w1.heap.size w1 W' → Calls Try.prog 14 #[memV (.slice e1 M0.rom.length f1) (.slice e2 M0.ram.length f2) M0.page M0.screen M0.locked] W' fun e w' => ∃ u, e = .returned u ∧ MemR w' u M0 ∧ Below W'.heap.size W' w')
    (hF : ∀ W' v, Below w1.heap.size w1 W' → MemR W' v M0 → Calls Try.prog 8 #[cuV c0, v] W' fun e w' => ∃ u cv, e = .returned (.tuple #[cpV X.c, u, cv, .int .i64 code]) ∧ Ans W' w' X u cv)
    (f : Nat → Bool) (e : Gi5E) (a : Act) (w : World) (hun : f 3 = false) (hdep : ∀ d ∈ (({ dst := some 31, op := Op.call { callee := Callee.value (Operand.func 14), args := #[Operand.tmp 30], argTypes := #[41] }, type := 30, pos := "exact.go:2131", after := #[{ on := 2, ground := Ground.data }, { on := 1, ground := Ground.chain }], guard := none } : Oper)).after, Region.binds .any d = true → f d.on = true) (hJ : gi5_J w1 X code c0 M0 e1 e2 f1 f2 f e w) (hFr : Fr gi5_O A f (fun j => gi5_V X code c0 M0 e1 e2 f1 f2 j e) a)
    (K : Act → World → Prop) (hK : Hid (∀ v e' w', v = gi5_V X code c0 M0 e1 e2 f1 f2 3 e' → (∀ j, f j = true → gi5_V X code c0 M0 e1 e2 f1 f2 j e' = gi5_V X code c0 M0 e1 e2 f1 f2 j e) → gi5_J w1 X code c0 M0 e1 e2 f1 f2 (fun j => j == 3 || f j) e' w' → K (a.put (({ dst := some 31, op := Op.call { callee := Callee.value (Operand.func 14), args := #[Operand.tmp 30], argTypes := #[41] }, type := 30, pos := "exact.go:2131", after := #[{ on := 2, ground := Ground.data }, { on := 1, ground := Ground.chain }], guard := none } : Oper)).dst v) w')) :
    if Region.wanted (({ dst := some 31, op := Op.call { callee := Callee.value (Operand.func 14), args := #[Operand.tmp 30], argTypes := #[41] }, type := 30, pos := "exact.go:2131", after := #[{ on := 2, ground := Ground.data }, { on := 1, ground := Ground.chain }], guard := none } : Oper)) (yielded gi5_O a.tmps) = true then Oper.wp Try.prog (({ dst := some 31, op := Op.call { callee := Callee.value (Operand.func 14), args := #[Operand.tmp 30], argTypes := #[41] }, type := 30, pos := "exact.go:2131", after := #[{ on := 2, ground := Ground.data }, { on := 1, ground := Ground.chain }], guard := none } : Oper)) a w K Q else K (a.put (({ dst := some 31, op := Op.call { callee := Callee.value (Operand.func 14), args := #[Operand.tmp 30], argTypes := #[41] }, type := 30, pos := "exact.go:2131", after := #[{ on := 2, ground := Ground.data }, { on := 1, ground := Ground.chain }], guard := none } : Oper)).dst undef) w := by
  obtain ⟨hme, hla, oA, oB, hW⟩ := hJ
  have k2 : f 2 = true := hdep { on := 2, ground := .data } (by simp) rfl
  have v30 : a.tmps.getD 30 undef = memV (.slice e1 M0.rom.length f1) (.slice e2 M0.ram.length f2) M0.page M0.screen M0.locked := hFr.new 2 30 rfl k2
  clear hFr
  replace hla := hid hla
  replace oA := hid oA
  replace oB := hid oB
  replace hW := hid hW
  replace hme := hid hme
  clear hdep
  go_simp
  go_at_call 14
  refine (hto _ hW.out.bel).mono ?_
  rintro e' w' ⟨u, rfl, hmu, hb⟩
  replace hb := hid hb
  replace hmu := hid hmu
  go_simp
  exact hK.out _ { e with u2 := u } _ rfl (gi5_vk X code c0 M0 e1 e2 f1 f2 e _ rfl rfl rfl rfl rfl rfl rfl hun) ⟨fun _ _ => hmu.out, hla.out, oA.out, oB.out, hW.out.below hb.out⟩
set_option maxRecDepth 100000 in
set_option maxHeartbeats 2000000 in
theorem gi5_s4 (A : Act) (w1 : World) (Q : Exit → Act → World → Prop) (X : Mx) (code : Int) (c0 : Cu) (M0 : Mem) (e1 e2 : Option Addr) (f1 f2 : Nat) (bc bm : Nat)
    (hc : A.tmps.getD 2 undef = .pointer (some ⟨bc, 0, none⟩)) (hm : A.tmps.getD 3 undef = .pointer (some ⟨bm, 0, none⟩))
    (qc : Blk w1 bc (cuA c0)) (qm : Blk w1 bm #[.slice e1 M0.rom.length f1, .slice e2 M0.ram.length f2, .int .i64 M0.page, .int .i64 M0.screen, .bool M0.locked]) (htc : ∀ W', Calls Try.prog 13 #[cuV c0] W' fun e w' => e = .returned (cuV c0) ∧ Below W'.heap.size W' w')
    (hto : ∀ W', Below w1.heap.size w1 W' → Calls Try.prog 14 #[memV (.slice e1 M0.rom.length f1) (.slice e2 M0.ram.length f2) M0.page M0.screen M0.locked] W' fun e w' => ∃ u, e = .returned u ∧ MemR w' u M0 ∧ Below W'.heap.size W' w')
    (hF : ∀ W' v, Below w1.heap.size w1 W' → MemR W' v M0 → Calls Try.prog 8 #[cuV c0, v] W' fun e w' => ∃ u cv, e = .returned (.tuple #[cpV X.c, u, cv, .int .i64 code]) ∧ Ans W' w' X u cv)
    (f : Nat → Bool) (e : Gi5E) (a : Act) (w : World) (hun : f 4 = false) (hdep : ∀ d ∈ (({ dst := some 32, op := Op.call { callee := Callee.value (Operand.func 8), args := #[Operand.tmp 29, Operand.tmp 31], argTypes := #[25, 30] }, type := 33, pos := "exact.go:2131", after := #[{ on := 1, ground := Ground.data }, { on := 3, ground := Ground.data }, { on := 3, ground := Ground.chain }], guard := none } : Oper)).after, Region.binds .any d = true → f d.on = true) (hJ : gi5_J w1 X code c0 M0 e1 e2 f1 f2 f e w) (hFr : Fr gi5_O A f (fun j => gi5_V X code c0 M0 e1 e2 f1 f2 j e) a)
    (K : Act → World → Prop) (hK : Hid (∀ v e' w', v = gi5_V X code c0 M0 e1 e2 f1 f2 4 e' → (∀ j, f j = true → gi5_V X code c0 M0 e1 e2 f1 f2 j e' = gi5_V X code c0 M0 e1 e2 f1 f2 j e) → gi5_J w1 X code c0 M0 e1 e2 f1 f2 (fun j => j == 4 || f j) e' w' → K (a.put (({ dst := some 32, op := Op.call { callee := Callee.value (Operand.func 8), args := #[Operand.tmp 29, Operand.tmp 31], argTypes := #[25, 30] }, type := 33, pos := "exact.go:2131", after := #[{ on := 1, ground := Ground.data }, { on := 3, ground := Ground.data }, { on := 3, ground := Ground.chain }], guard := none } : Oper)).dst v) w')) :
    if Region.wanted (({ dst := some 32, op := Op.call { callee := Callee.value (Operand.func 8), args := #[Operand.tmp 29, Operand.tmp 31], argTypes := #[25, 30] }, type := 33, pos := "exact.go:2131", after := #[{ on := 1, ground := Ground.data }, { on := 3, ground := Ground.data }, { on := 3, ground := Ground.chain }], guard := none } : Oper)) (yielded gi5_O a.tmps) = true then Oper.wp Try.prog (({ dst := some 32, op := Op.call { callee := Callee.value (Operand.func 8), args := #[Operand.tmp 29, Operand.tmp 31], argTypes := #[25, 30] }, type := 33, pos := "exact.go:2131", after := #[{ on := 1, ground := Ground.data }, { on := 3, ground := Ground.data }, { on := 3, ground := Ground.chain }], guard := none } : Oper)) a w K Q else K (a.put (({ dst := some 32, op := Op.call { callee := Callee.value (Operand.func 8), args := #[Operand.tmp 29, Operand.tmp 31], argTypes := #[25, 30] }, type := 33, pos := "exact.go:2131", after := #[{ on := 1, ground := Ground.data }, { on := 3, ground := Ground.data }, { on := 3, ground := Ground.chain }], guard := none } : Oper)).dst undef) w := by
  obtain ⟨hme, hla, oA, oB, hW⟩ := hJ
  have k1 : f 1 = true := hdep { on := 1, ground := .data } (by simp) rfl
  have v29 : a.tmps.getD 29 undef = cuV c0 := hFr.new 1 29 rfl k1
  have k3 : f 3 = true := hdep { on := 3, ground := .data } (by simp) rfl
  have v31 : a.tmps.getD 31 undef = e.u2 := hFr.new 3 31 rfl k3
  clear hFr
  replace hla := hid hla
  replace oA := hid oA
  replace oB := hid oB
  replace hW := hid hW
  replace hme := hid hme
  have fA : f 12 = false := by
    cases hq : f 12
    · rfl
    · have := (oA.out hq).1
      rw [hun] at this
      cases this
  have fB : f 13 = false := by
    cases hq : f 13
    · rfl
    · have := (oB.out hq).1
      rw [hun] at this
      cases this
  have hmv := hme.out k3 hun
  rw [hun, fA, fB] at hW
  clear hdep
  go_simp
  go_at_call 8
  refine (hF _ _ hW.out.bel hmv).mono ?_
  rintro e' w' ⟨u, cv', rfl, hA⟩
  obtain ⟨⟨_, _, hmo, _⟩, _⟩ := id hA
  obtain ⟨g1', j1', g2', j2', rfl, _, _⟩ := hmo.reads.form
  obtain ⟨lo', hi', hW'⟩ := hW.out.call #[.slice g1' X.m.rom.length j1', .slice g2' X.m.ram.length j2', .int .i64 X.m.page, .int .i64 X.m.screen, .bool X.m.locked] hA
  replace hW' := hid hW'
  clear hA hmo
  go_simp
  exact hK.out _ ⟨e.u2, cv', g1', g2', j1', j2', lo', hi', e.b6, e.b7⟩ _ rfl (gi5_vc X code c0 M0 e1 e2 f1 f2 e _ rfl rfl rfl hun hla.out) ⟨fun _ h => absurd h (by simp), ⟨fun _ => rfl, fun _ => rfl, fun _ => rfl, fun _ => rfl, fun _ => rfl, fun _ => rfl, fun _ => rfl⟩, fun h => ⟨rfl, (oA.out h).2⟩, fun h => ⟨rfl, (oB.out h).2⟩, (by show WI w1 w' true (f 10) (f 11) (f 12) (f 13) X _ _ _ _ _ _ _; rw [fA, fB]; exact hW'.out)⟩
set_option maxRecDepth 100000 in
set_option maxHeartbeats 2000000 in
theorem gi5_s5 (A : Act) (w1 : World) (Q : Exit → Act → World → Prop) (X : Mx) (code : Int) (c0 : Cu) (M0 : Mem) (e1 e2 : Option Addr) (f1 f2 : Nat) (bc bm : Nat)
    (hc : A.tmps.getD 2 undef = .pointer (some ⟨bc, 0, none⟩)) (hm : A.tmps.getD 3 undef = .pointer (some ⟨bm, 0, none⟩))
    (qc : Blk w1 bc (cuA c0)) (qm : Blk w1 bm #[.slice e1 M0.rom.length f1, .slice e2 M0.ram.length f2, .int .i64 M0.page, .int .i64 M0.screen, .bool M0.locked]) (htc : ∀ W', Calls Try.prog 13 #[cuV c0] W' fun e w' => e = .returned (cuV c0) ∧ Below W'.heap.size W' w')
    (hto : ∀ W', Below w1.heap.size w1 W' → Calls Try.prog 14 #[memV (.slice e1 M0.rom.length f1) (.slice e2 M0.ram.length f2) M0.page M0.screen M0.locked] W' fun e w' => ∃ u, e = .returned u ∧ MemR w' u M0 ∧ Below W'.heap.size W' w')
    (hF : ∀ W' v, Below w1.heap.size w1 W' → MemR W' v M0 → Calls Try.prog 8 #[cuV c0, v] W' fun e w' => ∃ u cv, e = .returned (.tuple #[cpV X.c, u, cv, .int .i64 code]) ∧ Ans W' w' X u cv)
    (f : Nat → Bool) (e : Gi5E) (a : Act) (w : World) (hun : f 5 = false) (hdep : ∀ d ∈ (({ dst := some 27, op := Op.move (Operand.tmp 32), type := 33, pos := "exact.go:2131", after := #[{ on := 4, ground := Ground.data }], guard := none } : Oper)).after, Region.binds .any d = true → f d.on = true) (hJ : gi5_J w1 X code c0 M0 e1 e2 f1 f2 f e w) (hFr : Fr gi5_O A f (fun j => gi5_V X code c0 M0 e1 e2 f1 f2 j e) a)
    (K : Act → World → Prop) (hK : Hid (∀ v e' w', v = gi5_V X code c0 M0 e1 e2 f1 f2 5 e' → (∀ j, f j = true → gi5_V X code c0 M0 e1 e2 f1 f2 j e' = gi5_V X code c0 M0 e1 e2 f1 f2 j e) → gi5_J w1 X code c0 M0 e1 e2 f1 f2 (fun j => j == 5 || f j) e' w' → K (a.put (({ dst := some 27, op := Op.move (Operand.tmp 32), type := 33, pos := "exact.go:2131", after := #[{ on := 4, ground := Ground.data }], guard := none } : Oper)).dst v) w')) :
    if Region.wanted (({ dst := some 27, op := Op.move (Operand.tmp 32), type := 33, pos := "exact.go:2131", after := #[{ on := 4, ground := Ground.data }], guard := none } : Oper)) (yielded gi5_O a.tmps) = true then Oper.wp Try.prog (({ dst := some 27, op := Op.move (Operand.tmp 32), type := 33, pos := "exact.go:2131", after := #[{ on := 4, ground := Ground.data }], guard := none } : Oper)) a w K Q else K (a.put (({ dst := some 27, op := Op.move (Operand.tmp 32), type := 33, pos := "exact.go:2131", after := #[{ on := 4, ground := Ground.data }], guard := none } : Oper)).dst undef) w := by
  obtain ⟨hme, hla, oA, oB, hW⟩ := hJ
  have k4 : f 4 = true := hdep { on := 4, ground := .data } (by simp) rfl
  have v32 : a.tmps.getD 32 undef = .tuple #[cpV X.c, memV (.slice e.g1 X.m.rom.length e.j1) (.slice e.g2 X.m.ram.length e.j2) X.m.page X.m.screen X.m.locked, e.cv, .int .i64 code] := hFr.new 4 32 rfl k4
  clear hFr
  replace hla := hid hla
  replace oA := hid oA
  replace oB := hid oB
  replace hW := hid hW
  replace hme := hid hme
  have kc : f 4 = true := k4
  clear hdep
  go_simp
  exact hK.out _ e _ rfl (fun _ _ => rfl) ⟨hme.out, ⟨fun _ => kc, hla.out.2.1, hla.out.2.2.1, hla.out.2.2.2.1, hla.out.2.2.2.2.1, hla.out.2.2.2.2.2.1, hla.out.2.2.2.2.2.2⟩, oA.out, oB.out, hW.out⟩
set_option maxRecDepth 100000 in
set_option maxHeartbeats 2000000 in
theorem gi5_s6 (A : Act) (w1 : World) (Q : Exit → Act → World → Prop) (X : Mx) (code : Int) (c0 : Cu) (M0 : Mem) (e1 e2 : Option Addr) (f1 f2 : Nat) (bc bm : Nat)
    (hc : A.tmps.getD 2 undef = .pointer (some ⟨bc, 0, none⟩)) (hm : A.tmps.getD 3 undef = .pointer (some ⟨bm, 0, none⟩))
    (qc : Blk w1 bc (cuA c0)) (qm : Blk w1 bm #[.slice e1 M0.rom.length f1, .slice e2 M0.ram.length f2, .int .i64 M0.page, .int .i64 M0.screen, .bool M0.locked]) (htc : ∀ W', Calls Try.prog 13 #[cuV c0] W' fun e w' => e = .returned (cuV c0) ∧ Below W'.heap.size W' w')
    (hto : ∀ W', Below w1.heap.size w1 W' → Calls Try.prog 14 #[memV (.slice e1 M0.rom.length f1) (.slice e2 M0.ram.length f2) M0.page M0.screen M0.locked] W' fun e w' => ∃ u, e = .returned u ∧ MemR w' u M0 ∧ Below W'.heap.size W' w')
    (hF : ∀ W' v, Below w1.heap.size w1 W' → MemR W' v M0 → Calls Try.prog 8 #[cuV c0, v] W' fun e w' => ∃ u cv, e = .returned (.tuple #[cpV X.c, u, cv, .int .i64 code]) ∧ Ans W' w' X u cv)
    (f : Nat → Bool) (e : Gi5E) (a : Act) (w : World) (hun : f 6 = false) (hdep : ∀ d ∈ (({ dst := some 33, op := Op.extract (Operand.tmp 27) 0, type := 25, pos := "exact.go:2131", after := #[{ on := 5, ground := Ground.data }], guard := none } : Oper)).after, Region.binds .any d = true → f d.on = true) (hJ : gi5_J w1 X code c0 M0 e1 e2 f1 f2 f e w) (hFr : Fr gi5_O A f (fun j => gi5_V X code c0 M0 e1 e2 f1 f2 j e) a)
    (K : Act → World → Prop) (hK : Hid (∀ v e' w', v = gi5_V X code c0 M0 e1 e2 f1 f2 6 e' → (∀ j, f j = true → gi5_V X code c0 M0 e1 e2 f1 f2 j e' = gi5_V X code c0 M0 e1 e2 f1 f2 j e) → gi5_J w1 X code c0 M0 e1 e2 f1 f2 (fun j => j == 6 || f j) e' w' → K (a.put (({ dst := some 33, op := Op.extract (Operand.tmp 27) 0, type := 25, pos := "exact.go:2131", after := #[{ on := 5, ground := Ground.data }], guard := none } : Oper)).dst v) w')) :
    if Region.wanted (({ dst := some 33, op := Op.extract (Operand.tmp 27) 0, type := 25, pos := "exact.go:2131", after := #[{ on := 5, ground := Ground.data }], guard := none } : Oper)) (yielded gi5_O a.tmps) = true then Oper.wp Try.prog (({ dst := some 33, op := Op.extract (Operand.tmp 27) 0, type := 25, pos := "exact.go:2131", after := #[{ on := 5, ground := Ground.data }], guard := none } : Oper)) a w K Q else K (a.put (({ dst := some 33, op := Op.extract (Operand.tmp 27) 0, type := 25, pos := "exact.go:2131", after := #[{ on := 5, ground := Ground.data }], guard := none } : Oper)).dst undef) w := by
  obtain ⟨hme, hla, oA, oB, hW⟩ := hJ
  have k5 : f 5 = true := hdep { on := 5, ground := .data } (by simp) rfl
  have v27 : a.tmps.getD 27 undef = .tuple #[cpV X.c, memV (.slice e.g1 X.m.rom.length e.j1) (.slice e.g2 X.m.ram.length e.j2) X.m.page X.m.screen X.m.locked, e.cv, .int .i64 code] := hFr.new 5 27 rfl k5
  clear hFr
  replace hla := hid hla
  replace oA := hid oA
  replace oB := hid oB
  replace hW := hid hW
  replace hme := hid hme
  have kc : f 4 = true := hla.out.1 k5
  clear hdep
  go_simp
  exact hK.out _ e _ rfl (fun _ _ => rfl) ⟨hme.out, ⟨hla.out.1, fun _ => kc, hla.out.2.2.1, hla.out.2.2.2.1, hla.out.2.2.2.2.1, hla.out.2.2.2.2.2.1, hla.out.2.2.2.2.2.2⟩, oA.out, oB.out, hW.out⟩
set_option maxRecDepth 100000 in
set_option maxHeartbeats 2000000 in
theorem gi5_s7 (A : Act) (w1 : World) (Q : Exit → Act → World → Prop) (X : Mx) (code : Int) (c0 : Cu) (M0 : Mem) (e1 e2 : Option Addr) (f1 f2 : Nat) (bc bm : Nat)
    (hc : A.tmps.getD 2 undef = .pointer (some ⟨bc, 0, none⟩)) (hm : A.tmps.getD 3 undef = .pointer (some ⟨bm, 0, none⟩))
    (qc : Blk w1 bc (cuA c0)) (qm : Blk w1 bm #[.slice e1 M0.rom.length f1, .slice e2 M0.ram.length f2, .int .i64 M0.page, .int .i64 M0.screen, .bool M0.locked]) (htc : ∀ W', Calls Try.prog 13 #[cuV c0] W' fun e w' => e = .returned (cuV c0) ∧ Below W'.heap.size W' w')
    (hto : ∀ W', Below w1.heap.size w1 W' → Calls Try.prog 14 #[memV (.slice e1 M0.rom.length f1) (.slice e2 M0.ram.length f2) M0.page M0.screen M0.locked] W' fun e w' => ∃ u, e = .returned u ∧ MemR w' u M0 ∧ Below W'.heap.size W' w')
    (hF : ∀ W' v, Below w1.heap.size w1 W' → MemR W' v M0 → Calls Try.prog 8 #[cuV c0, v] W' fun e w' => ∃ u cv, e = .returned (.tuple #[cpV X.c, u, cv, .int .i64 code]) ∧ Ans W' w' X u cv)
    (f : Nat → Bool) (e : Gi5E) (a : Act) (w : World) (hun : f 7 = false) (hdep : ∀ d ∈ (({ dst := some 34, op := Op.extract (Operand.tmp 27) 1, type := 30, pos := "exact.go:2131", after := #[{ on := 5, ground := Ground.data }, { on := 12, ground := Ground.gcOnly Departure.lateStores }], guard := none } : Oper)).after, Region.binds .any d = true → f d.on = true) (hJ : gi5_J w1 X code c0 M0 e1 e2 f1 f2 f e w) (hFr : Fr gi5_O A f (fun j => gi5_V X code c0 M0 e1 e2 f1 f2 j e) a)
    (K : Act → World → Prop) (hK : Hid (∀ v e' w', v = gi5_V X code c0 M0 e1 e2 f1 f2 7 e' → (∀ j, f j = true → gi5_V X code c0 M0 e1 e2 f1 f2 j e' = gi5_V X code c0 M0 e1 e2 f1 f2 j e) → gi5_J w1 X code c0 M0 e1 e2 f1 f2 (fun j => j == 7 || f j) e' w' → K (a.put (({ dst := some 34, op := Op.extract (Operand.tmp 27) 1, type := 30, pos := "exact.go:2131", after := #[{ on := 5, ground := Ground.data }, { on := 12, ground := Ground.gcOnly Departure.lateStores }], guard := none } : Oper)).dst v) w')) :
    if Region.wanted (({ dst := some 34, op := Op.extract (Operand.tmp 27) 1, type := 30, pos := "exact.go:2131", after := #[{ on := 5, ground := Ground.data }, { on := 12, ground := Ground.gcOnly Departure.lateStores }], guard := none } : Oper)) (yielded gi5_O a.tmps) = true then Oper.wp Try.prog (({ dst := some 34, op := Op.extract (Operand.tmp 27) 1, type := 30, pos := "exact.go:2131", after := #[{ on := 5, ground := Ground.data }, { on := 12, ground := Ground.gcOnly Departure.lateStores }], guard := none } : Oper)) a w K Q else K (a.put (({ dst := some 34, op := Op.extract (Operand.tmp 27) 1, type := 30, pos := "exact.go:2131", after := #[{ on := 5, ground := Ground.data }, { on := 12, ground := Ground.gcOnly Departure.lateStores }], guard := none } : Oper)).dst undef) w := by
  obtain ⟨hme, hla, oA, oB, hW⟩ := hJ
  have k5 : f 5 = true := hdep { on := 5, ground := .data } (by simp) rfl
  have v27 : a.tmps.getD 27 undef = .tuple #[cpV X.c, memV (.slice e.g1 X.m.rom.length e.j1) (.slice e.g2 X.m.ram.length e.j2) X.m.page X.m.screen X.m.locked, e.cv, .int .i64 code] := hFr.new 5 27 rfl k5
  clear hFr
  replace hla := hid hla
  replace oA := hid oA
  replace oB := hid oB
  replace hW := hid hW
  replace hme := hid hme
  have kc : f 4 = true := hla.out.1 k5
  clear hdep
  go_simp
  exact hK.out _ e _ rfl (fun _ _ => rfl) ⟨hme.out, ⟨hla.out.1, hla.out.2.1, fun _ => kc, hla.out.2.2.2.1, hla.out.2.2.2.2.1, hla.out.2.2.2.2.2.1, hla.out.2.2.2.2.2.2⟩, oA.out, oB.out, hW.out⟩
set_option maxRecDepth 100000 in
set_option maxHeartbeats 2000000 in
theorem gi5_s8 (A : Act) (w1 : World) (Q : Exit → Act → World → Prop) (X : Mx) (code : Int) (c0 : Cu) (M0 : Mem) (e1 e2 : Option Addr) (f1 f2 : Nat) (bc bm : Nat)
    (hc : A.tmps.getD 2 undef = .pointer (some ⟨bc, 0, none⟩)) (hm : A.tmps.getD 3 undef = .pointer (some ⟨bm, 0, none⟩))
    (qc : Blk w1 bc (cuA c0)) (qm : Blk w1 bm #[.slice e1 M0.rom.length f1, .slice e2 M0.ram.length f2, .int .i64 M0.page, .int .i64 M0.screen, .bool M0.locked]) (htc : ∀ W', Calls Try.prog 13 #[cuV c0] W' fun e w' => e = .returned (cuV c0) ∧ Below W'.heap.size W' w')
    (hto : ∀ W', Below w1.heap.size w1 W' → Calls Try.prog 14 #[memV (.slice e1 M0.rom.length f1) (.slice e2 M0.ram.length f2) M0.page M0.screen M0.locked] W' fun e w' => ∃ u, e = .returned u ∧ MemR w' u M0 ∧ Below W'.heap.size W' w')
    (hF : ∀ W' v, Below w1.heap.size w1 W' → MemR W' v M0 → Calls Try.prog 8 #[cuV c0, v] W' fun e w' => ∃ u cv, e = .returned (.tuple #[cpV X.c, u, cv, .int .i64 code]) ∧ Ans W' w' X u cv)
    (f : Nat → Bool) (e : Gi5E) (a : Act) (w : World) (hun : f 8 = false) (hdep : ∀ d ∈ (({ dst := some 35, op := Op.extract (Operand.tmp 27) 2, type := 32, pos := "exact.go:2131", after := #[{ on := 5, ground := Ground.data }, { on := 13, ground := Ground.gcOnly Departure.lateStores }], guard := none } : Oper)).after, Region.binds .any d = true → f d.on = true) (hJ : gi5_J w1 X code c0 M0 e1 e2 f1 f2 f e w) (hFr : Fr gi5_O A f (fun j => gi5_V X code c0 M0 e1 e2 f1 f2 j e) a)
    (K : Act → World → Prop) (hK : Hid (∀ v e' w', v = gi5_V X code c0 M0 e1 e2 f1 f2 8 e' → (∀ j, f j = true → gi5_V X code c0 M0 e1 e2 f1 f2 j e' = gi5_V X code c0 M0 e1 e2 f1 f2 j e) → gi5_J w1 X code c0 M0 e1 e2 f1 f2 (fun j => j == 8 || f j) e' w' → K (a.put (({ dst := some 35, op := Op.extract (Operand.tmp 27) 2, type := 32, pos := "exact.go:2131", after := #[{ on := 5, ground := Ground.data }, { on := 13, ground := Ground.gcOnly Departure.lateStores }], guard := none } : Oper)).dst v) w')) :
    if Region.wanted (({ dst := some 35, op := Op.extract (Operand.tmp 27) 2, type := 32, pos := "exact.go:2131", after := #[{ on := 5, ground := Ground.data }, { on := 13, ground := Ground.gcOnly Departure.lateStores }], guard := none } : Oper)) (yielded gi5_O a.tmps) = true then Oper.wp Try.prog (({ dst := some 35, op := Op.extract (Operand.tmp 27) 2, type := 32, pos := "exact.go:2131", after := #[{ on := 5, ground := Ground.data }, { on := 13, ground := Ground.gcOnly Departure.lateStores }], guard := none } : Oper)) a w K Q else K (a.put (({ dst := some 35, op := Op.extract (Operand.tmp 27) 2, type := 32, pos := "exact.go:2131", after := #[{ on := 5, ground := Ground.data }, { on := 13, ground := Ground.gcOnly Departure.lateStores }], guard := none } : Oper)).dst undef) w := by
  obtain ⟨hme, hla, oA, oB, hW⟩ := hJ
  have k5 : f 5 = true := hdep { on := 5, ground := .data } (by simp) rfl
  have v27 : a.tmps.getD 27 undef = .tuple #[cpV X.c, memV (.slice e.g1 X.m.rom.length e.j1) (.slice e.g2 X.m.ram.length e.j2) X.m.page X.m.screen X.m.locked, e.cv, .int .i64 code] := hFr.new 5 27 rfl k5
  clear hFr
  replace hla := hid hla
  replace oA := hid oA
  replace oB := hid oB
  replace hW := hid hW
  replace hme := hid hme
  have kc : f 4 = true := hla.out.1 k5
  clear hdep
  go_simp
  exact hK.out _ e _ rfl (fun _ _ => rfl) ⟨hme.out, ⟨hla.out.1, hla.out.2.1, hla.out.2.2.1, fun _ => kc, hla.out.2.2.2.2.1, hla.out.2.2.2.2.2.1, hla.out.2.2.2.2.2.2⟩, oA.out, oB.out, hW.out⟩
set_option maxRecDepth 100000 in
set_option maxHeartbeats 2000000 in
theorem gi5_s9 (A : Act) (w1 : World) (Q : Exit → Act → World → Prop) (X : Mx) (code : Int) (c0 : Cu) (M0 : Mem) (e1 e2 : Option Addr) (f1 f2 : Nat) (bc bm : Nat)
    (hc : A.tmps.getD 2 undef = .pointer (some ⟨bc, 0, none⟩)) (hm : A.tmps.getD 3 undef = .pointer (some ⟨bm, 0, none⟩))
    (qc : Blk w1 bc (cuA c0)) (qm : Blk w1 bm #[.slice e1 M0.rom.length f1, .slice e2 M0.ram.length f2, .int .i64 M0.page, .int .i64 M0.screen, .bool M0.locked]) (htc : ∀ W', Calls Try.prog 13 #[cuV c0] W' fun e w' => e = .returned (cuV c0) ∧ Below W'.heap.size W' w')
    (hto : ∀ W', Below w1.heap.size w1 W' → Calls Try.prog 14 #[memV (.slice e1 M0.rom.length f1) (.slice e2 M0.ram.length f2) M0.page M0.screen M0.locked] W' fun e w' => ∃ u, e = .returned u ∧ MemR w' u M0 ∧ Below W'.heap.size W' w')
    (hF : ∀ W' v, Below w1.heap.size w1 W' → MemR W' v M0 → Calls Try.prog 8 #[cuV c0, v] W' fun e w' => ∃ u cv, e = .returned (.tuple #[cpV X.c, u, cv, .int .i64 code]) ∧ Ans W' w' X u cv)
    (f : Nat → Bool) (e : Gi5E) (a : Act) (w : World) (hun : f 9 = false) (hdep : ∀ d ∈ (({ dst := some 36, op := Op.extract (Operand.tmp 27) 3, type := 3, pos := "exact.go:2131", after := #[{ on := 5, ground := Ground.data }, { on := 14, ground := Ground.gcOnly Departure.lateStores }], guard := none } : Oper)).after, Region.binds .any d = true → f d.on = true) (hJ : gi5_J w1 X code c0 M0 e1 e2 f1 f2 f e w) (hFr : Fr gi5_O A f (fun j => gi5_V X code c0 M0 e1 e2 f1 f2 j e) a)
    (K : Act → World → Prop) (hK : Hid (∀ v e' w', v = gi5_V X code c0 M0 e1 e2 f1 f2 9 e' → (∀ j, f j = true → gi5_V X code c0 M0 e1 e2 f1 f2 j e' = gi5_V X code c0 M0 e1 e2 f1 f2 j e) → gi5_J w1 X code c0 M0 e1 e2 f1 f2 (fun j => j == 9 || f j) e' w' → K (a.put (({ dst := some 36, op := Op.extract (Operand.tmp 27) 3, type := 3, pos := "exact.go:2131", after := #[{ on := 5, ground := Ground.data }, { on := 14, ground := Ground.gcOnly Departure.lateStores }], guard := none } : Oper)).dst v) w')) :
    if Region.wanted (({ dst := some 36, op := Op.extract (Operand.tmp 27) 3, type := 3, pos := "exact.go:2131", after := #[{ on := 5, ground := Ground.data }, { on := 14, ground := Ground.gcOnly Departure.lateStores }], guard := none } : Oper)) (yielded gi5_O a.tmps) = true then Oper.wp Try.prog (({ dst := some 36, op := Op.extract (Operand.tmp 27) 3, type := 3, pos := "exact.go:2131", after := #[{ on := 5, ground := Ground.data }, { on := 14, ground := Ground.gcOnly Departure.lateStores }], guard := none } : Oper)) a w K Q else K (a.put (({ dst := some 36, op := Op.extract (Operand.tmp 27) 3, type := 3, pos := "exact.go:2131", after := #[{ on := 5, ground := Ground.data }, { on := 14, ground := Ground.gcOnly Departure.lateStores }], guard := none } : Oper)).dst undef) w := by
  obtain ⟨hme, hla, oA, oB, hW⟩ := hJ
  have k5 : f 5 = true := hdep { on := 5, ground := .data } (by simp) rfl
  have v27 : a.tmps.getD 27 undef = .tuple #[cpV X.c, memV (.slice e.g1 X.m.rom.length e.j1) (.slice e.g2 X.m.ram.length e.j2) X.m.page X.m.screen X.m.locked, e.cv, .int .i64 code] := hFr.new 5 27 rfl k5
  clear hFr
  replace hla := hid hla
  replace oA := hid oA
  replace oB := hid oB
  replace hW := hid hW
  replace hme := hid hme
  have kc : f 4 = true := hla.out.1 k5
  clear hdep
  go_simp
  exact hK.out _ e _ rfl (fun _ _ => rfl) ⟨hme.out, ⟨hla.out.1, hla.out.2.1, hla.out.2.2.1, hla.out.2.2.2.1, fun _ => kc, hla.out.2.2.2.2.2.1, hla.out.2.2.2.2.2.2⟩, oA.out, oB.out, hW.out⟩
set_option maxRecDepth 100000 in
set_option maxHeartbeats 2000000 in
theorem gi5_s10 (A : Act) (w1 : World) (Q : Exit → Act → World → Prop) (X : Mx) (code : Int) (c0 : Cu) (M0 : Mem) (e1 e2 : Option Addr) (f1 f2 : Nat) (bc bm : Nat)
    (hc : A.tmps.getD 2 undef = .pointer (some ⟨bc, 0, none⟩)) (hm : A.tmps.getD 3 undef = .pointer (some ⟨bm, 0, none⟩))
    (qc : Blk w1 bc (cuA c0)) (qm : Blk w1 bm #[.slice e1 M0.rom.length f1, .slice e2 M0.ram.length f2, .int .i64 M0.page, .int .i64 M0.screen, .bool M0.locked]) (htc : ∀ W', Calls Try.prog 13 #[cuV c0] W' fun e w' => e = .returned (cuV c0) ∧ Below W'.heap.size W' w')
    (hto : ∀ W', Below w1.heap.size w1 W' → Calls Try.prog 14 #[memV (.slice e1 M0.rom.length f1) (.slice e2 M0.ram.length f2) M0.page M0.screen M0.locked] W' fun e w' => ∃ u, e = .returned u ∧ MemR w' u M0 ∧ Below W'.heap.size W' w')
    (hF : ∀ W' v, Below w1.heap.size w1 W' → MemR W' v M0 → Calls Try.prog 8 #[cuV c0, v] W' fun e w' => ∃ u cv, e = .returned (.tuple #[cpV X.c, u, cv, .int .i64 code]) ∧ Ans W' w' X u cv)
    (f : Nat → Bool) (e : Gi5E) (a : Act) (w : World) (hun : f 10 = false) (hdep : ∀ d ∈ (({ dst := some 6, op := Op.alloc 25, type := 0, pos := "exact.go:2131", after := #[], guard := none } : Oper)).after, Region.binds .any d = true → f d.on = true) (hJ : gi5_J w1 X code c0 M0 e1 e2 f1 f2 f e w) (hFr : Fr gi5_O A f (fun j => gi5_V X code c0 M0 e1 e2 f1 f2 j e) a)
    (K : Act → World → Prop) (hK : Hid (∀ v e' w', v = gi5_V X code c0 M0 e1 e2 f1 f2 10 e' → (∀ j, f j = true → gi5_V X code c0 M0 e1 e2 f1 f2 j e' = gi5_V X code c0 M0 e1 e2 f1 f2 j e) → gi5_J w1 X code c0 M0 e1 e2 f1 f2 (fun j => j == 10 || f j) e' w' → K (a.put (({ dst := some 6, op := Op.alloc 25, type := 0, pos := "exact.go:2131", after := #[], guard := none } : Oper)).dst v) w')) :
    if Region.wanted (({ dst := some 6, op := Op.alloc 25, type := 0, pos := "exact.go:2131", after := #[], guard := none } : Oper)) (yielded gi5_O a.tmps) = true then Oper.wp Try.prog (({ dst := some 6, op := Op.alloc 25, type := 0, pos := "exact.go:2131", after := #[], guard := none } : Oper)) a w K Q else K (a.put (({ dst := some 6, op := Op.alloc 25, type := 0, pos := "exact.go:2131", after := #[], guard := none } : Oper)).dst undef) w := by
  obtain ⟨hme, hla, oA, oB, hW⟩ := hJ
  clear hFr
  replace hla := hid hla
  replace oA := hid oA
  replace oB := hid oB
  replace hW := hid hW
  replace hme := hid hme
  have fx : f 12 = false := by
    cases hq : f 12
    · rfl
    · have := (oA.out hq).2
      rw [hun] at this
      cases this
  rw [hun, fx] at hW
  have hW' := hid (hW.out.alA 25)
  have hb := hid ((Below.refl w.heap.size w).alloc (Nat.le_refl _) (.cells zC 25))
  clear hdep
  go_simp
  exact hK.out _ { e with b6 := w.heap.size } _ rfl (gi5_va X code c0 M0 e1 e2 f1 f2 e _ rfl rfl rfl rfl rfl rfl rfl hun) ⟨fun a b => (hme.out a b).below hb.out, hla.out, fun h => ⟨(oA.out h).1, rfl⟩, oB.out, (by show WI w1 _ (f 4) true (f 11) (f 12) (f 13) X _ _ _ _ _ _ _; rw [fx]; exact hW'.out)⟩
set_option maxRecDepth 100000 in
set_option maxHeartbeats 2000000 in
theorem gi5_s11 (A : Act) (w1 : World) (Q : Exit → Act → World → Prop) (X : Mx) (code : Int) (c0 : Cu) (M0 : Mem) (e1 e2 : Option Addr) (f1 f2 : Nat) (bc bm : Nat)
    (hc : A.tmps.getD 2 undef = .pointer (some ⟨bc, 0, none⟩)) (hm : A.tmps.getD 3 undef = .pointer (some ⟨bm, 0, none⟩))
    (qc : Blk w1 bc (cuA c0)) (qm : Blk w1 bm #[.slice e1 M0.rom.length f1, .slice e2 M0.ram.length f2, .int .i64 M0.page, .int .i64 M0.screen, .bool M0.locked]) (htc : ∀ W', Calls Try.prog 13 #[cuV c0] W' fun e w' => e = .returned (cuV c0) ∧ Below W'.heap.size W' w')
    (hto : ∀ W', Below w1.heap.size w1 W' → Calls Try.prog 14 #[memV (.slice e1 M0.rom.length f1) (.slice e2 M0.ram.length f2) M0.page M0.screen M0.locked] W' fun e w' => ∃ u, e = .returned u ∧ MemR w' u M0 ∧ Below W'.heap.size W' w')
    (hF : ∀ W' v, Below w1.heap.size w1 W' → MemR W' v M0 → Calls Try.prog 8 #[cuV c0, v] W' fun e w' => ∃ u cv, e = .returned (.tuple #[cpV X.c, u, cv, .int .i64 code]) ∧ Ans W' w' X u cv)
    (f : Nat → Bool) (e : Gi5E) (a : Act) (w : World) (hun : f 11 = false) (hdep : ∀ d ∈ (({ dst := some 7, op := Op.alloc 30, type := 0, pos := "exact.go:2131", after := #[], guard := none } : Oper)).after, Region.binds .any d = true → f d.on = true) (hJ : gi5_J w1 X code c0 M0 e1 e2 f1 f2 f e w) (hFr : Fr gi5_O A f (fun j => gi5_V X code c0 M0 e1 e2 f1 f2 j e) a)
    (K : Act → World → Prop) (hK : Hid (∀ v e' w', v = gi5_V X code c0 M0 e1 e2 f1 f2 11 e' → (∀ j, f j = true → gi5_V X code c0 M0 e1 e2 f1 f2 j e' = gi5_V X code c0 M0 e1 e2 f1 f2 j e) → gi5_J w1 X code c0 M0 e1 e2 f1 f2 (fun j => j == 11 || f j) e' w' → K (a.put (({ dst := some 7, op := Op.alloc 30, type := 0, pos := "exact.go:2131", after := #[], guard := none } : Oper)).dst v) w')) :
    if Region.wanted (({ dst := some 7, op := Op.alloc 30, type := 0, pos := "exact.go:2131", after := #[], guard := none } : Oper)) (yielded gi5_O a.tmps) = true then Oper.wp Try.prog (({ dst := some 7, op := Op.alloc 30, type := 0, pos := "exact.go:2131", after := #[], guard := none } : Oper)) a w K Q else K (a.put (({ dst := some 7, op := Op.alloc 30, type := 0, pos := "exact.go:2131", after := #[], guard := none } : Oper)).dst undef) w := by
  obtain ⟨hme, hla, oA, oB, hW⟩ := hJ
  clear hFr
  replace hla := hid hla
  replace oA := hid oA
  replace oB := hid oB
  replace hW := hid hW
  replace hme := hid hme
  have fx : f 13 = false := by
    cases hq : f 13
    · rfl
    · have := (oB.out hq).2
      rw [hun] at this
      cases this
  rw [hun, fx] at hW
  have hW' := hid (hW.out.alB 30)
  have hb := hid ((Below.refl w.heap.size w).alloc (Nat.le_refl _) (.cells zM 30))
  clear hdep
  go_simp
  exact hK.out _ { e with b7 := w.heap.size } _ rfl (gi5_vb X code c0 M0 e1 e2 f1 f2 e _ rfl rfl rfl rfl rfl rfl rfl hun) ⟨fun a b => (hme.out a b).below hb.out, hla.out, oA.out, fun h => ⟨(oB.out h).1, rfl⟩, (by show WI w1 _ (f 4) (f 10) true (f 12) (f 13) X _ _ _ _ _ _ _; rw [fx]; exact hW'.out)⟩
set_option maxRecDepth 100000 in
set_option maxHeartbeats 2000000 in
theorem gi5_s12 (A : Act) (w1 : World) (Q : Exit → Act → World → Prop) (X : Mx) (code : Int) (c0 : Cu) (M0 : Mem) (e1 e2 : Option Addr) (f1 f2 : Nat) (bc bm : Nat)
    (hc : A.tmps.getD 2 undef = .pointer (some ⟨bc, 0, none⟩)) (hm : A.tmps.getD 3 undef = .pointer (some ⟨bm, 0, none⟩))
    (qc : Blk w1 bc (cuA c0)) (qm : Blk w1 bm #[.slice e1 M0.rom.length f1, .slice e2 M0.ram.length f2, .int .i64 M0.page, .int .i64 M0.screen, .bool M0.locked]) (htc : ∀ W', Calls Try.prog 13 #[cuV c0] W' fun e w' => e = .returned (cuV c0) ∧ Below W'.heap.size W' w')
    (hto : ∀ W', Below w1.heap.size w1 W' → Calls Try.prog 14 #[memV (.slice e1 M0.rom.length f1) (.slice e2 M0.ram.length f2) M0.page M0.screen M0.locked] W' fun e w' => ∃ u, e = .returned u ∧ MemR w' u M0 ∧ Below W'.heap.size W' w')
    (hF : ∀ W' v, Below w1.heap.size w1 W' → MemR W' v M0 → Calls Try.prog 8 #[cuV c0, v] W' fun e w' => ∃ u cv, e = .returned (.tuple #[cpV X.c, u, cv, .int .i64 code]) ∧ Ans W' w' X u cv)
    (f : Nat → Bool) (e : Gi5E) (a : Act) (w : World) (hun : f 12 = false) (hdep : ∀ d ∈ (({ dst := none, op := Op.store 25 (Operand.tmp 6) (Operand.tmp 33), type := 0, pos := "exact.go:2131", after := #[{ on := 10, ground := Ground.data }, { on := 6, ground := Ground.data }, { on := 4, ground := Ground.chain }, { on := 0, ground := Ground.phase }, { on := 1, ground := Ground.phase }, { on := 2, ground := Ground.phase }, { on := 3, ground := Ground.phase }, { on := 4, ground := Ground.phase }, { on := 5, ground := Ground.phase }, { on := 6, ground := Ground.phase }, { on := 7, ground := Ground.textOnly Departure.lateStores }, { on := 8, ground := Ground.textOnly Departure.lateStores }, { on := 9, ground := Ground.textOnly Departure.lateStores }, { on := 10, ground := Ground.phase }, { on := 11, ground := Ground.phase }], guard := none } : Oper)).after, Region.binds .any d = true → f d.on = true) (hJ : gi5_J w1 X code c0 M0 e1 e2 f1 f2 f e w) (hFr : Fr gi5_O A f (fun j => gi5_V X code c0 M0 e1 e2 f1 f2 j e) a)
    (K : Act → World → Prop) (hK : Hid (∀ v e' w', v = gi5_V X code c0 M0 e1 e2 f1 f2 12 e' → (∀ j, f j = true → gi5_V X code c0 M0 e1 e2 f1 f2 j e' = gi5_V X code c0 M0 e1 e2 f1 f2 j e) → gi5_J w1 X code c0 M0 e1 e2 f1 f2 (fun j => j == 12 || f j) e' w' → K (a.put (({ dst := none, op := Op.store 25 (Operand.tmp 6) (Operand.tmp 33), type := 0, pos := "exact.go:2131", after := #[{ on := 10, ground := Ground.data }, { on := 6, ground := Ground.data }, { on := 4, ground := Ground.chain }, { on := 0, ground := Ground.phase }, { on := 1, ground := Ground.phase }, { on := 2, ground := Ground.phase }, { on := 3, ground := Ground.phase }, { on := 4, ground := Ground.phase }, { on := 5, ground := Ground.phase }, { on := 6, ground := Ground.phase }, { on := 7, ground := Ground.textOnly Departure.lateStores }, { on := 8, ground := Ground.textOnly Departure.lateStores }, { on := 9, ground := Ground.textOnly Departure.lateStores }, { on := 10, ground := Ground.phase }, { on := 11, ground := Ground.phase }], guard := none } : Oper)).dst v) w')) :
    if Region.wanted (({ dst := none, op := Op.store 25 (Operand.tmp 6) (Operand.tmp 33), type := 0, pos := "exact.go:2131", after := #[{ on := 10, ground := Ground.data }, { on := 6, ground := Ground.data }, { on := 4, ground := Ground.chain }, { on := 0, ground := Ground.phase }, { on := 1, ground := Ground.phase }, { on := 2, ground := Ground.phase }, { on := 3, ground := Ground.phase }, { on := 4, ground := Ground.phase }, { on := 5, ground := Ground.phase }, { on := 6, ground := Ground.phase }, { on := 7, ground := Ground.textOnly Departure.lateStores }, { on := 8, ground := Ground.textOnly Departure.lateStores }, { on := 9, ground := Ground.textOnly Departure.lateStores }, { on := 10, ground := Ground.phase }, { on := 11, ground := Ground.phase }], guard := none } : Oper)) (yielded gi5_O a.tmps) = true then Oper.wp Try.prog (({ dst := none, op := Op.store 25 (Operand.tmp 6) (Operand.tmp 33), type := 0, pos := "exact.go:2131", after := #[{ on := 10, ground := Ground.data }, { on := 6, ground := Ground.data }, { on := 4, ground := Ground.chain }, { on := 0, ground := Ground.phase }, { on := 1, ground := Ground.phase }, { on := 2, ground := Ground.phase }, { on := 3, ground := Ground.phase }, { on := 4, ground := Ground.phase }, { on := 5, ground := Ground.phase }, { on := 6, ground := Ground.phase }, { on := 7, ground := Ground.textOnly Departure.lateStores }, { on := 8, ground := Ground.textOnly Departure.lateStores }, { on := 9, ground := Ground.textOnly Departure.lateStores }, { on := 10, ground := Ground.phase }, { on := 11, ground := Ground.phase }], guard := none } : Oper)) a w K Q else K (a.put (({ dst := none, op := Op.store 25 (Operand.tmp 6) (Operand.tmp 33), type := 0, pos := "exact.go:2131", after := #[{ on := 10, ground := Ground.data }, { on := 6, ground := Ground.data }, { on := 4, ground := Ground.chain }, { on := 0, ground := Ground.phase }, { on := 1, ground := Ground.phase }, { on := 2, ground := Ground.phase }, { on := 3, ground := Ground.phase }, { on := 4, ground := Ground.phase }, { on := 5, ground := Ground.phase }, { on := 6, ground := Ground.phase }, { on := 7, ground := Ground.textOnly Departure.lateStores }, { on := 8, ground := Ground.textOnly Departure.lateStores }, { on := 9, ground := Ground.textOnly Departure.lateStores }, { on := 10, ground := Ground.phase }, { on := 11, ground := Ground.phase }], guard := none } : Oper)).dst undef) w := by
  obtain ⟨hme, hla, oA, oB, hW⟩ := hJ
  have k10 : f 10 = true := hdep { on := 10, ground := .data } (by simp) rfl
  have v6 : a.tmps.getD 6 undef = .pointer (some ⟨e.b6, 0, none⟩) := hFr.new 10 6 rfl k10
  have k6 : f 6 = true := hdep { on := 6, ground := .data } (by simp) rfl
  have v33 : a.tmps.getD 33 undef = cpV X.c := hFr.new 6 33 rfl k6
  clear hFr
  replace hla := hid hla
  replace oA := hid oA
  replace oB := hid oB
  replace hW := hid hW
  replace hme := hid hme
  have k4 : f 4 = true := hla.out.2.1 k6
  rw [hun, k10, k4] at hW
  have y := hW.out.boxA.cell
  have fz := hW.out.boxA.frozen
  have lt := hW.out.boxA.lt
  have hW' := hid hW.out.stA
  clear hdep
  go_simp
  exact hK.out (gi5_V X code c0 M0 e1 e2 f1 f2 12 e) e _ rfl (fun _ _ => rfl) ⟨fun _ h => absurd (k4.symm.trans h) (by simp), hla.out, fun _ => ⟨k4, k10⟩, oB.out, (by show WI w1 _ (f 4) (f 10) (f 11) true (f 13) X _ _ _ _ _ _ _; rw [k10, k4]; exact hW'.out)⟩
set_option maxRecDepth 100000 in
set_option maxHeartbeats 2000000 in
theorem gi5_s13 (A : Act) (w1 : World) (Q : Exit → Act → World → Prop) (X : Mx) (code : Int) (c0 : Cu) (M0 : Mem) (e1 e2 : Option Addr) (f1 f2 : Nat) (bc bm : Nat)
    (hc : A.tmps.getD 2 undef = .pointer (some ⟨bc, 0, none⟩)) (hm : A.tmps.getD 3 undef = .pointer (some ⟨bm, 0, none⟩))
    (qc : Blk w1 bc (cuA c0)) (qm : Blk w1 bm #[.slice e1 M0.rom.length f1, .slice e2 M0.ram.length f2, .int .i64 M0.page, .int .i64 M0.screen, .bool M0.locked]) (htc : ∀ W', Calls Try.prog 13 #[cuV c0] W' fun e w' => e = .returned (cuV c0) ∧ Below W'.heap.size W' w')
    (hto : ∀ W', Below w1.heap.size w1 W' → Calls Try.prog 14 #[memV (.slice e1 M0.rom.length f1) (.slice e2 M0.ram.length f2) M0.page M0.screen M0.locked] W' fun e w' => ∃ u, e = .returned u ∧ MemR w' u M0 ∧ Below W'.heap.size W' w')
    (hF : ∀ W' v, Below w1.heap.size w1 W' → MemR W' v M0 → Calls Try.prog 8 #[cuV c0, v] W' fun e w' => ∃ u cv, e = .returned (.tuple #[cpV X.c, u, cv, .int .i64 code]) ∧ Ans W' w' X u cv)
    (f : Nat → Bool) (e : Gi5E) (a : Act) (w : World) (hun : f 13 = false) (hdep : ∀ d ∈ (({ dst := none, op := Op.store 30 (Operand.tmp 7) (Operand.tmp 34), type := 0, pos := "exact.go:2131", after := #[{ on := 11, ground := Ground.data }, { on := 7, ground := Ground.data }, { on := 12, ground := Ground.chain }, { on := 0, ground := Ground.phase }, { on := 1, ground := Ground.phase }, { on := 2, ground := Ground.phase }, { on := 3, ground := Ground.phase }, { on := 4, ground := Ground.phase }, { on := 5, ground := Ground.phase }, { on := 6, ground := Ground.phase }, { on := 7, ground := Ground.phase }, { on := 8, ground := Ground.textOnly Departure.lateStores }, { on := 9, ground := Ground.textOnly Departure.lateStores }, { on := 10, ground := Ground.phase }, { on := 11, ground := Ground.phase }, { on := 12, ground := Ground.phase }], guard := none } : Oper)).after, Region.binds .any d = true → f d.on = true) (hJ : gi5_J w1 X code c0 M0 e1 e2 f1 f2 f e w) (hFr : Fr gi5_O A f (fun j => gi5_V X code c0 M0 e1 e2 f1 f2 j e) a)
    (K : Act → World → Prop) (hK : Hid (∀ v e' w', v = gi5_V X code c0 M0 e1 e2 f1 f2 13 e' → (∀ j, f j = true → gi5_V X code c0 M0 e1 e2 f1 f2 j e' = gi5_V X code c0 M0 e1 e2 f1 f2 j e) → gi5_J w1 X code c0 M0 e1 e2 f1 f2 (fun j => j == 13 || f j) e' w' → K (a.put (({ dst := none, op := Op.store 30 (Operand.tmp 7) (Operand.tmp 34), type := 0, pos := "exact.go:2131", after := #[{ on := 11, ground := Ground.data }, { on := 7, ground := Ground.data }, { on := 12, ground := Ground.chain }, { on := 0, ground := Ground.phase }, { on := 1, ground := Ground.phase }, { on := 2, ground := Ground.phase }, { on := 3, ground := Ground.phase }, { on := 4, ground := Ground.phase }, { on := 5, ground := Ground.phase }, { on := 6, ground := Ground.phase }, { on := 7, ground := Ground.phase }, { on := 8, ground := Ground.textOnly Departure.lateStores }, { on := 9, ground := Ground.textOnly Departure.lateStores }, { on := 10, ground := Ground.phase }, { on := 11, ground := Ground.phase }, { on := 12, ground := Ground.phase }], guard := none } : Oper)).dst v) w')) :
    if Region.wanted (({ dst := none, op := Op.store 30 (Operand.tmp 7) (Operand.tmp 34), type := 0, pos := "exact.go:2131", after := #[{ on := 11, ground := Ground.data }, { on := 7, ground := Ground.data }, { on := 12, ground := Ground.chain }, { on := 0, ground := Ground.phase }, { on := 1, ground := Ground.phase }, { on := 2, ground := Ground.phase }, { on := 3, ground := Ground.phase }, { on := 4, ground := Ground.phase }, { on := 5, ground := Ground.phase }, { on := 6, ground := Ground.phase }, { on := 7, ground := Ground.phase }, { on := 8, ground := Ground.textOnly Departure.lateStores }, { on := 9, ground := Ground.textOnly Departure.lateStores }, { on := 10, ground := Ground.phase }, { on := 11, ground := Ground.phase }, { on := 12, ground := Ground.phase }], guard := none } : Oper)) (yielded gi5_O a.tmps) = true then Oper.wp Try.prog (({ dst := none, op := Op.store 30 (Operand.tmp 7) (Operand.tmp 34), type := 0, pos := "exact.go:2131", after := #[{ on := 11, ground := Ground.data }, { on := 7, ground := Ground.data }, { on := 12, ground := Ground.chain }, { on := 0, ground := Ground.phase }, { on := 1, ground := Ground.phase }, { on := 2, ground := Ground.phase }, { on := 3, ground := Ground.phase }, { on := 4, ground := Ground.phase }, { on := 5, ground := Ground.phase }, { on := 6, ground := Ground.phase }, { on := 7, ground := Ground.phase }, { on := 8, ground := Ground.textOnly Departure.lateStores }, { on := 9, ground := Ground.textOnly Departure.lateStores }, { on := 10, ground := Ground.phase }, { on := 11, ground := Ground.phase }, { on := 12, ground := Ground.phase }], guard := none } : Oper)) a w K Q else K (a.put (({ dst := none, op := Op.store 30 (Operand.tmp 7) (Operand.tmp 34), type := 0, pos := "exact.go:2131", after := #[{ on := 11, ground := Ground.data }, { on := 7, ground := Ground.data }, { on := 12, ground := Ground.chain }, { on := 0, ground := Ground.phase }, { on := 1, ground := Ground.phase }, { on := 2, ground := Ground.phase }, { on := 3, ground := Ground.phase }, { on := 4, ground := Ground.phase }, { on := 5, ground := Ground.phase }, { on := 6, ground := Ground.phase }, { on := 7, ground := Ground.phase }, { on := 8, ground := Ground.textOnly Departure.lateStores }, { on := 9, ground := Ground.textOnly Departure.lateStores }, { on := 10, ground := Ground.phase }, { on := 11, ground := Ground.phase }, { on := 12, ground := Ground.phase }], guard := none } : Oper)).dst undef) w := by
  obtain ⟨hme, hla, oA, oB, hW⟩ := hJ
  have k11 : f 11 = true := hdep { on := 11, ground := .data } (by simp) rfl
  have v7 : a.tmps.getD 7 undef = .pointer (some ⟨e.b7, 0, none⟩) := hFr.new 11 7 rfl k11
  have k7 : f 7 = true := hdep { on := 7, ground := .data } (by simp) rfl
  have v34 : a.tmps.getD 34 undef = memV (.slice e.g1 X.m.rom.length e.j1) (.slice e.g2 X.m.ram.length e.j2) X.m.page X.m.screen X.m.locked := hFr.new 7 34 rfl k7
  clear hFr
  replace hla := hid hla
  replace oA := hid oA
  replace oB := hid oB
  replace hW := hid hW
  replace hme := hid hme
  have k4 : f 4 = true := hla.out.2.2.1 k7
  rw [hun, k11, k4] at hW
  have y := hW.out.boxB.cell
  have fz := hW.out.boxB.frozen
  have lt := hW.out.boxB.lt
  have hW' := hid hW.out.stB
  clear hdep
  go_simp
  exact hK.out (gi5_V X code c0 M0 e1 e2 f1 f2 13 e) e _ rfl (fun _ _ => rfl) ⟨fun _ h => absurd (k4.symm.trans h) (by simp), hla.out, oA.out, fun _ => ⟨k4, k11⟩, (by show WI w1 _ (f 4) (f 10) (f 11) (f 12) true X _ _ _ _ _ _ _; rw [k11, k4]; exact hW'.out)⟩
set_option maxRecDepth 100000 in
set_option maxHeartbeats 2000000 in
theorem gi5_s14 (A : Act) (w1 : World) (Q : Exit → Act → World → Prop) (X : Mx) (code : Int) (c0 : Cu) (M0 : Mem) (e1 e2 : Option Addr) (f1 f2 : Nat) (bc bm : Nat)
    (hc : A.tmps.getD 2 undef = .pointer (some ⟨bc, 0, none⟩)) (hm : A.tmps.getD 3 undef = .pointer (some ⟨bm, 0, none⟩))
    (qc : Blk w1 bc (cuA c0)) (qm : Blk w1 bm #[.slice e1 M0.rom.length f1, .slice e2 M0.ram.length f2, .int .i64 M0.page, .int .i64 M0.screen, .bool M0.locked]) (htc : ∀ W', Calls Try.prog 13 #[cuV c0] W' fun e w' => e = .returned (cuV c0) ∧ Below W'.heap.size W' w')
    (hto : ∀ W', Below w1.heap.size w1 W' → Calls Try.prog 14 #[memV (.slice e1 M0.rom.length f1) (.slice e2 M0.ram.length f2) M0.page M0.screen M0.locked] W' fun e w' => ∃ u, e = .returned u ∧ MemR w' u M0 ∧ Below W'.heap.size W' w')
    (hF : ∀ W' v, Below w1.heap.size w1 W' → MemR W' v M0 → Calls Try.prog 8 #[cuV c0, v] W' fun e w' => ∃ u cv, e = .returned (.tuple #[cpV X.c, u, cv, .int .i64 code]) ∧ Ans W' w' X u cv)
    (f : Nat → Bool) (e : Gi5E) (a : Act) (w : World) (hun : f 14 = false) (hdep : ∀ d ∈ (({ dst := some 8, op := Op.assign (Operand.tmp 35), type := 32, pos := "exact.go:2131", after := #[{ on := 8, ground := Ground.data }, { on := 13, ground := Ground.chain }, { on := 0, ground := Ground.phase }, { on := 1, ground := Ground.phase }, { on := 2, ground := Ground.phase }, { on := 3, ground := Ground.phase }, { on := 4, ground := Ground.phase }, { on := 5, ground := Ground.phase }, { on := 6, ground := Ground.phase }, { on := 7, ground := Ground.phase }, { on := 8, ground := Ground.phase }, { on := 9, ground := Ground.textOnly Departure.lateStores }, { on := 10, ground := Ground.phase }, { on := 11, ground := Ground.phase }, { on := 12, ground := Ground.phase }, { on := 13, ground := Ground.phase }], guard := none } : Oper)).after, Region.binds .any d = true → f d.on = true) (hJ : gi5_J w1 X code c0 M0 e1 e2 f1 f2 f e w) (hFr : Fr gi5_O A f (fun j => gi5_V X code c0 M0 e1 e2 f1 f2 j e) a)
    (K : Act → World → Prop) (hK : Hid (∀ v e' w', v = gi5_V X code c0 M0 e1 e2 f1 f2 14 e' → (∀ j, f j = true → gi5_V X code c0 M0 e1 e2 f1 f2 j e' = gi5_V X code c0 M0 e1 e2 f1 f2 j e) → gi5_J w1 X code c0 M0 e1 e2 f1 f2 (fun j => j == 14 || f j) e' w' → K (a.put (({ dst := some 8, op := Op.assign (Operand.tmp 35), type := 32, pos := "exact.go:2131", after := #[{ on := 8, ground := Ground.data }, { on := 13, ground := Ground.chain }, { on := 0, ground := Ground.phase }, { on := 1, ground := Ground.phase }, { on := 2, ground := Ground.phase }, { on := 3, ground := Ground.phase }, { on := 4, ground := Ground.phase }, { on := 5, ground := Ground.phase }, { on := 6, ground := Ground.phase }, { on := 7, ground := Ground.phase }, { on := 8, ground := Ground.phase }, { on := 9, ground := Ground.textOnly Departure.lateStores }, { on := 10, ground := Ground.phase }, { on := 11, ground := Ground.phase }, { on := 12, ground := Ground.phase }, { on := 13, ground := Ground.phase }], guard := none } : Oper)).dst v) w')) :
    if Region.wanted (({ dst := some 8, op := Op.assign (Operand.tmp 35), type := 32, pos := "exact.go:2131", after := #[{ on := 8, ground := Ground.data }, { on := 13, ground := Ground.chain }, { on := 0, ground := Ground.phase }, { on := 1, ground := Ground.phase }, { on := 2, ground := Ground.phase }, { on := 3, ground := Ground.phase }, { on := 4, ground := Ground.phase }, { on := 5, ground := Ground.phase }, { on := 6, ground := Ground.phase }, { on := 7, ground := Ground.phase }, { on := 8, ground := Ground.phase }, { on := 9, ground := Ground.textOnly Departure.lateStores }, { on := 10, ground := Ground.phase }, { on := 11, ground := Ground.phase }, { on := 12, ground := Ground.phase }, { on := 13, ground := Ground.phase }], guard := none } : Oper)) (yielded gi5_O a.tmps) = true then Oper.wp Try.prog (({ dst := some 8, op := Op.assign (Operand.tmp 35), type := 32, pos := "exact.go:2131", after := #[{ on := 8, ground := Ground.data }, { on := 13, ground := Ground.chain }, { on := 0, ground := Ground.phase }, { on := 1, ground := Ground.phase }, { on := 2, ground := Ground.phase }, { on := 3, ground := Ground.phase }, { on := 4, ground := Ground.phase }, { on := 5, ground := Ground.phase }, { on := 6, ground := Ground.phase }, { on := 7, ground := Ground.phase }, { on := 8, ground := Ground.phase }, { on := 9, ground := Ground.textOnly Departure.lateStores }, { on := 10, ground := Ground.phase }, { on := 11, ground := Ground.phase }, { on := 12, ground := Ground.phase }, { on := 13, ground := Ground.phase }], guard := none } : Oper)) a w K Q else K (a.put (({ dst := some 8, op := Op.assign (Operand.tmp 35), type := 32, pos := "exact.go:2131", after := #[{ on := 8, ground := Ground.data }, { on := 13, ground := Ground.chain }, { on := 0, ground := Ground.phase }, { on := 1, ground := Ground.phase }, { on := 2, ground := Ground.phase }, { on := 3, ground := Ground.phase }, { on := 4, ground := Ground.phase }, { on := 5, ground := Ground.phase }, { on := 6, ground := Ground.phase }, { on := 7, ground := Ground.phase }, { on := 8, ground := Ground.phase }, { on := 9, ground := Ground.textOnly Departure.lateStores }, { on := 10, ground := Ground.phase }, { on := 11, ground := Ground.phase }, { on := 12, ground := Ground.phase }, { on := 13, ground := Ground.phase }], guard := none } : Oper)).dst undef) w := by
  obtain ⟨hme, hla, oA, oB, hW⟩ := hJ
  have k8 : f 8 = true := hdep { on := 8, ground := .data } (by simp) rfl
  have v35 : a.tmps.getD 35 undef = e.cv := hFr.new 8 35 rfl k8
  clear hFr
  replace hla := hid hla
  replace oA := hid oA
  replace oB := hid oB
  replace hW := hid hW
  replace hme := hid hme
  have kc : f 4 = true := hla.out.2.2.2.1 k8
  clear hdep
  go_simp
  exact hK.out _ e _ rfl (fun _ _ => rfl) ⟨hme.out, ⟨hla.out.1, hla.out.2.1, hla.out.2.2.1, hla.out.2.2.2.1, hla.out.2.2.2.2.1, fun _ => kc, hla.out.2.2.2.2.2.2⟩, oA.out, oB.out, hW.out⟩
set_option maxRecDepth 100000 in
set_option maxHeartbeats 2000000 in
theorem gi5_s15 (A : Act) (w1 : World) (Q : Exit → Act → World → Prop) (X : Mx) (code : Int) (c0 : Cu) (M0 : Mem) (e1 e2 : Option Addr) (f1 f2 : Nat) (bc bm : Nat)
    (hc : A.tmps.getD 2 undef = .pointer (some ⟨bc, 0, none⟩)) (hm : A.tmps.getD 3 undef = .pointer (some ⟨bm, 0, none⟩))
    (qc : Blk w1 bc (cuA c0)) (qm : Blk w1 bm #[.slice e1 M0.rom.length f1, .slice e2 M0.ram.length f2, .int .i64 M0.page, .int .i64 M0.screen, .bool M0.locked]) (htc : ∀ W', Calls Try.prog 13 #[cuV c0] W' fun e w' => e = .returned (cuV c0) ∧ Below W'.heap.size W' w')
    (hto : ∀ W', Below w1.heap.size w1 W' → Calls Try.prog 14 #[memV (.slice e1 M0.rom.length f1) (.slice e2 M0.ram.length f2) M0.page M0.screen M0.locked] W' fun e w' => ∃ u, e = .returned u ∧ MemR w' u M0 ∧ Below W'.heap.size W' w')
    (hF : ∀ W' v, Below w1.heap.size w1 W' → MemR W' v M0 → Calls Try.prog 8 #[cuV c0, v] W' fun e w' => ∃ u cv, e = .returned (.tuple #[cpV X.c, u, cv, .int .i64 code]) ∧ Ans W' w' X u cv)
    (f : Nat → Bool) (e : Gi5E) (a : Act) (w : World) (hun : f 15 = false) (hdep : ∀ d ∈ (({ dst := some 9, op := Op.assign (Operand.tmp 36), type := 3, pos := "exact.go:2131", after := #[{ on := 9, ground := Ground.data }, { on := 14, ground := Ground.chain }, { on := 0, ground := Ground.phase }, { on := 1, ground := Ground.phase }, { on := 2, ground := Ground.phase }, { on := 3, ground := Ground.phase }, { on := 4, ground := Ground.phase }, { on := 5, ground := Ground.phase }, { on := 6, ground := Ground.phase }, { on := 7, ground := Ground.phase }, { on := 8, ground := Ground.phase }, { on := 9, ground := Ground.phase }, { on := 10, ground := Ground.phase }, { on := 11, ground := Ground.phase }, { on := 12, ground := Ground.phase }, { on := 13, ground := Ground.phase }, { on := 14, ground := Ground.phase }], guard := none } : Oper)).after, Region.binds .any d = true → f d.on = true) (hJ : gi5_J w1 X code c0 M0 e1 e2 f1 f2 f e w) (hFr : Fr gi5_O A f (fun j => gi5_V X code c0 M0 e1 e2 f1 f2 j e) a)
    (K : Act → World → Prop) (hK : Hid (∀ v e' w', v = gi5_V X code c0 M0 e1 e2 f1 f2 15 e' → (∀ j, f j = true → gi5_V X code c0 M0 e1 e2 f1 f2 j e' = gi5_V X code c0 M0 e1 e2 f1 f2 j e) → gi5_J w1 X code c0 M0 e1 e2 f1 f2 (fun j => j == 15 || f j) e' w' → K (a.put (({ dst := some 9, op := Op.assign (Operand.tmp 36), type := 3, pos := "exact.go:2131", after := #[{ on := 9, ground := Ground.data }, { on := 14, ground := Ground.chain }, { on := 0, ground := Ground.phase }, { on := 1, ground := Ground.phase }, { on := 2, ground := Ground.phase }, { on := 3, ground := Ground.phase }, { on := 4, ground := Ground.phase }, { on := 5, ground := Ground.phase }, { on := 6, ground := Ground.phase }, { on := 7, ground := Ground.phase }, { on := 8, ground := Ground.phase }, { on := 9, ground := Ground.phase }, { on := 10, ground := Ground.phase }, { on := 11, ground := Ground.phase }, { on := 12, ground := Ground.phase }, { on := 13, ground := Ground.phase }, { on := 14, ground := Ground.phase }], guard := none } : Oper)).dst v) w')) :
    if Region.wanted (({ dst := some 9, op := Op.assign (Operand.tmp 36), type := 3, pos := "exact.go:2131", after := #[{ on := 9, ground := Ground.data }, { on := 14, ground := Ground.chain }, { on := 0, ground := Ground.phase }, { on := 1, ground := Ground.phase }, { on := 2, ground := Ground.phase }, { on := 3, ground := Ground.phase }, { on := 4, ground := Ground.phase }, { on := 5, ground := Ground.phase }, { on := 6, ground := Ground.phase }, { on := 7, ground := Ground.phase }, { on := 8, ground := Ground.phase }, { on := 9, ground := Ground.phase }, { on := 10, ground := Ground.phase }, { on := 11, ground := Ground.phase }, { on := 12, ground := Ground.phase }, { on := 13, ground := Ground.phase }, { on := 14, ground := Ground.phase }], guard := none } : Oper)) (yielded gi5_O a.tmps) = true then Oper.wp Try.prog (({ dst := some 9, op := Op.assign (Operand.tmp 36), type := 3, pos := "exact.go:2131", after := #[{ on := 9, ground := Ground.data }, { on := 14, ground := Ground.chain }, { on := 0, ground := Ground.phase }, { on := 1, ground := Ground.phase }, { on := 2, ground := Ground.phase }, { on := 3, ground := Ground.phase }, { on := 4, ground := Ground.phase }, { on := 5, ground := Ground.phase }, { on := 6, ground := Ground.phase }, { on := 7, ground := Ground.phase }, { on := 8, ground := Ground.phase }, { on := 9, ground := Ground.phase }, { on := 10, ground := Ground.phase }, { on := 11, ground := Ground.phase }, { on := 12, ground := Ground.phase }, { on := 13, ground := Ground.phase }, { on := 14, ground := Ground.phase }], guard := none } : Oper)) a w K Q else K (a.put (({ dst := some 9, op := Op.assign (Operand.tmp 36), type := 3, pos := "exact.go:2131", after := #[{ on := 9, ground := Ground.data }, { on := 14, ground := Ground.chain }, { on := 0, ground := Ground.phase }, { on := 1, ground := Ground.phase }, { on := 2, ground := Ground.phase }, { on := 3, ground := Ground.phase }, { on := 4, ground := Ground.phase }, { on := 5, ground := Ground.phase }, { on := 6, ground := Ground.phase }, { on := 7, ground := Ground.phase }, { on := 8, ground := Ground.phase }, { on := 9, ground := Ground.phase }, { on := 10, ground := Ground.phase }, { on := 11, ground := Ground.phase }, { on := 12, ground := Ground.phase }, { on := 13, ground := Ground.phase }, { on := 14, ground := Ground.phase }], guard := none } : Oper)).dst undef) w := by
  obtain ⟨hme, hla, oA, oB, hW⟩ := hJ
  have k9 : f 9 = true := hdep { on := 9, ground := .data } (by simp) rfl
  have v36 : a.tmps.getD 36 undef = .int .i64 code := hFr.new 9 36 rfl k9
  clear hFr
  replace hla := hid hla
  replace oA := hid oA
  replace oB := hid oB
  replace hW := hid hW
  replace hme := hid hme
  have kc : f 4 = true := hla.out.2.2.2.2.1 k9
  clear hdep
  go_simp
  exact hK.out _ e _ rfl (fun _ _ => rfl) ⟨hme.out, ⟨hla.out.1, hla.out.2.1, hla.out.2.2.1, hla.out.2.2.2.1, hla.out.2.2.2.2.1, hla.out.2.2.2.2.2.1, fun _ => kc⟩, oA.out, oB.out, hW.out⟩
set_option maxRecDepth 100000 in
set_option maxHeartbeats 4000000 in
theorem gi5_reg (A : Act) (w1 : World) (Q : Exit → Act → World → Prop) (X : Mx) (code : Int) (c0 : Cu) (M0 : Mem) (e1 e2 : Option Addr) (f1 f2 : Nat) (bc bm : Nat)
    (hc : A.tmps.getD 2 undef = .pointer (some ⟨bc, 0, none⟩)) (hm : A.tmps.getD 3 undef = .pointer (some ⟨bm, 0, none⟩))
    (qc : Blk w1 bc (cuA c0)) (qm : Blk w1 bm #[.slice e1 M0.rom.length f1, .slice e2 M0.ram.length f2, .int .i64 M0.page, .int .i64 M0.screen, .bool M0.locked]) (htc : ∀ W', Calls Try.prog 13 #[cuV c0] W' fun e w' => e = .returned (cuV c0) ∧ Below W'.heap.size W' w')
    (hto : ∀ W', Below w1.heap.size w1 W' → Calls Try.prog 14 #[memV (.slice e1 M0.rom.length f1) (.slice e2 M0.ram.length f2) M0.page M0.screen M0.locked] W' fun e w' => ∃ u, e = .returned u ∧ MemR w' u M0 ∧ Below W'.heap.size W' w')
    (hF : ∀ W' v, Below w1.heap.size w1 W' → MemR W' v M0 → Calls Try.prog 8 #[cuV c0, v] W' fun e w' => ∃ u cv, e = .returned (.tuple #[cpV X.c, u, cv, .int .i64 code]) ∧ Ans W' w' X u cv) (hN : 37 ≤ A.tmps.size)
    (h : ∀ (w : World) (u2 cv : Value) (g1 g2 : Option Addr) (j1 j2 lo hi b6 b7 : Nat), WI w1 w true true true true true X (memV (.slice g1 X.m.rom.length j1) (.slice g2 X.m.ram.length j2) X.m.page X.m.screen X.m.locked) cv lo hi b6 b7 #[.slice g1 X.m.rom.length j1, .slice g2 X.m.ram.length j2, .int .i64 X.m.page, .int .i64 X.m.screen, .bool X.m.locked] → Q .normal (putsA A [(28, cuV c0), (29, cuV c0), (30, memV (.slice e1 M0.rom.length f1) (.slice e2 M0.ram.length f2) M0.page M0.screen M0.locked), (31, u2), (32, .tuple #[cpV X.c, memV (.slice g1 X.m.rom.length j1) (.slice g2 X.m.ram.length j2) X.m.page X.m.screen X.m.locked, cv, .int .i64 code]), (27, .tuple #[cpV X.c, memV (.slice g1 X.m.rom.length j1) (.slice g2 X.m.ram.length j2) X.m.page X.m.screen X.m.locked, cv, .int .i64 code]), (33, cpV X.c), (34, memV (.slice g1 X.m.rom.length j1) (.slice g2 X.m.ram.length j2) X.m.page X.m.screen X.m.locked), (35, cv), (36, .int .i64 code), (6, .pointer (some ⟨b6, 0, none⟩)), (7, .pointer (some ⟨b7, 0, none⟩)), (8, cv), (9, .int .i64 code)]) w) :
    (Code.region 5 #[({ dst := some 28, op := Op.load 40 (Operand.tmp 2), type := 40, pos := "exact.go:2131", after := #[], guard := none } : Oper), ({ dst := some 29, op := Op.call { callee := Callee.value (Operand.func 13), args := #[Operand.tmp 28], argTypes := #[40] }, type := 25, pos := "exact.go:2131", after := #[{ on := 0, ground := Ground.data }], guard := none } : Oper), ({ dst := some 30, op := Op.load 41 (Operand.tmp 3), type := 41, pos := "exact.go:2131", after := #[], guard := none } : Oper), ({ dst := some 31, op := Op.call { callee := Callee.value (Operand.func 14), args := #[Operand.tmp 30], argTypes := #[41] }, type := 30, pos := "exact.go:2131", after := #[{ on := 2, ground := Ground.data }, { on := 1, ground := Ground.chain }], guard := none } : Oper), ({ dst := some 32, op := Op.call { callee := Callee.value (Operand.func 8), args := #[Operand.tmp 29, Operand.tmp 31], argTypes := #[25, 30] }, type := 33, pos := "exact.go:2131", after := #[{ on := 1, ground := Ground.data }, { on := 3, ground := Ground.data }, { on := 3, ground := Ground.chain }], guard := none } : Oper), ({ dst := some 27, op := Op.move (Operand.tmp 32), type := 33, pos := "exact.go:2131", after := #[{ on := 4, ground := Ground.data }], guard := none } : Oper), ({ dst := some 33, op := Op.extract (Operand.tmp 27) 0, type := 25, pos := "exact.go:2131", after := #[{ on := 5, ground := Ground.data }], guard := none } : Oper), ({ dst := some 34, op := Op.extract (Operand.tmp 27) 1, type := 30, pos := "exact.go:2131", after := #[{ on := 5, ground := Ground.data }, { on := 12, ground := Ground.gcOnly Departure.lateStores }], guard := none } : Oper), ({ dst := some 35, op := Op.extract (Operand.tmp 27) 2, type := 32, pos := "exact.go:2131", after := #[{ on := 5, ground := Ground.data }, { on := 13, ground := Ground.gcOnly Departure.lateStores }], guard := none } : Oper), ({ dst := some 36, op := Op.extract (Operand.tmp 27) 3, type := 3, pos := "exact.go:2131", after := #[{ on := 5, ground := Ground.data }, { on := 14, ground := Ground.gcOnly Departure.lateStores }], guard := none } : Oper), ({ dst := some 6, op := Op.alloc 25, type := 0, pos := "exact.go:2131", after := #[], guard := none } : Oper), ({ dst := some 7, op := Op.alloc 30, type := 0, pos := "exact.go:2131", after := #[], guard := none } : Oper), ({ dst := none, op := Op.store 25 (Operand.tmp 6) (Operand.tmp 33), type := 0, pos := "exact.go:2131", after := #[{ on := 10, ground := Ground.data }, { on := 6, ground := Ground.data }, { on := 4, ground := Ground.chain }, { on := 0, ground := Ground.phase }, { on := 1, ground := Ground.phase }, { on := 2, ground := Ground.phase }, { on := 3, ground := Ground.phase }, { on := 4, ground := Ground.phase }, { on := 5, ground := Ground.phase }, { on := 6, ground := Ground.phase }, { on := 7, ground := Ground.textOnly Departure.lateStores }, { on := 8, ground := Ground.textOnly Departure.lateStores }, { on := 9, ground := Ground.textOnly Departure.lateStores }, { on := 10, ground := Ground.phase }, { on := 11, ground := Ground.phase }], guard := none } : Oper), ({ dst := none, op := Op.store 30 (Operand.tmp 7) (Operand.tmp 34), type := 0, pos := "exact.go:2131", after := #[{ on := 11, ground := Ground.data }, { on := 7, ground := Ground.data }, { on := 12, ground := Ground.chain }, { on := 0, ground := Ground.phase }, { on := 1, ground := Ground.phase }, { on := 2, ground := Ground.phase }, { on := 3, ground := Ground.phase }, { on := 4, ground := Ground.phase }, { on := 5, ground := Ground.phase }, { on := 6, ground := Ground.phase }, { on := 7, ground := Ground.phase }, { on := 8, ground := Ground.textOnly Departure.lateStores }, { on := 9, ground := Ground.textOnly Departure.lateStores }, { on := 10, ground := Ground.phase }, { on := 11, ground := Ground.phase }, { on := 12, ground := Ground.phase }], guard := none } : Oper), ({ dst := some 8, op := Op.assign (Operand.tmp 35), type := 32, pos := "exact.go:2131", after := #[{ on := 8, ground := Ground.data }, { on := 13, ground := Ground.chain }, { on := 0, ground := Ground.phase }, { on := 1, ground := Ground.phase }, { on := 2, ground := Ground.phase }, { on := 3, ground := Ground.phase }, { on := 4, ground := Ground.phase }, { on := 5, ground := Ground.phase }, { on := 6, ground := Ground.phase }, { on := 7, ground := Ground.phase }, { on := 8, ground := Ground.phase }, { on := 9, ground := Ground.textOnly Departure.lateStores }, { on := 10, ground := Ground.phase }, { on := 11, ground := Ground.phase }, { on := 12, ground := Ground.phase }, { on := 13, ground := Ground.phase }], guard := none } : Oper), ({ dst := some 9, op := Op.assign (Operand.tmp 36), type := 3, pos := "exact.go:2131", after := #[{ on := 9, ground := Ground.data }, { on := 14, ground := Ground.chain }, { on := 0, ground := Ground.phase }, { on := 1, ground := Ground.phase }, { on := 2, ground := Ground.phase }, { on := 3, ground := Ground.phase }, { on := 4, ground := Ground.phase }, { on := 5, ground := Ground.phase }, { on := 6, ground := Ground.phase }, { on := 7, ground := Ground.phase }, { on := 8, ground := Ground.phase }, { on := 9, ground := Ground.phase }, { on := 10, ground := Ground.phase }, { on := 11, ground := Ground.phase }, { on := 12, ground := Ground.phase }, { on := 13, ground := Ground.phase }, { on := 14, ground := Ground.phase }], guard := none } : Oper)] true).wp Try.prog Q A w1 := by
  show (Code.region 5 gi5_O true).wp Try.prog Q A w1
  refine wp_region_slots (E := Gi5E) (gi5_V X code c0 M0 e1 e2 f1 f2) (gi5_J w1 X code c0 M0 e1 e2 f1 f2) (by kernel_rfl) (by kernel_rfl) (by kernel_rfl) (fun i s hi => ?_) ?_ ⟨undef, undef, none, none, 0, 0, 0, 0, 0, 0⟩ ⟨fun h => (by cases h), ⟨fun h => (by cases h), fun h => (by cases h), fun h => (by cases h), fun h => (by cases h), fun h => (by cases h), fun h => (by cases h), fun h => (by cases h)⟩, fun h => (by cases h), fun h => (by cases h), WI.start ((Below.refl _ _).drew)⟩ ?_
  · cases hc : ([28, 29, 30, 31, 32, 27, 33, 34, 35, 36, 6, 7, 8, 9] : List Nat).contains s
    · exact absurd hi (gi5_no hc i)
    · have : s ∈ ([28, 29, 30, 31, 32, 27, 33, 34, 35, 36, 6, 7, 8, 9] : List Nat) := by simpa using hc
      simp only [List.mem_cons, List.not_mem_nil, or_false] at this
      omega
  · intro f e a w i o hi ho hun hdep hJ hFr K hK
    have hi8 : i < 16 := hi
    rcases (by omega : i = 0 ∨ i = 1 ∨ i = 2 ∨ i = 3 ∨ i = 4 ∨ i = 5 ∨ i = 6 ∨ i = 7 ∨ i = 8 ∨ i = 9 ∨ i = 10 ∨ i = 11 ∨ i = 12 ∨ i = 13 ∨ i = 14 ∨ i = 15) with rfl | rfl | rfl | rfl | rfl | rfl | rfl | rfl | rfl | rfl | rfl | rfl | rfl | rfl | rfl | rfl
    · obtain rfl := Option.some.inj ho
      exact gi5_s0 A w1 Q X code c0 M0 e1 e2 f1 f2 bc bm hc hm qc qm htc hto hF f e a w hun hdep hJ hFr K hK
    · obtain rfl := Option.some.inj ho
      exact gi5_s1 A w1 Q X code c0 M0 e1 e2 f1 f2 bc bm hc hm qc qm htc hto hF f e a w hun hdep hJ hFr K hK
    · obtain rfl := Option.some.inj ho
      exact gi5_s2 A w1 Q X code c0 M0 e1 e2 f1 f2 bc bm hc hm qc qm htc hto hF f e a w hun hdep hJ hFr K hK
    · obtain rfl := Option.some.inj ho
      exact gi5_s3 A w1 Q X code c0 M0 e1 e2 f1 f2 bc bm hc hm qc qm htc hto hF f e a w hun hdep hJ hFr K hK
    · obtain rfl := Option.some.inj ho
      exact gi5_s4 A w1 Q X code c0 M0 e1 e2 f1 f2 bc bm hc hm qc qm htc hto hF f e a w hun hdep hJ hFr K hK
    · obtain rfl := Option.some.inj ho
      exact gi5_s5 A w1 Q X code c0 M0 e1 e2 f1 f2 bc bm hc hm qc qm htc hto hF f e a w hun hdep hJ hFr K hK
    · obtain rfl := Option.some.inj ho
      exact gi5_s6 A w1 Q X code c0 M0 e1 e2 f1 f2 bc bm hc hm qc qm htc hto hF f e a w hun hdep hJ hFr K hK
    · obtain rfl := Option.some.inj ho
      exact gi5_s7 A w1 Q X code c0 M0 e1 e2 f1 f2 bc bm hc hm qc qm htc hto hF f e a w hun hdep hJ hFr K hK
    · obtain rfl := Option.some.inj ho
      exact gi5_s8 A w1 Q X code c0 M0 e1 e2 f1 f2 bc bm hc hm qc qm htc hto hF f e a w hun hdep hJ hFr K hK
    · obtain rfl := Option.some.inj ho
      exact gi5_s9 A w1 Q X code c0 M0 e1 e2 f1 f2 bc bm hc hm qc qm htc hto hF f e a w hun hdep hJ hFr K hK
    · obtain rfl := Option.some.inj ho
      exact gi5_s10 A w1 Q X code c0 M0 e1 e2 f1 f2 bc bm hc hm qc qm htc hto hF f e a w hun hdep hJ hFr K hK
    · obtain rfl := Option.some.inj ho
      exact gi5_s11 A w1 Q X code c0 M0 e1 e2 f1 f2 bc bm hc hm qc qm htc hto hF f e a w hun hdep hJ hFr K hK
    · obtain rfl := Option.some.inj ho
      exact gi5_s12 A w1 Q X code c0 M0 e1 e2 f1 f2 bc bm hc hm qc qm htc hto hF f e a w hun hdep hJ hFr K hK
    · obtain rfl := Option.some.inj ho
      exact gi5_s13 A w1 Q X code c0 M0 e1 e2 f1 f2 bc bm hc hm qc qm htc hto hF f e a w hun hdep hJ hFr K hK
    · obtain rfl := Option.some.inj ho
      exact gi5_s14 A w1 Q X code c0 M0 e1 e2 f1 f2 bc bm hc hm qc qm htc hto hF f e a w hun hdep hJ hFr K hK
    · obtain rfl := Option.some.inj ho
      exact gi5_s15 A w1 Q X code c0 M0 e1 e2 f1 f2 bc bm hc hm qc qm htc hto hF f e a w hun hdep hJ hFr K hK
  · intro f e a w hall hJ hFr
    obtain ⟨_, _, _, _, hW⟩ := hJ
    rw [hall 4 (by decide), hall 10 (by decide), hall 11 (by decide), hall 12 (by decide), hall 13 (by decide)] at hW
    have := h w e.u2 e.cv e.g1 e.g2 e.j1 e.j2 e.lo e.hi e.b6 e.b7 hW
    rw [hFr.eq [(28, cuV c0), (29, cuV c0), (30, memV (.slice e1 M0.rom.length f1) (.slice e2 M0.ram.length f2) M0.page M0.screen M0.locked), (31, e.u2), (32, .tuple #[cpV X.c, memV (.slice e.g1 X.m.rom.length e.j1) (.slice e.g2 X.m.ram.length e.j2) X.m.page X.m.screen X.m.locked, e.cv, .int .i64 code]), (27, .tuple #[cpV X.c, memV (.slice e.g1 X.m.rom.length e.j1) (.slice e.g2 X.m.ram.length e.j2) X.m.page X.m.screen X.m.locked, e.cv, .int .i64 code]), (33, cpV X.c), (34, memV (.slice e.g1 X.m.rom.length e.j1) (.slice e.g2 X.m.ram.length e.j2) X.m.page X.m.screen X.m.locked), (35, e.cv), (36, .int .i64 code), (6, .pointer (some ⟨e.b6, 0, none⟩)), (7, .pointer (some ⟨e.b7, 0, none⟩)), (8, e.cv), (9, .int .i64 code)] (fun s hs => ?_) (fun i s hi => ?_)]
    · exact this
    · have hne : ∀ k ∈ ([28, 29, 30, 31, 32, 27, 33, 34, 35, 36, 6, 7, 8, 9] : List Nat), k ≠ s := by
        intro k hk e2
        subst e2
        simp only [List.mem_cons, List.not_mem_nil, or_false] at hk
        rcases hk with rfl | rfl | rfl | rfl | rfl | rfl | rfl | rfl | rfl | rfl | rfl | rfl | rfl | rfl
        · exact hs 0 rfl
        · exact hs 1 rfl
        · exact hs 2 rfl
        · exact hs 3 rfl
        · exact hs 4 rfl
        · exact hs 5 rfl
        · exact hs 6 rfl
        · exact hs 7 rfl
        · exact hs 8 rfl
        · exact hs 9 rfl
        · exact hs 10 rfl
        · exact hs 11 rfl
        · exact hs 14 rfl
        · exact hs 15 rfl
      simp only [lookA]
      simp [hne]
    · have hl : i < 16 := by
        rcases Nat.lt_or_ge i 16 with h1 | h1
        · exact h1
        · unfold dstAt at hi
          rw [Array.getElem?_eq_none (by exact h1)] at hi
          cases hi
      refine ⟨hall i hl, ?_⟩
      rcases (by omega : i = 0 ∨ i = 1 ∨ i = 2 ∨ i = 3 ∨ i = 4 ∨ i = 5 ∨ i = 6 ∨ i = 7 ∨ i = 8 ∨ i = 9 ∨ i = 10 ∨ i = 11 ∨ i = 12 ∨ i = 13 ∨ i = 14 ∨ i = 15) with rfl | rfl | rfl | rfl | rfl | rfl | rfl | rfl | rfl | rfl | rfl | rfl | rfl | rfl | rfl | rfl
      all_goals first
        | (cases hi; rfl)
        | cases hi
end Go.Proofs.Ytiidkhfigifmjaa
