/- A drawn region of the law laws.FnExactStepCpu: whatever the order, the answer lies in variables of its own. -/
import Derived.Test.YtiidkhfigifmjaaGreatDoorU42
import Derived.Test.YtiidkhfigifmjaaGreatDoorU45
import Derived.Test.YtiidkhfigifmjaaGreatDoorMeu
namespace Go.Proofs.YtiidkhfigifmjaaGreatDoor
open Go.ChangeShapes Go.WideShapes Go.ChangeAt Go.RowKit
set_option linter.unusedVariables false
set_option linter.unusedSimpArgs false

structure Gs5E where
  u2 : Value
  cv : Value
  g1 : Option Addr
  g2 : Option Addr
  j1 : Nat
  j2 : Nat
  lo : Nat
  hi : Nat
  b6 : Nat
  b7 : Nat
def gs5_V (X : Mx) (code : Int) (c0 : Cu) (M0 : Mem) (e1 e2 : Option Addr) (f1 f2 : Nat) (n : Int) : Nat → Gs5E → Value := fun i e => match i with
  | 0 => cuV c0
  | 1 => cuV c0
  | 2 => memV (.slice e1 M0.rom.length f1) (.slice e2 M0.ram.length f2) M0.page M0.screen M0.locked
  | 3 => e.u2
  | 4 => .int .i64 n
  | 5 => .tuple #[cpV X.c, memV (.slice e.g1 X.m.rom.length e.j1) (.slice e.g2 X.m.ram.length e.j2) X.m.page X.m.screen X.m.locked, e.cv, .int .i64 code]
  | 6 => .tuple #[cpV X.c, memV (.slice e.g1 X.m.rom.length e.j1) (.slice e.g2 X.m.ram.length e.j2) X.m.page X.m.screen X.m.locked, e.cv, .int .i64 code]
  | 7 => cpV X.c
  | 8 => memV (.slice e.g1 X.m.rom.length e.j1) (.slice e.g2 X.m.ram.length e.j2) X.m.page X.m.screen X.m.locked
  | 9 => e.cv
  | 10 => .int .i64 code
  | 11 => .pointer (some ⟨e.b6, 0, none⟩)
  | 12 => .pointer (some ⟨e.b7, 0, none⟩)
  | 15 => e.cv
  | 16 => .int .i64 code
  | _ => undef
def gs5_J (w1 : World) (X : Mx) (code : Int) (c0 : Cu) (M0 : Mem) (e1 e2 : Option Addr) (f1 f2 : Nat) (n : Int) (f : Nat → Bool) (e : Gs5E) (w : World) : Prop :=
  (f 3 = true → f 5 = false → MemR w e.u2 M0) ∧ ((f 6 = true → f 5 = true) ∧ (f 7 = true → f 5 = true) ∧ (f 8 = true → f 5 = true) ∧ (f 9 = true → f 5 = true) ∧ (f 10 = true → f 5 = true) ∧ (f 15 = true → f 5 = true) ∧ (f 16 = true → f 5 = true)) ∧ (f 13 = true → f 5 = true ∧ f 11 = true) ∧ (f 14 = true → f 5 = true ∧ f 12 = true) ∧ WI w1 w (f 5) (f 11) (f 12) (f 13) (f 14) X (memV (.slice e.g1 X.m.rom.length e.j1) (.slice e.g2 X.m.ram.length e.j2) X.m.page X.m.screen X.m.locked) e.cv e.lo e.hi e.b6 e.b7 #[.slice e.g1 X.m.rom.length e.j1, .slice e.g2 X.m.ram.length e.j2, .int .i64 X.m.page, .int .i64 X.m.screen, .bool X.m.locked]
def gs5_o0 : Oper := ({ dst := some 30, op := Op.load 53 (Operand.tmp 3), type := 53, pos := "exact.go:2057", after := #[], guard := none } : Oper)
def gs5_o1 : Oper := ({ dst := some 31, op := Op.call { callee := Callee.value (Operand.func 20), args := #[Operand.tmp 30], argTypes := #[53] }, type := 25, pos := "exact.go:2057", after := #[{ on := 0, ground := Ground.data }], guard := none } : Oper)
def gs5_o2 : Oper := ({ dst := some 32, op := Op.load 54 (Operand.tmp 4), type := 54, pos := "exact.go:2057", after := #[], guard := none } : Oper)
def gs5_o3 : Oper := ({ dst := some 33, op := Op.call { callee := Callee.value (Operand.func 21), args := #[Operand.tmp 32], argTypes := #[54] }, type := 30, pos := "exact.go:2057", after := #[{ on := 2, ground := Ground.data }, { on := 1, ground := Ground.chain }], guard := none } : Oper)
def gs5_o4 : Oper := ({ dst := some 34, op := Op.move (Operand.tmp 2), type := 3, pos := "exact.go:2057", after := #[], guard := none } : Oper)
def gs5_o5 : Oper := ({ dst := some 35, op := Op.call { callee := Callee.value (Operand.func 10), args := #[Operand.tmp 31, Operand.tmp 33, Operand.tmp 34], argTypes := #[25, 30, 3] }, type := 34, pos := "exact.go:2057", after := #[{ on := 1, ground := Ground.data }, { on := 3, ground := Ground.data }, { on := 4, ground := Ground.data }, { on := 3, ground := Ground.chain }], guard := none } : Oper)
def gs5_o6 : Oper := ({ dst := some 29, op := Op.move (Operand.tmp 35), type := 34, pos := "exact.go:2057", after := #[{ on := 5, ground := Ground.data }], guard := none } : Oper)
def gs5_o7 : Oper := ({ dst := some 36, op := Op.extract (Operand.tmp 29) 0, type := 25, pos := "exact.go:2057", after := #[{ on := 6, ground := Ground.data }], guard := none } : Oper)
def gs5_o8 : Oper := ({ dst := some 37, op := Op.extract (Operand.tmp 29) 1, type := 30, pos := "exact.go:2057", after := #[{ on := 6, ground := Ground.data }, { on := 13, ground := Ground.gcOnly Departure.lateStores }], guard := none } : Oper)
def gs5_o9 : Oper := ({ dst := some 38, op := Op.extract (Operand.tmp 29) 2, type := 33, pos := "exact.go:2057", after := #[{ on := 6, ground := Ground.data }, { on := 14, ground := Ground.gcOnly Departure.lateStores }], guard := none } : Oper)
def gs5_o10 : Oper := ({ dst := some 39, op := Op.extract (Operand.tmp 29) 3, type := 3, pos := "exact.go:2057", after := #[{ on := 6, ground := Ground.data }, { on := 15, ground := Ground.gcOnly Departure.lateStores }], guard := none } : Oper)
def gs5_o11 : Oper := ({ dst := some 8, op := Op.alloc 25, type := 0, pos := "exact.go:2057", after := #[], guard := none } : Oper)
def gs5_o12 : Oper := ({ dst := some 9, op := Op.alloc 30, type := 0, pos := "exact.go:2057", after := #[], guard := none } : Oper)
def gs5_o13 : Oper := ({ dst := none, op := Op.store 25 (Operand.tmp 8) (Operand.tmp 36), type := 0, pos := "exact.go:2057", after := #[{ on := 11, ground := Ground.data }, { on := 7, ground := Ground.data }, { on := 5, ground := Ground.chain }, { on := 0, ground := Ground.phase }, { on := 1, ground := Ground.phase }, { on := 2, ground := Ground.phase }, { on := 3, ground := Ground.phase }, { on := 4, ground := Ground.phase }, { on := 5, ground := Ground.phase }, { on := 6, ground := Ground.phase }, { on := 7, ground := Ground.phase }, { on := 8, ground := Ground.textOnly Departure.lateStores }, { on := 9, ground := Ground.textOnly Departure.lateStores }, { on := 10, ground := Ground.textOnly Departure.lateStores }, { on := 11, ground := Ground.phase }, { on := 12, ground := Ground.phase }], guard := none } : Oper)
def gs5_o14 : Oper := ({ dst := none, op := Op.store 30 (Operand.tmp 9) (Operand.tmp 37), type := 0, pos := "exact.go:2057", after := #[{ on := 12, ground := Ground.data }, { on := 8, ground := Ground.data }, { on := 13, ground := Ground.chain }, { on := 0, ground := Ground.phase }, { on := 1, ground := Ground.phase }, { on := 2, ground := Ground.phase }, { on := 3, ground := Ground.phase }, { on := 4, ground := Ground.phase }, { on := 5, ground := Ground.phase }, { on := 6, ground := Ground.phase }, { on := 7, ground := Ground.phase }, { on := 8, ground := Ground.phase }, { on := 9, ground := Ground.textOnly Departure.lateStores }, { on := 10, ground := Ground.textOnly Departure.lateStores }, { on := 11, ground := Ground.phase }, { on := 12, ground := Ground.phase }, { on := 13, ground := Ground.phase }], guard := none } : Oper)
def gs5_o15 : Oper := ({ dst := some 10, op := Op.assign (Operand.tmp 38), type := 33, pos := "exact.go:2057", after := #[{ on := 9, ground := Ground.data }, { on := 14, ground := Ground.chain }, { on := 0, ground := Ground.phase }, { on := 1, ground := Ground.phase }, { on := 2, ground := Ground.phase }, { on := 3, ground := Ground.phase }, { on := 4, ground := Ground.phase }, { on := 5, ground := Ground.phase }, { on := 6, ground := Ground.phase }, { on := 7, ground := Ground.phase }, { on := 8, ground := Ground.phase }, { on := 9, ground := Ground.phase }, { on := 10, ground := Ground.textOnly Departure.lateStores }, { on := 11, ground := Ground.phase }, { on := 12, ground := Ground.phase }, { on := 13, ground := Ground.phase }, { on := 14, ground := Ground.phase }], guard := none } : Oper)
def gs5_o16 : Oper := ({ dst := some 11, op := Op.assign (Operand.tmp 39), type := 3, pos := "exact.go:2057", after := #[{ on := 10, ground := Ground.data }, { on := 15, ground := Ground.chain }, { on := 0, ground := Ground.phase }, { on := 1, ground := Ground.phase }, { on := 2, ground := Ground.phase }, { on := 3, ground := Ground.phase }, { on := 4, ground := Ground.phase }, { on := 5, ground := Ground.phase }, { on := 6, ground := Ground.phase }, { on := 7, ground := Ground.phase }, { on := 8, ground := Ground.phase }, { on := 9, ground := Ground.phase }, { on := 10, ground := Ground.phase }, { on := 11, ground := Ground.phase }, { on := 12, ground := Ground.phase }, { on := 13, ground := Ground.phase }, { on := 14, ground := Ground.phase }, { on := 15, ground := Ground.phase }], guard := none } : Oper)
def gs5_O : Array Oper := #[gs5_o0, gs5_o1, gs5_o2, gs5_o3, gs5_o4, gs5_o5, gs5_o6, gs5_o7, gs5_o8, gs5_o9, gs5_o10, gs5_o11, gs5_o12, gs5_o13, gs5_o14, gs5_o15, gs5_o16]
theorem gs5_no {s : Nat} (h : ([30, 31, 32, 33, 34, 35, 29, 36, 37, 38, 39, 8, 9, 10, 11] : List Nat).contains s = false) : ∀ i, dstAt gs5_O i ≠ some s := by
  intro i hi
  have hl : i < 17 := by
    rcases Nat.lt_or_ge i 17 with h1 | h1
    · exact h1
    · unfold dstAt at hi
      rw [Array.getElem?_eq_none (by exact h1)] at hi
      cases hi
  rcases (by omega : i = 0 ∨ i = 1 ∨ i = 2 ∨ i = 3 ∨ i = 4 ∨ i = 5 ∨ i = 6 ∨ i = 7 ∨ i = 8 ∨ i = 9 ∨ i = 10 ∨ i = 11 ∨ i = 12 ∨ i = 13 ∨ i = 14 ∨ i = 15 ∨ i = 16) with rfl | rfl | rfl | rfl | rfl | rfl | rfl | rfl | rfl | rfl | rfl | rfl | rfl | rfl | rfl | rfl | rfl
  all_goals first
    | (cases hi; simp at h)
    | cases hi
theorem gs5_vk (X : Mx) (code : Int) (c0 : Cu) (M0 : Mem) (e1 e2 : Option Addr) (f1 f2 : Nat) (n : Int) {f : Nat → Bool} (e e' : Gs5E) (q_cv : e'.cv = e.cv) (q_g1 : e'.g1 = e.g1) (q_g2 : e'.g2 = e.g2) (q_j1 : e'.j1 = e.j1) (q_j2 : e'.j2 = e.j2) (q_b6 : e'.b6 = e.b6) (q_b7 : e'.b7 = e.b7) (hn : f 3 = false) : ∀ j, f j = true → gs5_V X code c0 M0 e1 e2 f1 f2 n j e' = gs5_V X code c0 M0 e1 e2 f1 f2 n j e := by
  intro j hj
  unfold gs5_V
  split
  · rfl
  · rfl
  · rfl
  · rw [hn] at hj; cases hj
  · rfl
  · rw [q_cv, q_g1, q_g2, q_j1, q_j2]
  · rw [q_cv, q_g1, q_g2, q_j1, q_j2]
  · rfl
  · rw [q_g1, q_g2, q_j1, q_j2]
  · rw [q_cv]
  · rfl
  · rw [q_b6]
  · rw [q_b7]
  · rw [q_cv]
  · rfl
  · rfl
theorem gs5_va (X : Mx) (code : Int) (c0 : Cu) (M0 : Mem) (e1 e2 : Option Addr) (f1 f2 : Nat) (n : Int) {f : Nat → Bool} (e e' : Gs5E) (q_u2 : e'.u2 = e.u2) (q_cv : e'.cv = e.cv) (q_g1 : e'.g1 = e.g1) (q_g2 : e'.g2 = e.g2) (q_j1 : e'.j1 = e.j1) (q_j2 : e'.j2 = e.j2) (q_b7 : e'.b7 = e.b7) (hn : f 11 = false) : ∀ j, f j = true → gs5_V X code c0 M0 e1 e2 f1 f2 n j e' = gs5_V X code c0 M0 e1 e2 f1 f2 n j e := by
  intro j hj
  unfold gs5_V
  split
  · rfl
  · rfl
  · rfl
  · rw [q_u2]
  · rfl
  · rw [q_cv, q_g1, q_g2, q_j1, q_j2]
  · rw [q_cv, q_g1, q_g2, q_j1, q_j2]
  · rfl
  · rw [q_g1, q_g2, q_j1, q_j2]
  · rw [q_cv]
  · rfl
  · rw [hn] at hj; cases hj
  · rw [q_b7]
  · rw [q_cv]
  · rfl
  · rfl
theorem gs5_vb (X : Mx) (code : Int) (c0 : Cu) (M0 : Mem) (e1 e2 : Option Addr) (f1 f2 : Nat) (n : Int) {f : Nat → Bool} (e e' : Gs5E) (q_u2 : e'.u2 = e.u2) (q_cv : e'.cv = e.cv) (q_g1 : e'.g1 = e.g1) (q_g2 : e'.g2 = e.g2) (q_j1 : e'.j1 = e.j1) (q_j2 : e'.j2 = e.j2) (q_b6 : e'.b6 = e.b6) (hn : f 12 = false) : ∀ j, f j = true → gs5_V X code c0 M0 e1 e2 f1 f2 n j e' = gs5_V X code c0 M0 e1 e2 f1 f2 n j e := by
  intro j hj
  unfold gs5_V
  split
  · rfl
  · rfl
  · rfl
  · rw [q_u2]
  · rfl
  · rw [q_cv, q_g1, q_g2, q_j1, q_j2]
  · rw [q_cv, q_g1, q_g2, q_j1, q_j2]
  · rfl
  · rw [q_g1, q_g2, q_j1, q_j2]
  · rw [q_cv]
  · rfl
  · rw [q_b6]
  · rw [hn] at hj; cases hj
  · rw [q_cv]
  · rfl
  · rfl
theorem gs5_vc (X : Mx) (code : Int) (c0 : Cu) (M0 : Mem) (e1 e2 : Option Addr) (f1 f2 : Nat) (n : Int) {f : Nat → Bool} (e e' : Gs5E) (q_u2 : e'.u2 = e.u2) (q_b6 : e'.b6 = e.b6) (q_b7 : e'.b7 = e.b7) (hn : f 5 = false) (hla : (f 6 = true → f 5 = true) ∧ (f 7 = true → f 5 = true) ∧ (f 8 = true → f 5 = true) ∧ (f 9 = true → f 5 = true) ∧ (f 10 = true → f 5 = true) ∧ (f 15 = true → f 5 = true) ∧ (f 16 = true → f 5 = true)) : ∀ j, f j = true → gs5_V X code c0 M0 e1 e2 f1 f2 n j e' = gs5_V X code c0 M0 e1 e2 f1 f2 n j e := by
  intro j hj
  unfold gs5_V
  split
  · rfl
  · rfl
  · rfl
  · rw [q_u2]
  · rfl
  · rw [hn] at hj; cases hj
  · have h9 := hla.1 hj; rw [hn] at h9; cases h9
  · rfl
  · have h9 := hla.2.2.1 hj; rw [hn] at h9; cases h9
  · have h9 := hla.2.2.2.1 hj; rw [hn] at h9; cases h9
  · rfl
  · rw [q_b6]
  · rw [q_b7]
  · have h9 := hla.2.2.2.2.2.1 hj; rw [hn] at h9; cases h9
  · rfl
  · rfl
set_option maxRecDepth 100000 in
set_option maxHeartbeats 2000000 in
theorem gs5_s0 (A : Act) (w1 : World) (Q : Exit → Act → World → Prop) (X : Mx) (code : Int) (c0 : Cu) (M0 : Mem) (e1 e2 : Option Addr) (f1 f2 : Nat) (n : Int) (bc bm : Nat)
    (hc : A.tmps.getD 3 undef = .pointer (some ⟨bc, 0, none⟩)) (hm : A.tmps.getD 4 undef = .pointer (some ⟨bm, 0, none⟩)) (hn : A.tmps.getD 2 undef = .int .i64 n)
    (qc : Blk w1 bc (cuA c0)) (qm : Blk w1 bm #[.slice e1 M0.rom.length f1, .slice e2 M0.ram.length f2, .int .i64 M0.page, .int .i64 M0.screen, .bool M0.locked]) (htc : ∀ W', Calls Tryz.prog 20 #[cuV c0] W' fun e w' => e = .returned (cuV c0) ∧ Below W'.heap.size W' w')
    (hto : ∀ W', Below w1.heap.size w1 W' → Calls Tryz.prog 21 #[memV (.slice e1 M0.rom.length f1) (.slice e2 M0.ram.length f2) M0.page M0.screen M0.locked] W' fun e w' => ∃ u, e = .returned u ∧ MemR w' u M0 ∧ Below W'.heap.size W' w')
    (hF : ∀ W' v, Below w1.heap.size w1 W' → MemR W' v M0 → Calls Tryz.prog 10 #[cuV c0, v, .int .i64 n] W' fun e w' => ∃ u cv, e = .returned (.tuple #[cpV X.c, u, cv, .int .i64 code]) ∧ Ans W' w' X u cv)
    (f : Nat → Bool) (e : Gs5E) (a : Act) (w : World) (hun : f 0 = false) (hdep : ∀ d ∈ gs5_o0.after, Region.binds .any d = true → f d.on = true) (hJ : gs5_J w1 X code c0 M0 e1 e2 f1 f2 n f e w) (hFr : Fr gs5_O A f (fun j => gs5_V X code c0 M0 e1 e2 f1 f2 n j e) a)
    (K : Act → World → Prop) (hK : Hid (∀ v e' w', v = gs5_V X code c0 M0 e1 e2 f1 f2 n 0 e' → (∀ j, f j = true → gs5_V X code c0 M0 e1 e2 f1 f2 n j e' = gs5_V X code c0 M0 e1 e2 f1 f2 n j e) → gs5_J w1 X code c0 M0 e1 e2 f1 f2 n (fun j => j == 0 || f j) e' w' → K (a.put gs5_o0.dst v) w')) :
    if Region.wanted gs5_o0 (yielded gs5_O a.tmps) = true then Oper.wp Tryz.prog gs5_o0 a w K Q else K (a.put gs5_o0.dst undef) w := by
  unfold gs5_o0 at hdep hK ⊢
  obtain ⟨hme, hla, oA, oB, hW⟩ := hJ
  have v3 := (hFr.old 3 (gs5_no (by decide))).trans hc
  clear hFr
  replace hla := hid hla
  replace oA := hid oA
  replace oB := hid oB
  replace hW := hid hW
  replace hme := hid hme
  have y := (qc.below hW.out.bel qc.lt).cell
  clear hdep
  go_simp
  exact hK.out _ e _ rfl (fun _ _ => rfl) ⟨hme.out, hla.out, oA.out, oB.out, hW.out⟩
set_option maxRecDepth 100000 in
set_option maxHeartbeats 2000000 in
theorem gs5_s1 (A : Act) (w1 : World) (Q : Exit → Act → World → Prop) (X : Mx) (code : Int) (c0 : Cu) (M0 : Mem) (e1 e2 : Option Addr) (f1 f2 : Nat) (n : Int) (bc bm : Nat)
    (hc : A.tmps.getD 3 undef = .pointer (some ⟨bc, 0, none⟩)) (hm : A.tmps.getD 4 undef = .pointer (some ⟨bm, 0, none⟩)) (hn : A.tmps.getD 2 undef = .int .i64 n)
    (qc : Blk w1 bc (cuA c0)) (qm : Blk w1 bm #[.slice e1 M0.rom.length f1, .slice e2 M0.ram.length f2, .int .i64 M0.page, .int .i64 M0.screen, .bool M0.locked]) (htc : ∀ W', Calls Tryz.prog 20 #[cuV c0] W' fun e w' => e = .returned (cuV c0) ∧ Below W'.heap.size W' w')
    (hto : ∀ W', Below w1.heap.size w1 W' → Calls Tryz.prog 21 #[memV (.slice e1 M0.rom.length f1) (.slice e2 M0.ram.length f2) M0.page M0.screen M0.locked] W' fun e w' => ∃ u, e = .returned u ∧ MemR w' u M0 ∧ Below W'.heap.size W' w')
    (hF : ∀ W' v, Below w1.heap.size w1 W' → MemR W' v M0 → Calls Tryz.prog 10 #[cuV c0, v, .int .i64 n] W' fun e w' => ∃ u cv, e = .returned (.tuple #[cpV X.c, u, cv, .int .i64 code]) ∧ Ans W' w' X u cv)
    (f : Nat → Bool) (e : Gs5E) (a : Act) (w : World) (hun : f 1 = false) (hdep : ∀ d ∈ gs5_o1.after, Region.binds .any d = true → f d.on = true) (hJ : gs5_J w1 X code c0 M0 e1 e2 f1 f2 n f e w) (hFr : Fr gs5_O A f (fun j => gs5_V X code c0 M0 e1 e2 f1 f2 n j e) a)
    (K : Act → World → Prop) (hK : Hid (∀ v e' w', v = gs5_V X code c0 M0 e1 e2 f1 f2 n 1 e' → (∀ j, f j = true → gs5_V X code c0 M0 e1 e2 f1 f2 n j e' = gs5_V X code c0 M0 e1 e2 f1 f2 n j e) → gs5_J w1 X code c0 M0 e1 e2 f1 f2 n (fun j => j == 1 || f j) e' w' → K (a.put gs5_o1.dst v) w')) :
    if Region.wanted gs5_o1 (yielded gs5_O a.tmps) = true then Oper.wp Tryz.prog gs5_o1 a w K Q else K (a.put gs5_o1.dst undef) w := by
  unfold gs5_o1 at hdep hK ⊢
  obtain ⟨hme, hla, oA, oB, hW⟩ := hJ
  have k0 : f 0 = true := hdep { on := 0, ground := .data } (by simp) rfl
  have v30 : a.tmps.getD 30 undef = cuV c0 := hFr.new 0 30 rfl k0
  clear hFr
  replace hla := hid hla
  replace oA := hid oA
  replace oB := hid oB
  replace hW := hid hW
  replace hme := hid hme
  clear hdep
  go_simp
  go_at_call 20
  refine (htc _).mono ?_
  rintro e' w' ⟨rfl, hb⟩
  replace hb := hid hb
  go_simp
  exact hK.out _ e _ rfl (fun _ _ => rfl) ⟨fun a b => (hme.out a b).below hb.out, hla.out, oA.out, oB.out, hW.out.below hb.out⟩
set_option maxRecDepth 100000 in
set_option maxHeartbeats 2000000 in
theorem gs5_s2 (A : Act) (w1 : World) (Q : Exit → Act → World → Prop) (X : Mx) (code : Int) (c0 : Cu) (M0 : Mem) (e1 e2 : Option Addr) (f1 f2 : Nat) (n : Int) (bc bm : Nat)
    (hc : A.tmps.getD 3 undef = .pointer (some ⟨bc, 0, none⟩)) (hm : A.tmps.getD 4 undef = .pointer (some ⟨bm, 0, none⟩)) (hn : A.tmps.getD 2 undef = .int .i64 n)
    (qc : Blk w1 bc (cuA c0)) (qm : Blk w1 bm #[.slice e1 M0.rom.length f1, .slice e2 M0.ram.length f2, .int .i64 M0.page, .int .i64 M0.screen, .bool M0.locked]) (htc : ∀ W', Calls Tryz.prog 20 #[cuV c0] W' fun e w' => e = .returned (cuV c0) ∧ Below W'.heap.size W' w')
    (hto : ∀ W', Below w1.heap.size w1 W' → Calls Tryz.prog 21 #[memV (.slice e1 M0.rom.length f1) (.slice e2 M0.ram.length f2) M0.page M0.screen M0.locked] W' fun e w' => ∃ u, e = .returned u ∧ MemR w' u M0 ∧ Below W'.heap.size W' w')
    (hF : ∀ W' v, Below w1.heap.size w1 W' → MemR W' v M0 → Calls Tryz.prog 10 #[cuV c0, v, .int .i64 n] W' fun e w' => ∃ u cv, e = .returned (.tuple #[cpV X.c, u, cv, .int .i64 code]) ∧ Ans W' w' X u cv)
    (f : Nat → Bool) (e : Gs5E) (a : Act) (w : World) (hun : f 2 = false) (hdep : ∀ d ∈ gs5_o2.after, Region.binds .any d = true → f d.on = true) (hJ : gs5_J w1 X code c0 M0 e1 e2 f1 f2 n f e w) (hFr : Fr gs5_O A f (fun j => gs5_V X code c0 M0 e1 e2 f1 f2 n j e) a)
    (K : Act → World → Prop) (hK : Hid (∀ v e' w', v = gs5_V X code c0 M0 e1 e2 f1 f2 n 2 e' → (∀ j, f j = true → gs5_V X code c0 M0 e1 e2 f1 f2 n j e' = gs5_V X code c0 M0 e1 e2 f1 f2 n j e) → gs5_J w1 X code c0 M0 e1 e2 f1 f2 n (fun j => j == 2 || f j) e' w' → K (a.put gs5_o2.dst v) w')) :
    if Region.wanted gs5_o2 (yielded gs5_O a.tmps) = true then Oper.wp Tryz.prog gs5_o2 a w K Q else K (a.put gs5_o2.dst undef) w := by
  unfold gs5_o2 at hdep hK ⊢
  obtain ⟨hme, hla, oA, oB, hW⟩ := hJ
  have v4 := (hFr.old 4 (gs5_no (by decide))).trans hm
  clear hFr
  replace hla := hid hla
  replace oA := hid oA
  replace oB := hid oB
  replace hW := hid hW
  replace hme := hid hme
  have y := (qm.below hW.out.bel qm.lt).cell
  clear hdep
  go_simp
  exact hK.out _ e _ rfl (fun _ _ => rfl) ⟨hme.out, hla.out, oA.out, oB.out, hW.out⟩
set_option maxRecDepth 100000 in
set_option maxHeartbeats 2000000 in
theorem gs5_s3 (A : Act) (w1 : World) (Q : Exit → Act → World → Prop) (X : Mx) (code : Int) (c0 : Cu) (M0 : Mem) (e1 e2 : Option Addr) (f1 f2 : Nat) (n : Int) (bc bm : Nat)
    (hc : A.tmps.getD 3 undef = .pointer (some ⟨bc, 0, none⟩)) (hm : A.tmps.getD 4 undef = .pointer (some ⟨bm, 0, none⟩)) (hn : A.tmps.getD 2 undef = .int .i64 n)
    (qc : Blk w1 bc (cuA c0)) (qm : Blk w1 bm #[.slice e1 M0.rom.length f1, .slice e2 M0.ram.length f2, .int .i64 M0.page, .int .i64 M0.screen, .bool M0.locked]) (htc : ∀ W', Calls Tryz.prog 20 #[cuV c0] W' fun e w' => e = .returned (cuV c0) ∧ Below W'.heap.size W' w')
    (hto : ∀ W', Below w1.heap.size w1 W' → Calls Tryz.prog 21 #[memV (.slice e1 M0.rom.length f1) (.slice e2 M0.ram.length f2) M0.page M0.screen M0.locked] W' fun e w' => ∃ u, e = .returned u ∧ MemR w' u M0 ∧ Below W'.heap.size W' w')
    (hF : ∀ W' v, Below w1.heap.size w1 W' → MemR W' v M0 → Calls Tryz.prog 10 #[cuV c0, v, .int .i64 n] W' fun e w' => ∃ u cv, e = .returned (.tuple #[cpV X.c, u, cv, .int .i64 code]) ∧ Ans W' w' X u cv)
    (f : Nat → Bool) (e : Gs5E) (a : Act) (w : World) (hun : f 3 = false) (hdep : ∀ d ∈ gs5_o3.after, Region.binds .any d = true → f d.on = true) (hJ : gs5_J w1 X code c0 M0 e1 e2 f1 f2 n f e w) (hFr : Fr gs5_O A f (fun j => gs5_V X code c0 M0 e1 e2 f1 f2 n j e) a)
    (K : Act → World → Prop) (hK : Hid (∀ v e' w', v = gs5_V X code c0 M0 e1 e2 f1 f2 n 3 e' → (∀ j, f j = true → gs5_V X code c0 M0 e1 e2 f1 f2 n j e' = gs5_V X code c0 M0 e1 e2 f1 f2 n j e) → gs5_J w1 X code c0 M0 e1 e2 f1 f2 n (fun j => j == 3 || f j) e' w' → K (a.put gs5_o3.dst v) w')) :
    if Region.wanted gs5_o3 (yielded gs5_O a.tmps) = true then Oper.wp Tryz.prog gs5_o3 a w K Q else K (a.put gs5_o3.dst undef) w := by
  unfold gs5_o3 at hdep hK ⊢
  obtain ⟨hme, hla, oA, oB, hW⟩ := hJ
  have k2 : f 2 = true := hdep { on := 2, ground := .data } (by simp) rfl
  have v32 : a.tmps.getD 32 undef = memV (.slice e1 M0.rom.length f1) (.slice e2 M0.ram.length f2) M0.page M0.screen M0.locked := hFr.new 2 32 rfl k2
  clear hFr
  replace hla := hid hla
  replace oA := hid oA
  replace oB := hid oB
  replace hW := hid hW
  replace hme := hid hme
  clear hdep
  go_simp
  go_at_call 21
  refine (hto _ hW.out.bel).mono ?_
  rintro e' w' ⟨u, rfl, hmu, hb⟩
  replace hb := hid hb
  replace hmu := hid hmu
  go_simp
  exact hK.out _ { e with u2 := u } _ rfl (gs5_vk X code c0 M0 e1 e2 f1 f2 n e _ rfl rfl rfl rfl rfl rfl rfl hun) ⟨fun _ _ => hmu.out, hla.out, oA.out, oB.out, hW.out.below hb.out⟩
set_option maxRecDepth 100000 in
set_option maxHeartbeats 2000000 in
theorem gs5_s4 (A : Act) (w1 : World) (Q : Exit → Act → World → Prop) (X : Mx) (code : Int) (c0 : Cu) (M0 : Mem) (e1 e2 : Option Addr) (f1 f2 : Nat) (n : Int) (bc bm : Nat)
    (hc : A.tmps.getD 3 undef = .pointer (some ⟨bc, 0, none⟩)) (hm : A.tmps.getD 4 undef = .pointer (some ⟨bm, 0, none⟩)) (hn : A.tmps.getD 2 undef = .int .i64 n)
    (qc : Blk w1 bc (cuA c0)) (qm : Blk w1 bm #[.slice e1 M0.rom.length f1, .slice e2 M0.ram.length f2, .int .i64 M0.page, .int .i64 M0.screen, .bool M0.locked]) (htc : ∀ W', Calls Tryz.prog 20 #[cuV c0] W' fun e w' => e = .returned (cuV c0) ∧ Below W'.heap.size W' w')
    (hto : ∀ W', Below w1.heap.size w1 W' → Calls Tryz.prog 21 #[memV (.slice e1 M0.rom.length f1) (.slice e2 M0.ram.length f2) M0.page M0.screen M0.locked] W' fun e w' => ∃ u, e = .returned u ∧ MemR w' u M0 ∧ Below W'.heap.size W' w')
    (hF : ∀ W' v, Below w1.heap.size w1 W' → MemR W' v M0 → Calls Tryz.prog 10 #[cuV c0, v, .int .i64 n] W' fun e w' => ∃ u cv, e = .returned (.tuple #[cpV X.c, u, cv, .int .i64 code]) ∧ Ans W' w' X u cv)
    (f : Nat → Bool) (e : Gs5E) (a : Act) (w : World) (hun : f 4 = false) (hdep : ∀ d ∈ gs5_o4.after, Region.binds .any d = true → f d.on = true) (hJ : gs5_J w1 X code c0 M0 e1 e2 f1 f2 n f e w) (hFr : Fr gs5_O A f (fun j => gs5_V X code c0 M0 e1 e2 f1 f2 n j e) a)
    (K : Act → World → Prop) (hK : Hid (∀ v e' w', v = gs5_V X code c0 M0 e1 e2 f1 f2 n 4 e' → (∀ j, f j = true → gs5_V X code c0 M0 e1 e2 f1 f2 n j e' = gs5_V X code c0 M0 e1 e2 f1 f2 n j e) → gs5_J w1 X code c0 M0 e1 e2 f1 f2 n (fun j => j == 4 || f j) e' w' → K (a.put gs5_o4.dst v) w')) :
    if Region.wanted gs5_o4 (yielded gs5_O a.tmps) = true then Oper.wp Tryz.prog gs5_o4 a w K Q else K (a.put gs5_o4.dst undef) w := by
  unfold gs5_o4 at hdep hK ⊢
  obtain ⟨hme, hla, oA, oB, hW⟩ := hJ
  have v2 := (hFr.old 2 (gs5_no (by decide))).trans hn
  clear hFr
  replace hla := hid hla
  replace oA := hid oA
  replace oB := hid oB
  replace hW := hid hW
  replace hme := hid hme
  clear hdep
  go_simp
  exact hK.out _ e _ rfl (fun _ _ => rfl) ⟨hme.out, hla.out, oA.out, oB.out, hW.out⟩
set_option maxRecDepth 100000 in
set_option maxHeartbeats 2000000 in
theorem gs5_s5 (A : Act) (w1 : World) (Q : Exit → Act → World → Prop) (X : Mx) (code : Int) (c0 : Cu) (M0 : Mem) (e1 e2 : Option Addr) (f1 f2 : Nat) (n : Int) (bc bm : Nat)
    (hc : A.tmps.getD 3 undef = .pointer (some ⟨bc, 0, none⟩)) (hm : A.tmps.getD 4 undef = .pointer (some ⟨bm, 0, none⟩)) (hn : A.tmps.getD 2 undef = .int .i64 n)
    (qc : Blk w1 bc (cuA c0)) (qm : Blk w1 bm #[.slice e1 M0.rom.length f1, .slice e2 M0.ram.length f2, .int .i64 M0.page, .int .i64 M0.screen, .bool M0.locked]) (htc : ∀ W', Calls Tryz.prog 20 #[cuV c0] W' fun e w' => e = .returned (cuV c0) ∧ Below W'.heap.size W' w')
    (hto : ∀ W', Below w1.heap.size w1 W' → Calls Tryz.prog 21 #[memV (.slice e1 M0.rom.length f1) (.slice e2 M0.ram.length f2) M0.page M0.screen M0.locked] W' fun e w' => ∃ u, e = .returned u ∧ MemR w' u M0 ∧ Below W'.heap.size W' w')
    (hF : ∀ W' v, Below w1.heap.size w1 W' → MemR W' v M0 → Calls Tryz.prog 10 #[cuV c0, v, .int .i64 n] W' fun e w' => ∃ u cv, e = .returned (.tuple #[cpV X.c, u, cv, .int .i64 code]) ∧ Ans W' w' X u cv)
    (f : Nat → Bool) (e : Gs5E) (a : Act) (w : World) (hun : f 5 = false) (hdep : ∀ d ∈ gs5_o5.after, Region.binds .any d = true → f d.on = true) (hJ : gs5_J w1 X code c0 M0 e1 e2 f1 f2 n f e w) (hFr : Fr gs5_O A f (fun j => gs5_V X code c0 M0 e1 e2 f1 f2 n j e) a)
    (K : Act → World → Prop) (hK : Hid (∀ v e' w', v = gs5_V X code c0 M0 e1 e2 f1 f2 n 5 e' → (∀ j, f j = true → gs5_V X code c0 M0 e1 e2 f1 f2 n j e' = gs5_V X code c0 M0 e1 e2 f1 f2 n j e) → gs5_J w1 X code c0 M0 e1 e2 f1 f2 n (fun j => j == 5 || f j) e' w' → K (a.put gs5_o5.dst v) w')) :
    if Region.wanted gs5_o5 (yielded gs5_O a.tmps) = true then Oper.wp Tryz.prog gs5_o5 a w K Q else K (a.put gs5_o5.dst undef) w := by
  unfold gs5_o5 at hdep hK ⊢
  obtain ⟨hme, hla, oA, oB, hW⟩ := hJ
  have k1 : f 1 = true := hdep { on := 1, ground := .data } (by simp) rfl
  have v31 : a.tmps.getD 31 undef = cuV c0 := hFr.new 1 31 rfl k1
  have k3 : f 3 = true := hdep { on := 3, ground := .data } (by simp) rfl
  have v33 : a.tmps.getD 33 undef = e.u2 := hFr.new 3 33 rfl k3
  have k4 : f 4 = true := hdep { on := 4, ground := .data } (by simp) rfl
  have v34 : a.tmps.getD 34 undef = .int .i64 n := hFr.new 4 34 rfl k4
  clear hFr
  replace hla := hid hla
  replace oA := hid oA
  replace oB := hid oB
  replace hW := hid hW
  replace hme := hid hme
  have fA : f 13 = false := by
    cases hq : f 13
    · rfl
    · have := (oA.out hq).1
      rw [hun] at this
      cases this
  have fB : f 14 = false := by
    cases hq : f 14
    · rfl
    · have := (oB.out hq).1
      rw [hun] at this
      cases this
  have hmv := hme.out k3 hun
  rw [hun, fA, fB] at hW
  clear hdep
  go_simp
  go_at_call 10
  refine (hF _ _ hW.out.bel hmv).mono ?_
  rintro e' w' ⟨u, cv', rfl, hA⟩
  obtain ⟨⟨_, _, hmo, _⟩, _⟩ := id hA
  obtain ⟨g1', j1', g2', j2', rfl, _, _⟩ := hmo.reads.form
  obtain ⟨lo', hi', hW'⟩ := hW.out.call #[.slice g1' X.m.rom.length j1', .slice g2' X.m.ram.length j2', .int .i64 X.m.page, .int .i64 X.m.screen, .bool X.m.locked] hA
  replace hW' := hid hW'
  clear hA hmo
  go_simp
  exact hK.out _ ⟨e.u2, cv', g1', g2', j1', j2', lo', hi', e.b6, e.b7⟩ _ rfl (gs5_vc X code c0 M0 e1 e2 f1 f2 n e _ rfl rfl rfl hun hla.out) ⟨fun _ h => absurd h (by simp), ⟨fun _ => rfl, fun _ => rfl, fun _ => rfl, fun _ => rfl, fun _ => rfl, fun _ => rfl, fun _ => rfl⟩, fun h => ⟨rfl, (oA.out h).2⟩, fun h => ⟨rfl, (oB.out h).2⟩, (by show WI w1 w' true (f 11) (f 12) (f 13) (f 14) X _ _ _ _ _ _ _; rw [fA, fB]; exact hW'.out)⟩
set_option maxRecDepth 100000 in
set_option maxHeartbeats 2000000 in
theorem gs5_s6 (A : Act) (w1 : World) (Q : Exit → Act → World → Prop) (X : Mx) (code : Int) (c0 : Cu) (M0 : Mem) (e1 e2 : Option Addr) (f1 f2 : Nat) (n : Int) (bc bm : Nat)
    (hc : A.tmps.getD 3 undef = .pointer (some ⟨bc, 0, none⟩)) (hm : A.tmps.getD 4 undef = .pointer (some ⟨bm, 0, none⟩)) (hn : A.tmps.getD 2 undef = .int .i64 n)
    (qc : Blk w1 bc (cuA c0)) (qm : Blk w1 bm #[.slice e1 M0.rom.length f1, .slice e2 M0.ram.length f2, .int .i64 M0.page, .int .i64 M0.screen, .bool M0.locked]) (htc : ∀ W', Calls Tryz.prog 20 #[cuV c0] W' fun e w' => e = .returned (cuV c0) ∧ Below W'.heap.size W' w')
    (hto : ∀ W', Below w1.heap.size w1 W' → Calls Tryz.prog 21 #[memV (.slice e1 M0.rom.length f1) (.slice e2 M0.ram.length f2) M0.page M0.screen M0.locked] W' fun e w' => ∃ u, e = .returned u ∧ MemR w' u M0 ∧ Below W'.heap.size W' w')
    (hF : ∀ W' v, Below w1.heap.size w1 W' → MemR W' v M0 → Calls Tryz.prog 10 #[cuV c0, v, .int .i64 n] W' fun e w' => ∃ u cv, e = .returned (.tuple #[cpV X.c, u, cv, .int .i64 code]) ∧ Ans W' w' X u cv)
    (f : Nat → Bool) (e : Gs5E) (a : Act) (w : World) (hun : f 6 = false) (hdep : ∀ d ∈ gs5_o6.after, Region.binds .any d = true → f d.on = true) (hJ : gs5_J w1 X code c0 M0 e1 e2 f1 f2 n f e w) (hFr : Fr gs5_O A f (fun j => gs5_V X code c0 M0 e1 e2 f1 f2 n j e) a)
    (K : Act → World → Prop) (hK : Hid (∀ v e' w', v = gs5_V X code c0 M0 e1 e2 f1 f2 n 6 e' → (∀ j, f j = true → gs5_V X code c0 M0 e1 e2 f1 f2 n j e' = gs5_V X code c0 M0 e1 e2 f1 f2 n j e) → gs5_J w1 X code c0 M0 e1 e2 f1 f2 n (fun j => j == 6 || f j) e' w' → K (a.put gs5_o6.dst v) w')) :
    if Region.wanted gs5_o6 (yielded gs5_O a.tmps) = true then Oper.wp Tryz.prog gs5_o6 a w K Q else K (a.put gs5_o6.dst undef) w := by
  unfold gs5_o6 at hdep hK ⊢
  obtain ⟨hme, hla, oA, oB, hW⟩ := hJ
  have k5 : f 5 = true := hdep { on := 5, ground := .data } (by simp) rfl
  have v35 : a.tmps.getD 35 undef = .tuple #[cpV X.c, memV (.slice e.g1 X.m.rom.length e.j1) (.slice e.g2 X.m.ram.length e.j2) X.m.page X.m.screen X.m.locked, e.cv, .int .i64 code] := hFr.new 5 35 rfl k5
  clear hFr
  replace hla := hid hla
  replace oA := hid oA
  replace oB := hid oB
  replace hW := hid hW
  replace hme := hid hme
  have kc : f 5 = true := k5
  clear hdep
  go_simp
  exact hK.out _ e _ rfl (fun _ _ => rfl) ⟨hme.out, ⟨fun _ => kc, hla.out.2.1, hla.out.2.2.1, hla.out.2.2.2.1, hla.out.2.2.2.2.1, hla.out.2.2.2.2.2.1, hla.out.2.2.2.2.2.2⟩, oA.out, oB.out, hW.out⟩
set_option maxRecDepth 100000 in
set_option maxHeartbeats 2000000 in
theorem gs5_s7 (A : Act) (w1 : World) (Q : Exit → Act → World → Prop) (X : Mx) (code : Int) (c0 : Cu) (M0 : Mem) (e1 e2 : Option Addr) (f1 f2 : Nat) (n : Int) (bc bm : Nat)
    (hc : A.tmps.getD 3 undef = .pointer (some ⟨bc, 0, none⟩)) (hm : A.tmps.getD 4 undef = .pointer (some ⟨bm, 0, none⟩)) (hn : A.tmps.getD 2 undef = .int .i64 n)
    (qc : Blk w1 bc (cuA c0)) (qm : Blk w1 bm #[.slice e1 M0.rom.length f1, .slice e2 M0.ram.length f2, .int .i64 M0.page, .int .i64 M0.screen, .bool M0.locked]) (htc : ∀ W', Calls Tryz.prog 20 #[cuV c0] W' fun e w' => e = .returned (cuV c0) ∧ Below W'.heap.size W' w')
    (hto : ∀ W', Below w1.heap.size w1 W' → Calls Tryz.prog 21 #[memV (.slice e1 M0.rom.length f1) (.slice e2 M0.ram.length f2) M0.page M0.screen M0.locked] W' fun e w' => ∃ u, e = .returned u ∧ MemR w' u M0 ∧ Below W'.heap.size W' w')
    (hF : ∀ W' v, Below w1.heap.size w1 W' → MemR W' v M0 → Calls Tryz.prog 10 #[cuV c0, v, .int .i64 n] W' fun e w' => ∃ u cv, e = .returned (.tuple #[cpV X.c, u, cv, .int .i64 code]) ∧ Ans W' w' X u cv)
    (f : Nat → Bool) (e : Gs5E) (a : Act) (w : World) (hun : f 7 = false) (hdep : ∀ d ∈ gs5_o7.after, Region.binds .any d = true → f d.on = true) (hJ : gs5_J w1 X code c0 M0 e1 e2 f1 f2 n f e w) (hFr : Fr gs5_O A f (fun j => gs5_V X code c0 M0 e1 e2 f1 f2 n j e) a)
    (K : Act → World → Prop) (hK : Hid (∀ v e' w', v = gs5_V X code c0 M0 e1 e2 f1 f2 n 7 e' → (∀ j, f j = true → gs5_V X code c0 M0 e1 e2 f1 f2 n j e' = gs5_V X code c0 M0 e1 e2 f1 f2 n j e) → gs5_J w1 X code c0 M0 e1 e2 f1 f2 n (fun j => j == 7 || f j) e' w' → K (a.put gs5_o7.dst v) w')) :
    if Region.wanted gs5_o7 (yielded gs5_O a.tmps) = true then Oper.wp Tryz.prog gs5_o7 a w K Q else K (a.put gs5_o7.dst undef) w := by
  unfold gs5_o7 at hdep hK ⊢
  obtain ⟨hme, hla, oA, oB, hW⟩ := hJ
  have k6 : f 6 = true := hdep { on := 6, ground := .data } (by simp) rfl
  have v29 : a.tmps.getD 29 undef = .tuple #[cpV X.c, memV (.slice e.g1 X.m.rom.length e.j1) (.slice e.g2 X.m.ram.length e.j2) X.m.page X.m.screen X.m.locked, e.cv, .int .i64 code] := hFr.new 6 29 rfl k6
  clear hFr
  replace hla := hid hla
  replace oA := hid oA
  replace oB := hid oB
  replace hW := hid hW
  replace hme := hid hme
  have kc : f 5 = true := hla.out.1 k6
  clear hdep
  go_simp
  exact hK.out _ e _ rfl (fun _ _ => rfl) ⟨hme.out, ⟨hla.out.1, fun _ => kc, hla.out.2.2.1, hla.out.2.2.2.1, hla.out.2.2.2.2.1, hla.out.2.2.2.2.2.1, hla.out.2.2.2.2.2.2⟩, oA.out, oB.out, hW.out⟩
set_option maxRecDepth 100000 in
set_option maxHeartbeats 2000000 in
theorem gs5_s8 (A : Act) (w1 : World) (Q : Exit → Act → World → Prop) (X : Mx) (code : Int) (c0 : Cu) (M0 : Mem) (e1 e2 : Option Addr) (f1 f2 : Nat) (n : Int) (bc bm : Nat)
    (hc : A.tmps.getD 3 undef = .pointer (some ⟨bc, 0, none⟩)) (hm : A.tmps.getD 4 undef = .pointer (some ⟨bm, 0, none⟩)) (hn : A.tmps.getD 2 undef = .int .i64 n)
    (qc : Blk w1 bc (cuA c0)) (qm : Blk w1 bm #[.slice e1 M0.rom.length f1, .slice e2 M0.ram.length f2, .int .i64 M0.page, .int .i64 M0.screen, .bool M0.locked]) (htc : ∀ W', Calls Tryz.prog 20 #[cuV c0] W' fun e w' => e = .returned (cuV c0) ∧ Below W'.heap.size W' w')
    (hto : ∀ W', Below w1.heap.size w1 W' → Calls Tryz.prog 21 #[memV (.slice e1 M0.rom.length f1) (.slice e2 M0.ram.length f2) M0.page M0.screen M0.locked] W' fun e w' => ∃ u, e = .returned u ∧ MemR w' u M0 ∧ Below W'.heap.size W' w')
    (hF : ∀ W' v, Below w1.heap.size w1 W' → MemR W' v M0 → Calls Tryz.prog 10 #[cuV c0, v, .int .i64 n] W' fun e w' => ∃ u cv, e = .returned (.tuple #[cpV X.c, u, cv, .int .i64 code]) ∧ Ans W' w' X u cv)
    (f : Nat → Bool) (e : Gs5E) (a : Act) (w : World) (hun : f 8 = false) (hdep : ∀ d ∈ gs5_o8.after, Region.binds .any d = true → f d.on = true) (hJ : gs5_J w1 X code c0 M0 e1 e2 f1 f2 n f e w) (hFr : Fr gs5_O A f (fun j => gs5_V X code c0 M0 e1 e2 f1 f2 n j e) a)
    (K : Act → World → Prop) (hK : Hid (∀ v e' w', v = gs5_V X code c0 M0 e1 e2 f1 f2 n 8 e' → (∀ j, f j = true → gs5_V X code c0 M0 e1 e2 f1 f2 n j e' = gs5_V X code c0 M0 e1 e2 f1 f2 n j e) → gs5_J w1 X code c0 M0 e1 e2 f1 f2 n (fun j => j == 8 || f j) e' w' → K (a.put gs5_o8.dst v) w')) :
    if Region.wanted gs5_o8 (yielded gs5_O a.tmps) = true then Oper.wp Tryz.prog gs5_o8 a w K Q else K (a.put gs5_o8.dst undef) w := by
  unfold gs5_o8 at hdep hK ⊢
  obtain ⟨hme, hla, oA, oB, hW⟩ := hJ
  have k6 : f 6 = true := hdep { on := 6, ground := .data } (by simp) rfl
  have v29 : a.tmps.getD 29 undef = .tuple #[cpV X.c, memV (.slice e.g1 X.m.rom.length e.j1) (.slice e.g2 X.m.ram.length e.j2) X.m.page X.m.screen X.m.locked, e.cv, .int .i64 code] := hFr.new 6 29 rfl k6
  clear hFr
  replace hla := hid hla
  replace oA := hid oA
  replace oB := hid oB
  replace hW := hid hW
  replace hme := hid hme
  have kc : f 5 = true := hla.out.1 k6
  clear hdep
  go_simp
  exact hK.out _ e _ rfl (fun _ _ => rfl) ⟨hme.out, ⟨hla.out.1, hla.out.2.1, fun _ => kc, hla.out.2.2.2.1, hla.out.2.2.2.2.1, hla.out.2.2.2.2.2.1, hla.out.2.2.2.2.2.2⟩, oA.out, oB.out, hW.out⟩
set_option maxRecDepth 100000 in
set_option maxHeartbeats 2000000 in
theorem gs5_s9 (A : Act) (w1 : World) (Q : Exit → Act → World → Prop) (X : Mx) (code : Int) (c0 : Cu) (M0 : Mem) (e1 e2 : Option Addr) (f1 f2 : Nat) (n : Int) (bc bm : Nat)
    (hc : A.tmps.getD 3 undef = .pointer (some ⟨bc, 0, none⟩)) (hm : A.tmps.getD 4 undef = .pointer (some ⟨bm, 0, none⟩)) (hn : A.tmps.getD 2 undef = .int .i64 n)
    (qc : Blk w1 bc (cuA c0)) (qm : Blk w1 bm #[.slice e1 M0.rom.length f1, .slice e2 M0.ram.length f2, .int .i64 M0.page, .int .i64 M0.screen, .bool M0.locked]) (htc : ∀ W', Calls Tryz.prog 20 #[cuV c0] W' fun e w' => e = .returned (cuV c0) ∧ Below W'.heap.size W' w')
    (hto : ∀ W', Below w1.heap.size w1 W' → Calls Tryz.prog 21 #[memV (.slice e1 M0.rom.length f1) (.slice e2 M0.ram.length f2) M0.page M0.screen M0.locked] W' fun e w' => ∃ u, e = .returned u ∧ MemR w' u M0 ∧ Below W'.heap.size W' w')
    (hF : ∀ W' v, Below w1.heap.size w1 W' → MemR W' v M0 → Calls Tryz.prog 10 #[cuV c0, v, .int .i64 n] W' fun e w' => ∃ u cv, e = .returned (.tuple #[cpV X.c, u, cv, .int .i64 code]) ∧ Ans W' w' X u cv)
    (f : Nat → Bool) (e : Gs5E) (a : Act) (w : World) (hun : f 9 = false) (hdep : ∀ d ∈ gs5_o9.after, Region.binds .any d = true → f d.on = true) (hJ : gs5_J w1 X code c0 M0 e1 e2 f1 f2 n f e w) (hFr : Fr gs5_O A f (fun j => gs5_V X code c0 M0 e1 e2 f1 f2 n j e) a)
    (K : Act → World → Prop) (hK : Hid (∀ v e' w', v = gs5_V X code c0 M0 e1 e2 f1 f2 n 9 e' → (∀ j, f j = true → gs5_V X code c0 M0 e1 e2 f1 f2 n j e' = gs5_V X code c0 M0 e1 e2 f1 f2 n j e) → gs5_J w1 X code c0 M0 e1 e2 f1 f2 n (fun j => j == 9 || f j) e' w' → K (a.put gs5_o9.dst v) w')) :
    if Region.wanted gs5_o9 (yielded gs5_O a.tmps) = true then Oper.wp Tryz.prog gs5_o9 a w K Q else K (a.put gs5_o9.dst undef) w := by
  unfold gs5_o9 at hdep hK ⊢
  obtain ⟨hme, hla, oA, oB, hW⟩ := hJ
  have k6 : f 6 = true := hdep { on := 6, ground := .data } (by simp) rfl
  have v29 : a.tmps.getD 29 undef = .tuple #[cpV X.c, memV (.slice e.g1 X.m.rom.length e.j1) (.slice e.g2 X.m.ram.length e.j2) X.m.page X.m.screen X.m.locked, e.cv, .int .i64 code] := hFr.new 6 29 rfl k6
  clear hFr
  replace hla := hid hla
  replace oA := hid oA
  replace oB := hid oB
  replace hW := hid hW
  replace hme := hid hme
  have kc : f 5 = true := hla.out.1 k6
  clear hdep
  go_simp
  exact hK.out _ e _ rfl (fun _ _ => rfl) ⟨hme.out, ⟨hla.out.1, hla.out.2.1, hla.out.2.2.1, fun _ => kc, hla.out.2.2.2.2.1, hla.out.2.2.2.2.2.1, hla.out.2.2.2.2.2.2⟩, oA.out, oB.out, hW.out⟩
set_option maxRecDepth 100000 in
set_option maxHeartbeats 2000000 in
theorem gs5_s10 (A : Act) (w1 : World) (Q : Exit → Act → World → Prop) (X : Mx) (code : Int) (c0 : Cu) (M0 : Mem) (e1 e2 : Option Addr) (f1 f2 : Nat) (n : Int) (bc bm : Nat)
    (hc : A.tmps.getD 3 undef = .pointer (some ⟨bc, 0, none⟩)) (hm : A.tmps.getD 4 undef = .pointer (some ⟨bm, 0, none⟩)) (hn : A.tmps.getD 2 undef = .int .i64 n)
    (qc : Blk w1 bc (cuA c0)) (qm : Blk w1 bm #[.slice e1 M0.rom.length f1, .slice e2 M0.ram.length f2, .int .i64 M0.page, .int .i64 M0.screen, .bool M0.locked]) (htc : ∀ W', Calls Tryz.prog 20 #[cuV c0] W' fun e w' => e = .returned (cuV c0) ∧ Below W'.heap.size W' w')
    (hto : ∀ W', Below w1.heap.size w1 W' → Calls Tryz.prog 21 #[memV (.slice e1 M0.rom.length f1) (.slice e2 M0.ram.length f2) M0.page M0.screen M0.locked] W' fun e w' => ∃ u, e = .returned u ∧ MemR w' u M0 ∧ Below W'.heap.size W' w')
    (hF : ∀ W' v, Below w1.heap.size w1 W' → MemR W' v M0 → Calls Tryz.prog 10 #[cuV c0, v, .int .i64 n] W' fun e w' => ∃ u cv, e = .returned (.tuple #[cpV X.c, u, cv, .int .i64 code]) ∧ Ans W' w' X u cv)
    (f : Nat → Bool) (e : Gs5E) (a : Act) (w : World) (hun : f 10 = false) (hdep : ∀ d ∈ gs5_o10.after, Region.binds .any d = true → f d.on = true) (hJ : gs5_J w1 X code c0 M0 e1 e2 f1 f2 n f e w) (hFr : Fr gs5_O A f (fun j => gs5_V X code c0 M0 e1 e2 f1 f2 n j e) a)
    (K : Act → World → Prop) (hK : Hid (∀ v e' w', v = gs5_V X code c0 M0 e1 e2 f1 f2 n 10 e' → (∀ j, f j = true → gs5_V X code c0 M0 e1 e2 f1 f2 n j e' = gs5_V X code c0 M0 e1 e2 f1 f2 n j e) → gs5_J w1 X code c0 M0 e1 e2 f1 f2 n (fun j => j == 10 || f j) e' w' → K (a.put gs5_o10.dst v) w')) :
    if Region.wanted gs5_o10 (yielded gs5_O a.tmps) = true then Oper.wp Tryz.prog gs5_o10 a w K Q else K (a.put gs5_o10.dst undef) w := by
  unfold gs5_o10 at hdep hK ⊢
  obtain ⟨hme, hla, oA, oB, hW⟩ := hJ
  have k6 : f 6 = true := hdep { on := 6, ground := .data } (by simp) rfl
  have v29 : a.tmps.getD 29 undef = .tuple #[cpV X.c, memV (.slice e.g1 X.m.rom.length e.j1) (.slice e.g2 X.m.ram.length e.j2) X.m.page X.m.screen X.m.locked, e.cv, .int .i64 code] := hFr.new 6 29 rfl k6
  clear hFr
  replace hla := hid hla
  replace oA := hid oA
  replace oB := hid oB
  replace hW := hid hW
  replace hme := hid hme
  have kc : f 5 = true := hla.out.1 k6
  clear hdep
  go_simp
  exact hK.out _ e _ rfl (fun _ _ => rfl) ⟨hme.out, ⟨hla.out.1, hla.out.2.1, hla.out.2.2.1, hla.out.2.2.2.1, fun _ => kc, hla.out.2.2.2.2.2.1, hla.out.2.2.2.2.2.2⟩, oA.out, oB.out, hW.out⟩
set_option maxRecDepth 100000 in
set_option maxHeartbeats 2000000 in
theorem gs5_s11 (A : Act) (w1 : World) (Q : Exit → Act → World → Prop) (X : Mx) (code : Int) (c0 : Cu) (M0 : Mem) (e1 e2 : Option Addr) (f1 f2 : Nat) (n : Int) (bc bm : Nat)
    (hc : A.tmps.getD 3 undef = .pointer (some ⟨bc, 0, none⟩)) (hm : A.tmps.getD 4 undef = .pointer (some ⟨bm, 0, none⟩)) (hn : A.tmps.getD 2 undef = .int .i64 n)
    (qc : Blk w1 bc (cuA c0)) (qm : Blk w1 bm #[.slice e1 M0.rom.length f1, .slice e2 M0.ram.length f2, .int .i64 M0.page, .int .i64 M0.screen, .bool M0.locked]) (htc : ∀ W', Calls Tryz.prog 20 #[cuV c0] W' fun e w' => e = .returned (cuV c0) ∧ Below W'.heap.size W' w')
    (hto : ∀ W', Below w1.heap.size w1 W' → Calls Tryz.prog 21 #[memV (.slice e1 M0.rom.length f1) (.slice e2 M0.ram.length f2) M0.page M0.screen M0.locked] W' fun e w' => ∃ u, e = .returned u ∧ MemR w' u M0 ∧ Below W'.heap.size W' w')
    (hF : ∀ W' v, Below w1.heap.size w1 W' → MemR W' v M0 → Calls Tryz.prog 10 #[cuV c0, v, .int .i64 n] W' fun e w' => ∃ u cv, e = .returned (.tuple #[cpV X.c, u, cv, .int .i64 code]) ∧ Ans W' w' X u cv)
    (f : Nat → Bool) (e : Gs5E) (a : Act) (w : World) (hun : f 11 = false) (hdep : ∀ d ∈ gs5_o11.after, Region.binds .any d = true → f d.on = true) (hJ : gs5_J w1 X code c0 M0 e1 e2 f1 f2 n f e w) (hFr : Fr gs5_O A f (fun j => gs5_V X code c0 M0 e1 e2 f1 f2 n j e) a)
    (K : Act → World → Prop) (hK : Hid (∀ v e' w', v = gs5_V X code c0 M0 e1 e2 f1 f2 n 11 e' → (∀ j, f j = true → gs5_V X code c0 M0 e1 e2 f1 f2 n j e' = gs5_V X code c0 M0 e1 e2 f1 f2 n j e) → gs5_J w1 X code c0 M0 e1 e2 f1 f2 n (fun j => j == 11 || f j) e' w' → K (a.put gs5_o11.dst v) w')) :
    if Region.wanted gs5_o11 (yielded gs5_O a.tmps) = true then Oper.wp Tryz.prog gs5_o11 a w K Q else K (a.put gs5_o11.dst undef) w := by
  unfold gs5_o11 at hdep hK ⊢
  obtain ⟨hme, hla, oA, oB, hW⟩ := hJ
  clear hFr
  replace hla := hid hla
  replace oA := hid oA
  replace oB := hid oB
  replace hW := hid hW
  replace hme := hid hme
  have fx : f 13 = false := by
    cases hq : f 13
    · rfl
    · have := (oA.out hq).2
      rw [hun] at this
      cases this
  rw [hun, fx] at hW
  have hW' := hid (hW.out.alA 25)
  have hb := hid ((Below.refl w.heap.size w).alloc (Nat.le_refl _) (.cells zC 25))
  clear hdep
  go_simp
  exact hK.out _ { e with b6 := w.heap.size } _ rfl (gs5_va X code c0 M0 e1 e2 f1 f2 n e _ rfl rfl rfl rfl rfl rfl rfl hun) ⟨fun a b => (hme.out a b).below hb.out, hla.out, fun h => ⟨(oA.out h).1, rfl⟩, oB.out, (by show WI w1 _ (f 5) true (f 12) (f 13) (f 14) X _ _ _ _ _ _ _; rw [fx]; exact hW'.out)⟩
set_option maxRecDepth 100000 in
set_option maxHeartbeats 2000000 in
theorem gs5_s12 (A : Act) (w1 : World) (Q : Exit → Act → World → Prop) (X : Mx) (code : Int) (c0 : Cu) (M0 : Mem) (e1 e2 : Option Addr) (f1 f2 : Nat) (n : Int) (bc bm : Nat)
    (hc : A.tmps.getD 3 undef = .pointer (some ⟨bc, 0, none⟩)) (hm : A.tmps.getD 4 undef = .pointer (some ⟨bm, 0, none⟩)) (hn : A.tmps.getD 2 undef = .int .i64 n)
    (qc : Blk w1 bc (cuA c0)) (qm : Blk w1 bm #[.slice e1 M0.rom.length f1, .slice e2 M0.ram.length f2, .int .i64 M0.page, .int .i64 M0.screen, .bool M0.locked]) (htc : ∀ W', Calls Tryz.prog 20 #[cuV c0] W' fun e w' => e = .returned (cuV c0) ∧ Below W'.heap.size W' w')
    (hto : ∀ W', Below w1.heap.size w1 W' → Calls Tryz.prog 21 #[memV (.slice e1 M0.rom.length f1) (.slice e2 M0.ram.length f2) M0.page M0.screen M0.locked] W' fun e w' => ∃ u, e = .returned u ∧ MemR w' u M0 ∧ Below W'.heap.size W' w')
    (hF : ∀ W' v, Below w1.heap.size w1 W' → MemR W' v M0 → Calls Tryz.prog 10 #[cuV c0, v, .int .i64 n] W' fun e w' => ∃ u cv, e = .returned (.tuple #[cpV X.c, u, cv, .int .i64 code]) ∧ Ans W' w' X u cv)
    (f : Nat → Bool) (e : Gs5E) (a : Act) (w : World) (hun : f 12 = false) (hdep : ∀ d ∈ gs5_o12.after, Region.binds .any d = true → f d.on = true) (hJ : gs5_J w1 X code c0 M0 e1 e2 f1 f2 n f e w) (hFr : Fr gs5_O A f (fun j => gs5_V X code c0 M0 e1 e2 f1 f2 n j e) a)
    (K : Act → World → Prop) (hK : Hid (∀ v e' w', v = gs5_V X code c0 M0 e1 e2 f1 f2 n 12 e' → (∀ j, f j = true → gs5_V X code c0 M0 e1 e2 f1 f2 n j e' = gs5_V X code c0 M0 e1 e2 f1 f2 n j e) → gs5_J w1 X code c0 M0 e1 e2 f1 f2 n (fun j => j == 12 || f j) e' w' → K (a.put gs5_o12.dst v) w')) :
    if Region.wanted gs5_o12 (yielded gs5_O a.tmps) = true then Oper.wp Tryz.prog gs5_o12 a w K Q else K (a.put gs5_o12.dst undef) w := by
  unfold gs5_o12 at hdep hK ⊢
  obtain ⟨hme, hla, oA, oB, hW⟩ := hJ
  clear hFr
  replace hla := hid hla
  replace oA := hid oA
  replace oB := hid oB
  replace hW := hid hW
  replace hme := hid hme
  have fx : f 14 = false := by
    cases hq : f 14
    · rfl
    · have := (oB.out hq).2
      rw [hun] at this
      cases this
  rw [hun, fx] at hW
  have hW' := hid (hW.out.alB 30)
  have hb := hid ((Below.refl w.heap.size w).alloc (Nat.le_refl _) (.cells zM 30))
  clear hdep
  go_simp
  exact hK.out _ { e with b7 := w.heap.size } _ rfl (gs5_vb X code c0 M0 e1 e2 f1 f2 n e _ rfl rfl rfl rfl rfl rfl rfl hun) ⟨fun a b => (hme.out a b).below hb.out, hla.out, oA.out, fun h => ⟨(oB.out h).1, rfl⟩, (by show WI w1 _ (f 5) (f 11) true (f 13) (f 14) X _ _ _ _ _ _ _; rw [fx]; exact hW'.out)⟩
set_option maxRecDepth 100000 in
set_option maxHeartbeats 2000000 in
theorem gs5_s13 (A : Act) (w1 : World) (Q : Exit → Act → World → Prop) (X : Mx) (code : Int) (c0 : Cu) (M0 : Mem) (e1 e2 : Option Addr) (f1 f2 : Nat) (n : Int) (bc bm : Nat)
    (hc : A.tmps.getD 3 undef = .pointer (some ⟨bc, 0, none⟩)) (hm : A.tmps.getD 4 undef = .pointer (some ⟨bm, 0, none⟩)) (hn : A.tmps.getD 2 undef = .int .i64 n)
    (qc : Blk w1 bc (cuA c0)) (qm : Blk w1 bm #[.slice e1 M0.rom.length f1, .slice e2 M0.ram.length f2, .int .i64 M0.page, .int .i64 M0.screen, .bool M0.locked]) (htc : ∀ W', Calls Tryz.prog 20 #[cuV c0] W' fun e w' => e = .returned (cuV c0) ∧ Below W'.heap.size W' w')
    (hto : ∀ W', Below w1.heap.size w1 W' → Calls Tryz.prog 21 #[memV (.slice e1 M0.rom.length f1) (.slice e2 M0.ram.length f2) M0.page M0.screen M0.locked] W' fun e w' => ∃ u, e = .returned u ∧ MemR w' u M0 ∧ Below W'.heap.size W' w')
    (hF : ∀ W' v, Below w1.heap.size w1 W' → MemR W' v M0 → Calls Tryz.prog 10 #[cuV c0, v, .int .i64 n] W' fun e w' => ∃ u cv, e = .returned (.tuple #[cpV X.c, u, cv, .int .i64 code]) ∧ Ans W' w' X u cv)
    (f : Nat → Bool) (e : Gs5E) (a : Act) (w : World) (hun : f 13 = false) (hdep : ∀ d ∈ gs5_o13.after, Region.binds .any d = true → f d.on = true) (hJ : gs5_J w1 X code c0 M0 e1 e2 f1 f2 n f e w) (hFr : Fr gs5_O A f (fun j => gs5_V X code c0 M0 e1 e2 f1 f2 n j e) a)
    (K : Act → World → Prop) (hK : Hid (∀ v e' w', v = gs5_V X code c0 M0 e1 e2 f1 f2 n 13 e' → (∀ j, f j = true → gs5_V X code c0 M0 e1 e2 f1 f2 n j e' = gs5_V X code c0 M0 e1 e2 f1 f2 n j e) → gs5_J w1 X code c0 M0 e1 e2 f1 f2 n (fun j => j == 13 || f j) e' w' → K (a.put gs5_o13.dst v) w')) :
    if Region.wanted gs5_o13 (yielded gs5_O a.tmps) = true then Oper.wp Tryz.prog gs5_o13 a w K Q else K (a.put gs5_o13.dst undef) w := by
  unfold gs5_o13 at hdep hK ⊢
  obtain ⟨hme, hla, oA, oB, hW⟩ := hJ
  have k11 : f 11 = true := hdep { on := 11, ground := .data } (by simp) rfl
  have v8 : a.tmps.getD 8 undef = .pointer (some ⟨e.b6, 0, none⟩) := hFr.new 11 8 rfl k11
  have k7 : f 7 = true := hdep { on := 7, ground := .data } (by simp) rfl
  have v36 : a.tmps.getD 36 undef = cpV X.c := hFr.new 7 36 rfl k7
  clear hFr
  replace hla := hid hla
  replace oA := hid oA
  replace oB := hid oB
  replace hW := hid hW
  replace hme := hid hme
  have k5 : f 5 = true := hla.out.2.1 k7
  rw [hun, k11, k5] at hW
  have y := hW.out.boxA.cell
  have fz := hW.out.boxA.frozen
  have lt := hW.out.boxA.lt
  have hW' := hid hW.out.stA
  clear hdep
  go_simp
  exact hK.out (gs5_V X code c0 M0 e1 e2 f1 f2 n 13 e) e _ rfl (fun _ _ => rfl) ⟨fun _ h => absurd (k5.symm.trans h) (by simp), hla.out, fun _ => ⟨k5, k11⟩, oB.out, (by show WI w1 _ (f 5) (f 11) (f 12) true (f 14) X _ _ _ _ _ _ _; rw [k11, k5]; exact hW'.out)⟩
set_option maxRecDepth 100000 in
set_option maxHeartbeats 2000000 in
theorem gs5_s14 (A : Act) (w1 : World) (Q : Exit → Act → World → Prop) (X : Mx) (code : Int) (c0 : Cu) (M0 : Mem) (e1 e2 : Option Addr) (f1 f2 : Nat) (n : Int) (bc bm : Nat)
    (hc : A.tmps.getD 3 undef = .pointer (some ⟨bc, 0, none⟩)) (hm : A.tmps.getD 4 undef = .pointer (some ⟨bm, 0, none⟩)) (hn : A.tmps.getD 2 undef = .int .i64 n)
    (qc : Blk w1 bc (cuA c0)) (qm : Blk w1 bm #[.slice e1 M0.rom.length f1, .slice e2 M0.ram.length f2, .int .i64 M0.page, .int .i64 M0.screen, .bool M0.locked]) (htc : ∀ W', Calls Tryz.prog 20 #[cuV c0] W' fun e w' => e = .returned (cuV c0) ∧ Below W'.heap.size W' w')
    (hto : ∀ W', Below w1.heap.size w1 W' → Calls Tryz.prog 21 #[memV (.slice e1 M0.rom.length f1) (.slice e2 M0.ram.length f2) M0.page M0.screen M0.locked] W' fun e w' => ∃ u, e = .returned u ∧ MemR w' u M0 ∧ Below W'.heap.size W' w')
    (hF : ∀ W' v, Below w1.heap.size w1 W' → MemR W' v M0 → Calls Tryz.prog 10 #[cuV c0, v, .int .i64 n] W' fun e w' => ∃ u cv, e = .returned (.tuple #[cpV X.c, u, cv, .int .i64 code]) ∧ Ans W' w' X u cv)
    (f : Nat → Bool) (e : Gs5E) (a : Act) (w : World) (hun : f 14 = false) (hdep : ∀ d ∈ gs5_o14.after, Region.binds .any d = true → f d.on = true) (hJ : gs5_J w1 X code c0 M0 e1 e2 f1 f2 n f e w) (hFr : Fr gs5_O A f (fun j => gs5_V X code c0 M0 e1 e2 f1 f2 n j e) a)
    (K : Act → World → Prop) (hK : Hid (∀ v e' w', v = gs5_V X code c0 M0 e1 e2 f1 f2 n 14 e' → (∀ j, f j = true → gs5_V X code c0 M0 e1 e2 f1 f2 n j e' = gs5_V X code c0 M0 e1 e2 f1 f2 n j e) → gs5_J w1 X code c0 M0 e1 e2 f1 f2 n (fun j => j == 14 || f j) e' w' → K (a.put gs5_o14.dst v) w')) :
    if Region.wanted gs5_o14 (yielded gs5_O a.tmps) = true then Oper.wp Tryz.prog gs5_o14 a w K Q else K (a.put gs5_o14.dst undef) w := by
  unfold gs5_o14 at hdep hK ⊢
  obtain ⟨hme, hla, oA, oB, hW⟩ := hJ
  have k12 : f 12 = true := hdep { on := 12, ground := .data } (by simp) rfl
  have v9 : a.tmps.getD 9 undef = .pointer (some ⟨e.b7, 0, none⟩) := hFr.new 12 9 rfl k12
  have k8 : f 8 = true := hdep { on := 8, ground := .data } (by simp) rfl
  have v37 : a.tmps.getD 37 undef = memV (.slice e.g1 X.m.rom.length e.j1) (.slice e.g2 X.m.ram.length e.j2) X.m.page X.m.screen X.m.locked := hFr.new 8 37 rfl k8
  clear hFr
  replace hla := hid hla
  replace oA := hid oA
  replace oB := hid oB
  replace hW := hid hW
  replace hme := hid hme
  have k5 : f 5 = true := hla.out.2.2.1 k8
  rw [hun, k12, k5] at hW
  have y := hW.out.boxB.cell
  have fz := hW.out.boxB.frozen
  have lt := hW.out.boxB.lt
  have hW' := hid hW.out.stB
  clear hdep
  go_simp
  exact hK.out (gs5_V X code c0 M0 e1 e2 f1 f2 n 14 e) e _ rfl (fun _ _ => rfl) ⟨fun _ h => absurd (k5.symm.trans h) (by simp), hla.out, oA.out, fun _ => ⟨k5, k12⟩, (by show WI w1 _ (f 5) (f 11) (f 12) (f 13) true X _ _ _ _ _ _ _; rw [k12, k5]; exact hW'.out)⟩
set_option maxRecDepth 100000 in
set_option maxHeartbeats 2000000 in
theorem gs5_s15 (A : Act) (w1 : World) (Q : Exit → Act → World → Prop) (X : Mx) (code : Int) (c0 : Cu) (M0 : Mem) (e1 e2 : Option Addr) (f1 f2 : Nat) (n : Int) (bc bm : Nat)
    (hc : A.tmps.getD 3 undef = .pointer (some ⟨bc, 0, none⟩)) (hm : A.tmps.getD 4 undef = .pointer (some ⟨bm, 0, none⟩)) (hn : A.tmps.getD 2 undef = .int .i64 n)
    (qc : Blk w1 bc (cuA c0)) (qm : Blk w1 bm #[.slice e1 M0.rom.length f1, .slice e2 M0.ram.length f2, .int .i64 M0.page, .int .i64 M0.screen, .bool M0.locked]) (htc : ∀ W', Calls Tryz.prog 20 #[cuV c0] W' fun e w' => e = .returned (cuV c0) ∧ Below W'.heap.size W' w')
    (hto : ∀ W', Below w1.heap.size w1 W' → Calls Tryz.prog 21 #[memV (.slice e1 M0.rom.length f1) (.slice e2 M0.ram.length f2) M0.page M0.screen M0.locked] W' fun e w' => ∃ u, e = .returned u ∧ MemR w' u M0 ∧ Below W'.heap.size W' w')
    (hF : ∀ W' v, Below w1.heap.size w1 W' → MemR W' v M0 → Calls Tryz.prog 10 #[cuV c0, v, .int .i64 n] W' fun e w' => ∃ u cv, e = .returned (.tuple #[cpV X.c, u, cv, .int .i64 code]) ∧ Ans W' w' X u cv)
    (f : Nat → Bool) (e : Gs5E) (a : Act) (w : World) (hun : f 15 = false) (hdep : ∀ d ∈ gs5_o15.after, Region.binds .any d = true → f d.on = true) (hJ : gs5_J w1 X code c0 M0 e1 e2 f1 f2 n f e w) (hFr : Fr gs5_O A f (fun j => gs5_V X code c0 M0 e1 e2 f1 f2 n j e) a)
    (K : Act → World → Prop) (hK : Hid (∀ v e' w', v = gs5_V X code c0 M0 e1 e2 f1 f2 n 15 e' → (∀ j, f j = true → gs5_V X code c0 M0 e1 e2 f1 f2 n j e' = gs5_V X code c0 M0 e1 e2 f1 f2 n j e) → gs5_J w1 X code c0 M0 e1 e2 f1 f2 n (fun j => j == 15 || f j) e' w' → K (a.put gs5_o15.dst v) w')) :
    if Region.wanted gs5_o15 (yielded gs5_O a.tmps) = true then Oper.wp Tryz.prog gs5_o15 a w K Q else K (a.put gs5_o15.dst undef) w := by
  unfold gs5_o15 at hdep hK ⊢
  obtain ⟨hme, hla, oA, oB, hW⟩ := hJ
  have k9 : f 9 = true := hdep { on := 9, ground := .data } (by simp) rfl
  have v38 : a.tmps.getD 38 undef = e.cv := hFr.new 9 38 rfl k9
  clear hFr
  replace hla := hid hla
  replace oA := hid oA
  replace oB := hid oB
  replace hW := hid hW
  replace hme := hid hme
  have kc : f 5 = true := hla.out.2.2.2.1 k9
  clear hdep
  go_simp
  exact hK.out _ e _ rfl (fun _ _ => rfl) ⟨hme.out, ⟨hla.out.1, hla.out.2.1, hla.out.2.2.1, hla.out.2.2.2.1, hla.out.2.2.2.2.1, fun _ => kc, hla.out.2.2.2.2.2.2⟩, oA.out, oB.out, hW.out⟩
set_option maxRecDepth 100000 in
set_option maxHeartbeats 2000000 in
theorem gs5_s16 (A : Act) (w1 : World) (Q : Exit → Act → World → Prop) (X : Mx) (code : Int) (c0 : Cu) (M0 : Mem) (e1 e2 : Option Addr) (f1 f2 : Nat) (n : Int) (bc bm : Nat)
    (hc : A.tmps.getD 3 undef = .pointer (some ⟨bc, 0, none⟩)) (hm : A.tmps.getD 4 undef = .pointer (some ⟨bm, 0, none⟩)) (hn : A.tmps.getD 2 undef = .int .i64 n)
    (qc : Blk w1 bc (cuA c0)) (qm : Blk w1 bm #[.slice e1 M0.rom.length f1, .slice e2 M0.ram.length f2, .int .i64 M0.page, .int .i64 M0.screen, .bool M0.locked]) (htc : ∀ W', Calls Tryz.prog 20 #[cuV c0] W' fun e w' => e = .returned (cuV c0) ∧ Below W'.heap.size W' w')
    (hto : ∀ W', Below w1.heap.size w1 W' → Calls Tryz.prog 21 #[memV (.slice e1 M0.rom.length f1) (.slice e2 M0.ram.length f2) M0.page M0.screen M0.locked] W' fun e w' => ∃ u, e = .returned u ∧ MemR w' u M0 ∧ Below W'.heap.size W' w')
    (hF : ∀ W' v, Below w1.heap.size w1 W' → MemR W' v M0 → Calls Tryz.prog 10 #[cuV c0, v, .int .i64 n] W' fun e w' => ∃ u cv, e = .returned (.tuple #[cpV X.c, u, cv, .int .i64 code]) ∧ Ans W' w' X u cv)
    (f : Nat → Bool) (e : Gs5E) (a : Act) (w : World) (hun : f 16 = false) (hdep : ∀ d ∈ gs5_o16.after, Region.binds .any d = true → f d.on = true) (hJ : gs5_J w1 X code c0 M0 e1 e2 f1 f2 n f e w) (hFr : Fr gs5_O A f (fun j => gs5_V X code c0 M0 e1 e2 f1 f2 n j e) a)
    (K : Act → World → Prop) (hK : Hid (∀ v e' w', v = gs5_V X code c0 M0 e1 e2 f1 f2 n 16 e' → (∀ j, f j = true → gs5_V X code c0 M0 e1 e2 f1 f2 n j e' = gs5_V X code c0 M0 e1 e2 f1 f2 n j e) → gs5_J w1 X code c0 M0 e1 e2 f1 f2 n (fun j => j == 16 || f j) e' w' → K (a.put gs5_o16.dst v) w')) :
    if Region.wanted gs5_o16 (yielded gs5_O a.tmps) = true then Oper.wp Tryz.prog gs5_o16 a w K Q else K (a.put gs5_o16.dst undef) w := by
  unfold gs5_o16 at hdep hK ⊢
  obtain ⟨hme, hla, oA, oB, hW⟩ := hJ
  have k10 : f 10 = true := hdep { on := 10, ground := .data } (by simp) rfl
  have v39 : a.tmps.getD 39 undef = .int .i64 code := hFr.new 10 39 rfl k10
  clear hFr
  replace hla := hid hla
  replace oA := hid oA
  replace oB := hid oB
  replace hW := hid hW
  replace hme := hid hme
  have kc : f 5 = true := hla.out.2.2.2.2.1 k10
  clear hdep
  go_simp
  exact hK.out _ e _ rfl (fun _ _ => rfl) ⟨hme.out, ⟨hla.out.1, hla.out.2.1, hla.out.2.2.1, hla.out.2.2.2.1, hla.out.2.2.2.2.1, hla.out.2.2.2.2.2.1, fun _ => kc⟩, oA.out, oB.out, hW.out⟩
set_option maxRecDepth 100000 in
set_option maxHeartbeats 4000000 in
theorem gs5_reg (A : Act) (w1 : World) (Q : Exit → Act → World → Prop) (X : Mx) (code : Int) (c0 : Cu) (M0 : Mem) (e1 e2 : Option Addr) (f1 f2 : Nat) (n : Int) (bc bm : Nat)
    (hc : A.tmps.getD 3 undef = .pointer (some ⟨bc, 0, none⟩)) (hm : A.tmps.getD 4 undef = .pointer (some ⟨bm, 0, none⟩)) (hn : A.tmps.getD 2 undef = .int .i64 n)
    (qc : Blk w1 bc (cuA c0)) (qm : Blk w1 bm #[.slice e1 M0.rom.length f1, .slice e2 M0.ram.length f2, .int .i64 M0.page, .int .i64 M0.screen, .bool M0.locked]) (htc : ∀ W', Calls Tryz.prog 20 #[cuV c0] W' fun e w' => e = .returned (cuV c0) ∧ Below W'.heap.size W' w')
    (hto : ∀ W', Below w1.heap.size w1 W' → Calls Tryz.prog 21 #[memV (.slice e1 M0.rom.length f1) (.slice e2 M0.ram.length f2) M0.page M0.screen M0.locked] W' fun e w' => ∃ u, e = .returned u ∧ MemR w' u M0 ∧ Below W'.heap.size W' w')
    (hF : ∀ W' v, Below w1.heap.size w1 W' → MemR W' v M0 → Calls Tryz.prog 10 #[cuV c0, v, .int .i64 n] W' fun e w' => ∃ u cv, e = .returned (.tuple #[cpV X.c, u, cv, .int .i64 code]) ∧ Ans W' w' X u cv) (hN : 40 ≤ A.tmps.size)
    (h : ∀ (w : World) (u2 cv : Value) (g1 g2 : Option Addr) (j1 j2 lo hi b6 b7 : Nat), WI w1 w true true true true true X (memV (.slice g1 X.m.rom.length j1) (.slice g2 X.m.ram.length j2) X.m.page X.m.screen X.m.locked) cv lo hi b6 b7 #[.slice g1 X.m.rom.length j1, .slice g2 X.m.ram.length j2, .int .i64 X.m.page, .int .i64 X.m.screen, .bool X.m.locked] → Q .normal (putsA A [(30, cuV c0), (31, cuV c0), (32, memV (.slice e1 M0.rom.length f1) (.slice e2 M0.ram.length f2) M0.page M0.screen M0.locked), (33, u2), (34, .int .i64 n), (35, .tuple #[cpV X.c, memV (.slice g1 X.m.rom.length j1) (.slice g2 X.m.ram.length j2) X.m.page X.m.screen X.m.locked, cv, .int .i64 code]), (29, .tuple #[cpV X.c, memV (.slice g1 X.m.rom.length j1) (.slice g2 X.m.ram.length j2) X.m.page X.m.screen X.m.locked, cv, .int .i64 code]), (36, cpV X.c), (37, memV (.slice g1 X.m.rom.length j1) (.slice g2 X.m.ram.length j2) X.m.page X.m.screen X.m.locked), (38, cv), (39, .int .i64 code), (8, .pointer (some ⟨b6, 0, none⟩)), (9, .pointer (some ⟨b7, 0, none⟩)), (10, cv), (11, .int .i64 code)]) w) :
    (Code.region 5 #[({ dst := some 30, op := Op.load 53 (Operand.tmp 3), type := 53, pos := "exact.go:2057", after := #[], guard := none } : Oper), ({ dst := some 31, op := Op.call { callee := Callee.value (Operand.func 20), args := #[Operand.tmp 30], argTypes := #[53] }, type := 25, pos := "exact.go:2057", after := #[{ on := 0, ground := Ground.data }], guard := none } : Oper), ({ dst := some 32, op := Op.load 54 (Operand.tmp 4), type := 54, pos := "exact.go:2057", after := #[], guard := none } : Oper), ({ dst := some 33, op := Op.call { callee := Callee.value (Operand.func 21), args := #[Operand.tmp 32], argTypes := #[54] }, type := 30, pos := "exact.go:2057", after := #[{ on := 2, ground := Ground.data }, { on := 1, ground := Ground.chain }], guard := none } : Oper), ({ dst := some 34, op := Op.move (Operand.tmp 2), type := 3, pos := "exact.go:2057", after := #[], guard := none } : Oper), ({ dst := some 35, op := Op.call { callee := Callee.value (Operand.func 10), args := #[Operand.tmp 31, Operand.tmp 33, Operand.tmp 34], argTypes := #[25, 30, 3] }, type := 34, pos := "exact.go:2057", after := #[{ on := 1, ground := Ground.data }, { on := 3, ground := Ground.data }, { on := 4, ground := Ground.data }, { on := 3, ground := Ground.chain }], guard := none } : Oper), ({ dst := some 29, op := Op.move (Operand.tmp 35), type := 34, pos := "exact.go:2057", after := #[{ on := 5, ground := Ground.data }], guard := none } : Oper), ({ dst := some 36, op := Op.extract (Operand.tmp 29) 0, type := 25, pos := "exact.go:2057", after := #[{ on := 6, ground := Ground.data }], guard := none } : Oper), ({ dst := some 37, op := Op.extract (Operand.tmp 29) 1, type := 30, pos := "exact.go:2057", after := #[{ on := 6, ground := Ground.data }, { on := 13, ground := Ground.gcOnly Departure.lateStores }], guard := none } : Oper), ({ dst := some 38, op := Op.extract (Operand.tmp 29) 2, type := 33, pos := "exact.go:2057", after := #[{ on := 6, ground := Ground.data }, { on := 14, ground := Ground.gcOnly Departure.lateStores }], guard := none } : Oper), ({ dst := some 39, op := Op.extract (Operand.tmp 29) 3, type := 3, pos := "exact.go:2057", after := #[{ on := 6, ground := Ground.data }, { on := 15, ground := Ground.gcOnly Departure.lateStores }], guard := none } : Oper), ({ dst := some 8, op := Op.alloc 25, type := 0, pos := "exact.go:2057", after := #[], guard := none } : Oper), ({ dst := some 9, op := Op.alloc 30, type := 0, pos := "exact.go:2057", after := #[], guard := none } : Oper), ({ dst := none, op := Op.store 25 (Operand.tmp 8) (Operand.tmp 36), type := 0, pos := "exact.go:2057", after := #[{ on := 11, ground := Ground.data }, { on := 7, ground := Ground.data }, { on := 5, ground := Ground.chain }, { on := 0, ground := Ground.phase }, { on := 1, ground := Ground.phase }, { on := 2, ground := Ground.phase }, { on := 3, ground := Ground.phase }, { on := 4, ground := Ground.phase }, { on := 5, ground := Ground.phase }, { on := 6, ground := Ground.phase }, { on := 7, ground := Ground.phase }, { on := 8, ground := Ground.textOnly Departure.lateStores }, { on := 9, ground := Ground.textOnly Departure.lateStores }, { on := 10, ground := Ground.textOnly Departure.lateStores }, { on := 11, ground := Ground.phase }, { on := 12, ground := Ground.phase }], guard := none } : Oper), ({ dst := none, op := Op.store 30 (Operand.tmp 9) (Operand.tmp 37), type := 0, pos := "exact.go:2057", after := #[{ on := 12, ground := Ground.data }, { on := 8, ground := Ground.data }, { on := 13, ground := Ground.chain }, { on := 0, ground := Ground.phase }, { on := 1, ground := Ground.phase }, { on := 2, ground := Ground.phase }, { on := 3, ground := Ground.phase }, { on := 4, ground := Ground.phase }, { on := 5, ground := Ground.phase }, { on := 6, ground := Ground.phase }, { on := 7, ground := Ground.phase }, { on := 8, ground := Ground.phase }, { on := 9, ground := Ground.textOnly Departure.lateStores }, { on := 10, ground := Ground.textOnly Departure.lateStores }, { on := 11, ground := Ground.phase }, { on := 12, ground := Ground.phase }, { on := 13, ground := Ground.phase }], guard := none } : Oper), ({ dst := some 10, op := Op.assign (Operand.tmp 38), type := 33, pos := "exact.go:2057", after := #[{ on := 9, ground := Ground.data }, { on := 14, ground := Ground.chain }, { on := 0, ground := Ground.phase }, { on := 1, ground := Ground.phase }, { on := 2, ground := Ground.phase }, { on := 3, ground := Ground.phase }, { on := 4, ground := Ground.phase }, { on := 5, ground := Ground.phase }, { on := 6, ground := Ground.phase }, { on := 7, ground := Ground.phase }, { on := 8, ground := Ground.phase }, { on := 9, ground := Ground.phase }, { on := 10, ground := Ground.textOnly Departure.lateStores }, { on := 11, ground := Ground.phase }, { on := 12, ground := Ground.phase }, { on := 13, ground := Ground.phase }, { on := 14, ground := Ground.phase }], guard := none } : Oper), ({ dst := some 11, op := Op.assign (Operand.tmp 39), type := 3, pos := "exact.go:2057", after := #[{ on := 10, ground := Ground.data }, { on := 15, ground := Ground.chain }, { on := 0, ground := Ground.phase }, { on := 1, ground := Ground.phase }, { on := 2, ground := Ground.phase }, { on := 3, ground := Ground.phase }, { on := 4, ground := Ground.phase }, { on := 5, ground := Ground.phase }, { on := 6, ground := Ground.phase }, { on := 7, ground := Ground.phase }, { on := 8, ground := Ground.phase }, { on := 9, ground := Ground.phase }, { on := 10, ground := Ground.phase }, { on := 11, ground := Ground.phase }, { on := 12, ground := Ground.phase }, { on := 13, ground := Ground.phase }, { on := 14, ground := Ground.phase }, { on := 15, ground := Ground.phase }], guard := none } : Oper)] true).wp Tryz.prog Q A w1 := by
  show (Code.region 5 gs5_O true).wp Tryz.prog Q A w1
  refine wp_region_slots (E := Gs5E) (gs5_V X code c0 M0 e1 e2 f1 f2 n) (gs5_J w1 X code c0 M0 e1 e2 f1 f2 n) (by kernel_rfl) (by kernel_rfl) (by kernel_rfl) (fun i s hi => ?_) ?_ ⟨undef, undef, none, none, 0, 0, 0, 0, 0, 0⟩ ⟨fun h => (by cases h), ⟨fun h => (by cases h), fun h => (by cases h), fun h => (by cases h), fun h => (by cases h), fun h => (by cases h), fun h => (by cases h), fun h => (by cases h)⟩, fun h => (by cases h), fun h => (by cases h), WI.start ((Below.refl _ _).drew)⟩ ?_
  · cases hc : ([30, 31, 32, 33, 34, 35, 29, 36, 37, 38, 39, 8, 9, 10, 11] : List Nat).contains s
    · exact absurd hi (gs5_no hc i)
    · have : s ∈ ([30, 31, 32, 33, 34, 35, 29, 36, 37, 38, 39, 8, 9, 10, 11] : List Nat) := by simpa using hc
      simp only [List.mem_cons, List.not_mem_nil, or_false] at this
      omega
  · intro f e a w i o hi ho hun hdep hJ hFr K hK
    have hi8 : i < 17 := hi
    rcases (by omega : i = 0 ∨ i = 1 ∨ i = 2 ∨ i = 3 ∨ i = 4 ∨ i = 5 ∨ i = 6 ∨ i = 7 ∨ i = 8 ∨ i = 9 ∨ i = 10 ∨ i = 11 ∨ i = 12 ∨ i = 13 ∨ i = 14 ∨ i = 15 ∨ i = 16) with rfl | rfl | rfl | rfl | rfl | rfl | rfl | rfl | rfl | rfl | rfl | rfl | rfl | rfl | rfl | rfl | rfl
    · obtain rfl := Option.some.inj ho
      exact gs5_s0 A w1 Q X code c0 M0 e1 e2 f1 f2 n bc bm hc hm hn qc qm htc hto hF f e a w hun hdep hJ hFr K hK
    · obtain rfl := Option.some.inj ho
      exact gs5_s1 A w1 Q X code c0 M0 e1 e2 f1 f2 n bc bm hc hm hn qc qm htc hto hF f e a w hun hdep hJ hFr K hK
    · obtain rfl := Option.some.inj ho
      exact gs5_s2 A w1 Q X code c0 M0 e1 e2 f1 f2 n bc bm hc hm hn qc qm htc hto hF f e a w hun hdep hJ hFr K hK
    · obtain rfl := Option.some.inj ho
      exact gs5_s3 A w1 Q X code c0 M0 e1 e2 f1 f2 n bc bm hc hm hn qc qm htc hto hF f e a w hun hdep hJ hFr K hK
    · obtain rfl := Option.some.inj ho
      exact gs5_s4 A w1 Q X code c0 M0 e1 e2 f1 f2 n bc bm hc hm hn qc qm htc hto hF f e a w hun hdep hJ hFr K hK
    · obtain rfl := Option.some.inj ho
      exact gs5_s5 A w1 Q X code c0 M0 e1 e2 f1 f2 n bc bm hc hm hn qc qm htc hto hF f e a w hun hdep hJ hFr K hK
    · obtain rfl := Option.some.inj ho
      exact gs5_s6 A w1 Q X code c0 M0 e1 e2 f1 f2 n bc bm hc hm hn qc qm htc hto hF f e a w hun hdep hJ hFr K hK
    · obtain rfl := Option.some.inj ho
      exact gs5_s7 A w1 Q X code c0 M0 e1 e2 f1 f2 n bc bm hc hm hn qc qm htc hto hF f e a w hun hdep hJ hFr K hK
    · obtain rfl := Option.some.inj ho
      exact gs5_s8 A w1 Q X code c0 M0 e1 e2 f1 f2 n bc bm hc hm hn qc qm htc hto hF f e a w hun hdep hJ hFr K hK
    · obtain rfl := Option.some.inj ho
      exact gs5_s9 A w1 Q X code c0 M0 e1 e2 f1 f2 n bc bm hc hm hn qc qm htc hto hF f e a w hun hdep hJ hFr K hK
    · obtain rfl := Option.some.inj ho
      exact gs5_s10 A w1 Q X code c0 M0 e1 e2 f1 f2 n bc bm hc hm hn qc qm htc hto hF f e a w hun hdep hJ hFr K hK
    · obtain rfl := Option.some.inj ho
      exact gs5_s11 A w1 Q X code c0 M0 e1 e2 f1 f2 n bc bm hc hm hn qc qm htc hto hF f e a w hun hdep hJ hFr K hK
    · obtain rfl := Option.some.inj ho
      exact gs5_s12 A w1 Q X code c0 M0 e1 e2 f1 f2 n bc bm hc hm hn qc qm htc hto hF f e a w hun hdep hJ hFr K hK
    · obtain rfl := Option.some.inj ho
      exact gs5_s13 A w1 Q X code c0 M0 e1 e2 f1 f2 n bc bm hc hm hn qc qm htc hto hF f e a w hun hdep hJ hFr K hK
    · obtain rfl := Option.some.inj ho
      exact gs5_s14 A w1 Q X code c0 M0 e1 e2 f1 f2 n bc bm hc hm hn qc qm htc hto hF f e a w hun hdep hJ hFr K hK
    · obtain rfl := Option.some.inj ho
      exact gs5_s15 A w1 Q X code c0 M0 e1 e2 f1 f2 n bc bm hc hm hn qc qm htc hto hF f e a w hun hdep hJ hFr K hK
    · obtain rfl := Option.some.inj ho
      exact gs5_s16 A w1 Q X code c0 M0 e1 e2 f1 f2 n bc bm hc hm hn qc qm htc hto hF f e a w hun hdep hJ hFr K hK
  · intro f e a w hall hJ hFr
    obtain ⟨_, _, _, _, hW⟩ := hJ
    rw [hall 5 (by decide), hall 11 (by decide), hall 12 (by decide), hall 13 (by decide), hall 14 (by decide)] at hW
    have := h w e.u2 e.cv e.g1 e.g2 e.j1 e.j2 e.lo e.hi e.b6 e.b7 hW
    rw [hFr.eq [(30, cuV c0), (31, cuV c0), (32, memV (.slice e1 M0.rom.length f1) (.slice e2 M0.ram.length f2) M0.page M0.screen M0.locked), (33, e.u2), (34, .int .i64 n), (35, .tuple #[cpV X.c, memV (.slice e.g1 X.m.rom.length e.j1) (.slice e.g2 X.m.ram.length e.j2) X.m.page X.m.screen X.m.locked, e.cv, .int .i64 code]), (29, .tuple #[cpV X.c, memV (.slice e.g1 X.m.rom.length e.j1) (.slice e.g2 X.m.ram.length e.j2) X.m.page X.m.screen X.m.locked, e.cv, .int .i64 code]), (36, cpV X.c), (37, memV (.slice e.g1 X.m.rom.length e.j1) (.slice e.g2 X.m.ram.length e.j2) X.m.page X.m.screen X.m.locked), (38, e.cv), (39, .int .i64 code), (8, .pointer (some ⟨e.b6, 0, none⟩)), (9, .pointer (some ⟨e.b7, 0, none⟩)), (10, e.cv), (11, .int .i64 code)] (fun s hs => ?_) (fun i s hi => ?_)]
    · exact this
    · have hne : ∀ k ∈ ([30, 31, 32, 33, 34, 35, 29, 36, 37, 38, 39, 8, 9, 10, 11] : List Nat), k ≠ s := by
        intro k hk e2
        subst e2
        simp only [List.mem_cons, List.not_mem_nil, or_false] at hk
        rcases hk with rfl | rfl | rfl | rfl | rfl | rfl | rfl | rfl | rfl | rfl | rfl | rfl | rfl | rfl | rfl
        · exact hs 0 rfl
        · exact hs 1 rfl
        · exact hs 2 rfl
        · exact hs 3 rfl
        · exact hs 4 rfl
        · exact hs 5 rfl
        · exact hs 6 rfl
        · exact hs 7 rfl
        · exact hs 8 rfl
        · exact hs 9 rfl
        · exact hs 10 rfl
        · exact hs 11 rfl
        · exact hs 12 rfl
        · exact hs 15 rfl
        · exact hs 16 rfl
      simp only [lookA]
      simp [hne]
    · have hl : i < 17 := by
        rcases Nat.lt_or_ge i 17 with h1 | h1
        · exact h1
        · unfold dstAt at hi
          rw [Array.getElem?_eq_none (by exact h1)] at hi
          cases hi
      refine ⟨hall i hl, ?_⟩
      rcases (by omega : i = 0 ∨ i = 1 ∨ i = 2 ∨ i = 3 ∨ i = 4 ∨ i = 5 ∨ i = 6 ∨ i = 7 ∨ i = 8 ∨ i = 9 ∨ i = 10 ∨ i = 11 ∨ i = 12 ∨ i = 13 ∨ i = 14 ∨ i = 15 ∨ i = 16) with rfl | rfl | rfl | rfl | rfl | rfl | rfl | rfl | rfl | rfl | rfl | rfl | rfl | rfl | rfl | rfl | rfl
      all_goals first
        | (cases hi; rfl)
        | cases hi
end Go.Proofs.YtiidkhfigifmjaaGreatDoor
