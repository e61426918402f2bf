/- A drawn region of the law laws.FnExactInterrupt: whatever the order, the answer lies in variables of its own. -/
import Derived.Test.YtiidkhfigifmjaaU45
import Derived.Test.YtiidkhfigifmjaaU47
import Derived.Test.YtiidkhfigifmjaaClu
import Derived.Test.YtiidkhfigifmjaaMeu
namespace Go.Proofs.Ytiidkhfigifmjaa
open Go.ChangeShapes Go.WideShapes Go.ChangeAt Go.RowKit
set_option linter.unusedVariables false
set_option linter.unusedSimpArgs false

structure Gi7E where
  u2 : Value
  cv : Value
  g1 : Option Addr
  g2 : Option Addr
  j1 : Nat
  j2 : Nat
  lo : Nat
  hi : Nat
  b6 : Nat
  b7 : Nat
def gi7_V (X : Mx) (code : Int) (c0 : Cu) (M0 : Mem) (e1 e2 : Option Addr) (f1 f2 : Nat) : Nat → Gi7E → Value := fun i e => match i with
  | 0 => cuV c0
  | 1 => cuV c0
  | 2 => memV (.slice e1 M0.rom.length f1) (.slice e2 M0.ram.length f2) M0.page M0.screen M0.locked
  | 3 => .tuple #[cpV X.c, memV (.slice e.g1 X.m.rom.length e.j1) (.slice e.g2 X.m.ram.length e.j2) X.m.page X.m.screen X.m.locked, e.cv, .int .i64 code]
  | 4 => .tuple #[cpV X.c, memV (.slice e.g1 X.m.rom.length e.j1) (.slice e.g2 X.m.ram.length e.j2) X.m.page X.m.screen X.m.locked, e.cv, .int .i64 code]
  | 5 => cpV X.c
  | 6 => memV (.slice e.g1 X.m.rom.length e.j1) (.slice e.g2 X.m.ram.length e.j2) X.m.page X.m.screen X.m.locked
  | 7 => e.cv
  | 8 => .int .i64 code
  | 9 => .pointer (some ⟨e.b6, 0, none⟩)
  | 10 => .pointer (some ⟨e.b7, 0, none⟩)
  | 13 => e.cv
  | 14 => .int .i64 code
  | _ => undef
def gi7_J (w1 : World) (X : Mx) (code : Int) (c0 : Cu) (M0 : Mem) (e1 e2 : Option Addr) (f1 f2 : Nat) (f : Nat → Bool) (e : Gi7E) (w : World) : Prop :=
  ((f 4 = true → f 3 = true) ∧ (f 5 = true → f 3 = true) ∧ (f 6 = true → f 3 = true) ∧ (f 7 = true → f 3 = true) ∧ (f 8 = true → f 3 = true) ∧ (f 13 = true → f 3 = true) ∧ (f 14 = true → f 3 = true)) ∧ (f 11 = true → f 3 = true ∧ f 9 = true) ∧ (f 12 = true → f 3 = true ∧ f 10 = true) ∧ WI w1 w (f 3) (f 9) (f 10) (f 11) (f 12) X (memV (.slice e.g1 X.m.rom.length e.j1) (.slice e.g2 X.m.ram.length e.j2) X.m.page X.m.screen X.m.locked) e.cv e.lo e.hi e.b6 e.b7 #[.slice e.g1 X.m.rom.length e.j1, .slice e.g2 X.m.ram.length e.j2, .int .i64 X.m.page, .int .i64 X.m.screen, .bool X.m.locked]
def gi7_O : Array Oper := #[({ dst := some 40, op := Op.load 40 (Operand.tmp 2), type := 40, pos := "exact.go:2133", after := #[], guard := none } : Oper), ({ dst := some 41, op := Op.call { callee := Callee.value (Operand.func 13), args := #[Operand.tmp 40], argTypes := #[40] }, type := 25, pos := "exact.go:2133", after := #[{ on := 0, ground := Ground.data }], guard := none } : Oper), ({ dst := some 42, op := Op.load 30 (Operand.tmp 10), type := 30, pos := "exact.go:2133", after := #[], guard := none } : Oper), ({ dst := some 43, op := Op.call { callee := Callee.value (Operand.func 7), args := #[Operand.tmp 41, Operand.tmp 42], argTypes := #[25, 30] }, type := 33, pos := "exact.go:2133", after := #[{ on := 1, ground := Ground.data }, { on := 2, ground := Ground.data }, { on := 1, ground := Ground.chain }], guard := none } : Oper), ({ dst := some 39, op := Op.move (Operand.tmp 43), type := 33, pos := "exact.go:2133", after := #[{ on := 3, ground := Ground.data }], guard := none } : Oper), ({ dst := some 44, op := Op.extract (Operand.tmp 39) 0, type := 25, pos := "exact.go:2133", after := #[{ on := 4, ground := Ground.data }], guard := none } : Oper), ({ dst := some 45, op := Op.extract (Operand.tmp 39) 1, type := 30, pos := "exact.go:2133", after := #[{ on := 4, ground := Ground.data }, { on := 11, ground := Ground.gcOnly Departure.lateStores }], guard := none } : Oper), ({ dst := some 46, op := Op.extract (Operand.tmp 39) 2, type := 32, pos := "exact.go:2133", after := #[{ on := 4, ground := Ground.data }, { on := 12, ground := Ground.gcOnly Departure.lateStores }], guard := none } : Oper), ({ dst := some 47, op := Op.extract (Operand.tmp 39) 3, type := 3, pos := "exact.go:2133", after := #[{ on := 4, ground := Ground.data }, { on := 13, ground := Ground.gcOnly Departure.lateStores }], guard := none } : Oper), ({ dst := some 11, op := Op.alloc 25, type := 0, pos := "exact.go:2133", after := #[], guard := none } : Oper), ({ dst := some 12, op := Op.alloc 30, type := 0, pos := "exact.go:2133", after := #[], guard := none } : Oper), ({ dst := none, op := Op.store 25 (Operand.tmp 11) (Operand.tmp 44), type := 0, pos := "exact.go:2133", after := #[{ on := 9, ground := Ground.data }, { on := 5, ground := Ground.data }, { on := 3, ground := Ground.chain }, { on := 0, ground := Ground.phase }, { on := 1, ground := Ground.phase }, { on := 2, ground := Ground.phase }, { on := 3, ground := Ground.phase }, { on := 4, ground := Ground.phase }, { on := 5, ground := Ground.phase }, { on := 6, ground := Ground.textOnly Departure.lateStores }, { on := 7, ground := Ground.textOnly Departure.lateStores }, { on := 8, ground := Ground.textOnly Departure.lateStores }, { on := 9, ground := Ground.phase }, { on := 10, ground := Ground.phase }], guard := none } : Oper), ({ dst := none, op := Op.store 30 (Operand.tmp 12) (Operand.tmp 45), type := 0, pos := "exact.go:2133", after := #[{ on := 10, ground := Ground.data }, { on := 6, ground := Ground.data }, { on := 11, ground := Ground.chain }, { on := 0, ground := Ground.phase }, { on := 1, ground := Ground.phase }, { on := 2, ground := Ground.phase }, { on := 3, ground := Ground.phase }, { on := 4, ground := Ground.phase }, { on := 5, ground := Ground.phase }, { on := 6, ground := Ground.phase }, { on := 7, ground := Ground.textOnly Departure.lateStores }, { on := 8, ground := Ground.textOnly Departure.lateStores }, { on := 9, ground := Ground.phase }, { on := 10, ground := Ground.phase }, { on := 11, ground := Ground.phase }], guard := none } : Oper), ({ dst := some 13, op := Op.assign (Operand.tmp 46), type := 32, pos := "exact.go:2133", after := #[{ on := 7, ground := Ground.data }, { on := 12, ground := Ground.chain }, { on := 0, ground := Ground.phase }, { on := 1, ground := Ground.phase }, { on := 2, ground := Ground.phase }, { on := 3, ground := Ground.phase }, { on := 4, ground := Ground.phase }, { on := 5, ground := Ground.phase }, { on := 6, ground := Ground.phase }, { on := 7, ground := Ground.phase }, { on := 8, ground := Ground.textOnly Departure.lateStores }, { on := 9, ground := Ground.phase }, { on := 10, ground := Ground.phase }, { on := 11, ground := Ground.phase }, { on := 12, ground := Ground.phase }], guard := none } : Oper), ({ dst := some 14, op := Op.assign (Operand.tmp 47), type := 3, pos := "exact.go:2133", after := #[{ on := 8, ground := Ground.data }, { on := 13, ground := Ground.chain }, { on := 0, ground := Ground.phase }, { on := 1, ground := Ground.phase }, { on := 2, ground := Ground.phase }, { on := 3, ground := Ground.phase }, { on := 4, ground := Ground.phase }, { on := 5, ground := Ground.phase }, { on := 6, ground := Ground.phase }, { on := 7, ground := Ground.phase }, { on := 8, ground := Ground.phase }, { on := 9, ground := Ground.phase }, { on := 10, ground := Ground.phase }, { on := 11, ground := Ground.phase }, { on := 12, ground := Ground.phase }, { on := 13, ground := Ground.phase }], guard := none } : Oper)]
theorem gi7_no {s : Nat} (h : ([40, 41, 42, 43, 39, 44, 45, 46, 47, 11, 12, 13, 14] : List Nat).contains s = false) : ∀ i, dstAt gi7_O i ≠ some s := by
  intro i hi
  have hl : i < 15 := by
    rcases Nat.lt_or_ge i 15 with h1 | h1
    · exact h1
    · unfold dstAt at hi
      rw [Array.getElem?_eq_none (by exact h1)] at hi
      cases hi
  rcases (by omega : i = 0 ∨ i = 1 ∨ i = 2 ∨ i = 3 ∨ i = 4 ∨ i = 5 ∨ i = 6 ∨ i = 7 ∨ i = 8 ∨ i = 9 ∨ i = 10 ∨ i = 11 ∨ i = 12 ∨ i = 13 ∨ i = 14) with rfl | rfl | rfl | rfl | rfl | rfl | rfl | rfl | rfl | rfl | rfl | rfl | rfl | rfl | rfl
  all_goals first
    | (cases hi; simp at h)
    | cases hi
theorem gi7_va (X : Mx) (code : Int) (c0 : Cu) (M0 : Mem) (e1 e2 : Option Addr) (f1 f2 : Nat) {f : Nat → Bool} (e e' : Gi7E) (q_u2 : e'.u2 = e.u2) (q_cv : e'.cv = e.cv) (q_g1 : e'.g1 = e.g1) (q_g2 : e'.g2 = e.g2) (q_j1 : e'.j1 = e.j1) (q_j2 : e'.j2 = e.j2) (q_b7 : e'.b7 = e.b7) (hn : f 9 = false) : ∀ j, f j = true → gi7_V X code c0 M0 e1 e2 f1 f2 j e' = gi7_V X code c0 M0 e1 e2 f1 f2 j e := by
  intro j hj
  unfold gi7_V
  split
  · rfl
  · rfl
  · rfl
  · rw [q_cv, q_g1, q_g2, q_j1, q_j2]
  · rw [q_cv, q_g1, q_g2, q_j1, q_j2]
  · rfl
  · rw [q_g1, q_g2, q_j1, q_j2]
  · rw [q_cv]
  · rfl
  · rw [hn] at hj; cases hj
  · rw [q_b7]
  · rw [q_cv]
  · rfl
  · rfl
theorem gi7_vb (X : Mx) (code : Int) (c0 : Cu) (M0 : Mem) (e1 e2 : Option Addr) (f1 f2 : Nat) {f : Nat → Bool} (e e' : Gi7E) (q_u2 : e'.u2 = e.u2) (q_cv : e'.cv = e.cv) (q_g1 : e'.g1 = e.g1) (q_g2 : e'.g2 = e.g2) (q_j1 : e'.j1 = e.j1) (q_j2 : e'.j2 = e.j2) (q_b6 : e'.b6 = e.b6) (hn : f 10 = false) : ∀ j, f j = true → gi7_V X code c0 M0 e1 e2 f1 f2 j e' = gi7_V X code c0 M0 e1 e2 f1 f2 j e := by
  intro j hj
  unfold gi7_V
  split
  · rfl
  · rfl
  · rfl
  · rw [q_cv, q_g1, q_g2, q_j1, q_j2]
  · rw [q_cv, q_g1, q_g2, q_j1, q_j2]
  · rfl
  · rw [q_g1, q_g2, q_j1, q_j2]
  · rw [q_cv]
  · rfl
  · rw [q_b6]
  · rw [hn] at hj; cases hj
  · rw [q_cv]
  · rfl
  · rfl
theorem gi7_vc (X : Mx) (code : Int) (c0 : Cu) (M0 : Mem) (e1 e2 : Option Addr) (f1 f2 : Nat) {f : Nat → Bool} (e e' : Gi7E) (q_u2 : e'.u2 = e.u2) (q_b6 : e'.b6 = e.b6) (q_b7 : e'.b7 = e.b7) (hn : f 3 = false) (hla : (f 4 = true → f 3 = true) ∧ (f 5 = true → f 3 = true) ∧ (f 6 = true → f 3 = true) ∧ (f 7 = true → f 3 = true) ∧ (f 8 = true → f 3 = true) ∧ (f 13 = true → f 3 = true) ∧ (f 14 = true → f 3 = true)) : ∀ j, f j = true → gi7_V X code c0 M0 e1 e2 f1 f2 j e' = gi7_V X code c0 M0 e1 e2 f1 f2 j e := by
  intro j hj
  unfold gi7_V
  split
  · rfl
  · rfl
  · rfl
  · rw [hn] at hj; cases hj
  · have h9 := hla.1 hj; rw [hn] at h9; cases h9
  · rfl
  · have h9 := hla.2.2.1 hj; rw [hn] at h9; cases h9
  · have h9 := hla.2.2.2.1 hj; rw [hn] at h9; cases h9
  · rfl
  · rw [q_b6]
  · rw [q_b7]
  · have h9 := hla.2.2.2.2.2.1 hj; rw [hn] at h9; cases h9
  · rfl
  · rfl
set_option maxRecDepth 100000 in
set_option maxHeartbeats 2000000 in
theorem gi7_s0 (A : Act) (w1 : World) (Q : Exit → Act → World → Prop) (X : Mx) (code : Int) (c0 : Cu) (M0 : Mem) (e1 e2 : Option Addr) (f1 f2 : Nat) (bc bm : Nat)
    (hc : A.tmps.getD 2 undef = .pointer (some ⟨bc, 0, none⟩)) (hm : A.tmps.getD 10 undef = .pointer (some ⟨bm, 0, none⟩))
    (qc : Blk w1 bc (cuA c0)) (qm : Blk w1 bm #[.slice e1 M0.rom.length f1, .slice e2 M0.ram.length f2, .int .i64 M0.page, .int .i64 M0.screen, .bool M0.locked]) (htc : ∀ W', Calls Try.prog 13 #[cuV c0] W' fun e w' => e = .returned (cuV c0) ∧ Below W'.heap.size W' w')
    (hmr : ∀ W', Below w1.heap.size w1 W' → MemR W' (memV (.slice e1 M0.rom.length f1) (.slice e2 M0.ram.length f2) M0.page M0.screen M0.locked) M0)
    (hF : ∀ W' v, Below w1.heap.size w1 W' → MemR W' v M0 → Calls Try.prog 7 #[cuV c0, v] W' fun e w' => ∃ u cv, e = .returned (.tuple #[cpV X.c, u, cv, .int .i64 code]) ∧ Ans W' w' X u cv)
    (f : Nat → Bool) (e : Gi7E) (a : Act) (w : World) (hun : f 0 = false) (hdep : ∀ d ∈ (({ dst := some 40, op := Op.load 40 (Operand.tmp 2), type := 40, pos := "exact.go:2133", after := #[], guard := none } : Oper)).after, Region.binds .any d = true → f d.on = true) (hJ : gi7_J w1 X code c0 M0 e1 e2 f1 f2 f e w) (hFr : Fr gi7_O A f (fun j => gi7_V X code c0 M0 e1 e2 f1 f2 j e) a)
    (K : Act → World → Prop) (hK : Hid (∀ v e' w', v = gi7_V X code c0 M0 e1 e2 f1 f2 0 e' → (∀ j, f j = true → gi7_V X code c0 M0 e1 e2 f1 f2 j e' = gi7_V X code c0 M0 e1 e2 f1 f2 j e) → gi7_J w1 X code c0 M0 e1 e2 f1 f2 (fun j => j == 0 || f j) e' w' → K (a.put (({ dst := some 40, op := Op.load 40 (Operand.tmp 2), type := 40, pos := "exact.go:2133", after := #[], guard := none } : Oper)).dst v) w')) :
    if Region.wanted (({ dst := some 40, op := Op.load 40 (Operand.tmp 2), type := 40, pos := "exact.go:2133", after := #[], guard := none } : Oper)) (yielded gi7_O a.tmps) = true then Oper.wp Try.prog (({ dst := some 40, op := Op.load 40 (Operand.tmp 2), type := 40, pos := "exact.go:2133", after := #[], guard := none } : Oper)) a w K Q else K (a.put (({ dst := some 40, op := Op.load 40 (Operand.tmp 2), type := 40, pos := "exact.go:2133", after := #[], guard := none } : Oper)).dst undef) w := by
  obtain ⟨hla, oA, oB, hW⟩ := hJ
  have v2 := (hFr.old 2 (gi7_no (by decide))).trans hc
  clear hFr
  replace hla := hid hla
  replace oA := hid oA
  replace oB := hid oB
  replace hW := hid hW
  have y := (qc.below hW.out.bel qc.lt).cell
  clear hdep
  go_simp
  exact hK.out _ e _ rfl (fun _ _ => rfl) ⟨hla.out, oA.out, oB.out, hW.out⟩
set_option maxRecDepth 100000 in
set_option maxHeartbeats 2000000 in
theorem gi7_s1 (A : Act) (w1 : World) (Q : Exit → Act → World → Prop) (X : Mx) (code : Int) (c0 : Cu) (M0 : Mem) (e1 e2 : Option Addr) (f1 f2 : Nat) (bc bm : Nat)
    (hc : A.tmps.getD 2 undef = .pointer (some ⟨bc, 0, none⟩)) (hm : A.tmps.getD 10 undef = .pointer (some ⟨bm, 0, none⟩))
    (qc : Blk w1 bc (cuA c0)) (qm : Blk w1 bm #[.slice e1 M0.rom.length f1, .slice e2 M0.ram.length f2, .int .i64 M0.page, .int .i64 M0.screen, .bool M0.locked]) (htc : ∀ W', Calls Try.prog 13 #[cuV c0] W' fun e w' => e = .returned (cuV c0) ∧ Below W'.heap.size W' w')
    (hmr : ∀ W', Below w1.heap.size w1 W' → MemR W' (memV (.slice e1 M0.rom.length f1) (.slice e2 M0.ram.length f2) M0.page M0.screen M0.locked) M0)
    (hF : ∀ W' v, Below w1.heap.size w1 W' → MemR W' v M0 → Calls Try.prog 7 #[cuV c0, v] W' fun e w' => ∃ u cv, e = .returned (.tuple #[cpV X.c, u, cv, .int .i64 code]) ∧ Ans W' w' X u cv)
    (f : Nat → Bool) (e : Gi7E) (a : Act) (w : World) (hun : f 1 = false) (hdep : ∀ d ∈ (({ dst := some 41, op := Op.call { callee := Callee.value (Operand.func 13), args := #[Operand.tmp 40], argTypes := #[40] }, type := 25, pos := "exact.go:2133", after := #[{ on := 0, ground := Ground.data }], guard := none } : Oper)).after, Region.binds .any d = true → f d.on = true) (hJ : gi7_J w1 X code c0 M0 e1 e2 f1 f2 f e w) (hFr : Fr gi7_O A f (fun j => gi7_V X code c0 M0 e1 e2 f1 f2 j e) a)
    (K : Act → World → Prop) (hK : Hid (∀ v e' w', v = gi7_V X code c0 M0 e1 e2 f1 f2 1 e' → (∀ j, f j = true → gi7_V X code c0 M0 e1 e2 f1 f2 j e' = gi7_V X code c0 M0 e1 e2 f1 f2 j e) → gi7_J w1 X code c0 M0 e1 e2 f1 f2 (fun j => j == 1 || f j) e' w' → K (a.put (({ dst := some 41, op := Op.call { callee := Callee.value (Operand.func 13), args := #[Operand.tmp 40], argTypes := #[40] }, type := 25, pos := "exact.go:2133", after := #[{ on := 0, ground := Ground.data }], guard := none } : Oper)).dst v) w')) :
    if Region.wanted (({ dst := some 41, op := Op.call { callee := Callee.value (Operand.func 13), args := #[Operand.tmp 40], argTypes := #[40] }, type := 25, pos := "exact.go:2133", after := #[{ on := 0, ground := Ground.data }], guard := none } : Oper)) (yielded gi7_O a.tmps) = true then Oper.wp Try.prog (({ dst := some 41, op := Op.call { callee := Callee.value (Operand.func 13), args := #[Operand.tmp 40], argTypes := #[40] }, type := 25, pos := "exact.go:2133", after := #[{ on := 0, ground := Ground.data }], guard := none } : Oper)) a w K Q else K (a.put (({ dst := some 41, op := Op.call { callee := Callee.value (Operand.func 13), args := #[Operand.tmp 40], argTypes := #[40] }, type := 25, pos := "exact.go:2133", after := #[{ on := 0, ground := Ground.data }], guard := none } : Oper)).dst undef) w := by
  obtain ⟨hla, oA, oB, hW⟩ := hJ
  have k0 : f 0 = true := hdep { on := 0, ground := .data } (by simp) rfl
  have v40 : a.tmps.getD 40 undef = cuV c0 := hFr.new 0 40 rfl k0
  clear hFr
  replace hla := hid hla
  replace oA := hid oA
  replace oB := hid oB
  replace hW := hid hW
  clear hdep
  go_simp
  go_at_call 13
  refine (htc _).mono ?_
  rintro e' w' ⟨rfl, hb⟩
  replace hb := hid hb
  go_simp
  exact hK.out _ e _ rfl (fun _ _ => rfl) ⟨hla.out, oA.out, oB.out, hW.out.below hb.out⟩
set_option maxRecDepth 100000 in
set_option maxHeartbeats 2000000 in
theorem gi7_s2 (A : Act) (w1 : World) (Q : Exit → Act → World → Prop) (X : Mx) (code : Int) (c0 : Cu) (M0 : Mem) (e1 e2 : Option Addr) (f1 f2 : Nat) (bc bm : Nat)
    (hc : A.tmps.getD 2 undef = .pointer (some ⟨bc, 0, none⟩)) (hm : A.tmps.getD 10 undef = .pointer (some ⟨bm, 0, none⟩))
    (qc : Blk w1 bc (cuA c0)) (qm : Blk w1 bm #[.slice e1 M0.rom.length f1, .slice e2 M0.ram.length f2, .int .i64 M0.page, .int .i64 M0.screen, .bool M0.locked]) (htc : ∀ W', Calls Try.prog 13 #[cuV c0] W' fun e w' => e = .returned (cuV c0) ∧ Below W'.heap.size W' w')
    (hmr : ∀ W', Below w1.heap.size w1 W' → MemR W' (memV (.slice e1 M0.rom.length f1) (.slice e2 M0.ram.length f2) M0.page M0.screen M0.locked) M0)
    (hF : ∀ W' v, Below w1.heap.size w1 W' → MemR W' v M0 → Calls Try.prog 7 #[cuV c0, v] W' fun e w' => ∃ u cv, e = .returned (.tuple #[cpV X.c, u, cv, .int .i64 code]) ∧ Ans W' w' X u cv)
    (f : Nat → Bool) (e : Gi7E) (a : Act) (w : World) (hun : f 2 = false) (hdep : ∀ d ∈ (({ dst := some 42, op := Op.load 30 (Operand.tmp 10), type := 30, pos := "exact.go:2133", after := #[], guard := none } : Oper)).after, Region.binds .any d = true → f d.on = true) (hJ : gi7_J w1 X code c0 M0 e1 e2 f1 f2 f e w) (hFr : Fr gi7_O A f (fun j => gi7_V X code c0 M0 e1 e2 f1 f2 j e) a)
    (K : Act → World → Prop) (hK : Hid (∀ v e' w', v = gi7_V X code c0 M0 e1 e2 f1 f2 2 e' → (∀ j, f j = true → gi7_V X code c0 M0 e1 e2 f1 f2 j e' = gi7_V X code c0 M0 e1 e2 f1 f2 j e) → gi7_J w1 X code c0 M0 e1 e2 f1 f2 (fun j => j == 2 || f j) e' w' → K (a.put (({ dst := some 42, op := Op.load 30 (Operand.tmp 10), type := 30, pos := "exact.go:2133", after := #[], guard := none } : Oper)).dst v) w')) :
    if Region.wanted (({ dst := some 42, op := Op.load 30 (Operand.tmp 10), type := 30, pos := "exact.go:2133", after := #[], guard := none } : Oper)) (yielded gi7_O a.tmps) = true then Oper.wp Try.prog (({ dst := some 42, op := Op.load 30 (Operand.tmp 10), type := 30, pos := "exact.go:2133", after := #[], guard := none } : Oper)) a w K Q else K (a.put (({ dst := some 42, op := Op.load 30 (Operand.tmp 10), type := 30, pos := "exact.go:2133", after := #[], guard := none } : Oper)).dst undef) w := by
  obtain ⟨hla, oA, oB, hW⟩ := hJ
  have v10 := (hFr.old 10 (gi7_no (by decide))).trans hm
  clear hFr
  replace hla := hid hla
  replace oA := hid oA
  replace oB := hid oB
  replace hW := hid hW
  have y := (qm.below hW.out.bel qm.lt).cell
  clear hdep
  go_simp
  exact hK.out _ e _ rfl (fun _ _ => rfl) ⟨hla.out, oA.out, oB.out, hW.out⟩
set_option maxRecDepth 100000 in
set_option maxHeartbeats 2000000 in
theorem gi7_s3 (A : Act) (w1 : World) (Q : Exit → Act → World → Prop) (X : Mx) (code : Int) (c0 : Cu) (M0 : Mem) (e1 e2 : Option Addr) (f1 f2 : Nat) (bc bm : Nat)
    (hc : A.tmps.getD 2 undef = .pointer (some ⟨bc, 0, none⟩)) (hm : A.tmps.getD 10 undef = .pointer (some ⟨bm, 0, none⟩))
    (qc : Blk w1 bc (cuA c0)) (qm : Blk w1 bm #[.slice e1 M0.rom.length f1, .slice e2 M0.ram.length f2, .int .i64 M0.page, .int .i64 M0.screen, .bool M0.locked]) (htc : ∀ W', Calls Try.prog 13 #[cuV c0] W' fun e w' => e = .returned (cuV c0) ∧ Below W'.heap.size W' w')
    (hmr : ∀ W', Below w1.heap.size w1 W' → MemR W' (memV (.slice e1 M0.rom.length f1) (.slice e2 M0.ram.length f2) M0.page M0.screen M0.locked) M0)
    (hF : ∀ W' v, Below w1.heap.size w1 W' → MemR W' v M0 → Calls Try.prog 7 #[cuV c0, v] W' fun e w' => ∃ u cv, e = .returned (.tuple #[cpV X.c, u, cv, .int .i64 code]) ∧ Ans W' w' X u cv)
    (f : Nat → Bool) (e : Gi7E) (a : Act) (w : World) (hun : f 3 = false) (hdep : ∀ d ∈ (({ dst := some 43, op := Op.call { callee := Callee.value (Operand.func 7), args := #[Operand.tmp 41, Operand.tmp 42], argTypes := #[25, 30] }, type := 33, pos := "exact.go:2133", after := #[{ on := 1, ground := Ground.data }, { on := 2, ground := Ground.data }, { on := 1, ground := Ground.chain }], guard := none } : Oper)).after, Region.binds .any d = true → f d.on = true) (hJ : gi7_J w1 X code c0 M0 e1 e2 f1 f2 f e w) (hFr : Fr gi7_O A f (fun j => gi7_V X code c0 M0 e1 e2 f1 f2 j e) a)
    (K : Act → World → Prop) (hK : Hid (∀ v e' w', v = gi7_V X code c0 M0 e1 e2 f1 f2 3 e' → (∀ j, f j = true → gi7_V X code c0 M0 e1 e2 f1 f2 j e' = gi7_V X code c0 M0 e1 e2 f1 f2 j e) → gi7_J w1 X code c0 M0 e1 e2 f1 f2 (fun j => j == 3 || f j) e' w' → K (a.put (({ dst := some 43, op := Op.call { callee := Callee.value (Operand.func 7), args := #[Operand.tmp 41, Operand.tmp 42], argTypes := #[25, 30] }, type := 33, pos := "exact.go:2133", after := #[{ on := 1, ground := Ground.data }, { on := 2, ground := Ground.data }, { on := 1, ground := Ground.chain }], guard := none } : Oper)).dst v) w')) :
    if Region.wanted (({ dst := some 43, op := Op.call { callee := Callee.value (Operand.func 7), args := #[Operand.tmp 41, Operand.tmp 42], argTypes := #[25, 30] }, type := 33, pos := "exact.go:2133", after := #[{ on := 1, ground := Ground.data }, { on := 2, ground := Ground.data }, { on := 1, ground := Ground.chain }], guard := none } : Oper)) (yielded gi7_O a.tmps) = true then Oper.wp Try.prog (({ dst := some 43, op := Op.call { callee := Callee.value (Operand.func 7), args := #[Operand.tmp 41, Operand.tmp 42], argTypes := #[25, 30] }, type := 33, pos := "exact.go:2133", after := #[{ on := 1, ground := Ground.data }, { on := 2, ground := Ground.data }, { on := 1, ground := Ground.chain }], guard := none } : Oper)) a w K Q else K (a.put (({ dst := some 43, op := Op.call { callee := Callee.value (Operand.func 7), args := #[Operand.tmp 41, Operand.tmp 42], argTypes := #[25, 30] }, type := 33, pos := "exact.go:2133", after := #[{ on := 1, ground := Ground.data }, { on := 2, ground := Ground.data }, { on := 1, ground := Ground.chain }], guard := none } : Oper)).dst undef) w := by
  obtain ⟨hla, oA, oB, hW⟩ := hJ
  have k1 : f 1 = true := hdep { on := 1, ground := .data } (by simp) rfl
  have v41 : a.tmps.getD 41 undef = cuV c0 := hFr.new 1 41 rfl k1
  have k2 : f 2 = true := hdep { on := 2, ground := .data } (by simp) rfl
  have v42 : a.tmps.getD 42 undef = memV (.slice e1 M0.rom.length f1) (.slice e2 M0.ram.length f2) M0.page M0.screen M0.locked := hFr.new 2 42 rfl k2
  clear hFr
  replace hla := hid hla
  replace oA := hid oA
  replace oB := hid oB
  replace hW := hid hW
  have fA : f 11 = false := by
    cases hq : f 11
    · rfl
    · have := (oA.out hq).1
      rw [hun] at this
      cases this
  have fB : f 12 = false := by
    cases hq : f 12
    · rfl
    · have := (oB.out hq).1
      rw [hun] at this
      cases this
  have hmv := hmr _ hW.out.bel
  rw [hun, fA, fB] at hW
  clear hdep
  go_simp
  go_at_call 7
  refine (hF _ _ hW.out.bel hmv).mono ?_
  rintro e' w' ⟨u, cv', rfl, hA⟩
  obtain ⟨⟨_, _, hmo, _⟩, _⟩ := id hA
  obtain ⟨g1', j1', g2', j2', rfl, _, _⟩ := hmo.reads.form
  obtain ⟨lo', hi', hW'⟩ := hW.out.call #[.slice g1' X.m.rom.length j1', .slice g2' X.m.ram.length j2', .int .i64 X.m.page, .int .i64 X.m.screen, .bool X.m.locked] hA
  replace hW' := hid hW'
  clear hA hmo
  go_simp
  exact hK.out _ ⟨e.u2, cv', g1', g2', j1', j2', lo', hi', e.b6, e.b7⟩ _ rfl (gi7_vc X code c0 M0 e1 e2 f1 f2 e _ rfl rfl rfl hun hla.out) ⟨⟨fun _ => rfl, fun _ => rfl, fun _ => rfl, fun _ => rfl, fun _ => rfl, fun _ => rfl, fun _ => rfl⟩, fun h => ⟨rfl, (oA.out h).2⟩, fun h => ⟨rfl, (oB.out h).2⟩, (by show WI w1 w' true (f 9) (f 10) (f 11) (f 12) X _ _ _ _ _ _ _; rw [fA, fB]; exact hW'.out)⟩
set_option maxRecDepth 100000 in
set_option maxHeartbeats 2000000 in
theorem gi7_s4 (A : Act) (w1 : World) (Q : Exit → Act → World → Prop) (X : Mx) (code : Int) (c0 : Cu) (M0 : Mem) (e1 e2 : Option Addr) (f1 f2 : Nat) (bc bm : Nat)
    (hc : A.tmps.getD 2 undef = .pointer (some ⟨bc, 0, none⟩)) (hm : A.tmps.getD 10 undef = .pointer (some ⟨bm, 0, none⟩))
    (qc : Blk w1 bc (cuA c0)) (qm : Blk w1 bm #[.slice e1 M0.rom.length f1, .slice e2 M0.ram.length f2, .int .i64 M0.page, .int .i64 M0.screen, .bool M0.locked]) (htc : ∀ W', Calls Try.prog 13 #[cuV c0] W' fun e w' => e = .returned (cuV c0) ∧ Below W'.heap.size W' w')
    (hmr : ∀ W', Below w1.heap.size w1 W' → MemR W' (memV (.slice e1 M0.rom.length f1) (.slice e2 M0.ram.length f2) M0.page M0.screen M0.locked) M0)
    (hF : ∀ W' v, Below w1.heap.size w1 W' → MemR W' v M0 → Calls Try.prog 7 #[cuV c0, v] W' fun e w' => ∃ u cv, e = .returned (.tuple #[cpV X.c, u, cv, .int .i64 code]) ∧ Ans W' w' X u cv)
    (f : Nat → Bool) (e : Gi7E) (a : Act) (w : World) (hun : f 4 = false) (hdep : ∀ d ∈ (({ dst := some 39, op := Op.move (Operand.tmp 43), type := 33, pos := "exact.go:2133", after := #[{ on := 3, ground := Ground.data }], guard := none } : Oper)).after, Region.binds .any d = true → f d.on = true) (hJ : gi7_J w1 X code c0 M0 e1 e2 f1 f2 f e w) (hFr : Fr gi7_O A f (fun j => gi7_V X code c0 M0 e1 e2 f1 f2 j e) a)
    (K : Act → World → Prop) (hK : Hid (∀ v e' w', v = gi7_V X code c0 M0 e1 e2 f1 f2 4 e' → (∀ j, f j = true → gi7_V X code c0 M0 e1 e2 f1 f2 j e' = gi7_V X code c0 M0 e1 e2 f1 f2 j e) → gi7_J w1 X code c0 M0 e1 e2 f1 f2 (fun j => j == 4 || f j) e' w' → K (a.put (({ dst := some 39, op := Op.move (Operand.tmp 43), type := 33, pos := "exact.go:2133", after := #[{ on := 3, ground := Ground.data }], guard := none } : Oper)).dst v) w')) :
    if Region.wanted (({ dst := some 39, op := Op.move (Operand.tmp 43), type := 33, pos := "exact.go:2133", after := #[{ on := 3, ground := Ground.data }], guard := none } : Oper)) (yielded gi7_O a.tmps) = true then Oper.wp Try.prog (({ dst := some 39, op := Op.move (Operand.tmp 43), type := 33, pos := "exact.go:2133", after := #[{ on := 3, ground := Ground.data }], guard := none } : Oper)) a w K Q else K (a.put (({ dst := some 39, op := Op.move (Operand.tmp 43), type := 33, pos := "exact.go:2133", after := #[{ on := 3, ground := Ground.data }], guard := none } : Oper)).dst undef) w := by
  obtain ⟨hla, oA, oB, hW⟩ := hJ
  have k3 : f 3 = true := hdep { on := 3, ground := .data } (by simp) rfl
  have v43 : a.tmps.getD 43 undef = .tuple #[cpV X.c, memV (.slice e.g1 X.m.rom.length e.j1) (.slice e.g2 X.m.ram.length e.j2) X.m.page X.m.screen X.m.locked, e.cv, .int .i64 code] := hFr.new 3 43 rfl k3
  clear hFr
  replace hla := hid hla
  replace oA := hid oA
  replace oB := hid oB
  replace hW := hid hW
  have kc : f 3 = true := k3
  clear hdep
  go_simp
  exact hK.out _ e _ rfl (fun _ _ => rfl) ⟨⟨fun _ => kc, hla.out.2.1, hla.out.2.2.1, hla.out.2.2.2.1, hla.out.2.2.2.2.1, hla.out.2.2.2.2.2.1, hla.out.2.2.2.2.2.2⟩, oA.out, oB.out, hW.out⟩
set_option maxRecDepth 100000 in
set_option maxHeartbeats 2000000 in
theorem gi7_s5 (A : Act) (w1 : World) (Q : Exit → Act → World → Prop) (X : Mx) (code : Int) (c0 : Cu) (M0 : Mem) (e1 e2 : Option Addr) (f1 f2 : Nat) (bc bm : Nat)
    (hc : A.tmps.getD 2 undef = .pointer (some ⟨bc, 0, none⟩)) (hm : A.tmps.getD 10 undef = .pointer (some ⟨bm, 0, none⟩))
    (qc : Blk w1 bc (cuA c0)) (qm : Blk w1 bm #[.slice e1 M0.rom.length f1, .slice e2 M0.ram.length f2, .int .i64 M0.page, .int .i64 M0.screen, .bool M0.locked]) (htc : ∀ W', Calls Try.prog 13 #[cuV c0] W' fun e w' => e = .returned (cuV c0) ∧ Below W'.heap.size W' w')
    (hmr : ∀ W', Below w1.heap.size w1 W' → MemR W' (memV (.slice e1 M0.rom.length f1) (.slice e2 M0.ram.length f2) M0.page M0.screen M0.locked) M0)
    (hF : ∀ W' v, Below w1.heap.size w1 W' → MemR W' v M0 → Calls Try.prog 7 #[cuV c0, v] W' fun e w' => ∃ u cv, e = .returned (.tuple #[cpV X.c, u, cv, .int .i64 code]) ∧ Ans W' w' X u cv)
    (f : Nat → Bool) (e : Gi7E) (a : Act) (w : World) (hun : f 5 = false) (hdep : ∀ d ∈ (({ dst := some 44, op := Op.extract (Operand.tmp 39) 0, type := 25, pos := "exact.go:2133", after := #[{ on := 4, ground := Ground.data }], guard := none } : Oper)).after, Region.binds .any d = true → f d.on = true) (hJ : gi7_J w1 X code c0 M0 e1 e2 f1 f2 f e w) (hFr : Fr gi7_O A f (fun j => gi7_V X code c0 M0 e1 e2 f1 f2 j e) a)
    (K : Act → World → Prop) (hK : Hid (∀ v e' w', v = gi7_V X code c0 M0 e1 e2 f1 f2 5 e' → (∀ j, f j = true → gi7_V X code c0 M0 e1 e2 f1 f2 j e' = gi7_V X code c0 M0 e1 e2 f1 f2 j e) → gi7_J w1 X code c0 M0 e1 e2 f1 f2 (fun j => j == 5 || f j) e' w' → K (a.put (({ dst := some 44, op := Op.extract (Operand.tmp 39) 0, type := 25, pos := "exact.go:2133", after := #[{ on := 4, ground := Ground.data }], guard := none } : Oper)).dst v) w')) :
    if Region.wanted (({ dst := some 44, op := Op.extract (Operand.tmp 39) 0, type := 25, pos := "exact.go:2133", after := #[{ on := 4, ground := Ground.data }], guard := none } : Oper)) (yielded gi7_O a.tmps) = true then Oper.wp Try.prog (({ dst := some 44, op := Op.extract (Operand.tmp 39) 0, type := 25, pos := "exact.go:2133", after := #[{ on := 4, ground := Ground.data }], guard := none } : Oper)) a w K Q else K (a.put (({ dst := some 44, op := Op.extract (Operand.tmp 39) 0, type := 25, pos := "exact.go:2133", after := #[{ on := 4, ground := Ground.data }], guard := none } : Oper)).dst undef) w := by
  obtain ⟨hla, oA, oB, hW⟩ := hJ
  have k4 : f 4 = true := hdep { on := 4, ground := .data } (by simp) rfl
  have v39 : a.tmps.getD 39 undef = .tuple #[cpV X.c, memV (.slice e.g1 X.m.rom.length e.j1) (.slice e.g2 X.m.ram.length e.j2) X.m.page X.m.screen X.m.locked, e.cv, .int .i64 code] := hFr.new 4 39 rfl k4
  clear hFr
  replace hla := hid hla
  replace oA := hid oA
  replace oB := hid oB
  replace hW := hid hW
  have kc : f 3 = true := hla.out.1 k4
  clear hdep
  go_simp
  exact hK.out _ e _ rfl (fun _ _ => rfl) ⟨⟨hla.out.1, fun _ => kc, hla.out.2.2.1, hla.out.2.2.2.1, hla.out.2.2.2.2.1, hla.out.2.2.2.2.2.1, hla.out.2.2.2.2.2.2⟩, oA.out, oB.out, hW.out⟩
set_option maxRecDepth 100000 in
set_option maxHeartbeats 2000000 in
theorem gi7_s6 (A : Act) (w1 : World) (Q : Exit → Act → World → Prop) (X : Mx) (code : Int) (c0 : Cu) (M0 : Mem) (e1 e2 : Option Addr) (f1 f2 : Nat) (bc bm : Nat)
    (hc : A.tmps.getD 2 undef = .pointer (some ⟨bc, 0, none⟩)) (hm : A.tmps.getD 10 undef = .pointer (some ⟨bm, 0, none⟩))
    (qc : Blk w1 bc (cuA c0)) (qm : Blk w1 bm #[.slice e1 M0.rom.length f1, .slice e2 M0.ram.length f2, .int .i64 M0.page, .int .i64 M0.screen, .bool M0.locked]) (htc : ∀ W', Calls Try.prog 13 #[cuV c0] W' fun e w' => e = .returned (cuV c0) ∧ Below W'.heap.size W' w')
    (hmr : ∀ W', Below w1.heap.size w1 W' → MemR W' (memV (.slice e1 M0.rom.length f1) (.slice e2 M0.ram.length f2) M0.page M0.screen M0.locked) M0)
    (hF : ∀ W' v, Below w1.heap.size w1 W' → MemR W' v M0 → Calls Try.prog 7 #[cuV c0, v] W' fun e w' => ∃ u cv, e = .returned (.tuple #[cpV X.c, u, cv, .int .i64 code]) ∧ Ans W' w' X u cv)
    (f : Nat → Bool) (e : Gi7E) (a : Act) (w : World) (hun : f 6 = false) (hdep : ∀ d ∈ (({ dst := some 45, op := Op.extract (Operand.tmp 39) 1, type := 30, pos := "exact.go:2133", after := #[{ on := 4, ground := Ground.data }, { on := 11, ground := Ground.gcOnly Departure.lateStores }], guard := none } : Oper)).after, Region.binds .any d = true → f d.on = true) (hJ : gi7_J w1 X code c0 M0 e1 e2 f1 f2 f e w) (hFr : Fr gi7_O A f (fun j => gi7_V X code c0 M0 e1 e2 f1 f2 j e) a)
    (K : Act → World → Prop) (hK : Hid (∀ v e' w', v = gi7_V X code c0 M0 e1 e2 f1 f2 6 e' → (∀ j, f j = true → gi7_V X code c0 M0 e1 e2 f1 f2 j e' = gi7_V X code c0 M0 e1 e2 f1 f2 j e) → gi7_J w1 X code c0 M0 e1 e2 f1 f2 (fun j => j == 6 || f j) e' w' → K (a.put (({ dst := some 45, op := Op.extract (Operand.tmp 39) 1, type := 30, pos := "exact.go:2133", after := #[{ on := 4, ground := Ground.data }, { on := 11, ground := Ground.gcOnly Departure.lateStores }], guard := none } : Oper)).dst v) w')) :
    if Region.wanted (({ dst := some 45, op := Op.extract (Operand.tmp 39) 1, type := 30, pos := "exact.go:2133", after := #[{ on := 4, ground := Ground.data }, { on := 11, ground := Ground.gcOnly Departure.lateStores }], guard := none } : Oper)) (yielded gi7_O a.tmps) = true then Oper.wp Try.prog (({ dst := some 45, op := Op.extract (Operand.tmp 39) 1, type := 30, pos := "exact.go:2133", after := #[{ on := 4, ground := Ground.data }, { on := 11, ground := Ground.gcOnly Departure.lateStores }], guard := none } : Oper)) a w K Q else K (a.put (({ dst := some 45, op := Op.extract (Operand.tmp 39) 1, type := 30, pos := "exact.go:2133", after := #[{ on := 4, ground := Ground.data }, { on := 11, ground := Ground.gcOnly Departure.lateStores }], guard := none } : Oper)).dst undef) w := by
  obtain ⟨hla, oA, oB, hW⟩ := hJ
  have k4 : f 4 = true := hdep { on := 4, ground := .data } (by simp) rfl
  have v39 : a.tmps.getD 39 undef = .tuple #[cpV X.c, memV (.slice e.g1 X.m.rom.length e.j1) (.slice e.g2 X.m.ram.length e.j2) X.m.page X.m.screen X.m.locked, e.cv, .int .i64 code] := hFr.new 4 39 rfl k4
  clear hFr
  replace hla := hid hla
  replace oA := hid oA
  replace oB := hid oB
  replace hW := hid hW
  have kc : f 3 = true := hla.out.1 k4
  clear hdep
  go_simp
  exact hK.out _ e _ rfl (fun _ _ => rfl) ⟨⟨hla.out.1, hla.out.2.1, fun _ => kc, hla.out.2.2.2.1, hla.out.2.2.2.2.1, hla.out.2.2.2.2.2.1, hla.out.2.2.2.2.2.2⟩, oA.out, oB.out, hW.out⟩
set_option maxRecDepth 100000 in
set_option maxHeartbeats 2000000 in
theorem gi7_s7 (A : Act) (w1 : World) (Q : Exit → Act → World → Prop) (X : Mx) (code : Int) (c0 : Cu) (M0 : Mem) (e1 e2 : Option Addr) (f1 f2 : Nat) (bc bm : Nat)
    (hc : A.tmps.getD 2 undef = .pointer (some ⟨bc, 0, none⟩)) (hm : A.tmps.getD 10 undef = .pointer (some ⟨bm, 0, none⟩))
    (qc : Blk w1 bc (cuA c0)) (qm : Blk w1 bm #[.slice e1 M0.rom.length f1, .slice e2 M0.ram.length f2, .int .i64 M0.page, .int .i64 M0.screen, .bool M0.locked]) (htc : ∀ W', Calls Try.prog 13 #[cuV c0] W' fun e w' => e = .returned (cuV c0) ∧ Below W'.heap.size W' w')
    (hmr : ∀ W', Below w1.heap.size w1 W' → MemR W' (memV (.slice e1 M0.rom.length f1) (.slice e2 M0.ram.length f2) M0.page M0.screen M0.locked) M0)
    (hF : ∀ W' v, Below w1.heap.size w1 W' → MemR W' v M0 → Calls Try.prog 7 #[cuV c0, v] W' fun e w' => ∃ u cv, e = .returned (.tuple #[cpV X.c, u, cv, .int .i64 code]) ∧ Ans W' w' X u cv)
    (f : Nat → Bool) (e : Gi7E) (a : Act) (w : World) (hun : f 7 = false) (hdep : ∀ d ∈ (({ dst := some 46, op := Op.extract (Operand.tmp 39) 2, type := 32, pos := "exact.go:2133", after := #[{ on := 4, ground := Ground.data }, { on := 12, ground := Ground.gcOnly Departure.lateStores }], guard := none } : Oper)).after, Region.binds .any d = true → f d.on = true) (hJ : gi7_J w1 X code c0 M0 e1 e2 f1 f2 f e w) (hFr : Fr gi7_O A f (fun j => gi7_V X code c0 M0 e1 e2 f1 f2 j e) a)
    (K : Act → World → Prop) (hK : Hid (∀ v e' w', v = gi7_V X code c0 M0 e1 e2 f1 f2 7 e' → (∀ j, f j = true → gi7_V X code c0 M0 e1 e2 f1 f2 j e' = gi7_V X code c0 M0 e1 e2 f1 f2 j e) → gi7_J w1 X code c0 M0 e1 e2 f1 f2 (fun j => j == 7 || f j) e' w' → K (a.put (({ dst := some 46, op := Op.extract (Operand.tmp 39) 2, type := 32, pos := "exact.go:2133", after := #[{ on := 4, ground := Ground.data }, { on := 12, ground := Ground.gcOnly Departure.lateStores }], guard := none } : Oper)).dst v) w')) :
    if Region.wanted (({ dst := some 46, op := Op.extract (Operand.tmp 39) 2, type := 32, pos := "exact.go:2133", after := #[{ on := 4, ground := Ground.data }, { on := 12, ground := Ground.gcOnly Departure.lateStores }], guard := none } : Oper)) (yielded gi7_O a.tmps) = true then Oper.wp Try.prog (({ dst := some 46, op := Op.extract (Operand.tmp 39) 2, type := 32, pos := "exact.go:2133", after := #[{ on := 4, ground := Ground.data }, { on := 12, ground := Ground.gcOnly Departure.lateStores }], guard := none } : Oper)) a w K Q else K (a.put (({ dst := some 46, op := Op.extract (Operand.tmp 39) 2, type := 32, pos := "exact.go:2133", after := #[{ on := 4, ground := Ground.data }, { on := 12, ground := Ground.gcOnly Departure.lateStores }], guard := none } : Oper)).dst undef) w := by
  obtain ⟨hla, oA, oB, hW⟩ := hJ
  have k4 : f 4 = true := hdep { on := 4, ground := .data } (by simp) rfl
  have v39 : a.tmps.getD 39 undef = .tuple #[cpV X.c, memV (.slice e.g1 X.m.rom.length e.j1) (.slice e.g2 X.m.ram.length e.j2) X.m.page X.m.screen X.m.locked, e.cv, .int .i64 code] := hFr.new 4 39 rfl k4
  clear hFr
  replace hla := hid hla
  replace oA := hid oA
  replace oB := hid oB
  replace hW := hid hW
  have kc : f 3 = true := hla.out.1 k4
  clear hdep
  go_simp
  exact hK.out _ e _ rfl (fun _ _ => rfl) ⟨⟨hla.out.1, hla.out.2.1, hla.out.2.2.1, fun _ => kc, hla.out.2.2.2.2.1, hla.out.2.2.2.2.2.1, hla.out.2.2.2.2.2.2⟩, oA.out, oB.out, hW.out⟩
set_option maxRecDepth 100000 in
set_option maxHeartbeats 2000000 in
theorem gi7_s8 (A : Act) (w1 : World) (Q : Exit → Act → World → Prop) (X : Mx) (code : Int) (c0 : Cu) (M0 : Mem) (e1 e2 : Option Addr) (f1 f2 : Nat) (bc bm : Nat)
    (hc : A.tmps.getD 2 undef = .pointer (some ⟨bc, 0, none⟩)) (hm : A.tmps.getD 10 undef = .pointer (some ⟨bm, 0, none⟩))
    (qc : Blk w1 bc (cuA c0)) (qm : Blk w1 bm #[.slice e1 M0.rom.length f1, .slice e2 M0.ram.length f2, .int .i64 M0.page, .int .i64 M0.screen, .bool M0.locked]) (htc : ∀ W', Calls Try.prog 13 #[cuV c0] W' fun e w' => e = .returned (cuV c0) ∧ Below W'.heap.size W' w')
    (hmr : ∀ W', Below w1.heap.size w1 W' → MemR W' (memV (.slice e1 M0.rom.length f1) (.slice e2 M0.ram.length f2) M0.page M0.screen M0.locked) M0)
    (hF : ∀ W' v, Below w1.heap.size w1 W' → MemR W' v M0 → Calls Try.prog 7 #[cuV c0, v] W' fun e w' => ∃ u cv, e = .returned (.tuple #[cpV X.c, u, cv, .int .i64 code]) ∧ Ans W' w' X u cv)
    (f : Nat → Bool) (e : Gi7E) (a : Act) (w : World) (hun : f 8 = false) (hdep : ∀ d ∈ (({ dst := some 47, op := Op.extract (Operand.tmp 39) 3, type := 3, pos := "exact.go:2133", after := #[{ on := 4, ground := Ground.data }, { on := 13, ground := Ground.gcOnly Departure.lateStores }], guard := none } : Oper)).after, Region.binds .any d = true → f d.on = true) (hJ : gi7_J w1 X code c0 M0 e1 e2 f1 f2 f e w) (hFr : Fr gi7_O A f (fun j => gi7_V X code c0 M0 e1 e2 f1 f2 j e) a)
    (K : Act → World → Prop) (hK : Hid (∀ v e' w', v = gi7_V X code c0 M0 e1 e2 f1 f2 8 e' → (∀ j, f j = true → gi7_V X code c0 M0 e1 e2 f1 f2 j e' = gi7_V X code c0 M0 e1 e2 f1 f2 j e) → gi7_J w1 X code c0 M0 e1 e2 f1 f2 (fun j => j == 8 || f j) e' w' → K (a.put (({ dst := some 47, op := Op.extract (Operand.tmp 39) 3, type := 3, pos := "exact.go:2133", after := #[{ on := 4, ground := Ground.data }, { on := 13, ground := Ground.gcOnly Departure.lateStores }], guard := none } : Oper)).dst v) w')) :
    if Region.wanted (({ dst := some 47, op := Op.extract (Operand.tmp 39) 3, type := 3, pos := "exact.go:2133", after := #[{ on := 4, ground := Ground.data }, { on := 13, ground := Ground.gcOnly Departure.lateStores }], guard := none } : Oper)) (yielded gi7_O a.tmps) = true then Oper.wp Try.prog (({ dst := some 47, op := Op.extract (Operand.tmp 39) 3, type := 3, pos := "exact.go:2133", after := #[{ on := 4, ground := Ground.data }, { on := 13, ground := Ground.gcOnly Departure.lateStores }], guard := none } : Oper)) a w K Q else K (a.put (({ dst := some 47, op := Op.extract (Operand.tmp 39) 3, type := 3, pos := "exact.go:2133", after := #[{ on := 4, ground := Ground.data }, { on := 13, ground := Ground.gcOnly Departure.lateStores }], guard := none } : Oper)).dst undef) w := by
  obtain ⟨hla, oA, oB, hW⟩ := hJ
  have k4 : f 4 = true := hdep { on := 4, ground := .data } (by simp) rfl
  have v39 : a.tmps.getD 39 undef = .tuple #[cpV X.c, memV (.slice e.g1 X.m.rom.length e.j1) (.slice e.g2 X.m.ram.length e.j2) X.m.page X.m.screen X.m.locked, e.cv, .int .i64 code] := hFr.new 4 39 rfl k4
  clear hFr
  replace hla := hid hla
  replace oA := hid oA
  replace oB := hid oB
  replace hW := hid hW
  have kc : f 3 = true := hla.out.1 k4
  clear hdep
  go_simp
  exact hK.out _ e _ rfl (fun _ _ => rfl) ⟨⟨hla.out.1, hla.out.2.1, hla.out.2.2.1, hla.out.2.2.2.1, fun _ => kc, hla.out.2.2.2.2.2.1, hla.out.2.2.2.2.2.2⟩, oA.out, oB.out, hW.out⟩
set_option maxRecDepth 100000 in
set_option maxHeartbeats 2000000 in
theorem gi7_s9 (A : Act) (w1 : World) (Q : Exit → Act → World → Prop) (X : Mx) (code : Int) (c0 : Cu) (M0 : Mem) (e1 e2 : Option Addr) (f1 f2 : Nat) (bc bm : Nat)
    (hc : A.tmps.getD 2 undef = .pointer (some ⟨bc, 0, none⟩)) (hm : A.tmps.getD 10 undef = .pointer (some ⟨bm, 0, none⟩))
    (qc : Blk w1 bc (cuA c0)) (qm : Blk w1 bm #[.slice e1 M0.rom.length f1, .slice e2 M0.ram.length f2, .int .i64 M0.page, .int .i64 M0.screen, .bool M0.locked]) (htc : ∀ W', Calls Try.prog 13 #[cuV c0] W' fun e w' => e = .returned (cuV c0) ∧ Below W'.heap.size W' w')
    (hmr : ∀ W', Below w1.heap.size w1 W' → MemR W' (memV (.slice e1 M0.rom.length f1) (.slice e2 M0.ram.length f2) M0.page M0.screen M0.locked) M0)
    (hF : ∀ W' v, Below w1.heap.size w1 W' → MemR W' v M0 → Calls Try.prog 7 #[cuV c0, v] W' fun e w' => ∃ u cv, e = .returned (.tuple #[cpV X.c, u, cv, .int .i64 code]) ∧ Ans W' w' X u cv)
    (f : Nat → Bool) (e : Gi7E) (a : Act) (w : World) (hun : f 9 = false) (hdep : ∀ d ∈ (({ dst := some 11, op := Op.alloc 25, type := 0, pos := "exact.go:2133", after := #[], guard := none } : Oper)).after, Region.binds .any d = true → f d.on = true) (hJ : gi7_J w1 X code c0 M0 e1 e2 f1 f2 f e w) (hFr : Fr gi7_O A f (fun j => gi7_V X code c0 M0 e1 e2 f1 f2 j e) a)
    (K : Act → World → Prop) (hK : Hid (∀ v e' w', v = gi7_V X code c0 M0 e1 e2 f1 f2 9 e' → (∀ j, f j = true → gi7_V X code c0 M0 e1 e2 f1 f2 j e' = gi7_V X code c0 M0 e1 e2 f1 f2 j e) → gi7_J w1 X code c0 M0 e1 e2 f1 f2 (fun j => j == 9 || f j) e' w' → K (a.put (({ dst := some 11, op := Op.alloc 25, type := 0, pos := "exact.go:2133", after := #[], guard := none } : Oper)).dst v) w')) :
    if Region.wanted (({ dst := some 11, op := Op.alloc 25, type := 0, pos := "exact.go:2133", after := #[], guard := none } : Oper)) (yielded gi7_O a.tmps) = true then Oper.wp Try.prog (({ dst := some 11, op := Op.alloc 25, type := 0, pos := "exact.go:2133", after := #[], guard := none } : Oper)) a w K Q else K (a.put (({ dst := some 11, op := Op.alloc 25, type := 0, pos := "exact.go:2133", after := #[], guard := none } : Oper)).dst undef) w := by
  obtain ⟨hla, oA, oB, hW⟩ := hJ
  clear hFr
  replace hla := hid hla
  replace oA := hid oA
  replace oB := hid oB
  replace hW := hid hW
  have fx : f 11 = false := by
    cases hq : f 11
    · rfl
    · have := (oA.out hq).2
      rw [hun] at this
      cases this
  rw [hun, fx] at hW
  have hW' := hid (hW.out.alA 25)
  have hb := hid ((Below.refl w.heap.size w).alloc (Nat.le_refl _) (.cells zC 25))
  clear hdep
  go_simp
  exact hK.out _ { e with b6 := w.heap.size } _ rfl (gi7_va X code c0 M0 e1 e2 f1 f2 e _ rfl rfl rfl rfl rfl rfl rfl hun) ⟨hla.out, fun h => ⟨(oA.out h).1, rfl⟩, oB.out, (by show WI w1 _ (f 3) true (f 10) (f 11) (f 12) X _ _ _ _ _ _ _; rw [fx]; exact hW'.out)⟩
set_option maxRecDepth 100000 in
set_option maxHeartbeats 2000000 in
theorem gi7_s10 (A : Act) (w1 : World) (Q : Exit → Act → World → Prop) (X : Mx) (code : Int) (c0 : Cu) (M0 : Mem) (e1 e2 : Option Addr) (f1 f2 : Nat) (bc bm : Nat)
    (hc : A.tmps.getD 2 undef = .pointer (some ⟨bc, 0, none⟩)) (hm : A.tmps.getD 10 undef = .pointer (some ⟨bm, 0, none⟩))
    (qc : Blk w1 bc (cuA c0)) (qm : Blk w1 bm #[.slice e1 M0.rom.length f1, .slice e2 M0.ram.length f2, .int .i64 M0.page, .int .i64 M0.screen, .bool M0.locked]) (htc : ∀ W', Calls Try.prog 13 #[cuV c0] W' fun e w' => e = .returned (cuV c0) ∧ Below W'.heap.size W' w')
    (hmr : ∀ W', Below w1.heap.size w1 W' → MemR W' (memV (.slice e1 M0.rom.length f1) (.slice e2 M0.ram.length f2) M0.page M0.screen M0.locked) M0)
    (hF : ∀ W' v, Below w1.heap.size w1 W' → MemR W' v M0 → Calls Try.prog 7 #[cuV c0, v] W' fun e w' => ∃ u cv, e = .returned (.tuple #[cpV X.c, u, cv, .int .i64 code]) ∧ Ans W' w' X u cv)
    (f : Nat → Bool) (e : Gi7E) (a : Act) (w : World) (hun : f 10 = false) (hdep : ∀ d ∈ (({ dst := some 12, op := Op.alloc 30, type := 0, pos := "exact.go:2133", after := #[], guard := none } : Oper)).after, Region.binds .any d = true → f d.on = true) (hJ : gi7_J w1 X code c0 M0 e1 e2 f1 f2 f e w) (hFr : Fr gi7_O A f (fun j => gi7_V X code c0 M0 e1 e2 f1 f2 j e) a)
    (K : Act → World → Prop) (hK : Hid (∀ v e' w', v = gi7_V X code c0 M0 e1 e2 f1 f2 10 e' → (∀ j, f j = true → gi7_V X code c0 M0 e1 e2 f1 f2 j e' = gi7_V X code c0 M0 e1 e2 f1 f2 j e) → gi7_J w1 X code c0 M0 e1 e2 f1 f2 (fun j => j == 10 || f j) e' w' → K (a.put (({ dst := some 12, op := Op.alloc 30, type := 0, pos := "exact.go:2133", after := #[], guard := none } : Oper)).dst v) w')) :
    if Region.wanted (({ dst := some 12, op := Op.alloc 30, type := 0, pos := "exact.go:2133", after := #[], guard := none } : Oper)) (yielded gi7_O a.tmps) = true then Oper.wp Try.prog (({ dst := some 12, op := Op.alloc 30, type := 0, pos := "exact.go:2133", after := #[], guard := none } : Oper)) a w K Q else K (a.put (({ dst := some 12, op := Op.alloc 30, type := 0, pos := "exact.go:2133", after := #[], guard := none } : Oper)).dst undef) w := by
  obtain ⟨hla, oA, oB, hW⟩ := hJ
  clear hFr
  replace hla := hid hla
  replace oA := hid oA
  replace oB := hid oB
  replace hW := hid hW
  have fx : f 12 = false := by
    cases hq : f 12
    · rfl
    · have := (oB.out hq).2
      rw [hun] at this
      cases this
  rw [hun, fx] at hW
  have hW' := hid (hW.out.alB 30)
  have hb := hid ((Below.refl w.heap.size w).alloc (Nat.le_refl _) (.cells zM 30))
  clear hdep
  go_simp
  exact hK.out _ { e with b7 := w.heap.size } _ rfl (gi7_vb X code c0 M0 e1 e2 f1 f2 e _ rfl rfl rfl rfl rfl rfl rfl hun) ⟨hla.out, oA.out, fun h => ⟨(oB.out h).1, rfl⟩, (by show WI w1 _ (f 3) (f 9) true (f 11) (f 12) X _ _ _ _ _ _ _; rw [fx]; exact hW'.out)⟩
set_option maxRecDepth 100000 in
set_option maxHeartbeats 2000000 in
theorem gi7_s11 (A : Act) (w1 : World) (Q : Exit → Act → World → Prop) (X : Mx) (code : Int) (c0 : Cu) (M0 : Mem) (e1 e2 : Option Addr) (f1 f2 : Nat) (bc bm : Nat)
    (hc : A.tmps.getD 2 undef = .pointer (some ⟨bc, 0, none⟩)) (hm : A.tmps.getD 10 undef = .pointer (some ⟨bm, 0, none⟩))
    (qc : Blk w1 bc (cuA c0)) (qm : Blk w1 bm #[.slice e1 M0.rom.length f1, .slice e2 M0.ram.length f2, .int .i64 M0.page, .int .i64 M0.screen, .bool M0.locked]) (htc : ∀ W', Calls Try.prog 13 #[cuV c0] W' fun e w' => e = .returned (cuV c0) ∧ Below W'.heap.size W' w')
    (hmr : ∀ W', Below w1.heap.size w1 W' → MemR W' (memV (.slice e1 M0.rom.length f1) (.slice e2 M0.ram.length f2) M0.page M0.screen M0.locked) M0)
    (hF : ∀ W' v, Below w1.heap.size w1 W' → MemR W' v M0 → Calls Try.prog 7 #[cuV c0, v] W' fun e w' => ∃ u cv, e = .returned (.tuple #[cpV X.c, u, cv, .int .i64 code]) ∧ Ans W' w' X u cv)
    (f : Nat → Bool) (e : Gi7E) (a : Act) (w : World) (hun : f 11 = false) (hdep : ∀ d ∈ (({ dst := none, op := Op.store 25 (Operand.tmp 11) (Operand.tmp 44), type := 0, pos := "exact.go:2133", after := #[{ on := 9, ground := Ground.data }, { on := 5, ground := Ground.data }, { on := 3, ground := Ground.chain }, { on := 0, ground := Ground.phase }, { on := 1, ground := Ground.phase }, { on := 2, ground := Ground.phase }, { on := 3, ground := Ground.phase }, { on := 4, ground := Ground.phase }, { on := 5, ground := Ground.phase }, { on := 6, ground := Ground.textOnly Departure.lateStores }, { on := 7, ground := Ground.textOnly Departure.lateStores }, { on := 8, ground := Ground.textOnly Departure.lateStores }, { on := 9, ground := Ground.phase }, { on := 10, ground := Ground.phase }], guard := none } : Oper)).after, Region.binds .any d = true → f d.on = true) (hJ : gi7_J w1 X code c0 M0 e1 e2 f1 f2 f e w) (hFr : Fr gi7_O A f (fun j => gi7_V X code c0 M0 e1 e2 f1 f2 j e) a)
    (K : Act → World → Prop) (hK : Hid (∀ v e' w', v = gi7_V X code c0 M0 e1 e2 f1 f2 11 e' → (∀ j, f j = true → gi7_V X code c0 M0 e1 e2 f1 f2 j e' = gi7_V X code c0 M0 e1 e2 f1 f2 j e) → gi7_J w1 X code c0 M0 e1 e2 f1 f2 (fun j => j == 11 || f j) e' w' → K (a.put (({ dst := none, op := Op.store 25 (Operand.tmp 11) (Operand.tmp 44), type := 0, pos := "exact.go:2133", after := #[{ on := 9, ground := Ground.data }, { on := 5, ground := Ground.data }, { on := 3, ground := Ground.chain }, { on := 0, ground := Ground.phase }, { on := 1, ground := Ground.phase }, { on := 2, ground := Ground.phase }, { on := 3, ground := Ground.phase }, { on := 4, ground := Ground.phase }, { on := 5, ground := Ground.phase }, { on := 6, ground := Ground.textOnly Departure.lateStores }, { on := 7, ground := Ground.textOnly Departure.lateStores }, { on := 8, ground := Ground.textOnly Departure.lateStores }, { on := 9, ground := Ground.phase }, { on := 10, ground := Ground.phase }], guard := none } : Oper)).dst v) w')) :
    if Region.wanted (({ dst := none, op := Op.store 25 (Operand.tmp 11) (Operand.tmp 44), type := 0, pos := "exact.go:2133", after := #[{ on := 9, ground := Ground.data }, { on := 5, ground := Ground.data }, { on := 3, ground := Ground.chain }, { on := 0, ground := Ground.phase }, { on := 1, ground := Ground.phase }, { on := 2, ground := Ground.phase }, { on := 3, ground := Ground.phase }, { on := 4, ground := Ground.phase }, { on := 5, ground := Ground.phase }, { on := 6, ground := Ground.textOnly Departure.lateStores }, { on := 7, ground := Ground.textOnly Departure.lateStores }, { on := 8, ground := Ground.textOnly Departure.lateStores }, { on := 9, ground := Ground.phase }, { on := 10, ground := Ground.phase }], guard := none } : Oper)) (yielded gi7_O a.tmps) = true then Oper.wp Try.prog (({ dst := none, op := Op.store 25 (Operand.tmp 11) (Operand.tmp 44), type := 0, pos := "exact.go:2133", after := #[{ on := 9, ground := Ground.data }, { on := 5, ground := Ground.data }, { on := 3, ground := Ground.chain }, { on := 0, ground := Ground.phase }, { on := 1, ground := Ground.phase }, { on := 2, ground := Ground.phase }, { on := 3, ground := Ground.phase }, { on := 4, ground := Ground.phase }, { on := 5, ground := Ground.phase }, { on := 6, ground := Ground.textOnly Departure.lateStores }, { on := 7, ground := Ground.textOnly Departure.lateStores }, { on := 8, ground := Ground.textOnly Departure.lateStores }, { on := 9, ground := Ground.phase }, { on := 10, ground := Ground.phase }], guard := none } : Oper)) a w K Q else K (a.put (({ dst := none, op := Op.store 25 (Operand.tmp 11) (Operand.tmp 44), type := 0, pos := "exact.go:2133", after := #[{ on := 9, ground := Ground.data }, { on := 5, ground := Ground.data }, { on := 3, ground := Ground.chain }, { on := 0, ground := Ground.phase }, { on := 1, ground := Ground.phase }, { on := 2, ground := Ground.phase }, { on := 3, ground := Ground.phase }, { on := 4, ground := Ground.phase }, { on := 5, ground := Ground.phase }, { on := 6, ground := Ground.textOnly Departure.lateStores }, { on := 7, ground := Ground.textOnly Departure.lateStores }, { on := 8, ground := Ground.textOnly Departure.lateStores }, { on := 9, ground := Ground.phase }, { on := 10, ground := Ground.phase }], guard := none } : Oper)).dst undef) w := by
  obtain ⟨hla, oA, oB, hW⟩ := hJ
  have k9 : f 9 = true := hdep { on := 9, ground := .data } (by simp) rfl
  have v11 : a.tmps.getD 11 undef = .pointer (some ⟨e.b6, 0, none⟩) := hFr.new 9 11 rfl k9
  have k5 : f 5 = true := hdep { on := 5, ground := .data } (by simp) rfl
  have v44 : a.tmps.getD 44 undef = cpV X.c := hFr.new 5 44 rfl k5
  clear hFr
  replace hla := hid hla
  replace oA := hid oA
  replace oB := hid oB
  replace hW := hid hW
  have k3 : f 3 = true := hla.out.2.1 k5
  rw [hun, k9, k3] at hW
  have y := hW.out.boxA.cell
  have fz := hW.out.boxA.frozen
  have lt := hW.out.boxA.lt
  have hW' := hid hW.out.stA
  clear hdep
  go_simp
  exact hK.out (gi7_V X code c0 M0 e1 e2 f1 f2 11 e) e _ rfl (fun _ _ => rfl) ⟨hla.out, fun _ => ⟨k3, k9⟩, oB.out, (by show WI w1 _ (f 3) (f 9) (f 10) true (f 12) X _ _ _ _ _ _ _; rw [k9, k3]; exact hW'.out)⟩
set_option maxRecDepth 100000 in
set_option maxHeartbeats 2000000 in
theorem gi7_s12 (A : Act) (w1 : World) (Q : Exit → Act → World → Prop) (X : Mx) (code : Int) (c0 : Cu) (M0 : Mem) (e1 e2 : Option Addr) (f1 f2 : Nat) (bc bm : Nat)
    (hc : A.tmps.getD 2 undef = .pointer (some ⟨bc, 0, none⟩)) (hm : A.tmps.getD 10 undef = .pointer (some ⟨bm, 0, none⟩))
    (qc : Blk w1 bc (cuA c0)) (qm : Blk w1 bm #[.slice e1 M0.rom.length f1, .slice e2 M0.ram.length f2, .int .i64 M0.page, .int .i64 M0.screen, .bool M0.locked]) (htc : ∀ W', Calls Try.prog 13 #[cuV c0] W' fun e w' => e = .returned (cuV c0) ∧ Below W'.heap.size W' w')
    (hmr : ∀ W', Below w1.heap.size w1 W' → MemR W' (memV (.slice e1 M0.rom.length f1) (.slice e2 M0.ram.length f2) M0.page M0.screen M0.locked) M0)
    (hF : ∀ W' v, Below w1.heap.size w1 W' → MemR W' v M0 → Calls Try.prog 7 #[cuV c0, v] W' fun e w' => ∃ u cv, e = .returned (.tuple #[cpV X.c, u, cv, .int .i64 code]) ∧ Ans W' w' X u cv)
    (f : Nat → Bool) (e : Gi7E) (a : Act) (w : World) (hun : f 12 = false) (hdep : ∀ d ∈ (({ dst := none, op := Op.store 30 (Operand.tmp 12) (Operand.tmp 45), type := 0, pos := "exact.go:2133", after := #[{ on := 10, ground := Ground.data }, { on := 6, ground := Ground.data }, { on := 11, ground := Ground.chain }, { on := 0, ground := Ground.phase }, { on := 1, ground := Ground.phase }, { on := 2, ground := Ground.phase }, { on := 3, ground := Ground.phase }, { on := 4, ground := Ground.phase }, { on := 5, ground := Ground.phase }, { on := 6, ground := Ground.phase }, { on := 7, ground := Ground.textOnly Departure.lateStores }, { on := 8, ground := Ground.textOnly Departure.lateStores }, { on := 9, ground := Ground.phase }, { on := 10, ground := Ground.phase }, { on := 11, ground := Ground.phase }], guard := none } : Oper)).after, Region.binds .any d = true → f d.on = true) (hJ : gi7_J w1 X code c0 M0 e1 e2 f1 f2 f e w) (hFr : Fr gi7_O A f (fun j => gi7_V X code c0 M0 e1 e2 f1 f2 j e) a)
    (K : Act → World → Prop) (hK : Hid (∀ v e' w', v = gi7_V X code c0 M0 e1 e2 f1 f2 12 e' → (∀ j, f j = true → gi7_V X code c0 M0 e1 e2 f1 f2 j e' = gi7_V X code c0 M0 e1 e2 f1 f2 j e) → gi7_J w1 X code c0 M0 e1 e2 f1 f2 (fun j => j == 12 || f j) e' w' → K (a.put (({ dst := none, op := Op.store 30 (Operand.tmp 12) (Operand.tmp 45), type := 0, pos := "exact.go:2133", after := #[{ on := 10, ground := Ground.data }, { on := 6, ground := Ground.data }, { on := 11, ground := Ground.chain }, { on := 0, ground := Ground.phase }, { on := 1, ground := Ground.phase }, { on := 2, ground := Ground.phase }, { on := 3, ground := Ground.phase }, { on := 4, ground := Ground.phase }, { on := 5, ground := Ground.phase }, { on := 6, ground := Ground.phase }, { on := 7, ground := Ground.textOnly Departure.lateStores }, { on := 8, ground := Ground.textOnly Departure.lateStores }, { on := 9, ground := Ground.phase }, { on := 10, ground := Ground.phase }, { on := 11, ground := Ground.phase }], guard := none } : Oper)).dst v) w')) :
    if Region.wanted (({ dst := none, op := Op.store 30 (Operand.tmp 12) (Operand.tmp 45), type := 0, pos := "exact.go:2133", after := #[{ on := 10, ground := Ground.data }, { on := 6, ground := Ground.data }, { on := 11, ground := Ground.chain }, { on := 0, ground := Ground.phase }, { on := 1, ground := Ground.phase }, { on := 2, ground := Ground.phase }, { on := 3, ground := Ground.phase }, { on := 4, ground := Ground.phase }, { on := 5, ground := Ground.phase }, { on := 6, ground := Ground.phase }, { on := 7, ground := Ground.textOnly Departure.lateStores }, { on := 8, ground := Ground.textOnly Departure.lateStores }, { on := 9, ground := Ground.phase }, { on := 10, ground := Ground.phase }, { on := 11, ground := Ground.phase }], guard := none } : Oper)) (yielded gi7_O a.tmps) = true then Oper.wp Try.prog (({ dst := none, op := Op.store 30 (Operand.tmp 12) (Operand.tmp 45), type := 0, pos := "exact.go:2133", after := #[{ on := 10, ground := Ground.data }, { on := 6, ground := Ground.data }, { on := 11, ground := Ground.chain }, { on := 0, ground := Ground.phase }, { on := 1, ground := Ground.phase }, { on := 2, ground := Ground.phase }, { on := 3, ground := Ground.phase }, { on := 4, ground := Ground.phase }, { on := 5, ground := Ground.phase }, { on := 6, ground := Ground.phase }, { on := 7, ground := Ground.textOnly Departure.lateStores }, { on := 8, ground := Ground.textOnly Departure.lateStores }, { on := 9, ground := Ground.phase }, { on := 10, ground := Ground.phase }, { on := 11, ground := Ground.phase }], guard := none } : Oper)) a w K Q else K (a.put (({ dst := none, op := Op.store 30 (Operand.tmp 12) (Operand.tmp 45), type := 0, pos := "exact.go:2133", after := #[{ on := 10, ground := Ground.data }, { on := 6, ground := Ground.data }, { on := 11, ground := Ground.chain }, { on := 0, ground := Ground.phase }, { on := 1, ground := Ground.phase }, { on := 2, ground := Ground.phase }, { on := 3, ground := Ground.phase }, { on := 4, ground := Ground.phase }, { on := 5, ground := Ground.phase }, { on := 6, ground := Ground.phase }, { on := 7, ground := Ground.textOnly Departure.lateStores }, { on := 8, ground := Ground.textOnly Departure.lateStores }, { on := 9, ground := Ground.phase }, { on := 10, ground := Ground.phase }, { on := 11, ground := Ground.phase }], guard := none } : Oper)).dst undef) w := by
  obtain ⟨hla, oA, oB, hW⟩ := hJ
  have k10 : f 10 = true := hdep { on := 10, ground := .data } (by simp) rfl
  have v12 : a.tmps.getD 12 undef = .pointer (some ⟨e.b7, 0, none⟩) := hFr.new 10 12 rfl k10
  have k6 : f 6 = true := hdep { on := 6, ground := .data } (by simp) rfl
  have v45 : a.tmps.getD 45 undef = memV (.slice e.g1 X.m.rom.length e.j1) (.slice e.g2 X.m.ram.length e.j2) X.m.page X.m.screen X.m.locked := hFr.new 6 45 rfl k6
  clear hFr
  replace hla := hid hla
  replace oA := hid oA
  replace oB := hid oB
  replace hW := hid hW
  have k3 : f 3 = true := hla.out.2.2.1 k6
  rw [hun, k10, k3] at hW
  have y := hW.out.boxB.cell
  have fz := hW.out.boxB.frozen
  have lt := hW.out.boxB.lt
  have hW' := hid hW.out.stB
  clear hdep
  go_simp
  exact hK.out (gi7_V X code c0 M0 e1 e2 f1 f2 12 e) e _ rfl (fun _ _ => rfl) ⟨hla.out, oA.out, fun _ => ⟨k3, k10⟩, (by show WI w1 _ (f 3) (f 9) (f 10) (f 11) true X _ _ _ _ _ _ _; rw [k10, k3]; exact hW'.out)⟩
set_option maxRecDepth 100000 in
set_option maxHeartbeats 2000000 in
theorem gi7_s13 (A : Act) (w1 : World) (Q : Exit → Act → World → Prop) (X : Mx) (code : Int) (c0 : Cu) (M0 : Mem) (e1 e2 : Option Addr) (f1 f2 : Nat) (bc bm : Nat)
    (hc : A.tmps.getD 2 undef = .pointer (some ⟨bc, 0, none⟩)) (hm : A.tmps.getD 10 undef = .pointer (some ⟨bm, 0, none⟩))
    (qc : Blk w1 bc (cuA c0)) (qm : Blk w1 bm #[.slice e1 M0.rom.length f1, .slice e2 M0.ram.length f2, .int .i64 M0.page, .int .i64 M0.screen, .bool M0.locked]) (htc : ∀ W', Calls Try.prog 13 #[cuV c0] W' fun e w' => e = .returned (cuV c0) ∧ Below W'.heap.size W' w')
    (hmr : ∀ W', Below w1.heap.size w1 W' → MemR W' (memV (.slice e1 M0.rom.length f1) (.slice e2 M0.ram.length f2) M0.page M0.screen M0.locked) M0)
    (hF : ∀ W' v, Below w1.heap.size w1 W' → MemR W' v M0 → Calls Try.prog 7 #[cuV c0, v] W' fun e w' => ∃ u cv, e = .returned (.tuple #[cpV X.c, u, cv, .int .i64 code]) ∧ Ans W' w' X u cv)
    (f : Nat → Bool) (e : Gi7E) (a : Act) (w : World) (hun : f 13 = false) (hdep : ∀ d ∈ (({ dst := some 13, op := Op.assign (Operand.tmp 46), type := 32, pos := "exact.go:2133", after := #[{ on := 7, ground := Ground.data }, { on := 12, ground := Ground.chain }, { on := 0, ground := Ground.phase }, { on := 1, ground := Ground.phase }, { on := 2, ground := Ground.phase }, { on := 3, ground := Ground.phase }, { on := 4, ground := Ground.phase }, { on := 5, ground := Ground.phase }, { on := 6, ground := Ground.phase }, { on := 7, ground := Ground.phase }, { on := 8, ground := Ground.textOnly Departure.lateStores }, { on := 9, ground := Ground.phase }, { on := 10, ground := Ground.phase }, { on := 11, ground := Ground.phase }, { on := 12, ground := Ground.phase }], guard := none } : Oper)).after, Region.binds .any d = true → f d.on = true) (hJ : gi7_J w1 X code c0 M0 e1 e2 f1 f2 f e w) (hFr : Fr gi7_O A f (fun j => gi7_V X code c0 M0 e1 e2 f1 f2 j e) a)
    (K : Act → World → Prop) (hK : Hid (∀ v e' w', v = gi7_V X code c0 M0 e1 e2 f1 f2 13 e' → (∀ j, f j = true → gi7_V X code c0 M0 e1 e2 f1 f2 j e' = gi7_V X code c0 M0 e1 e2 f1 f2 j e) → gi7_J w1 X code c0 M0 e1 e2 f1 f2 (fun j => j == 13 || f j) e' w' → K (a.put (({ dst := some 13, op := Op.assign (Operand.tmp 46), type := 32, pos := "exact.go:2133", after := #[{ on := 7, ground := Ground.data }, { on := 12, ground := Ground.chain }, { on := 0, ground := Ground.phase }, { on := 1, ground := Ground.phase }, { on := 2, ground := Ground.phase }, { on := 3, ground := Ground.phase }, { on := 4, ground := Ground.phase }, { on := 5, ground := Ground.phase }, { on := 6, ground := Ground.phase }, { on := 7, ground := Ground.phase }, { on := 8, ground := Ground.textOnly Departure.lateStores }, { on := 9, ground := Ground.phase }, { on := 10, ground := Ground.phase }, { on := 11, ground := Ground.phase }, { on := 12, ground := Ground.phase }], guard := none } : Oper)).dst v) w')) :
    if Region.wanted (({ dst := some 13, op := Op.assign (Operand.tmp 46), type := 32, pos := "exact.go:2133", after := #[{ on := 7, ground := Ground.data }, { on := 12, ground := Ground.chain }, { on := 0, ground := Ground.phase }, { on := 1, ground := Ground.phase }, { on := 2, ground := Ground.phase }, { on := 3, ground := Ground.phase }, { on := 4, ground := Ground.phase }, { on := 5, ground := Ground.phase }, { on := 6, ground := Ground.phase }, { on := 7, ground := Ground.phase }, { on := 8, ground := Ground.textOnly Departure.lateStores }, { on := 9, ground := Ground.phase }, { on := 10, ground := Ground.phase }, { on := 11, ground := Ground.phase }, { on := 12, ground := Ground.phase }], guard := none } : Oper)) (yielded gi7_O a.tmps) = true then Oper.wp Try.prog (({ dst := some 13, op := Op.assign (Operand.tmp 46), type := 32, pos := "exact.go:2133", after := #[{ on := 7, ground := Ground.data }, { on := 12, ground := Ground.chain }, { on := 0, ground := Ground.phase }, { on := 1, ground := Ground.phase }, { on := 2, ground := Ground.phase }, { on := 3, ground := Ground.phase }, { on := 4, ground := Ground.phase }, { on := 5, ground := Ground.phase }, { on := 6, ground := Ground.phase }, { on := 7, ground := Ground.phase }, { on := 8, ground := Ground.textOnly Departure.lateStores }, { on := 9, ground := Ground.phase }, { on := 10, ground := Ground.phase }, { on := 11, ground := Ground.phase }, { on := 12, ground := Ground.phase }], guard := none } : Oper)) a w K Q else K (a.put (({ dst := some 13, op := Op.assign (Operand.tmp 46), type := 32, pos := "exact.go:2133", after := #[{ on := 7, ground := Ground.data }, { on := 12, ground := Ground.chain }, { on := 0, ground := Ground.phase }, { on := 1, ground := Ground.phase }, { on := 2, ground := Ground.phase }, { on := 3, ground := Ground.phase }, { on := 4, ground := Ground.phase }, { on := 5, ground := Ground.phase }, { on := 6, ground := Ground.phase }, { on := 7, ground := Ground.phase }, { on := 8, ground := Ground.textOnly Departure.lateStores }, { on := 9, ground := Ground.phase }, { on := 10, ground := Ground.phase }, { on := 11, ground := Ground.phase }, { on := 12, ground := Ground.phase }], guard := none } : Oper)).dst undef) w := by
  obtain ⟨hla, oA, oB, hW⟩ := hJ
  have k7 : f 7 = true := hdep { on := 7, ground := .data } (by simp) rfl
  have v46 : a.tmps.getD 46 undef = e.cv := hFr.new 7 46 rfl k7
  clear hFr
  replace hla := hid hla
  replace oA := hid oA
  replace oB := hid oB
  replace hW := hid hW
  have kc : f 3 = true := hla.out.2.2.2.1 k7
  clear hdep
  go_simp
  exact hK.out _ e _ rfl (fun _ _ => rfl) ⟨⟨hla.out.1, hla.out.2.1, hla.out.2.2.1, hla.out.2.2.2.1, hla.out.2.2.2.2.1, fun _ => kc, hla.out.2.2.2.2.2.2⟩, oA.out, oB.out, hW.out⟩
set_option maxRecDepth 100000 in
set_option maxHeartbeats 2000000 in
theorem gi7_s14 (A : Act) (w1 : World) (Q : Exit → Act → World → Prop) (X : Mx) (code : Int) (c0 : Cu) (M0 : Mem) (e1 e2 : Option Addr) (f1 f2 : Nat) (bc bm : Nat)
    (hc : A.tmps.getD 2 undef = .pointer (some ⟨bc, 0, none⟩)) (hm : A.tmps.getD 10 undef = .pointer (some ⟨bm, 0, none⟩))
    (qc : Blk w1 bc (cuA c0)) (qm : Blk w1 bm #[.slice e1 M0.rom.length f1, .slice e2 M0.ram.length f2, .int .i64 M0.page, .int .i64 M0.screen, .bool M0.locked]) (htc : ∀ W', Calls Try.prog 13 #[cuV c0] W' fun e w' => e = .returned (cuV c0) ∧ Below W'.heap.size W' w')
    (hmr : ∀ W', Below w1.heap.size w1 W' → MemR W' (memV (.slice e1 M0.rom.length f1) (.slice e2 M0.ram.length f2) M0.page M0.screen M0.locked) M0)
    (hF : ∀ W' v, Below w1.heap.size w1 W' → MemR W' v M0 → Calls Try.prog 7 #[cuV c0, v] W' fun e w' => ∃ u cv, e = .returned (.tuple #[cpV X.c, u, cv, .int .i64 code]) ∧ Ans W' w' X u cv)
    (f : Nat → Bool) (e : Gi7E) (a : Act) (w : World) (hun : f 14 = false) (hdep : ∀ d ∈ (({ dst := some 14, op := Op.assign (Operand.tmp 47), type := 3, pos := "exact.go:2133", after := #[{ on := 8, ground := Ground.data }, { on := 13, ground := Ground.chain }, { on := 0, ground := Ground.phase }, { on := 1, ground := Ground.phase }, { on := 2, ground := Ground.phase }, { on := 3, ground := Ground.phase }, { on := 4, ground := Ground.phase }, { on := 5, ground := Ground.phase }, { on := 6, ground := Ground.phase }, { on := 7, ground := Ground.phase }, { on := 8, ground := Ground.phase }, { on := 9, ground := Ground.phase }, { on := 10, ground := Ground.phase }, { on := 11, ground := Ground.phase }, { on := 12, ground := Ground.phase }, { on := 13, ground := Ground.phase }], guard := none } : Oper)).after, Region.binds .any d = true → f d.on = true) (hJ : gi7_J w1 X code c0 M0 e1 e2 f1 f2 f e w) (hFr : Fr gi7_O A f (fun j => gi7_V X code c0 M0 e1 e2 f1 f2 j e) a)
    (K : Act → World → Prop) (hK : Hid (∀ v e' w', v = gi7_V X code c0 M0 e1 e2 f1 f2 14 e' → (∀ j, f j = true → gi7_V X code c0 M0 e1 e2 f1 f2 j e' = gi7_V X code c0 M0 e1 e2 f1 f2 j e) → gi7_J w1 X code c0 M0 e1 e2 f1 f2 (fun j => j == 14 || f j) e' w' → K (a.put (({ dst := some 14, op := Op.assign (Operand.tmp 47), type := 3, pos := "exact.go:2133", after := #[{ on := 8, ground := Ground.data }, { on := 13, ground := Ground.chain }, { on := 0, ground := Ground.phase }, { on := 1, ground := Ground.phase }, { on := 2, ground := Ground.phase }, { on := 3, ground := Ground.phase }, { on := 4, ground := Ground.phase }, { on := 5, ground := Ground.phase }, { on := 6, ground := Ground.phase }, { on := 7, ground := Ground.phase }, { on := 8, ground := Ground.phase }, { on := 9, ground := Ground.phase }, { on := 10, ground := Ground.phase }, { on := 11, ground := Ground.phase }, { on := 12, ground := Ground.phase }, { on := 13, ground := Ground.phase }], guard := none } : Oper)).dst v) w')) :
    if Region.wanted (({ dst := some 14, op := Op.assign (Operand.tmp 47), type := 3, pos := "exact.go:2133", after := #[{ on := 8, ground := Ground.data }, { on := 13, ground := Ground.chain }, { on := 0, ground := Ground.phase }, { on := 1, ground := Ground.phase }, { on := 2, ground := Ground.phase }, { on := 3, ground := Ground.phase }, { on := 4, ground := Ground.phase }, { on := 5, ground := Ground.phase }, { on := 6, ground := Ground.phase }, { on := 7, ground := Ground.phase }, { on := 8, ground := Ground.phase }, { on := 9, ground := Ground.phase }, { on := 10, ground := Ground.phase }, { on := 11, ground := Ground.phase }, { on := 12, ground := Ground.phase }, { on := 13, ground := Ground.phase }], guard := none } : Oper)) (yielded gi7_O a.tmps) = true then Oper.wp Try.prog (({ dst := some 14, op := Op.assign (Operand.tmp 47), type := 3, pos := "exact.go:2133", after := #[{ on := 8, ground := Ground.data }, { on := 13, ground := Ground.chain }, { on := 0, ground := Ground.phase }, { on := 1, ground := Ground.phase }, { on := 2, ground := Ground.phase }, { on := 3, ground := Ground.phase }, { on := 4, ground := Ground.phase }, { on := 5, ground := Ground.phase }, { on := 6, ground := Ground.phase }, { on := 7, ground := Ground.phase }, { on := 8, ground := Ground.phase }, { on := 9, ground := Ground.phase }, { on := 10, ground := Ground.phase }, { on := 11, ground := Ground.phase }, { on := 12, ground := Ground.phase }, { on := 13, ground := Ground.phase }], guard := none } : Oper)) a w K Q else K (a.put (({ dst := some 14, op := Op.assign (Operand.tmp 47), type := 3, pos := "exact.go:2133", after := #[{ on := 8, ground := Ground.data }, { on := 13, ground := Ground.chain }, { on := 0, ground := Ground.phase }, { on := 1, ground := Ground.phase }, { on := 2, ground := Ground.phase }, { on := 3, ground := Ground.phase }, { on := 4, ground := Ground.phase }, { on := 5, ground := Ground.phase }, { on := 6, ground := Ground.phase }, { on := 7, ground := Ground.phase }, { on := 8, ground := Ground.phase }, { on := 9, ground := Ground.phase }, { on := 10, ground := Ground.phase }, { on := 11, ground := Ground.phase }, { on := 12, ground := Ground.phase }, { on := 13, ground := Ground.phase }], guard := none } : Oper)).dst undef) w := by
  obtain ⟨hla, oA, oB, hW⟩ := hJ
  have k8 : f 8 = true := hdep { on := 8, ground := .data } (by simp) rfl
  have v47 : a.tmps.getD 47 undef = .int .i64 code := hFr.new 8 47 rfl k8
  clear hFr
  replace hla := hid hla
  replace oA := hid oA
  replace oB := hid oB
  replace hW := hid hW
  have kc : f 3 = true := hla.out.2.2.2.2.1 k8
  clear hdep
  go_simp
  exact hK.out _ e _ rfl (fun _ _ => rfl) ⟨⟨hla.out.1, hla.out.2.1, hla.out.2.2.1, hla.out.2.2.2.1, hla.out.2.2.2.2.1, hla.out.2.2.2.2.2.1, fun _ => kc⟩, oA.out, oB.out, hW.out⟩
set_option maxRecDepth 100000 in
set_option maxHeartbeats 4000000 in
theorem gi7_reg (A : Act) (w1 : World) (Q : Exit → Act → World → Prop) (X : Mx) (code : Int) (c0 : Cu) (M0 : Mem) (e1 e2 : Option Addr) (f1 f2 : Nat) (bc bm : Nat)
    (hc : A.tmps.getD 2 undef = .pointer (some ⟨bc, 0, none⟩)) (hm : A.tmps.getD 10 undef = .pointer (some ⟨bm, 0, none⟩))
    (qc : Blk w1 bc (cuA c0)) (qm : Blk w1 bm #[.slice e1 M0.rom.length f1, .slice e2 M0.ram.length f2, .int .i64 M0.page, .int .i64 M0.screen, .bool M0.locked]) (htc : ∀ W', Calls Try.prog 13 #[cuV c0] W' fun e w' => e = .returned (cuV c0) ∧ Below W'.heap.size W' w')
    (hmr : ∀ W', Below w1.heap.size w1 W' → MemR W' (memV (.slice e1 M0.rom.length f1) (.slice e2 M0.ram.length f2) M0.page M0.screen M0.locked) M0)
    (hF : ∀ W' v, Below w1.heap.size w1 W' → MemR W' v M0 → Calls Try.prog 7 #[cuV c0, v] W' fun e w' => ∃ u cv, e = .returned (.tuple #[cpV X.c, u, cv, .int .i64 code]) ∧ Ans W' w' X u cv) (hN : 48 ≤ A.tmps.size)
    (h : ∀ (w : World) (u2 cv : Value) (g1 g2 : Option Addr) (j1 j2 lo hi b6 b7 : Nat), WI w1 w true true true true true X (memV (.slice g1 X.m.rom.length j1) (.slice g2 X.m.ram.length j2) X.m.page X.m.screen X.m.locked) cv lo hi b6 b7 #[.slice g1 X.m.rom.length j1, .slice g2 X.m.ram.length j2, .int .i64 X.m.page, .int .i64 X.m.screen, .bool X.m.locked] → Q .normal (putsA A [(40, cuV c0), (41, cuV c0), (42, memV (.slice e1 M0.rom.length f1) (.slice e2 M0.ram.length f2) M0.page M0.screen M0.locked), (43, .tuple #[cpV X.c, memV (.slice g1 X.m.rom.length j1) (.slice g2 X.m.ram.length j2) X.m.page X.m.screen X.m.locked, cv, .int .i64 code]), (39, .tuple #[cpV X.c, memV (.slice g1 X.m.rom.length j1) (.slice g2 X.m.ram.length j2) X.m.page X.m.screen X.m.locked, cv, .int .i64 code]), (44, cpV X.c), (45, memV (.slice g1 X.m.rom.length j1) (.slice g2 X.m.ram.length j2) X.m.page X.m.screen X.m.locked), (46, cv), (47, .int .i64 code), (11, .pointer (some ⟨b6, 0, none⟩)), (12, .pointer (some ⟨b7, 0, none⟩)), (13, cv), (14, .int .i64 code)]) w) :
    (Code.region 7 #[({ dst := some 40, op := Op.load 40 (Operand.tmp 2), type := 40, pos := "exact.go:2133", after := #[], guard := none } : Oper), ({ dst := some 41, op := Op.call { callee := Callee.value (Operand.func 13), args := #[Operand.tmp 40], argTypes := #[40] }, type := 25, pos := "exact.go:2133", after := #[{ on := 0, ground := Ground.data }], guard := none } : Oper), ({ dst := some 42, op := Op.load 30 (Operand.tmp 10), type := 30, pos := "exact.go:2133", after := #[], guard := none } : Oper), ({ dst := some 43, op := Op.call { callee := Callee.value (Operand.func 7), args := #[Operand.tmp 41, Operand.tmp 42], argTypes := #[25, 30] }, type := 33, pos := "exact.go:2133", after := #[{ on := 1, ground := Ground.data }, { on := 2, ground := Ground.data }, { on := 1, ground := Ground.chain }], guard := none } : Oper), ({ dst := some 39, op := Op.move (Operand.tmp 43), type := 33, pos := "exact.go:2133", after := #[{ on := 3, ground := Ground.data }], guard := none } : Oper), ({ dst := some 44, op := Op.extract (Operand.tmp 39) 0, type := 25, pos := "exact.go:2133", after := #[{ on := 4, ground := Ground.data }], guard := none } : Oper), ({ dst := some 45, op := Op.extract (Operand.tmp 39) 1, type := 30, pos := "exact.go:2133", after := #[{ on := 4, ground := Ground.data }, { on := 11, ground := Ground.gcOnly Departure.lateStores }], guard := none } : Oper), ({ dst := some 46, op := Op.extract (Operand.tmp 39) 2, type := 32, pos := "exact.go:2133", after := #[{ on := 4, ground := Ground.data }, { on := 12, ground := Ground.gcOnly Departure.lateStores }], guard := none } : Oper), ({ dst := some 47, op := Op.extract (Operand.tmp 39) 3, type := 3, pos := "exact.go:2133", after := #[{ on := 4, ground := Ground.data }, { on := 13, ground := Ground.gcOnly Departure.lateStores }], guard := none } : Oper), ({ dst := some 11, op := Op.alloc 25, type := 0, pos := "exact.go:2133", after := #[], guard := none } : Oper), ({ dst := some 12, op := Op.alloc 30, type := 0, pos := "exact.go:2133", after := #[], guard := none } : Oper), ({ dst := none, op := Op.store 25 (Operand.tmp 11) (Operand.tmp 44), type := 0, pos := "exact.go:2133", after := #[{ on := 9, ground := Ground.data }, { on := 5, ground := Ground.data }, { on := 3, ground := Ground.chain }, { on := 0, ground := Ground.phase }, { on := 1, ground := Ground.phase }, { on := 2, ground := Ground.phase }, { on := 3, ground := Ground.phase }, { on := 4, ground := Ground.phase }, { on := 5, ground := Ground.phase }, { on := 6, ground := Ground.textOnly Departure.lateStores }, { on := 7, ground := Ground.textOnly Departure.lateStores }, { on := 8, ground := Ground.textOnly Departure.lateStores }, { on := 9, ground := Ground.phase }, { on := 10, ground := Ground.phase }], guard := none } : Oper), ({ dst := none, op := Op.store 30 (Operand.tmp 12) (Operand.tmp 45), type := 0, pos := "exact.go:2133", after := #[{ on := 10, ground := Ground.data }, { on := 6, ground := Ground.data }, { on := 11, ground := Ground.chain }, { on := 0, ground := Ground.phase }, { on := 1, ground := Ground.phase }, { on := 2, ground := Ground.phase }, { on := 3, ground := Ground.phase }, { on := 4, ground := Ground.phase }, { on := 5, ground := Ground.phase }, { on := 6, ground := Ground.phase }, { on := 7, ground := Ground.textOnly Departure.lateStores }, { on := 8, ground := Ground.textOnly Departure.lateStores }, { on := 9, ground := Ground.phase }, { on := 10, ground := Ground.phase }, { on := 11, ground := Ground.phase }], guard := none } : Oper), ({ dst := some 13, op := Op.assign (Operand.tmp 46), type := 32, pos := "exact.go:2133", after := #[{ on := 7, ground := Ground.data }, { on := 12, ground := Ground.chain }, { on := 0, ground := Ground.phase }, { on := 1, ground := Ground.phase }, { on := 2, ground := Ground.phase }, { on := 3, ground := Ground.phase }, { on := 4, ground := Ground.phase }, { on := 5, ground := Ground.phase }, { on := 6, ground := Ground.phase }, { on := 7, ground := Ground.phase }, { on := 8, ground := Ground.textOnly Departure.lateStores }, { on := 9, ground := Ground.phase }, { on := 10, ground := Ground.phase }, { on := 11, ground := Ground.phase }, { on := 12, ground := Ground.phase }], guard := none } : Oper), ({ dst := some 14, op := Op.assign (Operand.tmp 47), type := 3, pos := "exact.go:2133", after := #[{ on := 8, ground := Ground.data }, { on := 13, ground := Ground.chain }, { on := 0, ground := Ground.phase }, { on := 1, ground := Ground.phase }, { on := 2, ground := Ground.phase }, { on := 3, ground := Ground.phase }, { on := 4, ground := Ground.phase }, { on := 5, ground := Ground.phase }, { on := 6, ground := Ground.phase }, { on := 7, ground := Ground.phase }, { on := 8, ground := Ground.phase }, { on := 9, ground := Ground.phase }, { on := 10, ground := Ground.phase }, { on := 11, ground := Ground.phase }, { on := 12, ground := Ground.phase }, { on := 13, ground := Ground.phase }], guard := none } : Oper)] true).wp Try.prog Q A w1 := by
  show (Code.region 7 gi7_O true).wp Try.prog Q A w1
  refine wp_region_slots (E := Gi7E) (gi7_V X code c0 M0 e1 e2 f1 f2) (gi7_J w1 X code c0 M0 e1 e2 f1 f2) (by kernel_rfl) (by kernel_rfl) (by kernel_rfl) (fun i s hi => ?_) ?_ ⟨undef, undef, none, none, 0, 0, 0, 0, 0, 0⟩ ⟨⟨fun h => (by cases h), fun h => (by cases h), fun h => (by cases h), fun h => (by cases h), fun h => (by cases h), fun h => (by cases h), fun h => (by cases h)⟩, fun h => (by cases h), fun h => (by cases h), WI.start ((Below.refl _ _).drew)⟩ ?_
  · cases hc : ([40, 41, 42, 43, 39, 44, 45, 46, 47, 11, 12, 13, 14] : List Nat).contains s
    · exact absurd hi (gi7_no hc i)
    · have : s ∈ ([40, 41, 42, 43, 39, 44, 45, 46, 47, 11, 12, 13, 14] : List Nat) := by simpa using hc
      simp only [List.mem_cons, List.not_mem_nil, or_false] at this
      omega
  · intro f e a w i o hi ho hun hdep hJ hFr K hK
    have hi8 : i < 15 := hi
    rcases (by omega : i = 0 ∨ i = 1 ∨ i = 2 ∨ i = 3 ∨ i = 4 ∨ i = 5 ∨ i = 6 ∨ i = 7 ∨ i = 8 ∨ i = 9 ∨ i = 10 ∨ i = 11 ∨ i = 12 ∨ i = 13 ∨ i = 14) with rfl | rfl | rfl | rfl | rfl | rfl | rfl | rfl | rfl | rfl | rfl | rfl | rfl | rfl | rfl
    · obtain rfl := Option.some.inj ho
      exact gi7_s0 A w1 Q X code c0 M0 e1 e2 f1 f2 bc bm hc hm qc qm htc hmr hF f e a w hun hdep hJ hFr K hK
    · obtain rfl := Option.some.inj ho
      exact gi7_s1 A w1 Q X code c0 M0 e1 e2 f1 f2 bc bm hc hm qc qm htc hmr hF f e a w hun hdep hJ hFr K hK
    · obtain rfl := Option.some.inj ho
      exact gi7_s2 A w1 Q X code c0 M0 e1 e2 f1 f2 bc bm hc hm qc qm htc hmr hF f e a w hun hdep hJ hFr K hK
    · obtain rfl := Option.some.inj ho
      exact gi7_s3 A w1 Q X code c0 M0 e1 e2 f1 f2 bc bm hc hm qc qm htc hmr hF f e a w hun hdep hJ hFr K hK
    · obtain rfl := Option.some.inj ho
      exact gi7_s4 A w1 Q X code c0 M0 e1 e2 f1 f2 bc bm hc hm qc qm htc hmr hF f e a w hun hdep hJ hFr K hK
    · obtain rfl := Option.some.inj ho
      exact gi7_s5 A w1 Q X code c0 M0 e1 e2 f1 f2 bc bm hc hm qc qm htc hmr hF f e a w hun hdep hJ hFr K hK
    · obtain rfl := Option.some.inj ho
      exact gi7_s6 A w1 Q X code c0 M0 e1 e2 f1 f2 bc bm hc hm qc qm htc hmr hF f e a w hun hdep hJ hFr K hK
    · obtain rfl := Option.some.inj ho
      exact gi7_s7 A w1 Q X code c0 M0 e1 e2 f1 f2 bc bm hc hm qc qm htc hmr hF f e a w hun hdep hJ hFr K hK
    · obtain rfl := Option.some.inj ho
      exact gi7_s8 A w1 Q X code c0 M0 e1 e2 f1 f2 bc bm hc hm qc qm htc hmr hF f e a w hun hdep hJ hFr K hK
    · obtain rfl := Option.some.inj ho
      exact gi7_s9 A w1 Q X code c0 M0 e1 e2 f1 f2 bc bm hc hm qc qm htc hmr hF f e a w hun hdep hJ hFr K hK
    · obtain rfl := Option.some.inj ho
      exact gi7_s10 A w1 Q X code c0 M0 e1 e2 f1 f2 bc bm hc hm qc qm htc hmr hF f e a w hun hdep hJ hFr K hK
    · obtain rfl := Option.some.inj ho
      exact gi7_s11 A w1 Q X code c0 M0 e1 e2 f1 f2 bc bm hc hm qc qm htc hmr hF f e a w hun hdep hJ hFr K hK
    · obtain rfl := Option.some.inj ho
      exact gi7_s12 A w1 Q X code c0 M0 e1 e2 f1 f2 bc bm hc hm qc qm htc hmr hF f e a w hun hdep hJ hFr K hK
    · obtain rfl := Option.some.inj ho
      exact gi7_s13 A w1 Q X code c0 M0 e1 e2 f1 f2 bc bm hc hm qc qm htc hmr hF f e a w hun hdep hJ hFr K hK
    · obtain rfl := Option.some.inj ho
      exact gi7_s14 A w1 Q X code c0 M0 e1 e2 f1 f2 bc bm hc hm qc qm htc hmr hF f e a w hun hdep hJ hFr K hK
  · intro f e a w hall hJ hFr
    obtain ⟨_, _, _, hW⟩ := hJ
    rw [hall 3 (by decide), hall 9 (by decide), hall 10 (by decide), hall 11 (by decide), hall 12 (by decide)] at hW
    have := h w e.u2 e.cv e.g1 e.g2 e.j1 e.j2 e.lo e.hi e.b6 e.b7 hW
    rw [hFr.eq [(40, cuV c0), (41, cuV c0), (42, memV (.slice e1 M0.rom.length f1) (.slice e2 M0.ram.length f2) M0.page M0.screen M0.locked), (43, .tuple #[cpV X.c, memV (.slice e.g1 X.m.rom.length e.j1) (.slice e.g2 X.m.ram.length e.j2) X.m.page X.m.screen X.m.locked, e.cv, .int .i64 code]), (39, .tuple #[cpV X.c, memV (.slice e.g1 X.m.rom.length e.j1) (.slice e.g2 X.m.ram.length e.j2) X.m.page X.m.screen X.m.locked, e.cv, .int .i64 code]), (44, cpV X.c), (45, memV (.slice e.g1 X.m.rom.length e.j1) (.slice e.g2 X.m.ram.length e.j2) X.m.page X.m.screen X.m.locked), (46, e.cv), (47, .int .i64 code), (11, .pointer (some ⟨e.b6, 0, none⟩)), (12, .pointer (some ⟨e.b7, 0, none⟩)), (13, e.cv), (14, .int .i64 code)] (fun s hs => ?_) (fun i s hi => ?_)]
    · exact this
    · have hne : ∀ k ∈ ([40, 41, 42, 43, 39, 44, 45, 46, 47, 11, 12, 13, 14] : List Nat), k ≠ s := by
        intro k hk e2
        subst e2
        simp only [List.mem_cons, List.not_mem_nil, or_false] at hk
        rcases hk with rfl | rfl | rfl | rfl | rfl | rfl | rfl | rfl | rfl | rfl | rfl | rfl | rfl
        · exact hs 0 rfl
        · exact hs 1 rfl
        · exact hs 2 rfl
        · exact hs 3 rfl
        · exact hs 4 rfl
        · exact hs 5 rfl
        · exact hs 6 rfl
        · exact hs 7 rfl
        · exact hs 8 rfl
        · exact hs 9 rfl
        · exact hs 10 rfl
        · exact hs 13 rfl
        · exact hs 14 rfl
      simp only [lookA]
      simp [hne]
    · have hl : i < 15 := by
        rcases Nat.lt_or_ge i 15 with h1 | h1
        · exact h1
        · unfold dstAt at hi
          rw [Array.getElem?_eq_none (by exact h1)] at hi
          cases hi
      refine ⟨hall i hl, ?_⟩
      rcases (by omega : i = 0 ∨ i = 1 ∨ i = 2 ∨ i = 3 ∨ i = 4 ∨ i = 5 ∨ i = 6 ∨ i = 7 ∨ i = 8 ∨ i = 9 ∨ i = 10 ∨ i = 11 ∨ i = 12 ∨ i = 13 ∨ i = 14) with rfl | rfl | rfl | rfl | rfl | rfl | rfl | rfl | rfl | rfl | rfl | rfl | rfl | rfl | rfl
      all_goals first
        | (cases hi; rfl)
        | cases hi
end Go.Proofs.Ytiidkhfigifmjaa
