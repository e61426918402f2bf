/- The head of a snapshot's text: the specification's drawn region. -/
import Derived.Test.YtghcagibdcblnaaGreatDoorF06
import Derived.Test.YtghcagibdcblnaaGreatDoorF07
import Derived.Test.YtghcagibdcblnaaGreatDoorLcf
namespace Go.Proofs.YtghcagibdcblnaaGreatDoor
open Go.ChangeShapes Go.WideShapes Go.ChangeAt Go.RowKit
set_option linter.unusedVariables false
set_option linter.unusedSimpArgs false

theorem gtr13 {a b c : World} {r : Option Nat} (h : a.grownBy b r) (k : b.grownBy c r) : a.grownBy c r :=
  ⟨k.os.trans h.os, k.tape.trans h.tape, k.output.trans h.output, Nat.le_trans h.size k.size, fun i hi hne => (k.block i (Nat.lt_of_lt_of_le hi h.size) hne).trans (h.block i hi hne)⟩
theorem ne_own {w : World} {base : Nat} {t : TypeId} {z n g : Nat} {v : Value} {L : List Value} (h : w.ownsRow base t z v n L) (hg : w.heap.size ≤ g) : some g ≠ v.ownBlock := fun e => by
  have := (h.lt g e.symm).2
  omega
def ee_V (b d n ocap base : Nat) (oa : Option Addr) (L : List Value) (s : Sn) (vr vm : Value) (m1 m2 u : Int) : Nat → Nat × Nat × Nat × Value → Value := fun i e => match i with
  | 0 => .slice oa n ocap
  | 1 => .pointer (some ⟨d, 8, none⟩)
  | 2 => .int .i64 s.c.f
  | 3 => .int .u8 s.c.f
  | 4 => .pointer (some ⟨d, 9, none⟩)
  | 5 => .int .i64 s.c.sp
  | 6 => .int .u8 s.c.sp
  | 7 => .pointer (some ⟨d, 10, none⟩)
  | 8 => .int .i64 s.c.pc
  | 9 => .int .u8 s.c.pc
  | 10 => .pointer (some ⟨d, 11, none⟩)
  | 11 => .bool s.c.iff
  | 12 => .pointer (some ⟨d, 12, none⟩)
  | 13 => .bool s.c.ei
  | 14 => .pointer (some ⟨d, 13, none⟩)
  | 15 => .bool s.c.halt
  | 16 => .pointer (some ⟨b, 14, none⟩)
  | 17 => .pointer (some ⟨b, 18, none⟩)
  | 18 => .bool s.m.locked
  | 19 => .pointer (some ⟨b, 14, none⟩)
  | 20 => .pointer (some ⟨b, 17, none⟩)
  | 21 => .int .i64 s.m.screen
  | 22 => .bool (s.m.screen == 3)
  | 23 => .slice (some ⟨e.1, 0, none⟩) 5 5
  | 24 => .int .i64 m1
  | 25 => .int .u8 m1
  | 26 => .pointer (some ⟨b, 14, none⟩)
  | 27 => .pointer (some ⟨b, 16, none⟩)
  | 28 => .int .i64 s.m.page
  | 29 => .int .u8 s.m.page
  | 30 => .pointer (some ⟨b, 19, none⟩)
  | 31 => .pointer (some ⟨b, 28, none⟩)
  | 32 => .int .i64 s.p.border
  | 33 => .pointer (some ⟨b, 19, none⟩)
  | 34 => .pointer (some ⟨b, 29, none⟩)
  | 35 => .bool s.p.mic
  | 36 => .pointer (some ⟨b, 19, none⟩)
  | 37 => .pointer (some ⟨b, 30, none⟩)
  | 38 => .bool s.p.beep
  | 39 => .slice (some ⟨e.2.1, 0, none⟩) 2 2
  | 40 => .int .i64 m2
  | 41 => .int .i64 (m2 * 8)
  | 42 => .int .i64 u
  | 43 => .int .u8 u
  | 44 => .slice (some ⟨e.2.2.1, 0, none⟩) 6 6
  | 45 => e.2.2.2
  | 46 => e.2.2.2
  | _ => undef
def ee_J (w1 : World) (b d n ocap base : Nat) (oa : Option Addr) (L : List Value) (s : Sn) (vr vm : Value) (m1 m2 u : Int) (f : Nat → Bool) (e : Nat × Nat × Nat × Value) (w : World) : Prop :=
  w1.grownBy w (Value.slice oa n ocap).ownBlock ∧ (f 45 = false → w.ownsRow base 5 1 (Value.slice oa n ocap) n L) ∧ (f 45 = true → w.ownsRow base 5 1 e.2.2.2 (n + 6) (L ++ [.int .u8 s.c.f, .int .u8 s.c.sp, .int .u8 s.c.pc, .int .u8 m1, .int .u8 s.m.page, .int .u8 u])) ∧ (f 23 = true → w1.heap.size ≤ e.1 ∧ Blk w e.1 #[.bool s.c.iff, .bool s.c.ei, .bool s.c.halt, .bool s.m.locked, .bool (s.m.screen == 3)]) ∧ (f 39 = true → w1.heap.size ≤ e.2.1 ∧ Blk w e.2.1 #[.bool s.p.mic, .bool s.p.beep]) ∧ (f 44 = true → w1.heap.size ≤ e.2.2.1 ∧ Blk w e.2.2.1 #[.int .u8 s.c.f, .int .u8 s.c.sp, .int .u8 s.c.pc, .int .u8 m1, .int .u8 s.m.page, .int .u8 u]) ∧ (f 46 = true → f 0 = true ∧ f 45 = true)
def ee_o0 : Oper := ({ dst := some 26, op := Op.move (Operand.tmp 4), type := 22, pos := "l13_snap.go:24", after := #[], guard := none } : Oper)
def ee_o1 : Oper := ({ dst := some 27, op := Op.fieldAddr 25 (Operand.tmp 3) 1, type := 0, pos := "l13_snap.go:24", after := #[], guard := none } : Oper)
def ee_o2 : Oper := ({ dst := some 28, op := Op.load 3 (Operand.tmp 27), type := 3, pos := "l13_snap.go:24", after := #[{ on := 1, ground := Ground.data }], guard := none } : Oper)
def ee_o3 : Oper := ({ dst := some 29, op := Op.convert 3 5 (Operand.tmp 28), type := 5, pos := "l13_snap.go:24", after := #[{ on := 2, ground := Ground.data }], guard := none } : Oper)
def ee_o4 : Oper := ({ dst := some 30, op := Op.fieldAddr 25 (Operand.tmp 3) 2, type := 0, pos := "l13_snap.go:24", after := #[], guard := none } : Oper)
def ee_o5 : Oper := ({ dst := some 31, op := Op.load 3 (Operand.tmp 30), type := 3, pos := "l13_snap.go:24", after := #[{ on := 4, ground := Ground.data }], guard := none } : Oper)
def ee_o6 : Oper := ({ dst := some 32, op := Op.convert 3 5 (Operand.tmp 31), type := 5, pos := "l13_snap.go:24", after := #[{ on := 5, ground := Ground.data }], guard := none } : Oper)
def ee_o7 : Oper := ({ dst := some 33, op := Op.fieldAddr 25 (Operand.tmp 3) 3, type := 0, pos := "l13_snap.go:24", after := #[], guard := none } : Oper)
def ee_o8 : Oper := ({ dst := some 34, op := Op.load 3 (Operand.tmp 33), type := 3, pos := "l13_snap.go:24", after := #[{ on := 7, ground := Ground.data }], guard := none } : Oper)
def ee_o9 : Oper := ({ dst := some 35, op := Op.convert 3 5 (Operand.tmp 34), type := 5, pos := "l13_snap.go:24", after := #[{ on := 8, ground := Ground.data }], guard := none } : Oper)
def ee_o10 : Oper := ({ dst := some 36, op := Op.fieldAddr 25 (Operand.tmp 3) 4, type := 0, pos := "l13_snap.go:24", after := #[], guard := none } : Oper)
def ee_o11 : Oper := ({ dst := some 37, op := Op.load 4 (Operand.tmp 36), type := 4, pos := "l13_snap.go:24", after := #[{ on := 10, ground := Ground.data }], guard := none } : Oper)
def ee_o12 : Oper := ({ dst := some 38, op := Op.fieldAddr 25 (Operand.tmp 3) 5, type := 0, pos := "l13_snap.go:24", after := #[], guard := none } : Oper)
def ee_o13 : Oper := ({ dst := some 39, op := Op.load 4 (Operand.tmp 38), type := 4, pos := "l13_snap.go:24", after := #[{ on := 12, ground := Ground.data }], guard := none } : Oper)
def ee_o14 : Oper := ({ dst := some 40, op := Op.fieldAddr 25 (Operand.tmp 3) 6, type := 0, pos := "l13_snap.go:24", after := #[], guard := none } : Oper)
def ee_o15 : Oper := ({ dst := some 41, op := Op.load 4 (Operand.tmp 40), type := 4, pos := "l13_snap.go:24", after := #[{ on := 14, ground := Ground.data }], guard := none } : Oper)
def ee_o16 : Oper := ({ dst := some 42, op := Op.fieldAddr 33 (Operand.tmp 1) 1, type := 0, pos := "l13_snap.go:24", after := #[], guard := none } : Oper)
def ee_o17 : Oper := ({ dst := some 43, op := Op.fieldAddr 29 (Operand.tmp 42) 4, type := 0, pos := "l13_snap.go:24", after := #[{ on := 16, ground := Ground.data }], guard := none } : Oper)
def ee_o18 : Oper := ({ dst := some 44, op := Op.load 4 (Operand.tmp 43), type := 4, pos := "l13_snap.go:24", after := #[{ on := 17, ground := Ground.data }], guard := none } : Oper)
def ee_o19 : Oper := ({ dst := some 45, op := Op.fieldAddr 33 (Operand.tmp 1) 1, type := 0, pos := "l13_snap.go:24", after := #[], guard := none } : Oper)
def ee_o20 : Oper := ({ dst := some 46, op := Op.fieldAddr 29 (Operand.tmp 45) 3, type := 0, pos := "l13_snap.go:24", after := #[{ on := 19, ground := Ground.data }], guard := none } : Oper)
def ee_o21 : Oper := ({ dst := some 47, op := Op.load 3 (Operand.tmp 46), type := 3, pos := "l13_snap.go:24", after := #[{ on := 20, ground := Ground.data }], guard := none } : Oper)
def ee_o22 : Oper := ({ dst := some 48, op := Op.binOp BinOp.eql 3 (Operand.tmp 47) (Operand.const (Value.int IntKind.i64 3)) 3, type := 4, pos := "l13_snap.go:24", after := #[{ on := 21, ground := Ground.data }], guard := none } : Oper)
def ee_o23 : Oper := ({ dst := some 49, op := Op.buildSlice 80 5 #[(0, Operand.tmp 37), (1, Operand.tmp 39), (2, Operand.tmp 41), (3, Operand.tmp 44), (4, Operand.tmp 48)], type := 80, pos := "l13_snap.go:24", after := #[{ on := 11, ground := Ground.data }, { on := 13, ground := Ground.data }, { on := 15, ground := Ground.data }, { on := 18, ground := Ground.data }, { on := 22, ground := Ground.data }], guard := none } : Oper)
def ee_o24 : Oper := ({ dst := some 50, op := Op.call { callee := Callee.value (Operand.func 37), args := #[Operand.tmp 49], argTypes := #[80] }, type := 3, pos := "l13_snap.go:24", after := #[{ on := 23, ground := Ground.data }], guard := none } : Oper)
def ee_o25 : Oper := ({ dst := some 51, op := Op.convert 3 5 (Operand.tmp 50), type := 5, pos := "l13_snap.go:24", after := #[{ on := 24, ground := Ground.data }], guard := none } : Oper)
def ee_o26 : Oper := ({ dst := some 52, op := Op.fieldAddr 33 (Operand.tmp 1) 1, type := 0, pos := "l13_snap.go:24", after := #[], guard := none } : Oper)
def ee_o27 : Oper := ({ dst := some 53, op := Op.fieldAddr 29 (Operand.tmp 52) 2, type := 0, pos := "l13_snap.go:24", after := #[{ on := 26, ground := Ground.data }], guard := none } : Oper)
def ee_o28 : Oper := ({ dst := some 54, op := Op.load 3 (Operand.tmp 53), type := 3, pos := "l13_snap.go:24", after := #[{ on := 27, ground := Ground.data }], guard := none } : Oper)
def ee_o29 : Oper := ({ dst := some 55, op := Op.convert 3 5 (Operand.tmp 54), type := 5, pos := "l13_snap.go:24", after := #[{ on := 28, ground := Ground.data }], guard := none } : Oper)
def ee_o30 : Oper := ({ dst := some 56, op := Op.fieldAddr 33 (Operand.tmp 1) 2, type := 0, pos := "l13_snap.go:24", after := #[], guard := none } : Oper)
def ee_o31 : Oper := ({ dst := some 57, op := Op.fieldAddr 31 (Operand.tmp 56) 2, type := 0, pos := "l13_snap.go:24", after := #[{ on := 30, ground := Ground.data }], guard := none } : Oper)
def ee_o32 : Oper := ({ dst := some 58, op := Op.load 3 (Operand.tmp 57), type := 3, pos := "l13_snap.go:24", after := #[{ on := 31, ground := Ground.data }], guard := none } : Oper)
def ee_o33 : Oper := ({ dst := some 59, op := Op.fieldAddr 33 (Operand.tmp 1) 2, type := 0, pos := "l13_snap.go:24", after := #[], guard := none } : Oper)
def ee_o34 : Oper := ({ dst := some 60, op := Op.fieldAddr 31 (Operand.tmp 59) 3, type := 0, pos := "l13_snap.go:24", after := #[{ on := 33, ground := Ground.data }], guard := none } : Oper)
def ee_o35 : Oper := ({ dst := some 61, op := Op.load 4 (Operand.tmp 60), type := 4, pos := "l13_snap.go:24", after := #[{ on := 34, ground := Ground.data }], guard := none } : Oper)
def ee_o36 : Oper := ({ dst := some 62, op := Op.fieldAddr 33 (Operand.tmp 1) 2, type := 0, pos := "l13_snap.go:24", after := #[], guard := none } : Oper)
def ee_o37 : Oper := ({ dst := some 63, op := Op.fieldAddr 31 (Operand.tmp 62) 4, type := 0, pos := "l13_snap.go:24", after := #[{ on := 36, ground := Ground.data }], guard := none } : Oper)
def ee_o38 : Oper := ({ dst := some 64, op := Op.load 4 (Operand.tmp 63), type := 4, pos := "l13_snap.go:24", after := #[{ on := 37, ground := Ground.data }], guard := none } : Oper)
def ee_o39 : Oper := ({ dst := some 65, op := Op.buildSlice 80 2 #[(0, Operand.tmp 61), (1, Operand.tmp 64)], type := 80, pos := "l13_snap.go:24", after := #[{ on := 35, ground := Ground.data }, { on := 38, ground := Ground.data }], guard := none } : Oper)
def ee_o40 : Oper := ({ dst := some 66, op := Op.call { callee := Callee.value (Operand.func 37), args := #[Operand.tmp 65], argTypes := #[80] }, type := 3, pos := "l13_snap.go:24", after := #[{ on := 39, ground := Ground.data }, { on := 24, ground := Ground.chain }], guard := none } : Oper)
def ee_o41 : Oper := ({ dst := some 67, op := Op.binOp BinOp.shl 3 (Operand.tmp 66) (Operand.const (Value.int IntKind.u64 3)) 81, type := 3, pos := "l13_snap.go:24", after := #[{ on := 40, ground := Ground.data }], guard := none } : Oper)
def ee_o42 : Oper := ({ dst := some 68, op := Op.binOp BinOp.or 3 (Operand.tmp 58) (Operand.tmp 67) 3, type := 3, pos := "l13_snap.go:24", after := #[{ on := 32, ground := Ground.data }, { on := 41, ground := Ground.data }], guard := none } : Oper)
def ee_o43 : Oper := ({ dst := some 69, op := Op.convert 3 5 (Operand.tmp 68), type := 5, pos := "l13_snap.go:24", after := #[{ on := 42, ground := Ground.data }], guard := none } : Oper)
def ee_o44 : Oper := ({ dst := some 70, op := Op.buildSlice 22 6 #[(0, Operand.tmp 29), (1, Operand.tmp 32), (2, Operand.tmp 35), (3, Operand.tmp 51), (4, Operand.tmp 55), (5, Operand.tmp 69)], type := 22, pos := "l13_snap.go:24", after := #[{ on := 3, ground := Ground.data }, { on := 6, ground := Ground.data }, { on := 9, ground := Ground.data }, { on := 25, ground := Ground.data }, { on := 29, ground := Ground.data }, { on := 43, ground := Ground.data }], guard := none } : Oper)
def ee_o45 : Oper := ({ dst := some 71, op := Op.call { callee := Callee.builtin Builtin.append, args := #[Operand.tmp 26, Operand.tmp 70], argTypes := #[22, 22] }, type := 22, pos := "l13_snap.go:24", after := #[{ on := 0, ground := Ground.data }, { on := 44, ground := Ground.data }, { on := 40, ground := Ground.chain }], guard := none } : Oper)
def ee_o46 : Oper := ({ dst := some 4, op := Op.assign (Operand.tmp 71), type := 22, pos := "l13_snap.go:24", after := #[{ on := 45, ground := Ground.data }, { on := 45, ground := Ground.chain }, { on := 0, ground := Ground.phase }, { on := 1, ground := Ground.phase }, { on := 2, ground := Ground.phase }, { on := 3, ground := Ground.phase }, { on := 4, ground := Ground.phase }, { on := 5, ground := Ground.phase }, { on := 6, ground := Ground.phase }, { on := 7, ground := Ground.phase }, { on := 8, ground := Ground.phase }, { on := 9, ground := Ground.phase }, { on := 10, ground := Ground.phase }, { on := 11, ground := Ground.phase }, { on := 12, ground := Ground.phase }, { on := 13, ground := Ground.phase }, { on := 14, ground := Ground.phase }, { on := 15, ground := Ground.phase }, { on := 16, ground := Ground.phase }, { on := 17, ground := Ground.phase }, { on := 18, ground := Ground.phase }, { on := 19, ground := Ground.phase }, { on := 20, ground := Ground.phase }, { on := 21, ground := Ground.phase }, { on := 22, ground := Ground.phase }, { on := 23, ground := Ground.phase }, { on := 24, ground := Ground.phase }, { on := 25, ground := Ground.phase }, { on := 26, ground := Ground.phase }, { on := 27, ground := Ground.phase }, { on := 28, ground := Ground.phase }, { on := 29, ground := Ground.phase }, { on := 30, ground := Ground.phase }, { on := 31, ground := Ground.phase }, { on := 32, ground := Ground.phase }, { on := 33, ground := Ground.phase }, { on := 34, ground := Ground.phase }, { on := 35, ground := Ground.phase }, { on := 36, ground := Ground.phase }, { on := 37, ground := Ground.phase }, { on := 38, ground := Ground.phase }, { on := 39, ground := Ground.phase }, { on := 40, ground := Ground.phase }, { on := 41, ground := Ground.phase }, { on := 42, ground := Ground.phase }, { on := 43, ground := Ground.phase }, { on := 44, ground := Ground.phase }, { on := 45, ground := Ground.phase }], guard := none } : Oper)
def ee_O : Array Oper := #[ee_o0, ee_o1, ee_o2, ee_o3, ee_o4, ee_o5, ee_o6, ee_o7, ee_o8, ee_o9, ee_o10, ee_o11, ee_o12, ee_o13, ee_o14, ee_o15, ee_o16, ee_o17, ee_o18, ee_o19, ee_o20, ee_o21, ee_o22, ee_o23, ee_o24, ee_o25, ee_o26, ee_o27, ee_o28, ee_o29, ee_o30, ee_o31, ee_o32, ee_o33, ee_o34, ee_o35, ee_o36, ee_o37, ee_o38, ee_o39, ee_o40, ee_o41, ee_o42, ee_o43, ee_o44, ee_o45, ee_o46]
theorem ee_no {s : Nat} (h : ([26, 27, 28, 29, 30, 31, 32, 33, 34, 35, 36, 37, 38, 39, 40, 41, 42, 43, 44, 45, 46, 47, 48, 49, 50, 51, 52, 53, 54, 55, 56, 57, 58, 59, 60, 61, 62, 63, 64, 65, 66, 67, 68, 69, 70, 71, 4] : List Nat).contains s = false) : ∀ i, dstAt ee_O i ≠ some s := by
  intro i hi
  have hl : i < 47 := by
    rcases Nat.lt_or_ge i 47 with h1 | h1
    · exact h1
    · unfold dstAt at hi
      rw [Array.getElem?_eq_none (by exact h1)] at hi
      cases hi
  rcases (by omega : i = 0 ∨ i = 1 ∨ i = 2 ∨ i = 3 ∨ i = 4 ∨ i = 5 ∨ i = 6 ∨ i = 7 ∨ i = 8 ∨ i = 9 ∨ i = 10 ∨ i = 11 ∨ i = 12 ∨ i = 13 ∨ i = 14 ∨ i = 15 ∨ i = 16 ∨ i = 17 ∨ i = 18 ∨ i = 19 ∨ i = 20 ∨ i = 21 ∨ i = 22 ∨ i = 23 ∨ i = 24 ∨ i = 25 ∨ i = 26 ∨ i = 27 ∨ i = 28 ∨ i = 29 ∨ i = 30 ∨ i = 31 ∨ i = 32 ∨ i = 33 ∨ i = 34 ∨ i = 35 ∨ i = 36 ∨ i = 37 ∨ i = 38 ∨ i = 39 ∨ i = 40 ∨ i = 41 ∨ i = 42 ∨ i = 43 ∨ i = 44 ∨ i = 45 ∨ i = 46) with rfl | rfl | rfl | rfl | rfl | rfl | rfl | rfl | rfl | rfl | rfl | rfl | rfl | rfl | rfl | rfl | rfl | rfl | rfl | rfl | rfl | rfl | rfl | rfl | rfl | rfl | rfl | rfl | rfl | rfl | rfl | rfl | rfl | rfl | rfl | rfl | rfl | rfl | rfl | rfl | rfl | rfl | rfl | rfl | rfl | rfl | rfl
  all_goals first
    | (cases hi; simp at h)
    | cases hi
theorem ee_k23 (b d n ocap base : Nat) (oa : Option Addr) (L : List Value) (s : Sn) (vr vm : Value) (m1 m2 u : Int) {f : Nat → Bool} (e : Nat × Nat × Nat × Value) (x : Nat) (hn : f 23 = false) : ∀ j, f j = true → ee_V b d n ocap base oa L s vr vm m1 m2 u j (x, e.2) = ee_V b d n ocap base oa L s vr vm m1 m2 u j e := by
  intro j hj
  unfold ee_V
  split
  · rfl
  · rfl
  · rfl
  · rfl
  · rfl
  · rfl
  · rfl
  · rfl
  · rfl
  · rfl
  · rfl
  · rfl
  · rfl
  · rfl
  · rfl
  · rfl
  · rfl
  · rfl
  · rfl
  · rfl
  · rfl
  · rfl
  · rfl
  · rw [hn] at hj; cases hj
  · rfl
  · rfl
  · rfl
  · rfl
  · rfl
  · rfl
  · rfl
  · rfl
  · rfl
  · rfl
  · rfl
  · rfl
  · rfl
  · rfl
  · rfl
  · rfl
  · rfl
  · rfl
  · rfl
  · rfl
  · rfl
  · rfl
  · rfl
  · rfl
theorem ee_k39 (b d n ocap base : Nat) (oa : Option Addr) (L : List Value) (s : Sn) (vr vm : Value) (m1 m2 u : Int) {f : Nat → Bool} (e : Nat × Nat × Nat × Value) (x : Nat) (hn : f 39 = false) : ∀ j, f j = true → ee_V b d n ocap base oa L s vr vm m1 m2 u j (e.1, x, e.2.2) = ee_V b d n ocap base oa L s vr vm m1 m2 u j e := by
  intro j hj
  unfold ee_V
  split
  · rfl
  · rfl
  · rfl
  · rfl
  · rfl
  · rfl
  · rfl
  · rfl
  · rfl
  · rfl
  · rfl
  · rfl
  · rfl
  · rfl
  · rfl
  · rfl
  · rfl
  · rfl
  · rfl
  · rfl
  · rfl
  · rfl
  · rfl
  · rfl
  · rfl
  · rfl
  · rfl
  · rfl
  · rfl
  · rfl
  · rfl
  · rfl
  · rfl
  · rfl
  · rfl
  · rfl
  · rfl
  · rfl
  · rfl
  · rw [hn] at hj; cases hj
  · rfl
  · rfl
  · rfl
  · rfl
  · rfl
  · rfl
  · rfl
  · rfl
theorem ee_k44 (b d n ocap base : Nat) (oa : Option Addr) (L : List Value) (s : Sn) (vr vm : Value) (m1 m2 u : Int) {f : Nat → Bool} (e : Nat × Nat × Nat × Value) (x : Nat) (hn : f 44 = false) : ∀ j, f j = true → ee_V b d n ocap base oa L s vr vm m1 m2 u j (e.1, e.2.1, x, e.2.2.2) = ee_V b d n ocap base oa L s vr vm m1 m2 u j e := by
  intro j hj
  unfold ee_V
  split
  · rfl
  · rfl
  · rfl
  · rfl
  · rfl
  · rfl
  · rfl
  · rfl
  · rfl
  · rfl
  · rfl
  · rfl
  · rfl
  · rfl
  · rfl
  · rfl
  · rfl
  · rfl
  · rfl
  · rfl
  · rfl
  · rfl
  · rfl
  · rfl
  · rfl
  · rfl
  · rfl
  · rfl
  · rfl
  · rfl
  · rfl
  · rfl
  · rfl
  · rfl
  · rfl
  · rfl
  · rfl
  · rfl
  · rfl
  · rfl
  · rfl
  · rfl
  · rfl
  · rfl
  · rw [hn] at hj; cases hj
  · rfl
  · rfl
  · rfl
theorem ee_k45 (b d n ocap base : Nat) (oa : Option Addr) (L : List Value) (s : Sn) (vr vm : Value) (m1 m2 u : Int) {f : Nat → Bool} (e : Nat × Nat × Nat × Value) (x : Value) (hn : f 45 = false) (hn2 : f 46 = false) : ∀ j, f j = true → ee_V b d n ocap base oa L s vr vm m1 m2 u j (e.1, e.2.1, e.2.2.1, x) = ee_V b d n ocap base oa L s vr vm m1 m2 u j e := by
  intro j hj
  unfold ee_V
  split
  · rfl
  · rfl
  · rfl
  · rfl
  · rfl
  · rfl
  · rfl
  · rfl
  · rfl
  · rfl
  · rfl
  · rfl
  · rfl
  · rfl
  · rfl
  · rfl
  · rfl
  · rfl
  · rfl
  · rfl
  · rfl
  · rfl
  · rfl
  · rfl
  · rfl
  · rfl
  · rfl
  · rfl
  · rfl
  · rfl
  · rfl
  · rfl
  · rfl
  · rfl
  · rfl
  · rfl
  · rfl
  · rfl
  · rfl
  · rfl
  · rfl
  · rfl
  · rfl
  · rfl
  · rfl
  · rw [hn] at hj; cases hj
  · rw [hn2] at hj; cases hj
  · rfl
set_option maxRecDepth 100000 in
set_option maxHeartbeats 2000000 in
theorem ee_s0 (A : Act) (w1 : World) (Q : Exit → Act → World → Prop) (b d n ocap base : Nat) (oa : Option Addr) (L : List Value) (s : Sn) (vr vm : Value) (m1 m2 u : Int) 
    (h4 : A.tmps.getD 4 undef = .slice oa n ocap) (h3 : A.tmps.getD 3 undef = .pointer (some ⟨d, 0, none⟩)) (h1 : A.tmps.getD 1 undef = .pointer (some ⟨b, 0, none⟩)) (qb : Blk w1 b (snA s vr vm)) (qd : Blk w1 d (cuA s.c)) (nb : some b ≠ (Value.slice oa n ocap).ownBlock) (nd : some d ≠ (Value.slice oa n ocap).ownBlock) (own : w1.ownsRow base 5 1 (Value.slice oa n ocap) n L) (hbase : base ≤ w1.heap.size) (hn : n ≤ 100) (bx : (0 ≤ s.c.f ∧ s.c.f ≤ 255) ∧ (0 ≤ s.c.sp ∧ s.c.sp ≤ 255) ∧ (0 ≤ s.c.pc ∧ s.c.pc ≤ 255) ∧ (0 ≤ m1 ∧ m1 ≤ 255) ∧ (0 ≤ s.m.page ∧ s.m.page ≤ 255) ∧ (0 ≤ u ∧ u ≤ 255)) (bm : 0 ≤ m2 ∧ m2 ≤ 3) (hu : bits .or .i64 s.p.border (m2 * 8) = u) (hF1 : ∀ W g, Blk W g #[.bool s.c.iff, .bool s.c.ei, .bool s.c.halt, .bool s.m.locked, .bool (s.m.screen == 3)] → Calls Tryz.prog 37 #[.slice (some ⟨g, 0, none⟩) 5 5] W fun r w' => r = .returned (.int .i64 m1) ∧ w' = W) (hF2 : ∀ W g, Blk W g #[.bool s.p.mic, .bool s.p.beep] → Calls Tryz.prog 37 #[.slice (some ⟨g, 0, none⟩) 2 2] W fun r w' => r = .returned (.int .i64 m2) ∧ w' = W)
    (f : Nat → Bool) (e : Nat × Nat × Nat × Value) (a : Act) (w : World) (hun : f 0 = false) (hdep : ∀ d ∈ ee_o0.after, Region.binds .any d = true → f d.on = true) (hJ : ee_J w1 b d n ocap base oa L s vr vm m1 m2 u f e w) (hFr : Fr ee_O A f (fun j => ee_V b d n ocap base oa L s vr vm m1 m2 u j e) a) (hKp : Kept ee_O A f a)
    (K : Act → World → Prop) (hK : Hid (∀ v e' w', v = ee_V b d n ocap base oa L s vr vm m1 m2 u 0 e' → (∀ j, f j = true → ee_V b d n ocap base oa L s vr vm m1 m2 u j e' = ee_V b d n ocap base oa L s vr vm m1 m2 u j e) → ee_J w1 b d n ocap base oa L s vr vm m1 m2 u (fun j => j == 0 || f j) e' w' → K (a.put ee_o0.dst v) w')) :
    if Region.wanted ee_o0 (yielded ee_O a.tmps) = true then Oper.wp Tryz.prog ee_o0 a w K Q else K (a.put ee_o0.dst undef) w := by
  unfold ee_o0 at hdep hK ⊢
  obtain ⟨hg, r0, r1, j23, j39, j44, j46⟩ := hJ
  obtain ⟨⟨a1, a2⟩, ⟨a3, a4⟩, ⟨a5, a6⟩, ⟨a7, a8⟩, ⟨a9, a10⟩, a11, a12⟩ := bx
  have f46 : f 46 = false := by
    cases h46 : f 46
    · rfl
    · have := (j46 h46).1
      rw [hun] at this
      cases this
  have v4 := (hKp 46 4 rfl f46).trans h4
  replace hg := hid hg
  replace r0 := hid r0
  replace r1 := hid r1
  replace j23 := hid j23
  replace j39 := hid j39
  replace j44 := hid j44
  replace j46 := hid j46
  clear hdep hFr hKp h4 h3 h1
  go_simp
  exact hK.out _ e _ rfl (fun _ _ => rfl) ⟨hg.out, r0.out, r1.out, j23.out, j39.out, j44.out, fun h => ⟨rfl, (j46.out h).2⟩⟩
set_option maxRecDepth 100000 in
set_option maxHeartbeats 2000000 in
theorem ee_s1 (A : Act) (w1 : World) (Q : Exit → Act → World → Prop) (b d n ocap base : Nat) (oa : Option Addr) (L : List Value) (s : Sn) (vr vm : Value) (m1 m2 u : Int) 
    (h4 : A.tmps.getD 4 undef = .slice oa n ocap) (h3 : A.tmps.getD 3 undef = .pointer (some ⟨d, 0, none⟩)) (h1 : A.tmps.getD 1 undef = .pointer (some ⟨b, 0, none⟩)) (qb : Blk w1 b (snA s vr vm)) (qd : Blk w1 d (cuA s.c)) (nb : some b ≠ (Value.slice oa n ocap).ownBlock) (nd : some d ≠ (Value.slice oa n ocap).ownBlock) (own : w1.ownsRow base 5 1 (Value.slice oa n ocap) n L) (hbase : base ≤ w1.heap.size) (hn : n ≤ 100) (bx : (0 ≤ s.c.f ∧ s.c.f ≤ 255) ∧ (0 ≤ s.c.sp ∧ s.c.sp ≤ 255) ∧ (0 ≤ s.c.pc ∧ s.c.pc ≤ 255) ∧ (0 ≤ m1 ∧ m1 ≤ 255) ∧ (0 ≤ s.m.page ∧ s.m.page ≤ 255) ∧ (0 ≤ u ∧ u ≤ 255)) (bm : 0 ≤ m2 ∧ m2 ≤ 3) (hu : bits .or .i64 s.p.border (m2 * 8) = u) (hF1 : ∀ W g, Blk W g #[.bool s.c.iff, .bool s.c.ei, .bool s.c.halt, .bool s.m.locked, .bool (s.m.screen == 3)] → Calls Tryz.prog 37 #[.slice (some ⟨g, 0, none⟩) 5 5] W fun r w' => r = .returned (.int .i64 m1) ∧ w' = W) (hF2 : ∀ W g, Blk W g #[.bool s.p.mic, .bool s.p.beep] → Calls Tryz.prog 37 #[.slice (some ⟨g, 0, none⟩) 2 2] W fun r w' => r = .returned (.int .i64 m2) ∧ w' = W)
    (f : Nat → Bool) (e : Nat × Nat × Nat × Value) (a : Act) (w : World) (hun : f 1 = false) (hdep : ∀ d ∈ ee_o1.after, Region.binds .any d = true → f d.on = true) (hJ : ee_J w1 b d n ocap base oa L s vr vm m1 m2 u f e w) (hFr : Fr ee_O A f (fun j => ee_V b d n ocap base oa L s vr vm m1 m2 u j e) a) (hKp : Kept ee_O A f a)
    (K : Act → World → Prop) (hK : Hid (∀ v e' w', v = ee_V b d n ocap base oa L s vr vm m1 m2 u 1 e' → (∀ j, f j = true → ee_V b d n ocap base oa L s vr vm m1 m2 u j e' = ee_V b d n ocap base oa L s vr vm m1 m2 u j e) → ee_J w1 b d n ocap base oa L s vr vm m1 m2 u (fun j => j == 1 || f j) e' w' → K (a.put ee_o1.dst v) w')) :
    if Region.wanted ee_o1 (yielded ee_O a.tmps) = true then Oper.wp Tryz.prog ee_o1 a w K Q else K (a.put ee_o1.dst undef) w := by
  unfold ee_o1 at hdep hK ⊢
  obtain ⟨hg, r0, r1, j23, j39, j44, j46⟩ := hJ
  obtain ⟨⟨a1, a2⟩, ⟨a3, a4⟩, ⟨a5, a6⟩, ⟨a7, a8⟩, ⟨a9, a10⟩, a11, a12⟩ := bx
  have v3 := (hFr.old 3 (ee_no (by decide))).trans h3
  replace hg := hid hg
  replace r0 := hid r0
  replace r1 := hid r1
  replace j23 := hid j23
  replace j39 := hid j39
  replace j44 := hid j44
  replace j46 := hid j46
  clear hdep hFr hKp h4 h3 h1
  go_simp
  exact hK.out _ e _ rfl (fun _ _ => rfl) ⟨hg.out, r0.out, r1.out, j23.out, j39.out, j44.out, j46.out⟩
set_option maxRecDepth 100000 in
set_option maxHeartbeats 2000000 in
theorem ee_s2 (A : Act) (w1 : World) (Q : Exit → Act → World → Prop) (b d n ocap base : Nat) (oa : Option Addr) (L : List Value) (s : Sn) (vr vm : Value) (m1 m2 u : Int) 
    (h4 : A.tmps.getD 4 undef = .slice oa n ocap) (h3 : A.tmps.getD 3 undef = .pointer (some ⟨d, 0, none⟩)) (h1 : A.tmps.getD 1 undef = .pointer (some ⟨b, 0, none⟩)) (qb : Blk w1 b (snA s vr vm)) (qd : Blk w1 d (cuA s.c)) (nb : some b ≠ (Value.slice oa n ocap).ownBlock) (nd : some d ≠ (Value.slice oa n ocap).ownBlock) (own : w1.ownsRow base 5 1 (Value.slice oa n ocap) n L) (hbase : base ≤ w1.heap.size) (hn : n ≤ 100) (bx : (0 ≤ s.c.f ∧ s.c.f ≤ 255) ∧ (0 ≤ s.c.sp ∧ s.c.sp ≤ 255) ∧ (0 ≤ s.c.pc ∧ s.c.pc ≤ 255) ∧ (0 ≤ m1 ∧ m1 ≤ 255) ∧ (0 ≤ s.m.page ∧ s.m.page ≤ 255) ∧ (0 ≤ u ∧ u ≤ 255)) (bm : 0 ≤ m2 ∧ m2 ≤ 3) (hu : bits .or .i64 s.p.border (m2 * 8) = u) (hF1 : ∀ W g, Blk W g #[.bool s.c.iff, .bool s.c.ei, .bool s.c.halt, .bool s.m.locked, .bool (s.m.screen == 3)] → Calls Tryz.prog 37 #[.slice (some ⟨g, 0, none⟩) 5 5] W fun r w' => r = .returned (.int .i64 m1) ∧ w' = W) (hF2 : ∀ W g, Blk W g #[.bool s.p.mic, .bool s.p.beep] → Calls Tryz.prog 37 #[.slice (some ⟨g, 0, none⟩) 2 2] W fun r w' => r = .returned (.int .i64 m2) ∧ w' = W)
    (f : Nat → Bool) (e : Nat × Nat × Nat × Value) (a : Act) (w : World) (hun : f 2 = false) (hdep : ∀ d ∈ ee_o2.after, Region.binds .any d = true → f d.on = true) (hJ : ee_J w1 b d n ocap base oa L s vr vm m1 m2 u f e w) (hFr : Fr ee_O A f (fun j => ee_V b d n ocap base oa L s vr vm m1 m2 u j e) a) (hKp : Kept ee_O A f a)
    (K : Act → World → Prop) (hK : Hid (∀ v e' w', v = ee_V b d n ocap base oa L s vr vm m1 m2 u 2 e' → (∀ j, f j = true → ee_V b d n ocap base oa L s vr vm m1 m2 u j e' = ee_V b d n ocap base oa L s vr vm m1 m2 u j e) → ee_J w1 b d n ocap base oa L s vr vm m1 m2 u (fun j => j == 2 || f j) e' w' → K (a.put ee_o2.dst v) w')) :
    if Region.wanted ee_o2 (yielded ee_O a.tmps) = true then Oper.wp Tryz.prog ee_o2 a w K Q else K (a.put ee_o2.dst undef) w := by
  unfold ee_o2 at hdep hK ⊢
  obtain ⟨hg, r0, r1, j23, j39, j44, j46⟩ := hJ
  obtain ⟨⟨a1, a2⟩, ⟨a3, a4⟩, ⟨a5, a6⟩, ⟨a7, a8⟩, ⟨a9, a10⟩, a11, a12⟩ := bx
  have k1 : f 1 = true := hdep { on := 1, ground := .data } (by simp) rfl
  have v27 : a.tmps.getD 27 undef = .pointer (some ⟨d, 8, none⟩) := hFr.new 1 27 rfl k1
  have y : w.cell? ⟨d, 8, none⟩ = some (.int .i64 s.c.f) := (qd.grown hg nd).cell 8
  replace hg := hid hg
  replace r0 := hid r0
  replace r1 := hid r1
  replace j23 := hid j23
  replace j39 := hid j39
  replace j44 := hid j44
  replace j46 := hid j46
  clear hdep hFr hKp h4 h3 h1
  go_simp
  exact hK.out _ e _ rfl (fun _ _ => rfl) ⟨hg.out, r0.out, r1.out, j23.out, j39.out, j44.out, j46.out⟩
set_option maxRecDepth 100000 in
set_option maxHeartbeats 2000000 in
theorem ee_s3 (A : Act) (w1 : World) (Q : Exit → Act → World → Prop) (b d n ocap base : Nat) (oa : Option Addr) (L : List Value) (s : Sn) (vr vm : Value) (m1 m2 u : Int) 
    (h4 : A.tmps.getD 4 undef = .slice oa n ocap) (h3 : A.tmps.getD 3 undef = .pointer (some ⟨d, 0, none⟩)) (h1 : A.tmps.getD 1 undef = .pointer (some ⟨b, 0, none⟩)) (qb : Blk w1 b (snA s vr vm)) (qd : Blk w1 d (cuA s.c)) (nb : some b ≠ (Value.slice oa n ocap).ownBlock) (nd : some d ≠ (Value.slice oa n ocap).ownBlock) (own : w1.ownsRow base 5 1 (Value.slice oa n ocap) n L) (hbase : base ≤ w1.heap.size) (hn : n ≤ 100) (bx : (0 ≤ s.c.f ∧ s.c.f ≤ 255) ∧ (0 ≤ s.c.sp ∧ s.c.sp ≤ 255) ∧ (0 ≤ s.c.pc ∧ s.c.pc ≤ 255) ∧ (0 ≤ m1 ∧ m1 ≤ 255) ∧ (0 ≤ s.m.page ∧ s.m.page ≤ 255) ∧ (0 ≤ u ∧ u ≤ 255)) (bm : 0 ≤ m2 ∧ m2 ≤ 3) (hu : bits .or .i64 s.p.border (m2 * 8) = u) (hF1 : ∀ W g, Blk W g #[.bool s.c.iff, .bool s.c.ei, .bool s.c.halt, .bool s.m.locked, .bool (s.m.screen == 3)] → Calls Tryz.prog 37 #[.slice (some ⟨g, 0, none⟩) 5 5] W fun r w' => r = .returned (.int .i64 m1) ∧ w' = W) (hF2 : ∀ W g, Blk W g #[.bool s.p.mic, .bool s.p.beep] → Calls Tryz.prog 37 #[.slice (some ⟨g, 0, none⟩) 2 2] W fun r w' => r = .returned (.int .i64 m2) ∧ w' = W)
    (f : Nat → Bool) (e : Nat × Nat × Nat × Value) (a : Act) (w : World) (hun : f 3 = false) (hdep : ∀ d ∈ ee_o3.after, Region.binds .any d = true → f d.on = true) (hJ : ee_J w1 b d n ocap base oa L s vr vm m1 m2 u f e w) (hFr : Fr ee_O A f (fun j => ee_V b d n ocap base oa L s vr vm m1 m2 u j e) a) (hKp : Kept ee_O A f a)
    (K : Act → World → Prop) (hK : Hid (∀ v e' w', v = ee_V b d n ocap base oa L s vr vm m1 m2 u 3 e' → (∀ j, f j = true → ee_V b d n ocap base oa L s vr vm m1 m2 u j e' = ee_V b d n ocap base oa L s vr vm m1 m2 u j e) → ee_J w1 b d n ocap base oa L s vr vm m1 m2 u (fun j => j == 3 || f j) e' w' → K (a.put ee_o3.dst v) w')) :
    if Region.wanted ee_o3 (yielded ee_O a.tmps) = true then Oper.wp Tryz.prog ee_o3 a w K Q else K (a.put ee_o3.dst undef) w := by
  unfold ee_o3 at hdep hK ⊢
  obtain ⟨hg, r0, r1, j23, j39, j44, j46⟩ := hJ
  obtain ⟨⟨a1, a2⟩, ⟨a3, a4⟩, ⟨a5, a6⟩, ⟨a7, a8⟩, ⟨a9, a10⟩, a11, a12⟩ := bx
  have k2 : f 2 = true := hdep { on := 2, ground := .data } (by simp) rfl
  have v28 : a.tmps.getD 28 undef = .int .i64 s.c.f := hFr.new 2 28 rfl k2
  have hw : IntKind.u8.wrap s.c.f = s.c.f := by simp [IntKind.wrap, IntKind.signed, IntKind.bits]; omega
  have hw2 : s.c.f % 256 = s.c.f := by omega
  replace hg := hid hg
  replace r0 := hid r0
  replace r1 := hid r1
  replace j23 := hid j23
  replace j39 := hid j39
  replace j44 := hid j44
  replace j46 := hid j46
  clear hdep hFr hKp h4 h3 h1
  go_simp
  exact hK.out _ e _ rfl (fun _ _ => rfl) ⟨hg.out, r0.out, r1.out, j23.out, j39.out, j44.out, j46.out⟩
set_option maxRecDepth 100000 in
set_option maxHeartbeats 2000000 in
theorem ee_s4 (A : Act) (w1 : World) (Q : Exit → Act → World → Prop) (b d n ocap base : Nat) (oa : Option Addr) (L : List Value) (s : Sn) (vr vm : Value) (m1 m2 u : Int) 
    (h4 : A.tmps.getD 4 undef = .slice oa n ocap) (h3 : A.tmps.getD 3 undef = .pointer (some ⟨d, 0, none⟩)) (h1 : A.tmps.getD 1 undef = .pointer (some ⟨b, 0, none⟩)) (qb : Blk w1 b (snA s vr vm)) (qd : Blk w1 d (cuA s.c)) (nb : some b ≠ (Value.slice oa n ocap).ownBlock) (nd : some d ≠ (Value.slice oa n ocap).ownBlock) (own : w1.ownsRow base 5 1 (Value.slice oa n ocap) n L) (hbase : base ≤ w1.heap.size) (hn : n ≤ 100) (bx : (0 ≤ s.c.f ∧ s.c.f ≤ 255) ∧ (0 ≤ s.c.sp ∧ s.c.sp ≤ 255) ∧ (0 ≤ s.c.pc ∧ s.c.pc ≤ 255) ∧ (0 ≤ m1 ∧ m1 ≤ 255) ∧ (0 ≤ s.m.page ∧ s.m.page ≤ 255) ∧ (0 ≤ u ∧ u ≤ 255)) (bm : 0 ≤ m2 ∧ m2 ≤ 3) (hu : bits .or .i64 s.p.border (m2 * 8) = u) (hF1 : ∀ W g, Blk W g #[.bool s.c.iff, .bool s.c.ei, .bool s.c.halt, .bool s.m.locked, .bool (s.m.screen == 3)] → Calls Tryz.prog 37 #[.slice (some ⟨g, 0, none⟩) 5 5] W fun r w' => r = .returned (.int .i64 m1) ∧ w' = W) (hF2 : ∀ W g, Blk W g #[.bool s.p.mic, .bool s.p.beep] → Calls Tryz.prog 37 #[.slice (some ⟨g, 0, none⟩) 2 2] W fun r w' => r = .returned (.int .i64 m2) ∧ w' = W)
    (f : Nat → Bool) (e : Nat × Nat × Nat × Value) (a : Act) (w : World) (hun : f 4 = false) (hdep : ∀ d ∈ ee_o4.after, Region.binds .any d = true → f d.on = true) (hJ : ee_J w1 b d n ocap base oa L s vr vm m1 m2 u f e w) (hFr : Fr ee_O A f (fun j => ee_V b d n ocap base oa L s vr vm m1 m2 u j e) a) (hKp : Kept ee_O A f a)
    (K : Act → World → Prop) (hK : Hid (∀ v e' w', v = ee_V b d n ocap base oa L s vr vm m1 m2 u 4 e' → (∀ j, f j = true → ee_V b d n ocap base oa L s vr vm m1 m2 u j e' = ee_V b d n ocap base oa L s vr vm m1 m2 u j e) → ee_J w1 b d n ocap base oa L s vr vm m1 m2 u (fun j => j == 4 || f j) e' w' → K (a.put ee_o4.dst v) w')) :
    if Region.wanted ee_o4 (yielded ee_O a.tmps) = true then Oper.wp Tryz.prog ee_o4 a w K Q else K (a.put ee_o4.dst undef) w := by
  unfold ee_o4 at hdep hK ⊢
  obtain ⟨hg, r0, r1, j23, j39, j44, j46⟩ := hJ
  obtain ⟨⟨a1, a2⟩, ⟨a3, a4⟩, ⟨a5, a6⟩, ⟨a7, a8⟩, ⟨a9, a10⟩, a11, a12⟩ := bx
  have v3 := (hFr.old 3 (ee_no (by decide))).trans h3
  replace hg := hid hg
  replace r0 := hid r0
  replace r1 := hid r1
  replace j23 := hid j23
  replace j39 := hid j39
  replace j44 := hid j44
  replace j46 := hid j46
  clear hdep hFr hKp h4 h3 h1
  go_simp
  exact hK.out _ e _ rfl (fun _ _ => rfl) ⟨hg.out, r0.out, r1.out, j23.out, j39.out, j44.out, j46.out⟩
set_option maxRecDepth 100000 in
set_option maxHeartbeats 2000000 in
theorem ee_s5 (A : Act) (w1 : World) (Q : Exit → Act → World → Prop) (b d n ocap base : Nat) (oa : Option Addr) (L : List Value) (s : Sn) (vr vm : Value) (m1 m2 u : Int) 
    (h4 : A.tmps.getD 4 undef = .slice oa n ocap) (h3 : A.tmps.getD 3 undef = .pointer (some ⟨d, 0, none⟩)) (h1 : A.tmps.getD 1 undef = .pointer (some ⟨b, 0, none⟩)) (qb : Blk w1 b (snA s vr vm)) (qd : Blk w1 d (cuA s.c)) (nb : some b ≠ (Value.slice oa n ocap).ownBlock) (nd : some d ≠ (Value.slice oa n ocap).ownBlock) (own : w1.ownsRow base 5 1 (Value.slice oa n ocap) n L) (hbase : base ≤ w1.heap.size) (hn : n ≤ 100) (bx : (0 ≤ s.c.f ∧ s.c.f ≤ 255) ∧ (0 ≤ s.c.sp ∧ s.c.sp ≤ 255) ∧ (0 ≤ s.c.pc ∧ s.c.pc ≤ 255) ∧ (0 ≤ m1 ∧ m1 ≤ 255) ∧ (0 ≤ s.m.page ∧ s.m.page ≤ 255) ∧ (0 ≤ u ∧ u ≤ 255)) (bm : 0 ≤ m2 ∧ m2 ≤ 3) (hu : bits .or .i64 s.p.border (m2 * 8) = u) (hF1 : ∀ W g, Blk W g #[.bool s.c.iff, .bool s.c.ei, .bool s.c.halt, .bool s.m.locked, .bool (s.m.screen == 3)] → Calls Tryz.prog 37 #[.slice (some ⟨g, 0, none⟩) 5 5] W fun r w' => r = .returned (.int .i64 m1) ∧ w' = W) (hF2 : ∀ W g, Blk W g #[.bool s.p.mic, .bool s.p.beep] → Calls Tryz.prog 37 #[.slice (some ⟨g, 0, none⟩) 2 2] W fun r w' => r = .returned (.int .i64 m2) ∧ w' = W)
    (f : Nat → Bool) (e : Nat × Nat × Nat × Value) (a : Act) (w : World) (hun : f 5 = false) (hdep : ∀ d ∈ ee_o5.after, Region.binds .any d = true → f d.on = true) (hJ : ee_J w1 b d n ocap base oa L s vr vm m1 m2 u f e w) (hFr : Fr ee_O A f (fun j => ee_V b d n ocap base oa L s vr vm m1 m2 u j e) a) (hKp : Kept ee_O A f a)
    (K : Act → World → Prop) (hK : Hid (∀ v e' w', v = ee_V b d n ocap base oa L s vr vm m1 m2 u 5 e' → (∀ j, f j = true → ee_V b d n ocap base oa L s vr vm m1 m2 u j e' = ee_V b d n ocap base oa L s vr vm m1 m2 u j e) → ee_J w1 b d n ocap base oa L s vr vm m1 m2 u (fun j => j == 5 || f j) e' w' → K (a.put ee_o5.dst v) w')) :
    if Region.wanted ee_o5 (yielded ee_O a.tmps) = true then Oper.wp Tryz.prog ee_o5 a w K Q else K (a.put ee_o5.dst undef) w := by
  unfold ee_o5 at hdep hK ⊢
  obtain ⟨hg, r0, r1, j23, j39, j44, j46⟩ := hJ
  obtain ⟨⟨a1, a2⟩, ⟨a3, a4⟩, ⟨a5, a6⟩, ⟨a7, a8⟩, ⟨a9, a10⟩, a11, a12⟩ := bx
  have k4 : f 4 = true := hdep { on := 4, ground := .data } (by simp) rfl
  have v30 : a.tmps.getD 30 undef = .pointer (some ⟨d, 9, none⟩) := hFr.new 4 30 rfl k4
  have y : w.cell? ⟨d, 9, none⟩ = some (.int .i64 s.c.sp) := (qd.grown hg nd).cell 9
  replace hg := hid hg
  replace r0 := hid r0
  replace r1 := hid r1
  replace j23 := hid j23
  replace j39 := hid j39
  replace j44 := hid j44
  replace j46 := hid j46
  clear hdep hFr hKp h4 h3 h1
  go_simp
  exact hK.out _ e _ rfl (fun _ _ => rfl) ⟨hg.out, r0.out, r1.out, j23.out, j39.out, j44.out, j46.out⟩
set_option maxRecDepth 100000 in
set_option maxHeartbeats 2000000 in
theorem ee_s6 (A : Act) (w1 : World) (Q : Exit → Act → World → Prop) (b d n ocap base : Nat) (oa : Option Addr) (L : List Value) (s : Sn) (vr vm : Value) (m1 m2 u : Int) 
    (h4 : A.tmps.getD 4 undef = .slice oa n ocap) (h3 : A.tmps.getD 3 undef = .pointer (some ⟨d, 0, none⟩)) (h1 : A.tmps.getD 1 undef = .pointer (some ⟨b, 0, none⟩)) (qb : Blk w1 b (snA s vr vm)) (qd : Blk w1 d (cuA s.c)) (nb : some b ≠ (Value.slice oa n ocap).ownBlock) (nd : some d ≠ (Value.slice oa n ocap).ownBlock) (own : w1.ownsRow base 5 1 (Value.slice oa n ocap) n L) (hbase : base ≤ w1.heap.size) (hn : n ≤ 100) (bx : (0 ≤ s.c.f ∧ s.c.f ≤ 255) ∧ (0 ≤ s.c.sp ∧ s.c.sp ≤ 255) ∧ (0 ≤ s.c.pc ∧ s.c.pc ≤ 255) ∧ (0 ≤ m1 ∧ m1 ≤ 255) ∧ (0 ≤ s.m.page ∧ s.m.page ≤ 255) ∧ (0 ≤ u ∧ u ≤ 255)) (bm : 0 ≤ m2 ∧ m2 ≤ 3) (hu : bits .or .i64 s.p.border (m2 * 8) = u) (hF1 : ∀ W g, Blk W g #[.bool s.c.iff, .bool s.c.ei, .bool s.c.halt, .bool s.m.locked, .bool (s.m.screen == 3)] → Calls Tryz.prog 37 #[.slice (some ⟨g, 0, none⟩) 5 5] W fun r w' => r = .returned (.int .i64 m1) ∧ w' = W) (hF2 : ∀ W g, Blk W g #[.bool s.p.mic, .bool s.p.beep] → Calls Tryz.prog 37 #[.slice (some ⟨g, 0, none⟩) 2 2] W fun r w' => r = .returned (.int .i64 m2) ∧ w' = W)
    (f : Nat → Bool) (e : Nat × Nat × Nat × Value) (a : Act) (w : World) (hun : f 6 = false) (hdep : ∀ d ∈ ee_o6.after, Region.binds .any d = true → f d.on = true) (hJ : ee_J w1 b d n ocap base oa L s vr vm m1 m2 u f e w) (hFr : Fr ee_O A f (fun j => ee_V b d n ocap base oa L s vr vm m1 m2 u j e) a) (hKp : Kept ee_O A f a)
    (K : Act → World → Prop) (hK : Hid (∀ v e' w', v = ee_V b d n ocap base oa L s vr vm m1 m2 u 6 e' → (∀ j, f j = true → ee_V b d n ocap base oa L s vr vm m1 m2 u j e' = ee_V b d n ocap base oa L s vr vm m1 m2 u j e) → ee_J w1 b d n ocap base oa L s vr vm m1 m2 u (fun j => j == 6 || f j) e' w' → K (a.put ee_o6.dst v) w')) :
    if Region.wanted ee_o6 (yielded ee_O a.tmps) = true then Oper.wp Tryz.prog ee_o6 a w K Q else K (a.put ee_o6.dst undef) w := by
  unfold ee_o6 at hdep hK ⊢
  obtain ⟨hg, r0, r1, j23, j39, j44, j46⟩ := hJ
  obtain ⟨⟨a1, a2⟩, ⟨a3, a4⟩, ⟨a5, a6⟩, ⟨a7, a8⟩, ⟨a9, a10⟩, a11, a12⟩ := bx
  have k5 : f 5 = true := hdep { on := 5, ground := .data } (by simp) rfl
  have v31 : a.tmps.getD 31 undef = .int .i64 s.c.sp := hFr.new 5 31 rfl k5
  have hw : IntKind.u8.wrap s.c.sp = s.c.sp := by simp [IntKind.wrap, IntKind.signed, IntKind.bits]; omega
  have hw2 : s.c.sp % 256 = s.c.sp := by omega
  replace hg := hid hg
  replace r0 := hid r0
  replace r1 := hid r1
  replace j23 := hid j23
  replace j39 := hid j39
  replace j44 := hid j44
  replace j46 := hid j46
  clear hdep hFr hKp h4 h3 h1
  go_simp
  exact hK.out _ e _ rfl (fun _ _ => rfl) ⟨hg.out, r0.out, r1.out, j23.out, j39.out, j44.out, j46.out⟩
set_option maxRecDepth 100000 in
set_option maxHeartbeats 2000000 in
theorem ee_s7 (A : Act) (w1 : World) (Q : Exit → Act → World → Prop) (b d n ocap base : Nat) (oa : Option Addr) (L : List Value) (s : Sn) (vr vm : Value) (m1 m2 u : Int) 
    (h4 : A.tmps.getD 4 undef = .slice oa n ocap) (h3 : A.tmps.getD 3 undef = .pointer (some ⟨d, 0, none⟩)) (h1 : A.tmps.getD 1 undef = .pointer (some ⟨b, 0, none⟩)) (qb : Blk w1 b (snA s vr vm)) (qd : Blk w1 d (cuA s.c)) (nb : some b ≠ (Value.slice oa n ocap).ownBlock) (nd : some d ≠ (Value.slice oa n ocap).ownBlock) (own : w1.ownsRow base 5 1 (Value.slice oa n ocap) n L) (hbase : base ≤ w1.heap.size) (hn : n ≤ 100) (bx : (0 ≤ s.c.f ∧ s.c.f ≤ 255) ∧ (0 ≤ s.c.sp ∧ s.c.sp ≤ 255) ∧ (0 ≤ s.c.pc ∧ s.c.pc ≤ 255) ∧ (0 ≤ m1 ∧ m1 ≤ 255) ∧ (0 ≤ s.m.page ∧ s.m.page ≤ 255) ∧ (0 ≤ u ∧ u ≤ 255)) (bm : 0 ≤ m2 ∧ m2 ≤ 3) (hu : bits .or .i64 s.p.border (m2 * 8) = u) (hF1 : ∀ W g, Blk W g #[.bool s.c.iff, .bool s.c.ei, .bool s.c.halt, .bool s.m.locked, .bool (s.m.screen == 3)] → Calls Tryz.prog 37 #[.slice (some ⟨g, 0, none⟩) 5 5] W fun r w' => r = .returned (.int .i64 m1) ∧ w' = W) (hF2 : ∀ W g, Blk W g #[.bool s.p.mic, .bool s.p.beep] → Calls Tryz.prog 37 #[.slice (some ⟨g, 0, none⟩) 2 2] W fun r w' => r = .returned (.int .i64 m2) ∧ w' = W)
    (f : Nat → Bool) (e : Nat × Nat × Nat × Value) (a : Act) (w : World) (hun : f 7 = false) (hdep : ∀ d ∈ ee_o7.after, Region.binds .any d = true → f d.on = true) (hJ : ee_J w1 b d n ocap base oa L s vr vm m1 m2 u f e w) (hFr : Fr ee_O A f (fun j => ee_V b d n ocap base oa L s vr vm m1 m2 u j e) a) (hKp : Kept ee_O A f a)
    (K : Act → World → Prop) (hK : Hid (∀ v e' w', v = ee_V b d n ocap base oa L s vr vm m1 m2 u 7 e' → (∀ j, f j = true → ee_V b d n ocap base oa L s vr vm m1 m2 u j e' = ee_V b d n ocap base oa L s vr vm m1 m2 u j e) → ee_J w1 b d n ocap base oa L s vr vm m1 m2 u (fun j => j == 7 || f j) e' w' → K (a.put ee_o7.dst v) w')) :
    if Region.wanted ee_o7 (yielded ee_O a.tmps) = true then Oper.wp Tryz.prog ee_o7 a w K Q else K (a.put ee_o7.dst undef) w := by
  unfold ee_o7 at hdep hK ⊢
  obtain ⟨hg, r0, r1, j23, j39, j44, j46⟩ := hJ
  obtain ⟨⟨a1, a2⟩, ⟨a3, a4⟩, ⟨a5, a6⟩, ⟨a7, a8⟩, ⟨a9, a10⟩, a11, a12⟩ := bx
  have v3 := (hFr.old 3 (ee_no (by decide))).trans h3
  replace hg := hid hg
  replace r0 := hid r0
  replace r1 := hid r1
  replace j23 := hid j23
  replace j39 := hid j39
  replace j44 := hid j44
  replace j46 := hid j46
  clear hdep hFr hKp h4 h3 h1
  go_simp
  exact hK.out _ e _ rfl (fun _ _ => rfl) ⟨hg.out, r0.out, r1.out, j23.out, j39.out, j44.out, j46.out⟩
set_option maxRecDepth 100000 in
set_option maxHeartbeats 2000000 in
theorem ee_s8 (A : Act) (w1 : World) (Q : Exit → Act → World → Prop) (b d n ocap base : Nat) (oa : Option Addr) (L : List Value) (s : Sn) (vr vm : Value) (m1 m2 u : Int) 
    (h4 : A.tmps.getD 4 undef = .slice oa n ocap) (h3 : A.tmps.getD 3 undef = .pointer (some ⟨d, 0, none⟩)) (h1 : A.tmps.getD 1 undef = .pointer (some ⟨b, 0, none⟩)) (qb : Blk w1 b (snA s vr vm)) (qd : Blk w1 d (cuA s.c)) (nb : some b ≠ (Value.slice oa n ocap).ownBlock) (nd : some d ≠ (Value.slice oa n ocap).ownBlock) (own : w1.ownsRow base 5 1 (Value.slice oa n ocap) n L) (hbase : base ≤ w1.heap.size) (hn : n ≤ 100) (bx : (0 ≤ s.c.f ∧ s.c.f ≤ 255) ∧ (0 ≤ s.c.sp ∧ s.c.sp ≤ 255) ∧ (0 ≤ s.c.pc ∧ s.c.pc ≤ 255) ∧ (0 ≤ m1 ∧ m1 ≤ 255) ∧ (0 ≤ s.m.page ∧ s.m.page ≤ 255) ∧ (0 ≤ u ∧ u ≤ 255)) (bm : 0 ≤ m2 ∧ m2 ≤ 3) (hu : bits .or .i64 s.p.border (m2 * 8) = u) (hF1 : ∀ W g, Blk W g #[.bool s.c.iff, .bool s.c.ei, .bool s.c.halt, .bool s.m.locked, .bool (s.m.screen == 3)] → Calls Tryz.prog 37 #[.slice (some ⟨g, 0, none⟩) 5 5] W fun r w' => r = .returned (.int .i64 m1) ∧ w' = W) (hF2 : ∀ W g, Blk W g #[.bool s.p.mic, .bool s.p.beep] → Calls Tryz.prog 37 #[.slice (some ⟨g, 0, none⟩) 2 2] W fun r w' => r = .returned (.int .i64 m2) ∧ w' = W)
    (f : Nat → Bool) (e : Nat × Nat × Nat × Value) (a : Act) (w : World) (hun : f 8 = false) (hdep : ∀ d ∈ ee_o8.after, Region.binds .any d = true → f d.on = true) (hJ : ee_J w1 b d n ocap base oa L s vr vm m1 m2 u f e w) (hFr : Fr ee_O A f (fun j => ee_V b d n ocap base oa L s vr vm m1 m2 u j e) a) (hKp : Kept ee_O A f a)
    (K : Act → World → Prop) (hK : Hid (∀ v e' w', v = ee_V b d n ocap base oa L s vr vm m1 m2 u 8 e' → (∀ j, f j = true → ee_V b d n ocap base oa L s vr vm m1 m2 u j e' = ee_V b d n ocap base oa L s vr vm m1 m2 u j e) → ee_J w1 b d n ocap base oa L s vr vm m1 m2 u (fun j => j == 8 || f j) e' w' → K (a.put ee_o8.dst v) w')) :
    if Region.wanted ee_o8 (yielded ee_O a.tmps) = true then Oper.wp Tryz.prog ee_o8 a w K Q else K (a.put ee_o8.dst undef) w := by
  unfold ee_o8 at hdep hK ⊢
  obtain ⟨hg, r0, r1, j23, j39, j44, j46⟩ := hJ
  obtain ⟨⟨a1, a2⟩, ⟨a3, a4⟩, ⟨a5, a6⟩, ⟨a7, a8⟩, ⟨a9, a10⟩, a11, a12⟩ := bx
  have k7 : f 7 = true := hdep { on := 7, ground := .data } (by simp) rfl
  have v33 : a.tmps.getD 33 undef = .pointer (some ⟨d, 10, none⟩) := hFr.new 7 33 rfl k7
  have y : w.cell? ⟨d, 10, none⟩ = some (.int .i64 s.c.pc) := (qd.grown hg nd).cell 10
  replace hg := hid hg
  replace r0 := hid r0
  replace r1 := hid r1
  replace j23 := hid j23
  replace j39 := hid j39
  replace j44 := hid j44
  replace j46 := hid j46
  clear hdep hFr hKp h4 h3 h1
  go_simp
  exact hK.out _ e _ rfl (fun _ _ => rfl) ⟨hg.out, r0.out, r1.out, j23.out, j39.out, j44.out, j46.out⟩
set_option maxRecDepth 100000 in
set_option maxHeartbeats 2000000 in
theorem ee_s9 (A : Act) (w1 : World) (Q : Exit → Act → World → Prop) (b d n ocap base : Nat) (oa : Option Addr) (L : List Value) (s : Sn) (vr vm : Value) (m1 m2 u : Int) 
    (h4 : A.tmps.getD 4 undef = .slice oa n ocap) (h3 : A.tmps.getD 3 undef = .pointer (some ⟨d, 0, none⟩)) (h1 : A.tmps.getD 1 undef = .pointer (some ⟨b, 0, none⟩)) (qb : Blk w1 b (snA s vr vm)) (qd : Blk w1 d (cuA s.c)) (nb : some b ≠ (Value.slice oa n ocap).ownBlock) (nd : some d ≠ (Value.slice oa n ocap).ownBlock) (own : w1.ownsRow base 5 1 (Value.slice oa n ocap) n L) (hbase : base ≤ w1.heap.size) (hn : n ≤ 100) (bx : (0 ≤ s.c.f ∧ s.c.f ≤ 255) ∧ (0 ≤ s.c.sp ∧ s.c.sp ≤ 255) ∧ (0 ≤ s.c.pc ∧ s.c.pc ≤ 255) ∧ (0 ≤ m1 ∧ m1 ≤ 255) ∧ (0 ≤ s.m.page ∧ s.m.page ≤ 255) ∧ (0 ≤ u ∧ u ≤ 255)) (bm : 0 ≤ m2 ∧ m2 ≤ 3) (hu : bits .or .i64 s.p.border (m2 * 8) = u) (hF1 : ∀ W g, Blk W g #[.bool s.c.iff, .bool s.c.ei, .bool s.c.halt, .bool s.m.locked, .bool (s.m.screen == 3)] → Calls Tryz.prog 37 #[.slice (some ⟨g, 0, none⟩) 5 5] W fun r w' => r = .returned (.int .i64 m1) ∧ w' = W) (hF2 : ∀ W g, Blk W g #[.bool s.p.mic, .bool s.p.beep] → Calls Tryz.prog 37 #[.slice (some ⟨g, 0, none⟩) 2 2] W fun r w' => r = .returned (.int .i64 m2) ∧ w' = W)
    (f : Nat → Bool) (e : Nat × Nat × Nat × Value) (a : Act) (w : World) (hun : f 9 = false) (hdep : ∀ d ∈ ee_o9.after, Region.binds .any d = true → f d.on = true) (hJ : ee_J w1 b d n ocap base oa L s vr vm m1 m2 u f e w) (hFr : Fr ee_O A f (fun j => ee_V b d n ocap base oa L s vr vm m1 m2 u j e) a) (hKp : Kept ee_O A f a)
    (K : Act → World → Prop) (hK : Hid (∀ v e' w', v = ee_V b d n ocap base oa L s vr vm m1 m2 u 9 e' → (∀ j, f j = true → ee_V b d n ocap base oa L s vr vm m1 m2 u j e' = ee_V b d n ocap base oa L s vr vm m1 m2 u j e) → ee_J w1 b d n ocap base oa L s vr vm m1 m2 u (fun j => j == 9 || f j) e' w' → K (a.put ee_o9.dst v) w')) :
    if Region.wanted ee_o9 (yielded ee_O a.tmps) = true then Oper.wp Tryz.prog ee_o9 a w K Q else K (a.put ee_o9.dst undef) w := by
  unfold ee_o9 at hdep hK ⊢
  obtain ⟨hg, r0, r1, j23, j39, j44, j46⟩ := hJ
  obtain ⟨⟨a1, a2⟩, ⟨a3, a4⟩, ⟨a5, a6⟩, ⟨a7, a8⟩, ⟨a9, a10⟩, a11, a12⟩ := bx
  have k8 : f 8 = true := hdep { on := 8, ground := .data } (by simp) rfl
  have v34 : a.tmps.getD 34 undef = .int .i64 s.c.pc := hFr.new 8 34 rfl k8
  have hw : IntKind.u8.wrap s.c.pc = s.c.pc := by simp [IntKind.wrap, IntKind.signed, IntKind.bits]; omega
  have hw2 : s.c.pc % 256 = s.c.pc := by omega
  replace hg := hid hg
  replace r0 := hid r0
  replace r1 := hid r1
  replace j23 := hid j23
  replace j39 := hid j39
  replace j44 := hid j44
  replace j46 := hid j46
  clear hdep hFr hKp h4 h3 h1
  go_simp
  exact hK.out _ e _ rfl (fun _ _ => rfl) ⟨hg.out, r0.out, r1.out, j23.out, j39.out, j44.out, j46.out⟩
set_option maxRecDepth 100000 in
set_option maxHeartbeats 2000000 in
theorem ee_s10 (A : Act) (w1 : World) (Q : Exit → Act → World → Prop) (b d n ocap base : Nat) (oa : Option Addr) (L : List Value) (s : Sn) (vr vm : Value) (m1 m2 u : Int) 
    (h4 : A.tmps.getD 4 undef = .slice oa n ocap) (h3 : A.tmps.getD 3 undef = .pointer (some ⟨d, 0, none⟩)) (h1 : A.tmps.getD 1 undef = .pointer (some ⟨b, 0, none⟩)) (qb : Blk w1 b (snA s vr vm)) (qd : Blk w1 d (cuA s.c)) (nb : some b ≠ (Value.slice oa n ocap).ownBlock) (nd : some d ≠ (Value.slice oa n ocap).ownBlock) (own : w1.ownsRow base 5 1 (Value.slice oa n ocap) n L) (hbase : base ≤ w1.heap.size) (hn : n ≤ 100) (bx : (0 ≤ s.c.f ∧ s.c.f ≤ 255) ∧ (0 ≤ s.c.sp ∧ s.c.sp ≤ 255) ∧ (0 ≤ s.c.pc ∧ s.c.pc ≤ 255) ∧ (0 ≤ m1 ∧ m1 ≤ 255) ∧ (0 ≤ s.m.page ∧ s.m.page ≤ 255) ∧ (0 ≤ u ∧ u ≤ 255)) (bm : 0 ≤ m2 ∧ m2 ≤ 3) (hu : bits .or .i64 s.p.border (m2 * 8) = u) (hF1 : ∀ W g, Blk W g #[.bool s.c.iff, .bool s.c.ei, .bool s.c.halt, .bool s.m.locked, .bool (s.m.screen == 3)] → Calls Tryz.prog 37 #[.slice (some ⟨g, 0, none⟩) 5 5] W fun r w' => r = .returned (.int .i64 m1) ∧ w' = W) (hF2 : ∀ W g, Blk W g #[.bool s.p.mic, .bool s.p.beep] → Calls Tryz.prog 37 #[.slice (some ⟨g, 0, none⟩) 2 2] W fun r w' => r = .returned (.int .i64 m2) ∧ w' = W)
    (f : Nat → Bool) (e : Nat × Nat × Nat × Value) (a : Act) (w : World) (hun : f 10 = false) (hdep : ∀ d ∈ ee_o10.after, Region.binds .any d = true → f d.on = true) (hJ : ee_J w1 b d n ocap base oa L s vr vm m1 m2 u f e w) (hFr : Fr ee_O A f (fun j => ee_V b d n ocap base oa L s vr vm m1 m2 u j e) a) (hKp : Kept ee_O A f a)
    (K : Act → World → Prop) (hK : Hid (∀ v e' w', v = ee_V b d n ocap base oa L s vr vm m1 m2 u 10 e' → (∀ j, f j = true → ee_V b d n ocap base oa L s vr vm m1 m2 u j e' = ee_V b d n ocap base oa L s vr vm m1 m2 u j e) → ee_J w1 b d n ocap base oa L s vr vm m1 m2 u (fun j => j == 10 || f j) e' w' → K (a.put ee_o10.dst v) w')) :
    if Region.wanted ee_o10 (yielded ee_O a.tmps) = true then Oper.wp Tryz.prog ee_o10 a w K Q else K (a.put ee_o10.dst undef) w := by
  unfold ee_o10 at hdep hK ⊢
  obtain ⟨hg, r0, r1, j23, j39, j44, j46⟩ := hJ
  obtain ⟨⟨a1, a2⟩, ⟨a3, a4⟩, ⟨a5, a6⟩, ⟨a7, a8⟩, ⟨a9, a10⟩, a11, a12⟩ := bx
  have v3 := (hFr.old 3 (ee_no (by decide))).trans h3
  replace hg := hid hg
  replace r0 := hid r0
  replace r1 := hid r1
  replace j23 := hid j23
  replace j39 := hid j39
  replace j44 := hid j44
  replace j46 := hid j46
  clear hdep hFr hKp h4 h3 h1
  go_simp
  exact hK.out _ e _ rfl (fun _ _ => rfl) ⟨hg.out, r0.out, r1.out, j23.out, j39.out, j44.out, j46.out⟩
set_option maxRecDepth 100000 in
set_option maxHeartbeats 2000000 in
theorem ee_s11 (A : Act) (w1 : World) (Q : Exit → Act → World → Prop) (b d n ocap base : Nat) (oa : Option Addr) (L : List Value) (s : Sn) (vr vm : Value) (m1 m2 u : Int) 
    (h4 : A.tmps.getD 4 undef = .slice oa n ocap) (h3 : A.tmps.getD 3 undef = .pointer (some ⟨d, 0, none⟩)) (h1 : A.tmps.getD 1 undef = .pointer (some ⟨b, 0, none⟩)) (qb : Blk w1 b (snA s vr vm)) (qd : Blk w1 d (cuA s.c)) (nb : some b ≠ (Value.slice oa n ocap).ownBlock) (nd : some d ≠ (Value.slice oa n ocap).ownBlock) (own : w1.ownsRow base 5 1 (Value.slice oa n ocap) n L) (hbase : base ≤ w1.heap.size) (hn : n ≤ 100) (bx : (0 ≤ s.c.f ∧ s.c.f ≤ 255) ∧ (0 ≤ s.c.sp ∧ s.c.sp ≤ 255) ∧ (0 ≤ s.c.pc ∧ s.c.pc ≤ 255) ∧ (0 ≤ m1 ∧ m1 ≤ 255) ∧ (0 ≤ s.m.page ∧ s.m.page ≤ 255) ∧ (0 ≤ u ∧ u ≤ 255)) (bm : 0 ≤ m2 ∧ m2 ≤ 3) (hu : bits .or .i64 s.p.border (m2 * 8) = u) (hF1 : ∀ W g, Blk W g #[.bool s.c.iff, .bool s.c.ei, .bool s.c.halt, .bool s.m.locked, .bool (s.m.screen == 3)] → Calls Tryz.prog 37 #[.slice (some ⟨g, 0, none⟩) 5 5] W fun r w' => r = .returned (.int .i64 m1) ∧ w' = W) (hF2 : ∀ W g, Blk W g #[.bool s.p.mic, .bool s.p.beep] → Calls Tryz.prog 37 #[.slice (some ⟨g, 0, none⟩) 2 2] W fun r w' => r = .returned (.int .i64 m2) ∧ w' = W)
    (f : Nat → Bool) (e : Nat × Nat × Nat × Value) (a : Act) (w : World) (hun : f 11 = false) (hdep : ∀ d ∈ ee_o11.after, Region.binds .any d = true → f d.on = true) (hJ : ee_J w1 b d n ocap base oa L s vr vm m1 m2 u f e w) (hFr : Fr ee_O A f (fun j => ee_V b d n ocap base oa L s vr vm m1 m2 u j e) a) (hKp : Kept ee_O A f a)
    (K : Act → World → Prop) (hK : Hid (∀ v e' w', v = ee_V b d n ocap base oa L s vr vm m1 m2 u 11 e' → (∀ j, f j = true → ee_V b d n ocap base oa L s vr vm m1 m2 u j e' = ee_V b d n ocap base oa L s vr vm m1 m2 u j e) → ee_J w1 b d n ocap base oa L s vr vm m1 m2 u (fun j => j == 11 || f j) e' w' → K (a.put ee_o11.dst v) w')) :
    if Region.wanted ee_o11 (yielded ee_O a.tmps) = true then Oper.wp Tryz.prog ee_o11 a w K Q else K (a.put ee_o11.dst undef) w := by
  unfold ee_o11 at hdep hK ⊢
  obtain ⟨hg, r0, r1, j23, j39, j44, j46⟩ := hJ
  obtain ⟨⟨a1, a2⟩, ⟨a3, a4⟩, ⟨a5, a6⟩, ⟨a7, a8⟩, ⟨a9, a10⟩, a11, a12⟩ := bx
  have k10 : f 10 = true := hdep { on := 10, ground := .data } (by simp) rfl
  have v36 : a.tmps.getD 36 undef = .pointer (some ⟨d, 11, none⟩) := hFr.new 10 36 rfl k10
  have y : w.cell? ⟨d, 11, none⟩ = some (.bool s.c.iff) := (qd.grown hg nd).cell 11
  replace hg := hid hg
  replace r0 := hid r0
  replace r1 := hid r1
  replace j23 := hid j23
  replace j39 := hid j39
  replace j44 := hid j44
  replace j46 := hid j46
  clear hdep hFr hKp h4 h3 h1
  go_simp
  exact hK.out _ e _ rfl (fun _ _ => rfl) ⟨hg.out, r0.out, r1.out, j23.out, j39.out, j44.out, j46.out⟩
set_option maxRecDepth 100000 in
set_option maxHeartbeats 2000000 in
theorem ee_s12 (A : Act) (w1 : World) (Q : Exit → Act → World → Prop) (b d n ocap base : Nat) (oa : Option Addr) (L : List Value) (s : Sn) (vr vm : Value) (m1 m2 u : Int) 
    (h4 : A.tmps.getD 4 undef = .slice oa n ocap) (h3 : A.tmps.getD 3 undef = .pointer (some ⟨d, 0, none⟩)) (h1 : A.tmps.getD 1 undef = .pointer (some ⟨b, 0, none⟩)) (qb : Blk w1 b (snA s vr vm)) (qd : Blk w1 d (cuA s.c)) (nb : some b ≠ (Value.slice oa n ocap).ownBlock) (nd : some d ≠ (Value.slice oa n ocap).ownBlock) (own : w1.ownsRow base 5 1 (Value.slice oa n ocap) n L) (hbase : base ≤ w1.heap.size) (hn : n ≤ 100) (bx : (0 ≤ s.c.f ∧ s.c.f ≤ 255) ∧ (0 ≤ s.c.sp ∧ s.c.sp ≤ 255) ∧ (0 ≤ s.c.pc ∧ s.c.pc ≤ 255) ∧ (0 ≤ m1 ∧ m1 ≤ 255) ∧ (0 ≤ s.m.page ∧ s.m.page ≤ 255) ∧ (0 ≤ u ∧ u ≤ 255)) (bm : 0 ≤ m2 ∧ m2 ≤ 3) (hu : bits .or .i64 s.p.border (m2 * 8) = u) (hF1 : ∀ W g, Blk W g #[.bool s.c.iff, .bool s.c.ei, .bool s.c.halt, .bool s.m.locked, .bool (s.m.screen == 3)] → Calls Tryz.prog 37 #[.slice (some ⟨g, 0, none⟩) 5 5] W fun r w' => r = .returned (.int .i64 m1) ∧ w' = W) (hF2 : ∀ W g, Blk W g #[.bool s.p.mic, .bool s.p.beep] → Calls Tryz.prog 37 #[.slice (some ⟨g, 0, none⟩) 2 2] W fun r w' => r = .returned (.int .i64 m2) ∧ w' = W)
    (f : Nat → Bool) (e : Nat × Nat × Nat × Value) (a : Act) (w : World) (hun : f 12 = false) (hdep : ∀ d ∈ ee_o12.after, Region.binds .any d = true → f d.on = true) (hJ : ee_J w1 b d n ocap base oa L s vr vm m1 m2 u f e w) (hFr : Fr ee_O A f (fun j => ee_V b d n ocap base oa L s vr vm m1 m2 u j e) a) (hKp : Kept ee_O A f a)
    (K : Act → World → Prop) (hK : Hid (∀ v e' w', v = ee_V b d n ocap base oa L s vr vm m1 m2 u 12 e' → (∀ j, f j = true → ee_V b d n ocap base oa L s vr vm m1 m2 u j e' = ee_V b d n ocap base oa L s vr vm m1 m2 u j e) → ee_J w1 b d n ocap base oa L s vr vm m1 m2 u (fun j => j == 12 || f j) e' w' → K (a.put ee_o12.dst v) w')) :
    if Region.wanted ee_o12 (yielded ee_O a.tmps) = true then Oper.wp Tryz.prog ee_o12 a w K Q else K (a.put ee_o12.dst undef) w := by
  unfold ee_o12 at hdep hK ⊢
  obtain ⟨hg, r0, r1, j23, j39, j44, j46⟩ := hJ
  obtain ⟨⟨a1, a2⟩, ⟨a3, a4⟩, ⟨a5, a6⟩, ⟨a7, a8⟩, ⟨a9, a10⟩, a11, a12⟩ := bx
  have v3 := (hFr.old 3 (ee_no (by decide))).trans h3
  replace hg := hid hg
  replace r0 := hid r0
  replace r1 := hid r1
  replace j23 := hid j23
  replace j39 := hid j39
  replace j44 := hid j44
  replace j46 := hid j46
  clear hdep hFr hKp h4 h3 h1
  go_simp
  exact hK.out _ e _ rfl (fun _ _ => rfl) ⟨hg.out, r0.out, r1.out, j23.out, j39.out, j44.out, j46.out⟩
set_option maxRecDepth 100000 in
set_option maxHeartbeats 2000000 in
theorem ee_s13 (A : Act) (w1 : World) (Q : Exit → Act → World → Prop) (b d n ocap base : Nat) (oa : Option Addr) (L : List Value) (s : Sn) (vr vm : Value) (m1 m2 u : Int) 
    (h4 : A.tmps.getD 4 undef = .slice oa n ocap) (h3 : A.tmps.getD 3 undef = .pointer (some ⟨d, 0, none⟩)) (h1 : A.tmps.getD 1 undef = .pointer (some ⟨b, 0, none⟩)) (qb : Blk w1 b (snA s vr vm)) (qd : Blk w1 d (cuA s.c)) (nb : some b ≠ (Value.slice oa n ocap).ownBlock) (nd : some d ≠ (Value.slice oa n ocap).ownBlock) (own : w1.ownsRow base 5 1 (Value.slice oa n ocap) n L) (hbase : base ≤ w1.heap.size) (hn : n ≤ 100) (bx : (0 ≤ s.c.f ∧ s.c.f ≤ 255) ∧ (0 ≤ s.c.sp ∧ s.c.sp ≤ 255) ∧ (0 ≤ s.c.pc ∧ s.c.pc ≤ 255) ∧ (0 ≤ m1 ∧ m1 ≤ 255) ∧ (0 ≤ s.m.page ∧ s.m.page ≤ 255) ∧ (0 ≤ u ∧ u ≤ 255)) (bm : 0 ≤ m2 ∧ m2 ≤ 3) (hu : bits .or .i64 s.p.border (m2 * 8) = u) (hF1 : ∀ W g, Blk W g #[.bool s.c.iff, .bool s.c.ei, .bool s.c.halt, .bool s.m.locked, .bool (s.m.screen == 3)] → Calls Tryz.prog 37 #[.slice (some ⟨g, 0, none⟩) 5 5] W fun r w' => r = .returned (.int .i64 m1) ∧ w' = W) (hF2 : ∀ W g, Blk W g #[.bool s.p.mic, .bool s.p.beep] → Calls Tryz.prog 37 #[.slice (some ⟨g, 0, none⟩) 2 2] W fun r w' => r = .returned (.int .i64 m2) ∧ w' = W)
    (f : Nat → Bool) (e : Nat × Nat × Nat × Value) (a : Act) (w : World) (hun : f 13 = false) (hdep : ∀ d ∈ ee_o13.after, Region.binds .any d = true → f d.on = true) (hJ : ee_J w1 b d n ocap base oa L s vr vm m1 m2 u f e w) (hFr : Fr ee_O A f (fun j => ee_V b d n ocap base oa L s vr vm m1 m2 u j e) a) (hKp : Kept ee_O A f a)
    (K : Act → World → Prop) (hK : Hid (∀ v e' w', v = ee_V b d n ocap base oa L s vr vm m1 m2 u 13 e' → (∀ j, f j = true → ee_V b d n ocap base oa L s vr vm m1 m2 u j e' = ee_V b d n ocap base oa L s vr vm m1 m2 u j e) → ee_J w1 b d n ocap base oa L s vr vm m1 m2 u (fun j => j == 13 || f j) e' w' → K (a.put ee_o13.dst v) w')) :
    if Region.wanted ee_o13 (yielded ee_O a.tmps) = true then Oper.wp Tryz.prog ee_o13 a w K Q else K (a.put ee_o13.dst undef) w := by
  unfold ee_o13 at hdep hK ⊢
  obtain ⟨hg, r0, r1, j23, j39, j44, j46⟩ := hJ
  obtain ⟨⟨a1, a2⟩, ⟨a3, a4⟩, ⟨a5, a6⟩, ⟨a7, a8⟩, ⟨a9, a10⟩, a11, a12⟩ := bx
  have k12 : f 12 = true := hdep { on := 12, ground := .data } (by simp) rfl
  have v38 : a.tmps.getD 38 undef = .pointer (some ⟨d, 12, none⟩) := hFr.new 12 38 rfl k12
  have y : w.cell? ⟨d, 12, none⟩ = some (.bool s.c.ei) := (qd.grown hg nd).cell 12
  replace hg := hid hg
  replace r0 := hid r0
  replace r1 := hid r1
  replace j23 := hid j23
  replace j39 := hid j39
  replace j44 := hid j44
  replace j46 := hid j46
  clear hdep hFr hKp h4 h3 h1
  go_simp
  exact hK.out _ e _ rfl (fun _ _ => rfl) ⟨hg.out, r0.out, r1.out, j23.out, j39.out, j44.out, j46.out⟩
set_option maxRecDepth 100000 in
set_option maxHeartbeats 2000000 in
theorem ee_s14 (A : Act) (w1 : World) (Q : Exit → Act → World → Prop) (b d n ocap base : Nat) (oa : Option Addr) (L : List Value) (s : Sn) (vr vm : Value) (m1 m2 u : Int) 
    (h4 : A.tmps.getD 4 undef = .slice oa n ocap) (h3 : A.tmps.getD 3 undef = .pointer (some ⟨d, 0, none⟩)) (h1 : A.tmps.getD 1 undef = .pointer (some ⟨b, 0, none⟩)) (qb : Blk w1 b (snA s vr vm)) (qd : Blk w1 d (cuA s.c)) (nb : some b ≠ (Value.slice oa n ocap).ownBlock) (nd : some d ≠ (Value.slice oa n ocap).ownBlock) (own : w1.ownsRow base 5 1 (Value.slice oa n ocap) n L) (hbase : base ≤ w1.heap.size) (hn : n ≤ 100) (bx : (0 ≤ s.c.f ∧ s.c.f ≤ 255) ∧ (0 ≤ s.c.sp ∧ s.c.sp ≤ 255) ∧ (0 ≤ s.c.pc ∧ s.c.pc ≤ 255) ∧ (0 ≤ m1 ∧ m1 ≤ 255) ∧ (0 ≤ s.m.page ∧ s.m.page ≤ 255) ∧ (0 ≤ u ∧ u ≤ 255)) (bm : 0 ≤ m2 ∧ m2 ≤ 3) (hu : bits .or .i64 s.p.border (m2 * 8) = u) (hF1 : ∀ W g, Blk W g #[.bool s.c.iff, .bool s.c.ei, .bool s.c.halt, .bool s.m.locked, .bool (s.m.screen == 3)] → Calls Tryz.prog 37 #[.slice (some ⟨g, 0, none⟩) 5 5] W fun r w' => r = .returned (.int .i64 m1) ∧ w' = W) (hF2 : ∀ W g, Blk W g #[.bool s.p.mic, .bool s.p.beep] → Calls Tryz.prog 37 #[.slice (some ⟨g, 0, none⟩) 2 2] W fun r w' => r = .returned (.int .i64 m2) ∧ w' = W)
    (f : Nat → Bool) (e : Nat × Nat × Nat × Value) (a : Act) (w : World) (hun : f 14 = false) (hdep : ∀ d ∈ ee_o14.after, Region.binds .any d = true → f d.on = true) (hJ : ee_J w1 b d n ocap base oa L s vr vm m1 m2 u f e w) (hFr : Fr ee_O A f (fun j => ee_V b d n ocap base oa L s vr vm m1 m2 u j e) a) (hKp : Kept ee_O A f a)
    (K : Act → World → Prop) (hK : Hid (∀ v e' w', v = ee_V b d n ocap base oa L s vr vm m1 m2 u 14 e' → (∀ j, f j = true → ee_V b d n ocap base oa L s vr vm m1 m2 u j e' = ee_V b d n ocap base oa L s vr vm m1 m2 u j e) → ee_J w1 b d n ocap base oa L s vr vm m1 m2 u (fun j => j == 14 || f j) e' w' → K (a.put ee_o14.dst v) w')) :
    if Region.wanted ee_o14 (yielded ee_O a.tmps) = true then Oper.wp Tryz.prog ee_o14 a w K Q else K (a.put ee_o14.dst undef) w := by
  unfold ee_o14 at hdep hK ⊢
  obtain ⟨hg, r0, r1, j23, j39, j44, j46⟩ := hJ
  obtain ⟨⟨a1, a2⟩, ⟨a3, a4⟩, ⟨a5, a6⟩, ⟨a7, a8⟩, ⟨a9, a10⟩, a11, a12⟩ := bx
  have v3 := (hFr.old 3 (ee_no (by decide))).trans h3
  replace hg := hid hg
  replace r0 := hid r0
  replace r1 := hid r1
  replace j23 := hid j23
  replace j39 := hid j39
  replace j44 := hid j44
  replace j46 := hid j46
  clear hdep hFr hKp h4 h3 h1
  go_simp
  exact hK.out _ e _ rfl (fun _ _ => rfl) ⟨hg.out, r0.out, r1.out, j23.out, j39.out, j44.out, j46.out⟩
set_option maxRecDepth 100000 in
set_option maxHeartbeats 2000000 in
theorem ee_s15 (A : Act) (w1 : World) (Q : Exit → Act → World → Prop) (b d n ocap base : Nat) (oa : Option Addr) (L : List Value) (s : Sn) (vr vm : Value) (m1 m2 u : Int) 
    (h4 : A.tmps.getD 4 undef = .slice oa n ocap) (h3 : A.tmps.getD 3 undef = .pointer (some ⟨d, 0, none⟩)) (h1 : A.tmps.getD 1 undef = .pointer (some ⟨b, 0, none⟩)) (qb : Blk w1 b (snA s vr vm)) (qd : Blk w1 d (cuA s.c)) (nb : some b ≠ (Value.slice oa n ocap).ownBlock) (nd : some d ≠ (Value.slice oa n ocap).ownBlock) (own : w1.ownsRow base 5 1 (Value.slice oa n ocap) n L) (hbase : base ≤ w1.heap.size) (hn : n ≤ 100) (bx : (0 ≤ s.c.f ∧ s.c.f ≤ 255) ∧ (0 ≤ s.c.sp ∧ s.c.sp ≤ 255) ∧ (0 ≤ s.c.pc ∧ s.c.pc ≤ 255) ∧ (0 ≤ m1 ∧ m1 ≤ 255) ∧ (0 ≤ s.m.page ∧ s.m.page ≤ 255) ∧ (0 ≤ u ∧ u ≤ 255)) (bm : 0 ≤ m2 ∧ m2 ≤ 3) (hu : bits .or .i64 s.p.border (m2 * 8) = u) (hF1 : ∀ W g, Blk W g #[.bool s.c.iff, .bool s.c.ei, .bool s.c.halt, .bool s.m.locked, .bool (s.m.screen == 3)] → Calls Tryz.prog 37 #[.slice (some ⟨g, 0, none⟩) 5 5] W fun r w' => r = .returned (.int .i64 m1) ∧ w' = W) (hF2 : ∀ W g, Blk W g #[.bool s.p.mic, .bool s.p.beep] → Calls Tryz.prog 37 #[.slice (some ⟨g, 0, none⟩) 2 2] W fun r w' => r = .returned (.int .i64 m2) ∧ w' = W)
    (f : Nat → Bool) (e : Nat × Nat × Nat × Value) (a : Act) (w : World) (hun : f 15 = false) (hdep : ∀ d ∈ ee_o15.after, Region.binds .any d = true → f d.on = true) (hJ : ee_J w1 b d n ocap base oa L s vr vm m1 m2 u f e w) (hFr : Fr ee_O A f (fun j => ee_V b d n ocap base oa L s vr vm m1 m2 u j e) a) (hKp : Kept ee_O A f a)
    (K : Act → World → Prop) (hK : Hid (∀ v e' w', v = ee_V b d n ocap base oa L s vr vm m1 m2 u 15 e' → (∀ j, f j = true → ee_V b d n ocap base oa L s vr vm m1 m2 u j e' = ee_V b d n ocap base oa L s vr vm m1 m2 u j e) → ee_J w1 b d n ocap base oa L s vr vm m1 m2 u (fun j => j == 15 || f j) e' w' → K (a.put ee_o15.dst v) w')) :
    if Region.wanted ee_o15 (yielded ee_O a.tmps) = true then Oper.wp Tryz.prog ee_o15 a w K Q else K (a.put ee_o15.dst undef) w := by
  unfold ee_o15 at hdep hK ⊢
  obtain ⟨hg, r0, r1, j23, j39, j44, j46⟩ := hJ
  obtain ⟨⟨a1, a2⟩, ⟨a3, a4⟩, ⟨a5, a6⟩, ⟨a7, a8⟩, ⟨a9, a10⟩, a11, a12⟩ := bx
  have k14 : f 14 = true := hdep { on := 14, ground := .data } (by simp) rfl
  have v40 : a.tmps.getD 40 undef = .pointer (some ⟨d, 13, none⟩) := hFr.new 14 40 rfl k14
  have y : w.cell? ⟨d, 13, none⟩ = some (.bool s.c.halt) := (qd.grown hg nd).cell 13
  replace hg := hid hg
  replace r0 := hid r0
  replace r1 := hid r1
  replace j23 := hid j23
  replace j39 := hid j39
  replace j44 := hid j44
  replace j46 := hid j46
  clear hdep hFr hKp h4 h3 h1
  go_simp
  exact hK.out _ e _ rfl (fun _ _ => rfl) ⟨hg.out, r0.out, r1.out, j23.out, j39.out, j44.out, j46.out⟩
set_option maxRecDepth 100000 in
set_option maxHeartbeats 2000000 in
theorem ee_s16 (A : Act) (w1 : World) (Q : Exit → Act → World → Prop) (b d n ocap base : Nat) (oa : Option Addr) (L : List Value) (s : Sn) (vr vm : Value) (m1 m2 u : Int) 
    (h4 : A.tmps.getD 4 undef = .slice oa n ocap) (h3 : A.tmps.getD 3 undef = .pointer (some ⟨d, 0, none⟩)) (h1 : A.tmps.getD 1 undef = .pointer (some ⟨b, 0, none⟩)) (qb : Blk w1 b (snA s vr vm)) (qd : Blk w1 d (cuA s.c)) (nb : some b ≠ (Value.slice oa n ocap).ownBlock) (nd : some d ≠ (Value.slice oa n ocap).ownBlock) (own : w1.ownsRow base 5 1 (Value.slice oa n ocap) n L) (hbase : base ≤ w1.heap.size) (hn : n ≤ 100) (bx : (0 ≤ s.c.f ∧ s.c.f ≤ 255) ∧ (0 ≤ s.c.sp ∧ s.c.sp ≤ 255) ∧ (0 ≤ s.c.pc ∧ s.c.pc ≤ 255) ∧ (0 ≤ m1 ∧ m1 ≤ 255) ∧ (0 ≤ s.m.page ∧ s.m.page ≤ 255) ∧ (0 ≤ u ∧ u ≤ 255)) (bm : 0 ≤ m2 ∧ m2 ≤ 3) (hu : bits .or .i64 s.p.border (m2 * 8) = u) (hF1 : ∀ W g, Blk W g #[.bool s.c.iff, .bool s.c.ei, .bool s.c.halt, .bool s.m.locked, .bool (s.m.screen == 3)] → Calls Tryz.prog 37 #[.slice (some ⟨g, 0, none⟩) 5 5] W fun r w' => r = .returned (.int .i64 m1) ∧ w' = W) (hF2 : ∀ W g, Blk W g #[.bool s.p.mic, .bool s.p.beep] → Calls Tryz.prog 37 #[.slice (some ⟨g, 0, none⟩) 2 2] W fun r w' => r = .returned (.int .i64 m2) ∧ w' = W)
    (f : Nat → Bool) (e : Nat × Nat × Nat × Value) (a : Act) (w : World) (hun : f 16 = false) (hdep : ∀ d ∈ ee_o16.after, Region.binds .any d = true → f d.on = true) (hJ : ee_J w1 b d n ocap base oa L s vr vm m1 m2 u f e w) (hFr : Fr ee_O A f (fun j => ee_V b d n ocap base oa L s vr vm m1 m2 u j e) a) (hKp : Kept ee_O A f a)
    (K : Act → World → Prop) (hK : Hid (∀ v e' w', v = ee_V b d n ocap base oa L s vr vm m1 m2 u 16 e' → (∀ j, f j = true → ee_V b d n ocap base oa L s vr vm m1 m2 u j e' = ee_V b d n ocap base oa L s vr vm m1 m2 u j e) → ee_J w1 b d n ocap base oa L s vr vm m1 m2 u (fun j => j == 16 || f j) e' w' → K (a.put ee_o16.dst v) w')) :
    if Region.wanted ee_o16 (yielded ee_O a.tmps) = true then Oper.wp Tryz.prog ee_o16 a w K Q else K (a.put ee_o16.dst undef) w := by
  unfold ee_o16 at hdep hK ⊢
  obtain ⟨hg, r0, r1, j23, j39, j44, j46⟩ := hJ
  obtain ⟨⟨a1, a2⟩, ⟨a3, a4⟩, ⟨a5, a6⟩, ⟨a7, a8⟩, ⟨a9, a10⟩, a11, a12⟩ := bx
  have v1 := (hFr.old 1 (ee_no (by decide))).trans h1
  replace hg := hid hg
  replace r0 := hid r0
  replace r1 := hid r1
  replace j23 := hid j23
  replace j39 := hid j39
  replace j44 := hid j44
  replace j46 := hid j46
  clear hdep hFr hKp h4 h3 h1
  go_simp
  exact hK.out _ e _ rfl (fun _ _ => rfl) ⟨hg.out, r0.out, r1.out, j23.out, j39.out, j44.out, j46.out⟩
set_option maxRecDepth 100000 in
set_option maxHeartbeats 2000000 in
theorem ee_s17 (A : Act) (w1 : World) (Q : Exit → Act → World → Prop) (b d n ocap base : Nat) (oa : Option Addr) (L : List Value) (s : Sn) (vr vm : Value) (m1 m2 u : Int) 
    (h4 : A.tmps.getD 4 undef = .slice oa n ocap) (h3 : A.tmps.getD 3 undef = .pointer (some ⟨d, 0, none⟩)) (h1 : A.tmps.getD 1 undef = .pointer (some ⟨b, 0, none⟩)) (qb : Blk w1 b (snA s vr vm)) (qd : Blk w1 d (cuA s.c)) (nb : some b ≠ (Value.slice oa n ocap).ownBlock) (nd : some d ≠ (Value.slice oa n ocap).ownBlock) (own : w1.ownsRow base 5 1 (Value.slice oa n ocap) n L) (hbase : base ≤ w1.heap.size) (hn : n ≤ 100) (bx : (0 ≤ s.c.f ∧ s.c.f ≤ 255) ∧ (0 ≤ s.c.sp ∧ s.c.sp ≤ 255) ∧ (0 ≤ s.c.pc ∧ s.c.pc ≤ 255) ∧ (0 ≤ m1 ∧ m1 ≤ 255) ∧ (0 ≤ s.m.page ∧ s.m.page ≤ 255) ∧ (0 ≤ u ∧ u ≤ 255)) (bm : 0 ≤ m2 ∧ m2 ≤ 3) (hu : bits .or .i64 s.p.border (m2 * 8) = u) (hF1 : ∀ W g, Blk W g #[.bool s.c.iff, .bool s.c.ei, .bool s.c.halt, .bool s.m.locked, .bool (s.m.screen == 3)] → Calls Tryz.prog 37 #[.slice (some ⟨g, 0, none⟩) 5 5] W fun r w' => r = .returned (.int .i64 m1) ∧ w' = W) (hF2 : ∀ W g, Blk W g #[.bool s.p.mic, .bool s.p.beep] → Calls Tryz.prog 37 #[.slice (some ⟨g, 0, none⟩) 2 2] W fun r w' => r = .returned (.int .i64 m2) ∧ w' = W)
    (f : Nat → Bool) (e : Nat × Nat × Nat × Value) (a : Act) (w : World) (hun : f 17 = false) (hdep : ∀ d ∈ ee_o17.after, Region.binds .any d = true → f d.on = true) (hJ : ee_J w1 b d n ocap base oa L s vr vm m1 m2 u f e w) (hFr : Fr ee_O A f (fun j => ee_V b d n ocap base oa L s vr vm m1 m2 u j e) a) (hKp : Kept ee_O A f a)
    (K : Act → World → Prop) (hK : Hid (∀ v e' w', v = ee_V b d n ocap base oa L s vr vm m1 m2 u 17 e' → (∀ j, f j = true → ee_V b d n ocap base oa L s vr vm m1 m2 u j e' = ee_V b d n ocap base oa L s vr vm m1 m2 u j e) → ee_J w1 b d n ocap base oa L s vr vm m1 m2 u (fun j => j == 17 || f j) e' w' → K (a.put ee_o17.dst v) w')) :
    if Region.wanted ee_o17 (yielded ee_O a.tmps) = true then Oper.wp Tryz.prog ee_o17 a w K Q else K (a.put ee_o17.dst undef) w := by
  unfold ee_o17 at hdep hK ⊢
  obtain ⟨hg, r0, r1, j23, j39, j44, j46⟩ := hJ
  obtain ⟨⟨a1, a2⟩, ⟨a3, a4⟩, ⟨a5, a6⟩, ⟨a7, a8⟩, ⟨a9, a10⟩, a11, a12⟩ := bx
  have k16 : f 16 = true := hdep { on := 16, ground := .data } (by simp) rfl
  have v42 : a.tmps.getD 42 undef = .pointer (some ⟨b, 14, none⟩) := hFr.new 16 42 rfl k16
  replace hg := hid hg
  replace r0 := hid r0
  replace r1 := hid r1
  replace j23 := hid j23
  replace j39 := hid j39
  replace j44 := hid j44
  replace j46 := hid j46
  clear hdep hFr hKp h4 h3 h1
  go_simp
  exact hK.out _ e _ rfl (fun _ _ => rfl) ⟨hg.out, r0.out, r1.out, j23.out, j39.out, j44.out, j46.out⟩
set_option maxRecDepth 100000 in
set_option maxHeartbeats 2000000 in
theorem ee_s18 (A : Act) (w1 : World) (Q : Exit → Act → World → Prop) (b d n ocap base : Nat) (oa : Option Addr) (L : List Value) (s : Sn) (vr vm : Value) (m1 m2 u : Int) 
    (h4 : A.tmps.getD 4 undef = .slice oa n ocap) (h3 : A.tmps.getD 3 undef = .pointer (some ⟨d, 0, none⟩)) (h1 : A.tmps.getD 1 undef = .pointer (some ⟨b, 0, none⟩)) (qb : Blk w1 b (snA s vr vm)) (qd : Blk w1 d (cuA s.c)) (nb : some b ≠ (Value.slice oa n ocap).ownBlock) (nd : some d ≠ (Value.slice oa n ocap).ownBlock) (own : w1.ownsRow base 5 1 (Value.slice oa n ocap) n L) (hbase : base ≤ w1.heap.size) (hn : n ≤ 100) (bx : (0 ≤ s.c.f ∧ s.c.f ≤ 255) ∧ (0 ≤ s.c.sp ∧ s.c.sp ≤ 255) ∧ (0 ≤ s.c.pc ∧ s.c.pc ≤ 255) ∧ (0 ≤ m1 ∧ m1 ≤ 255) ∧ (0 ≤ s.m.page ∧ s.m.page ≤ 255) ∧ (0 ≤ u ∧ u ≤ 255)) (bm : 0 ≤ m2 ∧ m2 ≤ 3) (hu : bits .or .i64 s.p.border (m2 * 8) = u) (hF1 : ∀ W g, Blk W g #[.bool s.c.iff, .bool s.c.ei, .bool s.c.halt, .bool s.m.locked, .bool (s.m.screen == 3)] → Calls Tryz.prog 37 #[.slice (some ⟨g, 0, none⟩) 5 5] W fun r w' => r = .returned (.int .i64 m1) ∧ w' = W) (hF2 : ∀ W g, Blk W g #[.bool s.p.mic, .bool s.p.beep] → Calls Tryz.prog 37 #[.slice (some ⟨g, 0, none⟩) 2 2] W fun r w' => r = .returned (.int .i64 m2) ∧ w' = W)
    (f : Nat → Bool) (e : Nat × Nat × Nat × Value) (a : Act) (w : World) (hun : f 18 = false) (hdep : ∀ d ∈ ee_o18.after, Region.binds .any d = true → f d.on = true) (hJ : ee_J w1 b d n ocap base oa L s vr vm m1 m2 u f e w) (hFr : Fr ee_O A f (fun j => ee_V b d n ocap base oa L s vr vm m1 m2 u j e) a) (hKp : Kept ee_O A f a)
    (K : Act → World → Prop) (hK : Hid (∀ v e' w', v = ee_V b d n ocap base oa L s vr vm m1 m2 u 18 e' → (∀ j, f j = true → ee_V b d n ocap base oa L s vr vm m1 m2 u j e' = ee_V b d n ocap base oa L s vr vm m1 m2 u j e) → ee_J w1 b d n ocap base oa L s vr vm m1 m2 u (fun j => j == 18 || f j) e' w' → K (a.put ee_o18.dst v) w')) :
    if Region.wanted ee_o18 (yielded ee_O a.tmps) = true then Oper.wp Tryz.prog ee_o18 a w K Q else K (a.put ee_o18.dst undef) w := by
  unfold ee_o18 at hdep hK ⊢
  obtain ⟨hg, r0, r1, j23, j39, j44, j46⟩ := hJ
  obtain ⟨⟨a1, a2⟩, ⟨a3, a4⟩, ⟨a5, a6⟩, ⟨a7, a8⟩, ⟨a9, a10⟩, a11, a12⟩ := bx
  have k17 : f 17 = true := hdep { on := 17, ground := .data } (by simp) rfl
  have v43 : a.tmps.getD 43 undef = .pointer (some ⟨b, 18, none⟩) := hFr.new 17 43 rfl k17
  have y : w.cell? ⟨b, 18, none⟩ = some (.bool s.m.locked) := (qb.grown hg nb).cell 18
  replace hg := hid hg
  replace r0 := hid r0
  replace r1 := hid r1
  replace j23 := hid j23
  replace j39 := hid j39
  replace j44 := hid j44
  replace j46 := hid j46
  clear hdep hFr hKp h4 h3 h1
  go_simp
  exact hK.out _ e _ rfl (fun _ _ => rfl) ⟨hg.out, r0.out, r1.out, j23.out, j39.out, j44.out, j46.out⟩
set_option maxRecDepth 100000 in
set_option maxHeartbeats 2000000 in
theorem ee_s19 (A : Act) (w1 : World) (Q : Exit → Act → World → Prop) (b d n ocap base : Nat) (oa : Option Addr) (L : List Value) (s : Sn) (vr vm : Value) (m1 m2 u : Int) 
    (h4 : A.tmps.getD 4 undef = .slice oa n ocap) (h3 : A.tmps.getD 3 undef = .pointer (some ⟨d, 0, none⟩)) (h1 : A.tmps.getD 1 undef = .pointer (some ⟨b, 0, none⟩)) (qb : Blk w1 b (snA s vr vm)) (qd : Blk w1 d (cuA s.c)) (nb : some b ≠ (Value.slice oa n ocap).ownBlock) (nd : some d ≠ (Value.slice oa n ocap).ownBlock) (own : w1.ownsRow base 5 1 (Value.slice oa n ocap) n L) (hbase : base ≤ w1.heap.size) (hn : n ≤ 100) (bx : (0 ≤ s.c.f ∧ s.c.f ≤ 255) ∧ (0 ≤ s.c.sp ∧ s.c.sp ≤ 255) ∧ (0 ≤ s.c.pc ∧ s.c.pc ≤ 255) ∧ (0 ≤ m1 ∧ m1 ≤ 255) ∧ (0 ≤ s.m.page ∧ s.m.page ≤ 255) ∧ (0 ≤ u ∧ u ≤ 255)) (bm : 0 ≤ m2 ∧ m2 ≤ 3) (hu : bits .or .i64 s.p.border (m2 * 8) = u) (hF1 : ∀ W g, Blk W g #[.bool s.c.iff, .bool s.c.ei, .bool s.c.halt, .bool s.m.locked, .bool (s.m.screen == 3)] → Calls Tryz.prog 37 #[.slice (some ⟨g, 0, none⟩) 5 5] W fun r w' => r = .returned (.int .i64 m1) ∧ w' = W) (hF2 : ∀ W g, Blk W g #[.bool s.p.mic, .bool s.p.beep] → Calls Tryz.prog 37 #[.slice (some ⟨g, 0, none⟩) 2 2] W fun r w' => r = .returned (.int .i64 m2) ∧ w' = W)
    (f : Nat → Bool) (e : Nat × Nat × Nat × Value) (a : Act) (w : World) (hun : f 19 = false) (hdep : ∀ d ∈ ee_o19.after, Region.binds .any d = true → f d.on = true) (hJ : ee_J w1 b d n ocap base oa L s vr vm m1 m2 u f e w) (hFr : Fr ee_O A f (fun j => ee_V b d n ocap base oa L s vr vm m1 m2 u j e) a) (hKp : Kept ee_O A f a)
    (K : Act → World → Prop) (hK : Hid (∀ v e' w', v = ee_V b d n ocap base oa L s vr vm m1 m2 u 19 e' → (∀ j, f j = true → ee_V b d n ocap base oa L s vr vm m1 m2 u j e' = ee_V b d n ocap base oa L s vr vm m1 m2 u j e) → ee_J w1 b d n ocap base oa L s vr vm m1 m2 u (fun j => j == 19 || f j) e' w' → K (a.put ee_o19.dst v) w')) :
    if Region.wanted ee_o19 (yielded ee_O a.tmps) = true then Oper.wp Tryz.prog ee_o19 a w K Q else K (a.put ee_o19.dst undef) w := by
  unfold ee_o19 at hdep hK ⊢
  obtain ⟨hg, r0, r1, j23, j39, j44, j46⟩ := hJ
  obtain ⟨⟨a1, a2⟩, ⟨a3, a4⟩, ⟨a5, a6⟩, ⟨a7, a8⟩, ⟨a9, a10⟩, a11, a12⟩ := bx
  have v1 := (hFr.old 1 (ee_no (by decide))).trans h1
  replace hg := hid hg
  replace r0 := hid r0
  replace r1 := hid r1
  replace j23 := hid j23
  replace j39 := hid j39
  replace j44 := hid j44
  replace j46 := hid j46
  clear hdep hFr hKp h4 h3 h1
  go_simp
  exact hK.out _ e _ rfl (fun _ _ => rfl) ⟨hg.out, r0.out, r1.out, j23.out, j39.out, j44.out, j46.out⟩
set_option maxRecDepth 100000 in
set_option maxHeartbeats 2000000 in
theorem ee_s20 (A : Act) (w1 : World) (Q : Exit → Act → World → Prop) (b d n ocap base : Nat) (oa : Option Addr) (L : List Value) (s : Sn) (vr vm : Value) (m1 m2 u : Int) 
    (h4 : A.tmps.getD 4 undef = .slice oa n ocap) (h3 : A.tmps.getD 3 undef = .pointer (some ⟨d, 0, none⟩)) (h1 : A.tmps.getD 1 undef = .pointer (some ⟨b, 0, none⟩)) (qb : Blk w1 b (snA s vr vm)) (qd : Blk w1 d (cuA s.c)) (nb : some b ≠ (Value.slice oa n ocap).ownBlock) (nd : some d ≠ (Value.slice oa n ocap).ownBlock) (own : w1.ownsRow base 5 1 (Value.slice oa n ocap) n L) (hbase : base ≤ w1.heap.size) (hn : n ≤ 100) (bx : (0 ≤ s.c.f ∧ s.c.f ≤ 255) ∧ (0 ≤ s.c.sp ∧ s.c.sp ≤ 255) ∧ (0 ≤ s.c.pc ∧ s.c.pc ≤ 255) ∧ (0 ≤ m1 ∧ m1 ≤ 255) ∧ (0 ≤ s.m.page ∧ s.m.page ≤ 255) ∧ (0 ≤ u ∧ u ≤ 255)) (bm : 0 ≤ m2 ∧ m2 ≤ 3) (hu : bits .or .i64 s.p.border (m2 * 8) = u) (hF1 : ∀ W g, Blk W g #[.bool s.c.iff, .bool s.c.ei, .bool s.c.halt, .bool s.m.locked, .bool (s.m.screen == 3)] → Calls Tryz.prog 37 #[.slice (some ⟨g, 0, none⟩) 5 5] W fun r w' => r = .returned (.int .i64 m1) ∧ w' = W) (hF2 : ∀ W g, Blk W g #[.bool s.p.mic, .bool s.p.beep] → Calls Tryz.prog 37 #[.slice (some ⟨g, 0, none⟩) 2 2] W fun r w' => r = .returned (.int .i64 m2) ∧ w' = W)
    (f : Nat → Bool) (e : Nat × Nat × Nat × Value) (a : Act) (w : World) (hun : f 20 = false) (hdep : ∀ d ∈ ee_o20.after, Region.binds .any d = true → f d.on = true) (hJ : ee_J w1 b d n ocap base oa L s vr vm m1 m2 u f e w) (hFr : Fr ee_O A f (fun j => ee_V b d n ocap base oa L s vr vm m1 m2 u j e) a) (hKp : Kept ee_O A f a)
    (K : Act → World → Prop) (hK : Hid (∀ v e' w', v = ee_V b d n ocap base oa L s vr vm m1 m2 u 20 e' → (∀ j, f j = true → ee_V b d n ocap base oa L s vr vm m1 m2 u j e' = ee_V b d n ocap base oa L s vr vm m1 m2 u j e) → ee_J w1 b d n ocap base oa L s vr vm m1 m2 u (fun j => j == 20 || f j) e' w' → K (a.put ee_o20.dst v) w')) :
    if Region.wanted ee_o20 (yielded ee_O a.tmps) = true then Oper.wp Tryz.prog ee_o20 a w K Q else K (a.put ee_o20.dst undef) w := by
  unfold ee_o20 at hdep hK ⊢
  obtain ⟨hg, r0, r1, j23, j39, j44, j46⟩ := hJ
  obtain ⟨⟨a1, a2⟩, ⟨a3, a4⟩, ⟨a5, a6⟩, ⟨a7, a8⟩, ⟨a9, a10⟩, a11, a12⟩ := bx
  have k19 : f 19 = true := hdep { on := 19, ground := .data } (by simp) rfl
  have v45 : a.tmps.getD 45 undef = .pointer (some ⟨b, 14, none⟩) := hFr.new 19 45 rfl k19
  replace hg := hid hg
  replace r0 := hid r0
  replace r1 := hid r1
  replace j23 := hid j23
  replace j39 := hid j39
  replace j44 := hid j44
  replace j46 := hid j46
  clear hdep hFr hKp h4 h3 h1
  go_simp
  exact hK.out _ e _ rfl (fun _ _ => rfl) ⟨hg.out, r0.out, r1.out, j23.out, j39.out, j44.out, j46.out⟩
set_option maxRecDepth 100000 in
set_option maxHeartbeats 2000000 in
theorem ee_s21 (A : Act) (w1 : World) (Q : Exit → Act → World → Prop) (b d n ocap base : Nat) (oa : Option Addr) (L : List Value) (s : Sn) (vr vm : Value) (m1 m2 u : Int) 
    (h4 : A.tmps.getD 4 undef = .slice oa n ocap) (h3 : A.tmps.getD 3 undef = .pointer (some ⟨d, 0, none⟩)) (h1 : A.tmps.getD 1 undef = .pointer (some ⟨b, 0, none⟩)) (qb : Blk w1 b (snA s vr vm)) (qd : Blk w1 d (cuA s.c)) (nb : some b ≠ (Value.slice oa n ocap).ownBlock) (nd : some d ≠ (Value.slice oa n ocap).ownBlock) (own : w1.ownsRow base 5 1 (Value.slice oa n ocap) n L) (hbase : base ≤ w1.heap.size) (hn : n ≤ 100) (bx : (0 ≤ s.c.f ∧ s.c.f ≤ 255) ∧ (0 ≤ s.c.sp ∧ s.c.sp ≤ 255) ∧ (0 ≤ s.c.pc ∧ s.c.pc ≤ 255) ∧ (0 ≤ m1 ∧ m1 ≤ 255) ∧ (0 ≤ s.m.page ∧ s.m.page ≤ 255) ∧ (0 ≤ u ∧ u ≤ 255)) (bm : 0 ≤ m2 ∧ m2 ≤ 3) (hu : bits .or .i64 s.p.border (m2 * 8) = u) (hF1 : ∀ W g, Blk W g #[.bool s.c.iff, .bool s.c.ei, .bool s.c.halt, .bool s.m.locked, .bool (s.m.screen == 3)] → Calls Tryz.prog 37 #[.slice (some ⟨g, 0, none⟩) 5 5] W fun r w' => r = .returned (.int .i64 m1) ∧ w' = W) (hF2 : ∀ W g, Blk W g #[.bool s.p.mic, .bool s.p.beep] → Calls Tryz.prog 37 #[.slice (some ⟨g, 0, none⟩) 2 2] W fun r w' => r = .returned (.int .i64 m2) ∧ w' = W)
    (f : Nat → Bool) (e : Nat × Nat × Nat × Value) (a : Act) (w : World) (hun : f 21 = false) (hdep : ∀ d ∈ ee_o21.after, Region.binds .any d = true → f d.on = true) (hJ : ee_J w1 b d n ocap base oa L s vr vm m1 m2 u f e w) (hFr : Fr ee_O A f (fun j => ee_V b d n ocap base oa L s vr vm m1 m2 u j e) a) (hKp : Kept ee_O A f a)
    (K : Act → World → Prop) (hK : Hid (∀ v e' w', v = ee_V b d n ocap base oa L s vr vm m1 m2 u 21 e' → (∀ j, f j = true → ee_V b d n ocap base oa L s vr vm m1 m2 u j e' = ee_V b d n ocap base oa L s vr vm m1 m2 u j e) → ee_J w1 b d n ocap base oa L s vr vm m1 m2 u (fun j => j == 21 || f j) e' w' → K (a.put ee_o21.dst v) w')) :
    if Region.wanted ee_o21 (yielded ee_O a.tmps) = true then Oper.wp Tryz.prog ee_o21 a w K Q else K (a.put ee_o21.dst undef) w := by
  unfold ee_o21 at hdep hK ⊢
  obtain ⟨hg, r0, r1, j23, j39, j44, j46⟩ := hJ
  obtain ⟨⟨a1, a2⟩, ⟨a3, a4⟩, ⟨a5, a6⟩, ⟨a7, a8⟩, ⟨a9, a10⟩, a11, a12⟩ := bx
  have k20 : f 20 = true := hdep { on := 20, ground := .data } (by simp) rfl
  have v46 : a.tmps.getD 46 undef = .pointer (some ⟨b, 17, none⟩) := hFr.new 20 46 rfl k20
  have y : w.cell? ⟨b, 17, none⟩ = some (.int .i64 s.m.screen) := (qb.grown hg nb).cell 17
  replace hg := hid hg
  replace r0 := hid r0
  replace r1 := hid r1
  replace j23 := hid j23
  replace j39 := hid j39
  replace j44 := hid j44
  replace j46 := hid j46
  clear hdep hFr hKp h4 h3 h1
  go_simp
  exact hK.out _ e _ rfl (fun _ _ => rfl) ⟨hg.out, r0.out, r1.out, j23.out, j39.out, j44.out, j46.out⟩
set_option maxRecDepth 100000 in
set_option maxHeartbeats 2000000 in
theorem ee_s22 (A : Act) (w1 : World) (Q : Exit → Act → World → Prop) (b d n ocap base : Nat) (oa : Option Addr) (L : List Value) (s : Sn) (vr vm : Value) (m1 m2 u : Int) 
    (h4 : A.tmps.getD 4 undef = .slice oa n ocap) (h3 : A.tmps.getD 3 undef = .pointer (some ⟨d, 0, none⟩)) (h1 : A.tmps.getD 1 undef = .pointer (some ⟨b, 0, none⟩)) (qb : Blk w1 b (snA s vr vm)) (qd : Blk w1 d (cuA s.c)) (nb : some b ≠ (Value.slice oa n ocap).ownBlock) (nd : some d ≠ (Value.slice oa n ocap).ownBlock) (own : w1.ownsRow base 5 1 (Value.slice oa n ocap) n L) (hbase : base ≤ w1.heap.size) (hn : n ≤ 100) (bx : (0 ≤ s.c.f ∧ s.c.f ≤ 255) ∧ (0 ≤ s.c.sp ∧ s.c.sp ≤ 255) ∧ (0 ≤ s.c.pc ∧ s.c.pc ≤ 255) ∧ (0 ≤ m1 ∧ m1 ≤ 255) ∧ (0 ≤ s.m.page ∧ s.m.page ≤ 255) ∧ (0 ≤ u ∧ u ≤ 255)) (bm : 0 ≤ m2 ∧ m2 ≤ 3) (hu : bits .or .i64 s.p.border (m2 * 8) = u) (hF1 : ∀ W g, Blk W g #[.bool s.c.iff, .bool s.c.ei, .bool s.c.halt, .bool s.m.locked, .bool (s.m.screen == 3)] → Calls Tryz.prog 37 #[.slice (some ⟨g, 0, none⟩) 5 5] W fun r w' => r = .returned (.int .i64 m1) ∧ w' = W) (hF2 : ∀ W g, Blk W g #[.bool s.p.mic, .bool s.p.beep] → Calls Tryz.prog 37 #[.slice (some ⟨g, 0, none⟩) 2 2] W fun r w' => r = .returned (.int .i64 m2) ∧ w' = W)
    (f : Nat → Bool) (e : Nat × Nat × Nat × Value) (a : Act) (w : World) (hun : f 22 = false) (hdep : ∀ d ∈ ee_o22.after, Region.binds .any d = true → f d.on = true) (hJ : ee_J w1 b d n ocap base oa L s vr vm m1 m2 u f e w) (hFr : Fr ee_O A f (fun j => ee_V b d n ocap base oa L s vr vm m1 m2 u j e) a) (hKp : Kept ee_O A f a)
    (K : Act → World → Prop) (hK : Hid (∀ v e' w', v = ee_V b d n ocap base oa L s vr vm m1 m2 u 22 e' → (∀ j, f j = true → ee_V b d n ocap base oa L s vr vm m1 m2 u j e' = ee_V b d n ocap base oa L s vr vm m1 m2 u j e) → ee_J w1 b d n ocap base oa L s vr vm m1 m2 u (fun j => j == 22 || f j) e' w' → K (a.put ee_o22.dst v) w')) :
    if Region.wanted ee_o22 (yielded ee_O a.tmps) = true then Oper.wp Tryz.prog ee_o22 a w K Q else K (a.put ee_o22.dst undef) w := by
  unfold ee_o22 at hdep hK ⊢
  obtain ⟨hg, r0, r1, j23, j39, j44, j46⟩ := hJ
  obtain ⟨⟨a1, a2⟩, ⟨a3, a4⟩, ⟨a5, a6⟩, ⟨a7, a8⟩, ⟨a9, a10⟩, a11, a12⟩ := bx
  have k21 : f 21 = true := hdep { on := 21, ground := .data } (by simp) rfl
  have v47 : a.tmps.getD 47 undef = .int .i64 s.m.screen := hFr.new 21 47 rfl k21
  replace hg := hid hg
  replace r0 := hid r0
  replace r1 := hid r1
  replace j23 := hid j23
  replace j39 := hid j39
  replace j44 := hid j44
  replace j46 := hid j46
  clear hdep hFr hKp h4 h3 h1
  go_simp
  exact hK.out _ e _ rfl (fun _ _ => rfl) ⟨hg.out, r0.out, r1.out, j23.out, j39.out, j44.out, j46.out⟩
set_option maxRecDepth 100000 in
set_option maxHeartbeats 2000000 in
theorem ee_s23 (A : Act) (w1 : World) (Q : Exit → Act → World → Prop) (b d n ocap base : Nat) (oa : Option Addr) (L : List Value) (s : Sn) (vr vm : Value) (m1 m2 u : Int) 
    (h4 : A.tmps.getD 4 undef = .slice oa n ocap) (h3 : A.tmps.getD 3 undef = .pointer (some ⟨d, 0, none⟩)) (h1 : A.tmps.getD 1 undef = .pointer (some ⟨b, 0, none⟩)) (qb : Blk w1 b (snA s vr vm)) (qd : Blk w1 d (cuA s.c)) (nb : some b ≠ (Value.slice oa n ocap).ownBlock) (nd : some d ≠ (Value.slice oa n ocap).ownBlock) (own : w1.ownsRow base 5 1 (Value.slice oa n ocap) n L) (hbase : base ≤ w1.heap.size) (hn : n ≤ 100) (bx : (0 ≤ s.c.f ∧ s.c.f ≤ 255) ∧ (0 ≤ s.c.sp ∧ s.c.sp ≤ 255) ∧ (0 ≤ s.c.pc ∧ s.c.pc ≤ 255) ∧ (0 ≤ m1 ∧ m1 ≤ 255) ∧ (0 ≤ s.m.page ∧ s.m.page ≤ 255) ∧ (0 ≤ u ∧ u ≤ 255)) (bm : 0 ≤ m2 ∧ m2 ≤ 3) (hu : bits .or .i64 s.p.border (m2 * 8) = u) (hF1 : ∀ W g, Blk W g #[.bool s.c.iff, .bool s.c.ei, .bool s.c.halt, .bool s.m.locked, .bool (s.m.screen == 3)] → Calls Tryz.prog 37 #[.slice (some ⟨g, 0, none⟩) 5 5] W fun r w' => r = .returned (.int .i64 m1) ∧ w' = W) (hF2 : ∀ W g, Blk W g #[.bool s.p.mic, .bool s.p.beep] → Calls Tryz.prog 37 #[.slice (some ⟨g, 0, none⟩) 2 2] W fun r w' => r = .returned (.int .i64 m2) ∧ w' = W)
    (f : Nat → Bool) (e : Nat × Nat × Nat × Value) (a : Act) (w : World) (hun : f 23 = false) (hdep : ∀ d ∈ ee_o23.after, Region.binds .any d = true → f d.on = true) (hJ : ee_J w1 b d n ocap base oa L s vr vm m1 m2 u f e w) (hFr : Fr ee_O A f (fun j => ee_V b d n ocap base oa L s vr vm m1 m2 u j e) a) (hKp : Kept ee_O A f a)
    (K : Act → World → Prop) (hK : Hid (∀ v e' w', v = ee_V b d n ocap base oa L s vr vm m1 m2 u 23 e' → (∀ j, f j = true → ee_V b d n ocap base oa L s vr vm m1 m2 u j e' = ee_V b d n ocap base oa L s vr vm m1 m2 u j e) → ee_J w1 b d n ocap base oa L s vr vm m1 m2 u (fun j => j == 23 || f j) e' w' → K (a.put ee_o23.dst v) w')) :
    if Region.wanted ee_o23 (yielded ee_O a.tmps) = true then Oper.wp Tryz.prog ee_o23 a w K Q else K (a.put ee_o23.dst undef) w := by
  unfold ee_o23 at hdep hK ⊢
  obtain ⟨hg, r0, r1, j23, j39, j44, j46⟩ := hJ
  obtain ⟨⟨a1, a2⟩, ⟨a3, a4⟩, ⟨a5, a6⟩, ⟨a7, a8⟩, ⟨a9, a10⟩, a11, a12⟩ := bx
  have k11 : f 11 = true := hdep { on := 11, ground := .data } (by simp) rfl
  have v37 : a.tmps.getD 37 undef = .bool s.c.iff := hFr.new 11 37 rfl k11
  have k13 : f 13 = true := hdep { on := 13, ground := .data } (by simp) rfl
  have v39 : a.tmps.getD 39 undef = .bool s.c.ei := hFr.new 13 39 rfl k13
  have k15 : f 15 = true := hdep { on := 15, ground := .data } (by simp) rfl
  have v41 : a.tmps.getD 41 undef = .bool s.c.halt := hFr.new 15 41 rfl k15
  have k18 : f 18 = true := hdep { on := 18, ground := .data } (by simp) rfl
  have v44 : a.tmps.getD 44 undef = .bool s.m.locked := hFr.new 18 44 rfl k18
  have k22 : f 22 = true := hdep { on := 22, ground := .data } (by simp) rfl
  have v48 : a.tmps.getD 48 undef = .bool (s.m.screen == 3) := hFr.new 22 48 rfl k22
  have v37b : a.tmps[37]?.getD undef = .bool s.c.iff := by simpa using v37
  have v39b : a.tmps[39]?.getD undef = .bool s.c.ei := by simpa using v39
  have v41b : a.tmps[41]?.getD undef = .bool s.c.halt := by simpa using v41
  have v44b : a.tmps[44]?.getD undef = .bool s.m.locked := by simpa using v44
  have v48b : a.tmps[48]?.getD undef = .bool (s.m.screen == 3) := by simpa using v48
  have hal := hid ((Below.refl w.heap.size w).alloc (Nat.le_refl _) (.cells #[.bool s.c.iff, .bool s.c.ei, .bool s.c.halt, .bool s.m.locked, .bool (s.m.screen == 3)] 4))
  have hq := hid (Blk.new w #[.bool s.c.iff, .bool s.c.ei, .bool s.c.halt, .bool s.m.locked, .bool (s.m.screen == 3)] 4)
  have hsz : Hid (w1.heap.size ≤ w.heap.size) := hg.size
  replace hg := hid hg
  replace r0 := hid r0
  replace r1 := hid r1
  replace j23 := hid j23
  replace j39 := hid j39
  replace j44 := hid j44
  replace j46 := hid j46
  clear hdep hFr hKp h4 h3 h1
  go_simp
  exact hK.out _ (w.heap.size, e.2) _ rfl (ee_k23 b d n ocap base oa L s vr vm m1 m2 u e w.heap.size hun) ⟨gtr13 hg.out ⟨hal.out.os, hal.out.tape, hal.out.output, hal.out.size, fun k hk _ => hal.out.block k hk⟩, fun h => (r0.out h).alloc _, fun h => (r1.out h).alloc _, fun _ => ⟨hsz.out, hq.out⟩, fun h => ⟨(j39.out h).1, (j39.out h).2.below hal.out (j39.out h).2.lt⟩, fun h => ⟨(j44.out h).1, (j44.out h).2.below hal.out (j44.out h).2.lt⟩, j46.out⟩
set_option maxRecDepth 100000 in
set_option maxHeartbeats 2000000 in
theorem ee_s24 (A : Act) (w1 : World) (Q : Exit → Act → World → Prop) (b d n ocap base : Nat) (oa : Option Addr) (L : List Value) (s : Sn) (vr vm : Value) (m1 m2 u : Int) 
    (h4 : A.tmps.getD 4 undef = .slice oa n ocap) (h3 : A.tmps.getD 3 undef = .pointer (some ⟨d, 0, none⟩)) (h1 : A.tmps.getD 1 undef = .pointer (some ⟨b, 0, none⟩)) (qb : Blk w1 b (snA s vr vm)) (qd : Blk w1 d (cuA s.c)) (nb : some b ≠ (Value.slice oa n ocap).ownBlock) (nd : some d ≠ (Value.slice oa n ocap).ownBlock) (own : w1.ownsRow base 5 1 (Value.slice oa n ocap) n L) (hbase : base ≤ w1.heap.size) (hn : n ≤ 100) (bx : (0 ≤ s.c.f ∧ s.c.f ≤ 255) ∧ (0 ≤ s.c.sp ∧ s.c.sp ≤ 255) ∧ (0 ≤ s.c.pc ∧ s.c.pc ≤ 255) ∧ (0 ≤ m1 ∧ m1 ≤ 255) ∧ (0 ≤ s.m.page ∧ s.m.page ≤ 255) ∧ (0 ≤ u ∧ u ≤ 255)) (bm : 0 ≤ m2 ∧ m2 ≤ 3) (hu : bits .or .i64 s.p.border (m2 * 8) = u) (hF1 : ∀ W g, Blk W g #[.bool s.c.iff, .bool s.c.ei, .bool s.c.halt, .bool s.m.locked, .bool (s.m.screen == 3)] → Calls Tryz.prog 37 #[.slice (some ⟨g, 0, none⟩) 5 5] W fun r w' => r = .returned (.int .i64 m1) ∧ w' = W) (hF2 : ∀ W g, Blk W g #[.bool s.p.mic, .bool s.p.beep] → Calls Tryz.prog 37 #[.slice (some ⟨g, 0, none⟩) 2 2] W fun r w' => r = .returned (.int .i64 m2) ∧ w' = W)
    (f : Nat → Bool) (e : Nat × Nat × Nat × Value) (a : Act) (w : World) (hun : f 24 = false) (hdep : ∀ d ∈ ee_o24.after, Region.binds .any d = true → f d.on = true) (hJ : ee_J w1 b d n ocap base oa L s vr vm m1 m2 u f e w) (hFr : Fr ee_O A f (fun j => ee_V b d n ocap base oa L s vr vm m1 m2 u j e) a) (hKp : Kept ee_O A f a)
    (K : Act → World → Prop) (hK : Hid (∀ v e' w', v = ee_V b d n ocap base oa L s vr vm m1 m2 u 24 e' → (∀ j, f j = true → ee_V b d n ocap base oa L s vr vm m1 m2 u j e' = ee_V b d n ocap base oa L s vr vm m1 m2 u j e) → ee_J w1 b d n ocap base oa L s vr vm m1 m2 u (fun j => j == 24 || f j) e' w' → K (a.put ee_o24.dst v) w')) :
    if Region.wanted ee_o24 (yielded ee_O a.tmps) = true then Oper.wp Tryz.prog ee_o24 a w K Q else K (a.put ee_o24.dst undef) w := by
  unfold ee_o24 at hdep hK ⊢
  obtain ⟨hg, r0, r1, j23, j39, j44, j46⟩ := hJ
  obtain ⟨⟨a1, a2⟩, ⟨a3, a4⟩, ⟨a5, a6⟩, ⟨a7, a8⟩, ⟨a9, a10⟩, a11, a12⟩ := bx
  have k23 : f 23 = true := hdep { on := 23, ground := .data } (by simp) rfl
  have v49 : a.tmps.getD 49 undef = .slice (some ⟨e.1, 0, none⟩) 5 5 := hFr.new 23 49 rfl k23
  replace hg := hid hg
  replace r0 := hid r0
  replace r1 := hid r1
  replace j23 := hid j23
  replace j39 := hid j39
  replace j44 := hid j44
  replace j46 := hid j46
  clear hdep hFr hKp h4 h3 h1
  go_simp
  go_at_call 37
  refine (hF1 _ _ (j23.out k23).2).mono ?_
  rintro r w' ⟨rfl, hww⟩
  obtain rfl := hww.symm
  go_simp
  exact hK.out _ e _ rfl (fun _ _ => rfl) ⟨hg.out, r0.out, r1.out, j23.out, j39.out, j44.out, j46.out⟩
set_option maxRecDepth 100000 in
set_option maxHeartbeats 2000000 in
theorem ee_s25 (A : Act) (w1 : World) (Q : Exit → Act → World → Prop) (b d n ocap base : Nat) (oa : Option Addr) (L : List Value) (s : Sn) (vr vm : Value) (m1 m2 u : Int) 
    (h4 : A.tmps.getD 4 undef = .slice oa n ocap) (h3 : A.tmps.getD 3 undef = .pointer (some ⟨d, 0, none⟩)) (h1 : A.tmps.getD 1 undef = .pointer (some ⟨b, 0, none⟩)) (qb : Blk w1 b (snA s vr vm)) (qd : Blk w1 d (cuA s.c)) (nb : some b ≠ (Value.slice oa n ocap).ownBlock) (nd : some d ≠ (Value.slice oa n ocap).ownBlock) (own : w1.ownsRow base 5 1 (Value.slice oa n ocap) n L) (hbase : base ≤ w1.heap.size) (hn : n ≤ 100) (bx : (0 ≤ s.c.f ∧ s.c.f ≤ 255) ∧ (0 ≤ s.c.sp ∧ s.c.sp ≤ 255) ∧ (0 ≤ s.c.pc ∧ s.c.pc ≤ 255) ∧ (0 ≤ m1 ∧ m1 ≤ 255) ∧ (0 ≤ s.m.page ∧ s.m.page ≤ 255) ∧ (0 ≤ u ∧ u ≤ 255)) (bm : 0 ≤ m2 ∧ m2 ≤ 3) (hu : bits .or .i64 s.p.border (m2 * 8) = u) (hF1 : ∀ W g, Blk W g #[.bool s.c.iff, .bool s.c.ei, .bool s.c.halt, .bool s.m.locked, .bool (s.m.screen == 3)] → Calls Tryz.prog 37 #[.slice (some ⟨g, 0, none⟩) 5 5] W fun r w' => r = .returned (.int .i64 m1) ∧ w' = W) (hF2 : ∀ W g, Blk W g #[.bool s.p.mic, .bool s.p.beep] → Calls Tryz.prog 37 #[.slice (some ⟨g, 0, none⟩) 2 2] W fun r w' => r = .returned (.int .i64 m2) ∧ w' = W)
    (f : Nat → Bool) (e : Nat × Nat × Nat × Value) (a : Act) (w : World) (hun : f 25 = false) (hdep : ∀ d ∈ ee_o25.after, Region.binds .any d = true → f d.on = true) (hJ : ee_J w1 b d n ocap base oa L s vr vm m1 m2 u f e w) (hFr : Fr ee_O A f (fun j => ee_V b d n ocap base oa L s vr vm m1 m2 u j e) a) (hKp : Kept ee_O A f a)
    (K : Act → World → Prop) (hK : Hid (∀ v e' w', v = ee_V b d n ocap base oa L s vr vm m1 m2 u 25 e' → (∀ j, f j = true → ee_V b d n ocap base oa L s vr vm m1 m2 u j e' = ee_V b d n ocap base oa L s vr vm m1 m2 u j e) → ee_J w1 b d n ocap base oa L s vr vm m1 m2 u (fun j => j == 25 || f j) e' w' → K (a.put ee_o25.dst v) w')) :
    if Region.wanted ee_o25 (yielded ee_O a.tmps) = true then Oper.wp Tryz.prog ee_o25 a w K Q else K (a.put ee_o25.dst undef) w := by
  unfold ee_o25 at hdep hK ⊢
  obtain ⟨hg, r0, r1, j23, j39, j44, j46⟩ := hJ
  obtain ⟨⟨a1, a2⟩, ⟨a3, a4⟩, ⟨a5, a6⟩, ⟨a7, a8⟩, ⟨a9, a10⟩, a11, a12⟩ := bx
  have k24 : f 24 = true := hdep { on := 24, ground := .data } (by simp) rfl
  have v50 : a.tmps.getD 50 undef = .int .i64 m1 := hFr.new 24 50 rfl k24
  have hw : IntKind.u8.wrap m1 = m1 := by simp [IntKind.wrap, IntKind.signed, IntKind.bits]; omega
  have hw2 : m1 % 256 = m1 := by omega
  replace hg := hid hg
  replace r0 := hid r0
  replace r1 := hid r1
  replace j23 := hid j23
  replace j39 := hid j39
  replace j44 := hid j44
  replace j46 := hid j46
  clear hdep hFr hKp h4 h3 h1
  go_simp
  exact hK.out _ e _ rfl (fun _ _ => rfl) ⟨hg.out, r0.out, r1.out, j23.out, j39.out, j44.out, j46.out⟩
set_option maxRecDepth 100000 in
set_option maxHeartbeats 2000000 in
theorem ee_s26 (A : Act) (w1 : World) (Q : Exit → Act → World → Prop) (b d n ocap base : Nat) (oa : Option Addr) (L : List Value) (s : Sn) (vr vm : Value) (m1 m2 u : Int) 
    (h4 : A.tmps.getD 4 undef = .slice oa n ocap) (h3 : A.tmps.getD 3 undef = .pointer (some ⟨d, 0, none⟩)) (h1 : A.tmps.getD 1 undef = .pointer (some ⟨b, 0, none⟩)) (qb : Blk w1 b (snA s vr vm)) (qd : Blk w1 d (cuA s.c)) (nb : some b ≠ (Value.slice oa n ocap).ownBlock) (nd : some d ≠ (Value.slice oa n ocap).ownBlock) (own : w1.ownsRow base 5 1 (Value.slice oa n ocap) n L) (hbase : base ≤ w1.heap.size) (hn : n ≤ 100) (bx : (0 ≤ s.c.f ∧ s.c.f ≤ 255) ∧ (0 ≤ s.c.sp ∧ s.c.sp ≤ 255) ∧ (0 ≤ s.c.pc ∧ s.c.pc ≤ 255) ∧ (0 ≤ m1 ∧ m1 ≤ 255) ∧ (0 ≤ s.m.page ∧ s.m.page ≤ 255) ∧ (0 ≤ u ∧ u ≤ 255)) (bm : 0 ≤ m2 ∧ m2 ≤ 3) (hu : bits .or .i64 s.p.border (m2 * 8) = u) (hF1 : ∀ W g, Blk W g #[.bool s.c.iff, .bool s.c.ei, .bool s.c.halt, .bool s.m.locked, .bool (s.m.screen == 3)] → Calls Tryz.prog 37 #[.slice (some ⟨g, 0, none⟩) 5 5] W fun r w' => r = .returned (.int .i64 m1) ∧ w' = W) (hF2 : ∀ W g, Blk W g #[.bool s.p.mic, .bool s.p.beep] → Calls Tryz.prog 37 #[.slice (some ⟨g, 0, none⟩) 2 2] W fun r w' => r = .returned (.int .i64 m2) ∧ w' = W)
    (f : Nat → Bool) (e : Nat × Nat × Nat × Value) (a : Act) (w : World) (hun : f 26 = false) (hdep : ∀ d ∈ ee_o26.after, Region.binds .any d = true → f d.on = true) (hJ : ee_J w1 b d n ocap base oa L s vr vm m1 m2 u f e w) (hFr : Fr ee_O A f (fun j => ee_V b d n ocap base oa L s vr vm m1 m2 u j e) a) (hKp : Kept ee_O A f a)
    (K : Act → World → Prop) (hK : Hid (∀ v e' w', v = ee_V b d n ocap base oa L s vr vm m1 m2 u 26 e' → (∀ j, f j = true → ee_V b d n ocap base oa L s vr vm m1 m2 u j e' = ee_V b d n ocap base oa L s vr vm m1 m2 u j e) → ee_J w1 b d n ocap base oa L s vr vm m1 m2 u (fun j => j == 26 || f j) e' w' → K (a.put ee_o26.dst v) w')) :
    if Region.wanted ee_o26 (yielded ee_O a.tmps) = true then Oper.wp Tryz.prog ee_o26 a w K Q else K (a.put ee_o26.dst undef) w := by
  unfold ee_o26 at hdep hK ⊢
  obtain ⟨hg, r0, r1, j23, j39, j44, j46⟩ := hJ
  obtain ⟨⟨a1, a2⟩, ⟨a3, a4⟩, ⟨a5, a6⟩, ⟨a7, a8⟩, ⟨a9, a10⟩, a11, a12⟩ := bx
  have v1 := (hFr.old 1 (ee_no (by decide))).trans h1
  replace hg := hid hg
  replace r0 := hid r0
  replace r1 := hid r1
  replace j23 := hid j23
  replace j39 := hid j39
  replace j44 := hid j44
  replace j46 := hid j46
  clear hdep hFr hKp h4 h3 h1
  go_simp
  exact hK.out _ e _ rfl (fun _ _ => rfl) ⟨hg.out, r0.out, r1.out, j23.out, j39.out, j44.out, j46.out⟩
set_option maxRecDepth 100000 in
set_option maxHeartbeats 2000000 in
theorem ee_s27 (A : Act) (w1 : World) (Q : Exit → Act → World → Prop) (b d n ocap base : Nat) (oa : Option Addr) (L : List Value) (s : Sn) (vr vm : Value) (m1 m2 u : Int) 
    (h4 : A.tmps.getD 4 undef = .slice oa n ocap) (h3 : A.tmps.getD 3 undef = .pointer (some ⟨d, 0, none⟩)) (h1 : A.tmps.getD 1 undef = .pointer (some ⟨b, 0, none⟩)) (qb : Blk w1 b (snA s vr vm)) (qd : Blk w1 d (cuA s.c)) (nb : some b ≠ (Value.slice oa n ocap).ownBlock) (nd : some d ≠ (Value.slice oa n ocap).ownBlock) (own : w1.ownsRow base 5 1 (Value.slice oa n ocap) n L) (hbase : base ≤ w1.heap.size) (hn : n ≤ 100) (bx : (0 ≤ s.c.f ∧ s.c.f ≤ 255) ∧ (0 ≤ s.c.sp ∧ s.c.sp ≤ 255) ∧ (0 ≤ s.c.pc ∧ s.c.pc ≤ 255) ∧ (0 ≤ m1 ∧ m1 ≤ 255) ∧ (0 ≤ s.m.page ∧ s.m.page ≤ 255) ∧ (0 ≤ u ∧ u ≤ 255)) (bm : 0 ≤ m2 ∧ m2 ≤ 3) (hu : bits .or .i64 s.p.border (m2 * 8) = u) (hF1 : ∀ W g, Blk W g #[.bool s.c.iff, .bool s.c.ei, .bool s.c.halt, .bool s.m.locked, .bool (s.m.screen == 3)] → Calls Tryz.prog 37 #[.slice (some ⟨g, 0, none⟩) 5 5] W fun r w' => r = .returned (.int .i64 m1) ∧ w' = W) (hF2 : ∀ W g, Blk W g #[.bool s.p.mic, .bool s.p.beep] → Calls Tryz.prog 37 #[.slice (some ⟨g, 0, none⟩) 2 2] W fun r w' => r = .returned (.int .i64 m2) ∧ w' = W)
    (f : Nat → Bool) (e : Nat × Nat × Nat × Value) (a : Act) (w : World) (hun : f 27 = false) (hdep : ∀ d ∈ ee_o27.after, Region.binds .any d = true → f d.on = true) (hJ : ee_J w1 b d n ocap base oa L s vr vm m1 m2 u f e w) (hFr : Fr ee_O A f (fun j => ee_V b d n ocap base oa L s vr vm m1 m2 u j e) a) (hKp : Kept ee_O A f a)
    (K : Act → World → Prop) (hK : Hid (∀ v e' w', v = ee_V b d n ocap base oa L s vr vm m1 m2 u 27 e' → (∀ j, f j = true → ee_V b d n ocap base oa L s vr vm m1 m2 u j e' = ee_V b d n ocap base oa L s vr vm m1 m2 u j e) → ee_J w1 b d n ocap base oa L s vr vm m1 m2 u (fun j => j == 27 || f j) e' w' → K (a.put ee_o27.dst v) w')) :
    if Region.wanted ee_o27 (yielded ee_O a.tmps) = true then Oper.wp Tryz.prog ee_o27 a w K Q else K (a.put ee_o27.dst undef) w := by
  unfold ee_o27 at hdep hK ⊢
  obtain ⟨hg, r0, r1, j23, j39, j44, j46⟩ := hJ
  obtain ⟨⟨a1, a2⟩, ⟨a3, a4⟩, ⟨a5, a6⟩, ⟨a7, a8⟩, ⟨a9, a10⟩, a11, a12⟩ := bx
  have k26 : f 26 = true := hdep { on := 26, ground := .data } (by simp) rfl
  have v52 : a.tmps.getD 52 undef = .pointer (some ⟨b, 14, none⟩) := hFr.new 26 52 rfl k26
  replace hg := hid hg
  replace r0 := hid r0
  replace r1 := hid r1
  replace j23 := hid j23
  replace j39 := hid j39
  replace j44 := hid j44
  replace j46 := hid j46
  clear hdep hFr hKp h4 h3 h1
  go_simp
  exact hK.out _ e _ rfl (fun _ _ => rfl) ⟨hg.out, r0.out, r1.out, j23.out, j39.out, j44.out, j46.out⟩
set_option maxRecDepth 100000 in
set_option maxHeartbeats 2000000 in
theorem ee_s28 (A : Act) (w1 : World) (Q : Exit → Act → World → Prop) (b d n ocap base : Nat) (oa : Option Addr) (L : List Value) (s : Sn) (vr vm : Value) (m1 m2 u : Int) 
    (h4 : A.tmps.getD 4 undef = .slice oa n ocap) (h3 : A.tmps.getD 3 undef = .pointer (some ⟨d, 0, none⟩)) (h1 : A.tmps.getD 1 undef = .pointer (some ⟨b, 0, none⟩)) (qb : Blk w1 b (snA s vr vm)) (qd : Blk w1 d (cuA s.c)) (nb : some b ≠ (Value.slice oa n ocap).ownBlock) (nd : some d ≠ (Value.slice oa n ocap).ownBlock) (own : w1.ownsRow base 5 1 (Value.slice oa n ocap) n L) (hbase : base ≤ w1.heap.size) (hn : n ≤ 100) (bx : (0 ≤ s.c.f ∧ s.c.f ≤ 255) ∧ (0 ≤ s.c.sp ∧ s.c.sp ≤ 255) ∧ (0 ≤ s.c.pc ∧ s.c.pc ≤ 255) ∧ (0 ≤ m1 ∧ m1 ≤ 255) ∧ (0 ≤ s.m.page ∧ s.m.page ≤ 255) ∧ (0 ≤ u ∧ u ≤ 255)) (bm : 0 ≤ m2 ∧ m2 ≤ 3) (hu : bits .or .i64 s.p.border (m2 * 8) = u) (hF1 : ∀ W g, Blk W g #[.bool s.c.iff, .bool s.c.ei, .bool s.c.halt, .bool s.m.locked, .bool (s.m.screen == 3)] → Calls Tryz.prog 37 #[.slice (some ⟨g, 0, none⟩) 5 5] W fun r w' => r = .returned (.int .i64 m1) ∧ w' = W) (hF2 : ∀ W g, Blk W g #[.bool s.p.mic, .bool s.p.beep] → Calls Tryz.prog 37 #[.slice (some ⟨g, 0, none⟩) 2 2] W fun r w' => r = .returned (.int .i64 m2) ∧ w' = W)
    (f : Nat → Bool) (e : Nat × Nat × Nat × Value) (a : Act) (w : World) (hun : f 28 = false) (hdep : ∀ d ∈ ee_o28.after, Region.binds .any d = true → f d.on = true) (hJ : ee_J w1 b d n ocap base oa L s vr vm m1 m2 u f e w) (hFr : Fr ee_O A f (fun j => ee_V b d n ocap base oa L s vr vm m1 m2 u j e) a) (hKp : Kept ee_O A f a)
    (K : Act → World → Prop) (hK : Hid (∀ v e' w', v = ee_V b d n ocap base oa L s vr vm m1 m2 u 28 e' → (∀ j, f j = true → ee_V b d n ocap base oa L s vr vm m1 m2 u j e' = ee_V b d n ocap base oa L s vr vm m1 m2 u j e) → ee_J w1 b d n ocap base oa L s vr vm m1 m2 u (fun j => j == 28 || f j) e' w' → K (a.put ee_o28.dst v) w')) :
    if Region.wanted ee_o28 (yielded ee_O a.tmps) = true then Oper.wp Tryz.prog ee_o28 a w K Q else K (a.put ee_o28.dst undef) w := by
  unfold ee_o28 at hdep hK ⊢
  obtain ⟨hg, r0, r1, j23, j39, j44, j46⟩ := hJ
  obtain ⟨⟨a1, a2⟩, ⟨a3, a4⟩, ⟨a5, a6⟩, ⟨a7, a8⟩, ⟨a9, a10⟩, a11, a12⟩ := bx
  have k27 : f 27 = true := hdep { on := 27, ground := .data } (by simp) rfl
  have v53 : a.tmps.getD 53 undef = .pointer (some ⟨b, 16, none⟩) := hFr.new 27 53 rfl k27
  have y : w.cell? ⟨b, 16, none⟩ = some (.int .i64 s.m.page) := (qb.grown hg nb).cell 16
  replace hg := hid hg
  replace r0 := hid r0
  replace r1 := hid r1
  replace j23 := hid j23
  replace j39 := hid j39
  replace j44 := hid j44
  replace j46 := hid j46
  clear hdep hFr hKp h4 h3 h1
  go_simp
  exact hK.out _ e _ rfl (fun _ _ => rfl) ⟨hg.out, r0.out, r1.out, j23.out, j39.out, j44.out, j46.out⟩
set_option maxRecDepth 100000 in
set_option maxHeartbeats 2000000 in
theorem ee_s29 (A : Act) (w1 : World) (Q : Exit → Act → World → Prop) (b d n ocap base : Nat) (oa : Option Addr) (L : List Value) (s : Sn) (vr vm : Value) (m1 m2 u : Int) 
    (h4 : A.tmps.getD 4 undef = .slice oa n ocap) (h3 : A.tmps.getD 3 undef = .pointer (some ⟨d, 0, none⟩)) (h1 : A.tmps.getD 1 undef = .pointer (some ⟨b, 0, none⟩)) (qb : Blk w1 b (snA s vr vm)) (qd : Blk w1 d (cuA s.c)) (nb : some b ≠ (Value.slice oa n ocap).ownBlock) (nd : some d ≠ (Value.slice oa n ocap).ownBlock) (own : w1.ownsRow base 5 1 (Value.slice oa n ocap) n L) (hbase : base ≤ w1.heap.size) (hn : n ≤ 100) (bx : (0 ≤ s.c.f ∧ s.c.f ≤ 255) ∧ (0 ≤ s.c.sp ∧ s.c.sp ≤ 255) ∧ (0 ≤ s.c.pc ∧ s.c.pc ≤ 255) ∧ (0 ≤ m1 ∧ m1 ≤ 255) ∧ (0 ≤ s.m.page ∧ s.m.page ≤ 255) ∧ (0 ≤ u ∧ u ≤ 255)) (bm : 0 ≤ m2 ∧ m2 ≤ 3) (hu : bits .or .i64 s.p.border (m2 * 8) = u) (hF1 : ∀ W g, Blk W g #[.bool s.c.iff, .bool s.c.ei, .bool s.c.halt, .bool s.m.locked, .bool (s.m.screen == 3)] → Calls Tryz.prog 37 #[.slice (some ⟨g, 0, none⟩) 5 5] W fun r w' => r = .returned (.int .i64 m1) ∧ w' = W) (hF2 : ∀ W g, Blk W g #[.bool s.p.mic, .bool s.p.beep] → Calls Tryz.prog 37 #[.slice (some ⟨g, 0, none⟩) 2 2] W fun r w' => r = .returned (.int .i64 m2) ∧ w' = W)
    (f : Nat → Bool) (e : Nat × Nat × Nat × Value) (a : Act) (w : World) (hun : f 29 = false) (hdep : ∀ d ∈ ee_o29.after, Region.binds .any d = true → f d.on = true) (hJ : ee_J w1 b d n ocap base oa L s vr vm m1 m2 u f e w) (hFr : Fr ee_O A f (fun j => ee_V b d n ocap base oa L s vr vm m1 m2 u j e) a) (hKp : Kept ee_O A f a)
    (K : Act → World → Prop) (hK : Hid (∀ v e' w', v = ee_V b d n ocap base oa L s vr vm m1 m2 u 29 e' → (∀ j, f j = true → ee_V b d n ocap base oa L s vr vm m1 m2 u j e' = ee_V b d n ocap base oa L s vr vm m1 m2 u j e) → ee_J w1 b d n ocap base oa L s vr vm m1 m2 u (fun j => j == 29 || f j) e' w' → K (a.put ee_o29.dst v) w')) :
    if Region.wanted ee_o29 (yielded ee_O a.tmps) = true then Oper.wp Tryz.prog ee_o29 a w K Q else K (a.put ee_o29.dst undef) w := by
  unfold ee_o29 at hdep hK ⊢
  obtain ⟨hg, r0, r1, j23, j39, j44, j46⟩ := hJ
  obtain ⟨⟨a1, a2⟩, ⟨a3, a4⟩, ⟨a5, a6⟩, ⟨a7, a8⟩, ⟨a9, a10⟩, a11, a12⟩ := bx
  have k28 : f 28 = true := hdep { on := 28, ground := .data } (by simp) rfl
  have v54 : a.tmps.getD 54 undef = .int .i64 s.m.page := hFr.new 28 54 rfl k28
  have hw : IntKind.u8.wrap s.m.page = s.m.page := by simp [IntKind.wrap, IntKind.signed, IntKind.bits]; omega
  have hw2 : s.m.page % 256 = s.m.page := by omega
  replace hg := hid hg
  replace r0 := hid r0
  replace r1 := hid r1
  replace j23 := hid j23
  replace j39 := hid j39
  replace j44 := hid j44
  replace j46 := hid j46
  clear hdep hFr hKp h4 h3 h1
  go_simp
  exact hK.out _ e _ rfl (fun _ _ => rfl) ⟨hg.out, r0.out, r1.out, j23.out, j39.out, j44.out, j46.out⟩
set_option maxRecDepth 100000 in
set_option maxHeartbeats 2000000 in
theorem ee_s30 (A : Act) (w1 : World) (Q : Exit → Act → World → Prop) (b d n ocap base : Nat) (oa : Option Addr) (L : List Value) (s : Sn) (vr vm : Value) (m1 m2 u : Int) 
    (h4 : A.tmps.getD 4 undef = .slice oa n ocap) (h3 : A.tmps.getD 3 undef = .pointer (some ⟨d, 0, none⟩)) (h1 : A.tmps.getD 1 undef = .pointer (some ⟨b, 0, none⟩)) (qb : Blk w1 b (snA s vr vm)) (qd : Blk w1 d (cuA s.c)) (nb : some b ≠ (Value.slice oa n ocap).ownBlock) (nd : some d ≠ (Value.slice oa n ocap).ownBlock) (own : w1.ownsRow base 5 1 (Value.slice oa n ocap) n L) (hbase : base ≤ w1.heap.size) (hn : n ≤ 100) (bx : (0 ≤ s.c.f ∧ s.c.f ≤ 255) ∧ (0 ≤ s.c.sp ∧ s.c.sp ≤ 255) ∧ (0 ≤ s.c.pc ∧ s.c.pc ≤ 255) ∧ (0 ≤ m1 ∧ m1 ≤ 255) ∧ (0 ≤ s.m.page ∧ s.m.page ≤ 255) ∧ (0 ≤ u ∧ u ≤ 255)) (bm : 0 ≤ m2 ∧ m2 ≤ 3) (hu : bits .or .i64 s.p.border (m2 * 8) = u) (hF1 : ∀ W g, Blk W g #[.bool s.c.iff, .bool s.c.ei, .bool s.c.halt, .bool s.m.locked, .bool (s.m.screen == 3)] → Calls Tryz.prog 37 #[.slice (some ⟨g, 0, none⟩) 5 5] W fun r w' => r = .returned (.int .i64 m1) ∧ w' = W) (hF2 : ∀ W g, Blk W g #[.bool s.p.mic, .bool s.p.beep] → Calls Tryz.prog 37 #[.slice (some ⟨g, 0, none⟩) 2 2] W fun r w' => r = .returned (.int .i64 m2) ∧ w' = W)
    (f : Nat → Bool) (e : Nat × Nat × Nat × Value) (a : Act) (w : World) (hun : f 30 = false) (hdep : ∀ d ∈ ee_o30.after, Region.binds .any d = true → f d.on = true) (hJ : ee_J w1 b d n ocap base oa L s vr vm m1 m2 u f e w) (hFr : Fr ee_O A f (fun j => ee_V b d n ocap base oa L s vr vm m1 m2 u j e) a) (hKp : Kept ee_O A f a)
    (K : Act → World → Prop) (hK : Hid (∀ v e' w', v = ee_V b d n ocap base oa L s vr vm m1 m2 u 30 e' → (∀ j, f j = true → ee_V b d n ocap base oa L s vr vm m1 m2 u j e' = ee_V b d n ocap base oa L s vr vm m1 m2 u j e) → ee_J w1 b d n ocap base oa L s vr vm m1 m2 u (fun j => j == 30 || f j) e' w' → K (a.put ee_o30.dst v) w')) :
    if Region.wanted ee_o30 (yielded ee_O a.tmps) = true then Oper.wp Tryz.prog ee_o30 a w K Q else K (a.put ee_o30.dst undef) w := by
  unfold ee_o30 at hdep hK ⊢
  obtain ⟨hg, r0, r1, j23, j39, j44, j46⟩ := hJ
  obtain ⟨⟨a1, a2⟩, ⟨a3, a4⟩, ⟨a5, a6⟩, ⟨a7, a8⟩, ⟨a9, a10⟩, a11, a12⟩ := bx
  have v1 := (hFr.old 1 (ee_no (by decide))).trans h1
  replace hg := hid hg
  replace r0 := hid r0
  replace r1 := hid r1
  replace j23 := hid j23
  replace j39 := hid j39
  replace j44 := hid j44
  replace j46 := hid j46
  clear hdep hFr hKp h4 h3 h1
  go_simp
  exact hK.out _ e _ rfl (fun _ _ => rfl) ⟨hg.out, r0.out, r1.out, j23.out, j39.out, j44.out, j46.out⟩
set_option maxRecDepth 100000 in
set_option maxHeartbeats 2000000 in
theorem ee_s31 (A : Act) (w1 : World) (Q : Exit → Act → World → Prop) (b d n ocap base : Nat) (oa : Option Addr) (L : List Value) (s : Sn) (vr vm : Value) (m1 m2 u : Int) 
    (h4 : A.tmps.getD 4 undef = .slice oa n ocap) (h3 : A.tmps.getD 3 undef = .pointer (some ⟨d, 0, none⟩)) (h1 : A.tmps.getD 1 undef = .pointer (some ⟨b, 0, none⟩)) (qb : Blk w1 b (snA s vr vm)) (qd : Blk w1 d (cuA s.c)) (nb : some b ≠ (Value.slice oa n ocap).ownBlock) (nd : some d ≠ (Value.slice oa n ocap).ownBlock) (own : w1.ownsRow base 5 1 (Value.slice oa n ocap) n L) (hbase : base ≤ w1.heap.size) (hn : n ≤ 100) (bx : (0 ≤ s.c.f ∧ s.c.f ≤ 255) ∧ (0 ≤ s.c.sp ∧ s.c.sp ≤ 255) ∧ (0 ≤ s.c.pc ∧ s.c.pc ≤ 255) ∧ (0 ≤ m1 ∧ m1 ≤ 255) ∧ (0 ≤ s.m.page ∧ s.m.page ≤ 255) ∧ (0 ≤ u ∧ u ≤ 255)) (bm : 0 ≤ m2 ∧ m2 ≤ 3) (hu : bits .or .i64 s.p.border (m2 * 8) = u) (hF1 : ∀ W g, Blk W g #[.bool s.c.iff, .bool s.c.ei, .bool s.c.halt, .bool s.m.locked, .bool (s.m.screen == 3)] → Calls Tryz.prog 37 #[.slice (some ⟨g, 0, none⟩) 5 5] W fun r w' => r = .returned (.int .i64 m1) ∧ w' = W) (hF2 : ∀ W g, Blk W g #[.bool s.p.mic, .bool s.p.beep] → Calls Tryz.prog 37 #[.slice (some ⟨g, 0, none⟩) 2 2] W fun r w' => r = .returned (.int .i64 m2) ∧ w' = W)
    (f : Nat → Bool) (e : Nat × Nat × Nat × Value) (a : Act) (w : World) (hun : f 31 = false) (hdep : ∀ d ∈ ee_o31.after, Region.binds .any d = true → f d.on = true) (hJ : ee_J w1 b d n ocap base oa L s vr vm m1 m2 u f e w) (hFr : Fr ee_O A f (fun j => ee_V b d n ocap base oa L s vr vm m1 m2 u j e) a) (hKp : Kept ee_O A f a)
    (K : Act → World → Prop) (hK : Hid (∀ v e' w', v = ee_V b d n ocap base oa L s vr vm m1 m2 u 31 e' → (∀ j, f j = true → ee_V b d n ocap base oa L s vr vm m1 m2 u j e' = ee_V b d n ocap base oa L s vr vm m1 m2 u j e) → ee_J w1 b d n ocap base oa L s vr vm m1 m2 u (fun j => j == 31 || f j) e' w' → K (a.put ee_o31.dst v) w')) :
    if Region.wanted ee_o31 (yielded ee_O a.tmps) = true then Oper.wp Tryz.prog ee_o31 a w K Q else K (a.put ee_o31.dst undef) w := by
  unfold ee_o31 at hdep hK ⊢
  obtain ⟨hg, r0, r1, j23, j39, j44, j46⟩ := hJ
  obtain ⟨⟨a1, a2⟩, ⟨a3, a4⟩, ⟨a5, a6⟩, ⟨a7, a8⟩, ⟨a9, a10⟩, a11, a12⟩ := bx
  have k30 : f 30 = true := hdep { on := 30, ground := .data } (by simp) rfl
  have v56 : a.tmps.getD 56 undef = .pointer (some ⟨b, 19, none⟩) := hFr.new 30 56 rfl k30
  replace hg := hid hg
  replace r0 := hid r0
  replace r1 := hid r1
  replace j23 := hid j23
  replace j39 := hid j39
  replace j44 := hid j44
  replace j46 := hid j46
  clear hdep hFr hKp h4 h3 h1
  go_simp
  exact hK.out _ e _ rfl (fun _ _ => rfl) ⟨hg.out, r0.out, r1.out, j23.out, j39.out, j44.out, j46.out⟩
set_option maxRecDepth 100000 in
set_option maxHeartbeats 2000000 in
theorem ee_s32 (A : Act) (w1 : World) (Q : Exit → Act → World → Prop) (b d n ocap base : Nat) (oa : Option Addr) (L : List Value) (s : Sn) (vr vm : Value) (m1 m2 u : Int) 
    (h4 : A.tmps.getD 4 undef = .slice oa n ocap) (h3 : A.tmps.getD 3 undef = .pointer (some ⟨d, 0, none⟩)) (h1 : A.tmps.getD 1 undef = .pointer (some ⟨b, 0, none⟩)) (qb : Blk w1 b (snA s vr vm)) (qd : Blk w1 d (cuA s.c)) (nb : some b ≠ (Value.slice oa n ocap).ownBlock) (nd : some d ≠ (Value.slice oa n ocap).ownBlock) (own : w1.ownsRow base 5 1 (Value.slice oa n ocap) n L) (hbase : base ≤ w1.heap.size) (hn : n ≤ 100) (bx : (0 ≤ s.c.f ∧ s.c.f ≤ 255) ∧ (0 ≤ s.c.sp ∧ s.c.sp ≤ 255) ∧ (0 ≤ s.c.pc ∧ s.c.pc ≤ 255) ∧ (0 ≤ m1 ∧ m1 ≤ 255) ∧ (0 ≤ s.m.page ∧ s.m.page ≤ 255) ∧ (0 ≤ u ∧ u ≤ 255)) (bm : 0 ≤ m2 ∧ m2 ≤ 3) (hu : bits .or .i64 s.p.border (m2 * 8) = u) (hF1 : ∀ W g, Blk W g #[.bool s.c.iff, .bool s.c.ei, .bool s.c.halt, .bool s.m.locked, .bool (s.m.screen == 3)] → Calls Tryz.prog 37 #[.slice (some ⟨g, 0, none⟩) 5 5] W fun r w' => r = .returned (.int .i64 m1) ∧ w' = W) (hF2 : ∀ W g, Blk W g #[.bool s.p.mic, .bool s.p.beep] → Calls Tryz.prog 37 #[.slice (some ⟨g, 0, none⟩) 2 2] W fun r w' => r = .returned (.int .i64 m2) ∧ w' = W)
    (f : Nat → Bool) (e : Nat × Nat × Nat × Value) (a : Act) (w : World) (hun : f 32 = false) (hdep : ∀ d ∈ ee_o32.after, Region.binds .any d = true → f d.on = true) (hJ : ee_J w1 b d n ocap base oa L s vr vm m1 m2 u f e w) (hFr : Fr ee_O A f (fun j => ee_V b d n ocap base oa L s vr vm m1 m2 u j e) a) (hKp : Kept ee_O A f a)
    (K : Act → World → Prop) (hK : Hid (∀ v e' w', v = ee_V b d n ocap base oa L s vr vm m1 m2 u 32 e' → (∀ j, f j = true → ee_V b d n ocap base oa L s vr vm m1 m2 u j e' = ee_V b d n ocap base oa L s vr vm m1 m2 u j e) → ee_J w1 b d n ocap base oa L s vr vm m1 m2 u (fun j => j == 32 || f j) e' w' → K (a.put ee_o32.dst v) w')) :
    if Region.wanted ee_o32 (yielded ee_O a.tmps) = true then Oper.wp Tryz.prog ee_o32 a w K Q else K (a.put ee_o32.dst undef) w := by
  unfold ee_o32 at hdep hK ⊢
  obtain ⟨hg, r0, r1, j23, j39, j44, j46⟩ := hJ
  obtain ⟨⟨a1, a2⟩, ⟨a3, a4⟩, ⟨a5, a6⟩, ⟨a7, a8⟩, ⟨a9, a10⟩, a11, a12⟩ := bx
  have k31 : f 31 = true := hdep { on := 31, ground := .data } (by simp) rfl
  have v57 : a.tmps.getD 57 undef = .pointer (some ⟨b, 28, none⟩) := hFr.new 31 57 rfl k31
  have y : w.cell? ⟨b, 28, none⟩ = some (.int .i64 s.p.border) := (qb.grown hg nb).cell 28
  replace hg := hid hg
  replace r0 := hid r0
  replace r1 := hid r1
  replace j23 := hid j23
  replace j39 := hid j39
  replace j44 := hid j44
  replace j46 := hid j46
  clear hdep hFr hKp h4 h3 h1
  go_simp
  exact hK.out _ e _ rfl (fun _ _ => rfl) ⟨hg.out, r0.out, r1.out, j23.out, j39.out, j44.out, j46.out⟩
set_option maxRecDepth 100000 in
set_option maxHeartbeats 2000000 in
theorem ee_s33 (A : Act) (w1 : World) (Q : Exit → Act → World → Prop) (b d n ocap base : Nat) (oa : Option Addr) (L : List Value) (s : Sn) (vr vm : Value) (m1 m2 u : Int) 
    (h4 : A.tmps.getD 4 undef = .slice oa n ocap) (h3 : A.tmps.getD 3 undef = .pointer (some ⟨d, 0, none⟩)) (h1 : A.tmps.getD 1 undef = .pointer (some ⟨b, 0, none⟩)) (qb : Blk w1 b (snA s vr vm)) (qd : Blk w1 d (cuA s.c)) (nb : some b ≠ (Value.slice oa n ocap).ownBlock) (nd : some d ≠ (Value.slice oa n ocap).ownBlock) (own : w1.ownsRow base 5 1 (Value.slice oa n ocap) n L) (hbase : base ≤ w1.heap.size) (hn : n ≤ 100) (bx : (0 ≤ s.c.f ∧ s.c.f ≤ 255) ∧ (0 ≤ s.c.sp ∧ s.c.sp ≤ 255) ∧ (0 ≤ s.c.pc ∧ s.c.pc ≤ 255) ∧ (0 ≤ m1 ∧ m1 ≤ 255) ∧ (0 ≤ s.m.page ∧ s.m.page ≤ 255) ∧ (0 ≤ u ∧ u ≤ 255)) (bm : 0 ≤ m2 ∧ m2 ≤ 3) (hu : bits .or .i64 s.p.border (m2 * 8) = u) (hF1 : ∀ W g, Blk W g #[.bool s.c.iff, .bool s.c.ei, .bool s.c.halt, .bool s.m.locked, .bool (s.m.screen == 3)] → Calls Tryz.prog 37 #[.slice (some ⟨g, 0, none⟩) 5 5] W fun r w' => r = .returned (.int .i64 m1) ∧ w' = W) (hF2 : ∀ W g, Blk W g #[.bool s.p.mic, .bool s.p.beep] → Calls Tryz.prog 37 #[.slice (some ⟨g, 0, none⟩) 2 2] W fun r w' => r = .returned (.int .i64 m2) ∧ w' = W)
    (f : Nat → Bool) (e : Nat × Nat × Nat × Value) (a : Act) (w : World) (hun : f 33 = false) (hdep : ∀ d ∈ ee_o33.after, Region.binds .any d = true → f d.on = true) (hJ : ee_J w1 b d n ocap base oa L s vr vm m1 m2 u f e w) (hFr : Fr ee_O A f (fun j => ee_V b d n ocap base oa L s vr vm m1 m2 u j e) a) (hKp : Kept ee_O A f a)
    (K : Act → World → Prop) (hK : Hid (∀ v e' w', v = ee_V b d n ocap base oa L s vr vm m1 m2 u 33 e' → (∀ j, f j = true → ee_V b d n ocap base oa L s vr vm m1 m2 u j e' = ee_V b d n ocap base oa L s vr vm m1 m2 u j e) → ee_J w1 b d n ocap base oa L s vr vm m1 m2 u (fun j => j == 33 || f j) e' w' → K (a.put ee_o33.dst v) w')) :
    if Region.wanted ee_o33 (yielded ee_O a.tmps) = true then Oper.wp Tryz.prog ee_o33 a w K Q else K (a.put ee_o33.dst undef) w := by
  unfold ee_o33 at hdep hK ⊢
  obtain ⟨hg, r0, r1, j23, j39, j44, j46⟩ := hJ
  obtain ⟨⟨a1, a2⟩, ⟨a3, a4⟩, ⟨a5, a6⟩, ⟨a7, a8⟩, ⟨a9, a10⟩, a11, a12⟩ := bx
  have v1 := (hFr.old 1 (ee_no (by decide))).trans h1
  replace hg := hid hg
  replace r0 := hid r0
  replace r1 := hid r1
  replace j23 := hid j23
  replace j39 := hid j39
  replace j44 := hid j44
  replace j46 := hid j46
  clear hdep hFr hKp h4 h3 h1
  go_simp
  exact hK.out _ e _ rfl (fun _ _ => rfl) ⟨hg.out, r0.out, r1.out, j23.out, j39.out, j44.out, j46.out⟩
set_option maxRecDepth 100000 in
set_option maxHeartbeats 2000000 in
theorem ee_s34 (A : Act) (w1 : World) (Q : Exit → Act → World → Prop) (b d n ocap base : Nat) (oa : Option Addr) (L : List Value) (s : Sn) (vr vm : Value) (m1 m2 u : Int) 
    (h4 : A.tmps.getD 4 undef = .slice oa n ocap) (h3 : A.tmps.getD 3 undef = .pointer (some ⟨d, 0, none⟩)) (h1 : A.tmps.getD 1 undef = .pointer (some ⟨b, 0, none⟩)) (qb : Blk w1 b (snA s vr vm)) (qd : Blk w1 d (cuA s.c)) (nb : some b ≠ (Value.slice oa n ocap).ownBlock) (nd : some d ≠ (Value.slice oa n ocap).ownBlock) (own : w1.ownsRow base 5 1 (Value.slice oa n ocap) n L) (hbase : base ≤ w1.heap.size) (hn : n ≤ 100) (bx : (0 ≤ s.c.f ∧ s.c.f ≤ 255) ∧ (0 ≤ s.c.sp ∧ s.c.sp ≤ 255) ∧ (0 ≤ s.c.pc ∧ s.c.pc ≤ 255) ∧ (0 ≤ m1 ∧ m1 ≤ 255) ∧ (0 ≤ s.m.page ∧ s.m.page ≤ 255) ∧ (0 ≤ u ∧ u ≤ 255)) (bm : 0 ≤ m2 ∧ m2 ≤ 3) (hu : bits .or .i64 s.p.border (m2 * 8) = u) (hF1 : ∀ W g, Blk W g #[.bool s.c.iff, .bool s.c.ei, .bool s.c.halt, .bool s.m.locked, .bool (s.m.screen == 3)] → Calls Tryz.prog 37 #[.slice (some ⟨g, 0, none⟩) 5 5] W fun r w' => r = .returned (.int .i64 m1) ∧ w' = W) (hF2 : ∀ W g, Blk W g #[.bool s.p.mic, .bool s.p.beep] → Calls Tryz.prog 37 #[.slice (some ⟨g, 0, none⟩) 2 2] W fun r w' => r = .returned (.int .i64 m2) ∧ w' = W)
    (f : Nat → Bool) (e : Nat × Nat × Nat × Value) (a : Act) (w : World) (hun : f 34 = false) (hdep : ∀ d ∈ ee_o34.after, Region.binds .any d = true → f d.on = true) (hJ : ee_J w1 b d n ocap base oa L s vr vm m1 m2 u f e w) (hFr : Fr ee_O A f (fun j => ee_V b d n ocap base oa L s vr vm m1 m2 u j e) a) (hKp : Kept ee_O A f a)
    (K : Act → World → Prop) (hK : Hid (∀ v e' w', v = ee_V b d n ocap base oa L s vr vm m1 m2 u 34 e' → (∀ j, f j = true → ee_V b d n ocap base oa L s vr vm m1 m2 u j e' = ee_V b d n ocap base oa L s vr vm m1 m2 u j e) → ee_J w1 b d n ocap base oa L s vr vm m1 m2 u (fun j => j == 34 || f j) e' w' → K (a.put ee_o34.dst v) w')) :
    if Region.wanted ee_o34 (yielded ee_O a.tmps) = true then Oper.wp Tryz.prog ee_o34 a w K Q else K (a.put ee_o34.dst undef) w := by
  unfold ee_o34 at hdep hK ⊢
  obtain ⟨hg, r0, r1, j23, j39, j44, j46⟩ := hJ
  obtain ⟨⟨a1, a2⟩, ⟨a3, a4⟩, ⟨a5, a6⟩, ⟨a7, a8⟩, ⟨a9, a10⟩, a11, a12⟩ := bx
  have k33 : f 33 = true := hdep { on := 33, ground := .data } (by simp) rfl
  have v59 : a.tmps.getD 59 undef = .pointer (some ⟨b, 19, none⟩) := hFr.new 33 59 rfl k33
  replace hg := hid hg
  replace r0 := hid r0
  replace r1 := hid r1
  replace j23 := hid j23
  replace j39 := hid j39
  replace j44 := hid j44
  replace j46 := hid j46
  clear hdep hFr hKp h4 h3 h1
  go_simp
  exact hK.out _ e _ rfl (fun _ _ => rfl) ⟨hg.out, r0.out, r1.out, j23.out, j39.out, j44.out, j46.out⟩
set_option maxRecDepth 100000 in
set_option maxHeartbeats 2000000 in
theorem ee_s35 (A : Act) (w1 : World) (Q : Exit → Act → World → Prop) (b d n ocap base : Nat) (oa : Option Addr) (L : List Value) (s : Sn) (vr vm : Value) (m1 m2 u : Int) 
    (h4 : A.tmps.getD 4 undef = .slice oa n ocap) (h3 : A.tmps.getD 3 undef = .pointer (some ⟨d, 0, none⟩)) (h1 : A.tmps.getD 1 undef = .pointer (some ⟨b, 0, none⟩)) (qb : Blk w1 b (snA s vr vm)) (qd : Blk w1 d (cuA s.c)) (nb : some b ≠ (Value.slice oa n ocap).ownBlock) (nd : some d ≠ (Value.slice oa n ocap).ownBlock) (own : w1.ownsRow base 5 1 (Value.slice oa n ocap) n L) (hbase : base ≤ w1.heap.size) (hn : n ≤ 100) (bx : (0 ≤ s.c.f ∧ s.c.f ≤ 255) ∧ (0 ≤ s.c.sp ∧ s.c.sp ≤ 255) ∧ (0 ≤ s.c.pc ∧ s.c.pc ≤ 255) ∧ (0 ≤ m1 ∧ m1 ≤ 255) ∧ (0 ≤ s.m.page ∧ s.m.page ≤ 255) ∧ (0 ≤ u ∧ u ≤ 255)) (bm : 0 ≤ m2 ∧ m2 ≤ 3) (hu : bits .or .i64 s.p.border (m2 * 8) = u) (hF1 : ∀ W g, Blk W g #[.bool s.c.iff, .bool s.c.ei, .bool s.c.halt, .bool s.m.locked, .bool (s.m.screen == 3)] → Calls Tryz.prog 37 #[.slice (some ⟨g, 0, none⟩) 5 5] W fun r w' => r = .returned (.int .i64 m1) ∧ w' = W) (hF2 : ∀ W g, Blk W g #[.bool s.p.mic, .bool s.p.beep] → Calls Tryz.prog 37 #[.slice (some ⟨g, 0, none⟩) 2 2] W fun r w' => r = .returned (.int .i64 m2) ∧ w' = W)
    (f : Nat → Bool) (e : Nat × Nat × Nat × Value) (a : Act) (w : World) (hun : f 35 = false) (hdep : ∀ d ∈ ee_o35.after, Region.binds .any d = true → f d.on = true) (hJ : ee_J w1 b d n ocap base oa L s vr vm m1 m2 u f e w) (hFr : Fr ee_O A f (fun j => ee_V b d n ocap base oa L s vr vm m1 m2 u j e) a) (hKp : Kept ee_O A f a)
    (K : Act → World → Prop) (hK : Hid (∀ v e' w', v = ee_V b d n ocap base oa L s vr vm m1 m2 u 35 e' → (∀ j, f j = true → ee_V b d n ocap base oa L s vr vm m1 m2 u j e' = ee_V b d n ocap base oa L s vr vm m1 m2 u j e) → ee_J w1 b d n ocap base oa L s vr vm m1 m2 u (fun j => j == 35 || f j) e' w' → K (a.put ee_o35.dst v) w')) :
    if Region.wanted ee_o35 (yielded ee_O a.tmps) = true then Oper.wp Tryz.prog ee_o35 a w K Q else K (a.put ee_o35.dst undef) w := by
  unfold ee_o35 at hdep hK ⊢
  obtain ⟨hg, r0, r1, j23, j39, j44, j46⟩ := hJ
  obtain ⟨⟨a1, a2⟩, ⟨a3, a4⟩, ⟨a5, a6⟩, ⟨a7, a8⟩, ⟨a9, a10⟩, a11, a12⟩ := bx
  have k34 : f 34 = true := hdep { on := 34, ground := .data } (by simp) rfl
  have v60 : a.tmps.getD 60 undef = .pointer (some ⟨b, 29, none⟩) := hFr.new 34 60 rfl k34
  have y : w.cell? ⟨b, 29, none⟩ = some (.bool s.p.mic) := (qb.grown hg nb).cell 29
  replace hg := hid hg
  replace r0 := hid r0
  replace r1 := hid r1
  replace j23 := hid j23
  replace j39 := hid j39
  replace j44 := hid j44
  replace j46 := hid j46
  clear hdep hFr hKp h4 h3 h1
  go_simp
  exact hK.out _ e _ rfl (fun _ _ => rfl) ⟨hg.out, r0.out, r1.out, j23.out, j39.out, j44.out, j46.out⟩
set_option maxRecDepth 100000 in
set_option maxHeartbeats 2000000 in
theorem ee_s36 (A : Act) (w1 : World) (Q : Exit → Act → World → Prop) (b d n ocap base : Nat) (oa : Option Addr) (L : List Value) (s : Sn) (vr vm : Value) (m1 m2 u : Int) 
    (h4 : A.tmps.getD 4 undef = .slice oa n ocap) (h3 : A.tmps.getD 3 undef = .pointer (some ⟨d, 0, none⟩)) (h1 : A.tmps.getD 1 undef = .pointer (some ⟨b, 0, none⟩)) (qb : Blk w1 b (snA s vr vm)) (qd : Blk w1 d (cuA s.c)) (nb : some b ≠ (Value.slice oa n ocap).ownBlock) (nd : some d ≠ (Value.slice oa n ocap).ownBlock) (own : w1.ownsRow base 5 1 (Value.slice oa n ocap) n L) (hbase : base ≤ w1.heap.size) (hn : n ≤ 100) (bx : (0 ≤ s.c.f ∧ s.c.f ≤ 255) ∧ (0 ≤ s.c.sp ∧ s.c.sp ≤ 255) ∧ (0 ≤ s.c.pc ∧ s.c.pc ≤ 255) ∧ (0 ≤ m1 ∧ m1 ≤ 255) ∧ (0 ≤ s.m.page ∧ s.m.page ≤ 255) ∧ (0 ≤ u ∧ u ≤ 255)) (bm : 0 ≤ m2 ∧ m2 ≤ 3) (hu : bits .or .i64 s.p.border (m2 * 8) = u) (hF1 : ∀ W g, Blk W g #[.bool s.c.iff, .bool s.c.ei, .bool s.c.halt, .bool s.m.locked, .bool (s.m.screen == 3)] → Calls Tryz.prog 37 #[.slice (some ⟨g, 0, none⟩) 5 5] W fun r w' => r = .returned (.int .i64 m1) ∧ w' = W) (hF2 : ∀ W g, Blk W g #[.bool s.p.mic, .bool s.p.beep] → Calls Tryz.prog 37 #[.slice (some ⟨g, 0, none⟩) 2 2] W fun r w' => r = .returned (.int .i64 m2) ∧ w' = W)
    (f : Nat → Bool) (e : Nat × Nat × Nat × Value) (a : Act) (w : World) (hun : f 36 = false) (hdep : ∀ d ∈ ee_o36.after, Region.binds .any d = true → f d.on = true) (hJ : ee_J w1 b d n ocap base oa L s vr vm m1 m2 u f e w) (hFr : Fr ee_O A f (fun j => ee_V b d n ocap base oa L s vr vm m1 m2 u j e) a) (hKp : Kept ee_O A f a)
    (K : Act → World → Prop) (hK : Hid (∀ v e' w', v = ee_V b d n ocap base oa L s vr vm m1 m2 u 36 e' → (∀ j, f j = true → ee_V b d n ocap base oa L s vr vm m1 m2 u j e' = ee_V b d n ocap base oa L s vr vm m1 m2 u j e) → ee_J w1 b d n ocap base oa L s vr vm m1 m2 u (fun j => j == 36 || f j) e' w' → K (a.put ee_o36.dst v) w')) :
    if Region.wanted ee_o36 (yielded ee_O a.tmps) = true then Oper.wp Tryz.prog ee_o36 a w K Q else K (a.put ee_o36.dst undef) w := by
  unfold ee_o36 at hdep hK ⊢
  obtain ⟨hg, r0, r1, j23, j39, j44, j46⟩ := hJ
  obtain ⟨⟨a1, a2⟩, ⟨a3, a4⟩, ⟨a5, a6⟩, ⟨a7, a8⟩, ⟨a9, a10⟩, a11, a12⟩ := bx
  have v1 := (hFr.old 1 (ee_no (by decide))).trans h1
  replace hg := hid hg
  replace r0 := hid r0
  replace r1 := hid r1
  replace j23 := hid j23
  replace j39 := hid j39
  replace j44 := hid j44
  replace j46 := hid j46
  clear hdep hFr hKp h4 h3 h1
  go_simp
  exact hK.out _ e _ rfl (fun _ _ => rfl) ⟨hg.out, r0.out, r1.out, j23.out, j39.out, j44.out, j46.out⟩
set_option maxRecDepth 100000 in
set_option maxHeartbeats 2000000 in
theorem ee_s37 (A : Act) (w1 : World) (Q : Exit → Act → World → Prop) (b d n ocap base : Nat) (oa : Option Addr) (L : List Value) (s : Sn) (vr vm : Value) (m1 m2 u : Int) 
    (h4 : A.tmps.getD 4 undef = .slice oa n ocap) (h3 : A.tmps.getD 3 undef = .pointer (some ⟨d, 0, none⟩)) (h1 : A.tmps.getD 1 undef = .pointer (some ⟨b, 0, none⟩)) (qb : Blk w1 b (snA s vr vm)) (qd : Blk w1 d (cuA s.c)) (nb : some b ≠ (Value.slice oa n ocap).ownBlock) (nd : some d ≠ (Value.slice oa n ocap).ownBlock) (own : w1.ownsRow base 5 1 (Value.slice oa n ocap) n L) (hbase : base ≤ w1.heap.size) (hn : n ≤ 100) (bx : (0 ≤ s.c.f ∧ s.c.f ≤ 255) ∧ (0 ≤ s.c.sp ∧ s.c.sp ≤ 255) ∧ (0 ≤ s.c.pc ∧ s.c.pc ≤ 255) ∧ (0 ≤ m1 ∧ m1 ≤ 255) ∧ (0 ≤ s.m.page ∧ s.m.page ≤ 255) ∧ (0 ≤ u ∧ u ≤ 255)) (bm : 0 ≤ m2 ∧ m2 ≤ 3) (hu : bits .or .i64 s.p.border (m2 * 8) = u) (hF1 : ∀ W g, Blk W g #[.bool s.c.iff, .bool s.c.ei, .bool s.c.halt, .bool s.m.locked, .bool (s.m.screen == 3)] → Calls Tryz.prog 37 #[.slice (some ⟨g, 0, none⟩) 5 5] W fun r w' => r = .returned (.int .i64 m1) ∧ w' = W) (hF2 : ∀ W g, Blk W g #[.bool s.p.mic, .bool s.p.beep] → Calls Tryz.prog 37 #[.slice (some ⟨g, 0, none⟩) 2 2] W fun r w' => r = .returned (.int .i64 m2) ∧ w' = W)
    (f : Nat → Bool) (e : Nat × Nat × Nat × Value) (a : Act) (w : World) (hun : f 37 = false) (hdep : ∀ d ∈ ee_o37.after, Region.binds .any d = true → f d.on = true) (hJ : ee_J w1 b d n ocap base oa L s vr vm m1 m2 u f e w) (hFr : Fr ee_O A f (fun j => ee_V b d n ocap base oa L s vr vm m1 m2 u j e) a) (hKp : Kept ee_O A f a)
    (K : Act → World → Prop) (hK : Hid (∀ v e' w', v = ee_V b d n ocap base oa L s vr vm m1 m2 u 37 e' → (∀ j, f j = true → ee_V b d n ocap base oa L s vr vm m1 m2 u j e' = ee_V b d n ocap base oa L s vr vm m1 m2 u j e) → ee_J w1 b d n ocap base oa L s vr vm m1 m2 u (fun j => j == 37 || f j) e' w' → K (a.put ee_o37.dst v) w')) :
    if Region.wanted ee_o37 (yielded ee_O a.tmps) = true then Oper.wp Tryz.prog ee_o37 a w K Q else K (a.put ee_o37.dst undef) w := by
  unfold ee_o37 at hdep hK ⊢
  obtain ⟨hg, r0, r1, j23, j39, j44, j46⟩ := hJ
  obtain ⟨⟨a1, a2⟩, ⟨a3, a4⟩, ⟨a5, a6⟩, ⟨a7, a8⟩, ⟨a9, a10⟩, a11, a12⟩ := bx
  have k36 : f 36 = true := hdep { on := 36, ground := .data } (by simp) rfl
  have v62 : a.tmps.getD 62 undef = .pointer (some ⟨b, 19, none⟩) := hFr.new 36 62 rfl k36
  replace hg := hid hg
  replace r0 := hid r0
  replace r1 := hid r1
  replace j23 := hid j23
  replace j39 := hid j39
  replace j44 := hid j44
  replace j46 := hid j46
  clear hdep hFr hKp h4 h3 h1
  go_simp
  exact hK.out _ e _ rfl (fun _ _ => rfl) ⟨hg.out, r0.out, r1.out, j23.out, j39.out, j44.out, j46.out⟩
set_option maxRecDepth 100000 in
set_option maxHeartbeats 2000000 in
theorem ee_s38 (A : Act) (w1 : World) (Q : Exit → Act → World → Prop) (b d n ocap base : Nat) (oa : Option Addr) (L : List Value) (s : Sn) (vr vm : Value) (m1 m2 u : Int) 
    (h4 : A.tmps.getD 4 undef = .slice oa n ocap) (h3 : A.tmps.getD 3 undef = .pointer (some ⟨d, 0, none⟩)) (h1 : A.tmps.getD 1 undef = .pointer (some ⟨b, 0, none⟩)) (qb : Blk w1 b (snA s vr vm)) (qd : Blk w1 d (cuA s.c)) (nb : some b ≠ (Value.slice oa n ocap).ownBlock) (nd : some d ≠ (Value.slice oa n ocap).ownBlock) (own : w1.ownsRow base 5 1 (Value.slice oa n ocap) n L) (hbase : base ≤ w1.heap.size) (hn : n ≤ 100) (bx : (0 ≤ s.c.f ∧ s.c.f ≤ 255) ∧ (0 ≤ s.c.sp ∧ s.c.sp ≤ 255) ∧ (0 ≤ s.c.pc ∧ s.c.pc ≤ 255) ∧ (0 ≤ m1 ∧ m1 ≤ 255) ∧ (0 ≤ s.m.page ∧ s.m.page ≤ 255) ∧ (0 ≤ u ∧ u ≤ 255)) (bm : 0 ≤ m2 ∧ m2 ≤ 3) (hu : bits .or .i64 s.p.border (m2 * 8) = u) (hF1 : ∀ W g, Blk W g #[.bool s.c.iff, .bool s.c.ei, .bool s.c.halt, .bool s.m.locked, .bool (s.m.screen == 3)] → Calls Tryz.prog 37 #[.slice (some ⟨g, 0, none⟩) 5 5] W fun r w' => r = .returned (.int .i64 m1) ∧ w' = W) (hF2 : ∀ W g, Blk W g #[.bool s.p.mic, .bool s.p.beep] → Calls Tryz.prog 37 #[.slice (some ⟨g, 0, none⟩) 2 2] W fun r w' => r = .returned (.int .i64 m2) ∧ w' = W)
    (f : Nat → Bool) (e : Nat × Nat × Nat × Value) (a : Act) (w : World) (hun : f 38 = false) (hdep : ∀ d ∈ ee_o38.after, Region.binds .any d = true → f d.on = true) (hJ : ee_J w1 b d n ocap base oa L s vr vm m1 m2 u f e w) (hFr : Fr ee_O A f (fun j => ee_V b d n ocap base oa L s vr vm m1 m2 u j e) a) (hKp : Kept ee_O A f a)
    (K : Act → World → Prop) (hK : Hid (∀ v e' w', v = ee_V b d n ocap base oa L s vr vm m1 m2 u 38 e' → (∀ j, f j = true → ee_V b d n ocap base oa L s vr vm m1 m2 u j e' = ee_V b d n ocap base oa L s vr vm m1 m2 u j e) → ee_J w1 b d n ocap base oa L s vr vm m1 m2 u (fun j => j == 38 || f j) e' w' → K (a.put ee_o38.dst v) w')) :
    if Region.wanted ee_o38 (yielded ee_O a.tmps) = true then Oper.wp Tryz.prog ee_o38 a w K Q else K (a.put ee_o38.dst undef) w := by
  unfold ee_o38 at hdep hK ⊢
  obtain ⟨hg, r0, r1, j23, j39, j44, j46⟩ := hJ
  obtain ⟨⟨a1, a2⟩, ⟨a3, a4⟩, ⟨a5, a6⟩, ⟨a7, a8⟩, ⟨a9, a10⟩, a11, a12⟩ := bx
  have k37 : f 37 = true := hdep { on := 37, ground := .data } (by simp) rfl
  have v63 : a.tmps.getD 63 undef = .pointer (some ⟨b, 30, none⟩) := hFr.new 37 63 rfl k37
  have y : w.cell? ⟨b, 30, none⟩ = some (.bool s.p.beep) := (qb.grown hg nb).cell 30
  replace hg := hid hg
  replace r0 := hid r0
  replace r1 := hid r1
  replace j23 := hid j23
  replace j39 := hid j39
  replace j44 := hid j44
  replace j46 := hid j46
  clear hdep hFr hKp h4 h3 h1
  go_simp
  exact hK.out _ e _ rfl (fun _ _ => rfl) ⟨hg.out, r0.out, r1.out, j23.out, j39.out, j44.out, j46.out⟩
set_option maxRecDepth 100000 in
set_option maxHeartbeats 2000000 in
theorem ee_s39 (A : Act) (w1 : World) (Q : Exit → Act → World → Prop) (b d n ocap base : Nat) (oa : Option Addr) (L : List Value) (s : Sn) (vr vm : Value) (m1 m2 u : Int) 
    (h4 : A.tmps.getD 4 undef = .slice oa n ocap) (h3 : A.tmps.getD 3 undef = .pointer (some ⟨d, 0, none⟩)) (h1 : A.tmps.getD 1 undef = .pointer (some ⟨b, 0, none⟩)) (qb : Blk w1 b (snA s vr vm)) (qd : Blk w1 d (cuA s.c)) (nb : some b ≠ (Value.slice oa n ocap).ownBlock) (nd : some d ≠ (Value.slice oa n ocap).ownBlock) (own : w1.ownsRow base 5 1 (Value.slice oa n ocap) n L) (hbase : base ≤ w1.heap.size) (hn : n ≤ 100) (bx : (0 ≤ s.c.f ∧ s.c.f ≤ 255) ∧ (0 ≤ s.c.sp ∧ s.c.sp ≤ 255) ∧ (0 ≤ s.c.pc ∧ s.c.pc ≤ 255) ∧ (0 ≤ m1 ∧ m1 ≤ 255) ∧ (0 ≤ s.m.page ∧ s.m.page ≤ 255) ∧ (0 ≤ u ∧ u ≤ 255)) (bm : 0 ≤ m2 ∧ m2 ≤ 3) (hu : bits .or .i64 s.p.border (m2 * 8) = u) (hF1 : ∀ W g, Blk W g #[.bool s.c.iff, .bool s.c.ei, .bool s.c.halt, .bool s.m.locked, .bool (s.m.screen == 3)] → Calls Tryz.prog 37 #[.slice (some ⟨g, 0, none⟩) 5 5] W fun r w' => r = .returned (.int .i64 m1) ∧ w' = W) (hF2 : ∀ W g, Blk W g #[.bool s.p.mic, .bool s.p.beep] → Calls Tryz.prog 37 #[.slice (some ⟨g, 0, none⟩) 2 2] W fun r w' => r = .returned (.int .i64 m2) ∧ w' = W)
    (f : Nat → Bool) (e : Nat × Nat × Nat × Value) (a : Act) (w : World) (hun : f 39 = false) (hdep : ∀ d ∈ ee_o39.after, Region.binds .any d = true → f d.on = true) (hJ : ee_J w1 b d n ocap base oa L s vr vm m1 m2 u f e w) (hFr : Fr ee_O A f (fun j => ee_V b d n ocap base oa L s vr vm m1 m2 u j e) a) (hKp : Kept ee_O A f a)
    (K : Act → World → Prop) (hK : Hid (∀ v e' w', v = ee_V b d n ocap base oa L s vr vm m1 m2 u 39 e' → (∀ j, f j = true → ee_V b d n ocap base oa L s vr vm m1 m2 u j e' = ee_V b d n ocap base oa L s vr vm m1 m2 u j e) → ee_J w1 b d n ocap base oa L s vr vm m1 m2 u (fun j => j == 39 || f j) e' w' → K (a.put ee_o39.dst v) w')) :
    if Region.wanted ee_o39 (yielded ee_O a.tmps) = true then Oper.wp Tryz.prog ee_o39 a w K Q else K (a.put ee_o39.dst undef) w := by
  unfold ee_o39 at hdep hK ⊢
  obtain ⟨hg, r0, r1, j23, j39, j44, j46⟩ := hJ
  obtain ⟨⟨a1, a2⟩, ⟨a3, a4⟩, ⟨a5, a6⟩, ⟨a7, a8⟩, ⟨a9, a10⟩, a11, a12⟩ := bx
  have k35 : f 35 = true := hdep { on := 35, ground := .data } (by simp) rfl
  have v61 : a.tmps.getD 61 undef = .bool s.p.mic := hFr.new 35 61 rfl k35
  have k38 : f 38 = true := hdep { on := 38, ground := .data } (by simp) rfl
  have v64 : a.tmps.getD 64 undef = .bool s.p.beep := hFr.new 38 64 rfl k38
  have v61b : a.tmps[61]?.getD undef = .bool s.p.mic := by simpa using v61
  have v64b : a.tmps[64]?.getD undef = .bool s.p.beep := by simpa using v64
  have hal := hid ((Below.refl w.heap.size w).alloc (Nat.le_refl _) (.cells #[.bool s.p.mic, .bool s.p.beep] 4))
  have hq := hid (Blk.new w #[.bool s.p.mic, .bool s.p.beep] 4)
  have hsz : Hid (w1.heap.size ≤ w.heap.size) := hg.size
  replace hg := hid hg
  replace r0 := hid r0
  replace r1 := hid r1
  replace j23 := hid j23
  replace j39 := hid j39
  replace j44 := hid j44
  replace j46 := hid j46
  clear hdep hFr hKp h4 h3 h1
  go_simp
  exact hK.out _ (e.1, w.heap.size, e.2.2) _ rfl (ee_k39 b d n ocap base oa L s vr vm m1 m2 u e w.heap.size hun) ⟨gtr13 hg.out ⟨hal.out.os, hal.out.tape, hal.out.output, hal.out.size, fun k hk _ => hal.out.block k hk⟩, fun h => (r0.out h).alloc _, fun h => (r1.out h).alloc _, fun h => ⟨(j23.out h).1, (j23.out h).2.below hal.out (j23.out h).2.lt⟩, fun _ => ⟨hsz.out, hq.out⟩, fun h => ⟨(j44.out h).1, (j44.out h).2.below hal.out (j44.out h).2.lt⟩, j46.out⟩
set_option maxRecDepth 100000 in
set_option maxHeartbeats 2000000 in
theorem ee_s40 (A : Act) (w1 : World) (Q : Exit → Act → World → Prop) (b d n ocap base : Nat) (oa : Option Addr) (L : List Value) (s : Sn) (vr vm : Value) (m1 m2 u : Int) 
    (h4 : A.tmps.getD 4 undef = .slice oa n ocap) (h3 : A.tmps.getD 3 undef = .pointer (some ⟨d, 0, none⟩)) (h1 : A.tmps.getD 1 undef = .pointer (some ⟨b, 0, none⟩)) (qb : Blk w1 b (snA s vr vm)) (qd : Blk w1 d (cuA s.c)) (nb : some b ≠ (Value.slice oa n ocap).ownBlock) (nd : some d ≠ (Value.slice oa n ocap).ownBlock) (own : w1.ownsRow base 5 1 (Value.slice oa n ocap) n L) (hbase : base ≤ w1.heap.size) (hn : n ≤ 100) (bx : (0 ≤ s.c.f ∧ s.c.f ≤ 255) ∧ (0 ≤ s.c.sp ∧ s.c.sp ≤ 255) ∧ (0 ≤ s.c.pc ∧ s.c.pc ≤ 255) ∧ (0 ≤ m1 ∧ m1 ≤ 255) ∧ (0 ≤ s.m.page ∧ s.m.page ≤ 255) ∧ (0 ≤ u ∧ u ≤ 255)) (bm : 0 ≤ m2 ∧ m2 ≤ 3) (hu : bits .or .i64 s.p.border (m2 * 8) = u) (hF1 : ∀ W g, Blk W g #[.bool s.c.iff, .bool s.c.ei, .bool s.c.halt, .bool s.m.locked, .bool (s.m.screen == 3)] → Calls Tryz.prog 37 #[.slice (some ⟨g, 0, none⟩) 5 5] W fun r w' => r = .returned (.int .i64 m1) ∧ w' = W) (hF2 : ∀ W g, Blk W g #[.bool s.p.mic, .bool s.p.beep] → Calls Tryz.prog 37 #[.slice (some ⟨g, 0, none⟩) 2 2] W fun r w' => r = .returned (.int .i64 m2) ∧ w' = W)
    (f : Nat → Bool) (e : Nat × Nat × Nat × Value) (a : Act) (w : World) (hun : f 40 = false) (hdep : ∀ d ∈ ee_o40.after, Region.binds .any d = true → f d.on = true) (hJ : ee_J w1 b d n ocap base oa L s vr vm m1 m2 u f e w) (hFr : Fr ee_O A f (fun j => ee_V b d n ocap base oa L s vr vm m1 m2 u j e) a) (hKp : Kept ee_O A f a)
    (K : Act → World → Prop) (hK : Hid (∀ v e' w', v = ee_V b d n ocap base oa L s vr vm m1 m2 u 40 e' → (∀ j, f j = true → ee_V b d n ocap base oa L s vr vm m1 m2 u j e' = ee_V b d n ocap base oa L s vr vm m1 m2 u j e) → ee_J w1 b d n ocap base oa L s vr vm m1 m2 u (fun j => j == 40 || f j) e' w' → K (a.put ee_o40.dst v) w')) :
    if Region.wanted ee_o40 (yielded ee_O a.tmps) = true then Oper.wp Tryz.prog ee_o40 a w K Q else K (a.put ee_o40.dst undef) w := by
  unfold ee_o40 at hdep hK ⊢
  obtain ⟨hg, r0, r1, j23, j39, j44, j46⟩ := hJ
  obtain ⟨⟨a1, a2⟩, ⟨a3, a4⟩, ⟨a5, a6⟩, ⟨a7, a8⟩, ⟨a9, a10⟩, a11, a12⟩ := bx
  have k39 : f 39 = true := hdep { on := 39, ground := .data } (by simp) rfl
  have v65 : a.tmps.getD 65 undef = .slice (some ⟨e.2.1, 0, none⟩) 2 2 := hFr.new 39 65 rfl k39
  replace hg := hid hg
  replace r0 := hid r0
  replace r1 := hid r1
  replace j23 := hid j23
  replace j39 := hid j39
  replace j44 := hid j44
  replace j46 := hid j46
  clear hdep hFr hKp h4 h3 h1
  go_simp
  go_at_call 37
  refine (hF2 _ _ (j39.out k39).2).mono ?_
  rintro r w' ⟨rfl, hww⟩
  obtain rfl := hww.symm
  go_simp
  exact hK.out _ e _ rfl (fun _ _ => rfl) ⟨hg.out, r0.out, r1.out, j23.out, j39.out, j44.out, j46.out⟩
set_option maxRecDepth 100000 in
set_option maxHeartbeats 2000000 in
theorem ee_s41 (A : Act) (w1 : World) (Q : Exit → Act → World → Prop) (b d n ocap base : Nat) (oa : Option Addr) (L : List Value) (s : Sn) (vr vm : Value) (m1 m2 u : Int) 
    (h4 : A.tmps.getD 4 undef = .slice oa n ocap) (h3 : A.tmps.getD 3 undef = .pointer (some ⟨d, 0, none⟩)) (h1 : A.tmps.getD 1 undef = .pointer (some ⟨b, 0, none⟩)) (qb : Blk w1 b (snA s vr vm)) (qd : Blk w1 d (cuA s.c)) (nb : some b ≠ (Value.slice oa n ocap).ownBlock) (nd : some d ≠ (Value.slice oa n ocap).ownBlock) (own : w1.ownsRow base 5 1 (Value.slice oa n ocap) n L) (hbase : base ≤ w1.heap.size) (hn : n ≤ 100) (bx : (0 ≤ s.c.f ∧ s.c.f ≤ 255) ∧ (0 ≤ s.c.sp ∧ s.c.sp ≤ 255) ∧ (0 ≤ s.c.pc ∧ s.c.pc ≤ 255) ∧ (0 ≤ m1 ∧ m1 ≤ 255) ∧ (0 ≤ s.m.page ∧ s.m.page ≤ 255) ∧ (0 ≤ u ∧ u ≤ 255)) (bm : 0 ≤ m2 ∧ m2 ≤ 3) (hu : bits .or .i64 s.p.border (m2 * 8) = u) (hF1 : ∀ W g, Blk W g #[.bool s.c.iff, .bool s.c.ei, .bool s.c.halt, .bool s.m.locked, .bool (s.m.screen == 3)] → Calls Tryz.prog 37 #[.slice (some ⟨g, 0, none⟩) 5 5] W fun r w' => r = .returned (.int .i64 m1) ∧ w' = W) (hF2 : ∀ W g, Blk W g #[.bool s.p.mic, .bool s.p.beep] → Calls Tryz.prog 37 #[.slice (some ⟨g, 0, none⟩) 2 2] W fun r w' => r = .returned (.int .i64 m2) ∧ w' = W)
    (f : Nat → Bool) (e : Nat × Nat × Nat × Value) (a : Act) (w : World) (hun : f 41 = false) (hdep : ∀ d ∈ ee_o41.after, Region.binds .any d = true → f d.on = true) (hJ : ee_J w1 b d n ocap base oa L s vr vm m1 m2 u f e w) (hFr : Fr ee_O A f (fun j => ee_V b d n ocap base oa L s vr vm m1 m2 u j e) a) (hKp : Kept ee_O A f a)
    (K : Act → World → Prop) (hK : Hid (∀ v e' w', v = ee_V b d n ocap base oa L s vr vm m1 m2 u 41 e' → (∀ j, f j = true → ee_V b d n ocap base oa L s vr vm m1 m2 u j e' = ee_V b d n ocap base oa L s vr vm m1 m2 u j e) → ee_J w1 b d n ocap base oa L s vr vm m1 m2 u (fun j => j == 41 || f j) e' w' → K (a.put ee_o41.dst v) w')) :
    if Region.wanted ee_o41 (yielded ee_O a.tmps) = true then Oper.wp Tryz.prog ee_o41 a w K Q else K (a.put ee_o41.dst undef) w := by
  unfold ee_o41 at hdep hK ⊢
  obtain ⟨hg, r0, r1, j23, j39, j44, j46⟩ := hJ
  obtain ⟨⟨a1, a2⟩, ⟨a3, a4⟩, ⟨a5, a6⟩, ⟨a7, a8⟩, ⟨a9, a10⟩, a11, a12⟩ := bx
  have k40 : f 40 = true := hdep { on := 40, ground := .data } (by simp) rfl
  have v66 : a.tmps.getD 66 undef = .int .i64 m2 := hFr.new 40 66 rfl k40
  have hw8 : IntKind.i64.wrap (m2 * 8) = m2 * 8 := by rw [IntKind.wrap_i64]; omega
  replace hg := hid hg
  replace r0 := hid r0
  replace r1 := hid r1
  replace j23 := hid j23
  replace j39 := hid j39
  replace j44 := hid j44
  replace j46 := hid j46
  clear hdep hFr hKp h4 h3 h1
  go_simp
  try rw [hw8]
  exact hK.out _ e _ rfl (fun _ _ => rfl) ⟨hg.out, r0.out, r1.out, j23.out, j39.out, j44.out, j46.out⟩
set_option maxRecDepth 100000 in
set_option maxHeartbeats 2000000 in
theorem ee_s42 (A : Act) (w1 : World) (Q : Exit → Act → World → Prop) (b d n ocap base : Nat) (oa : Option Addr) (L : List Value) (s : Sn) (vr vm : Value) (m1 m2 u : Int) 
    (h4 : A.tmps.getD 4 undef = .slice oa n ocap) (h3 : A.tmps.getD 3 undef = .pointer (some ⟨d, 0, none⟩)) (h1 : A.tmps.getD 1 undef = .pointer (some ⟨b, 0, none⟩)) (qb : Blk w1 b (snA s vr vm)) (qd : Blk w1 d (cuA s.c)) (nb : some b ≠ (Value.slice oa n ocap).ownBlock) (nd : some d ≠ (Value.slice oa n ocap).ownBlock) (own : w1.ownsRow base 5 1 (Value.slice oa n ocap) n L) (hbase : base ≤ w1.heap.size) (hn : n ≤ 100) (bx : (0 ≤ s.c.f ∧ s.c.f ≤ 255) ∧ (0 ≤ s.c.sp ∧ s.c.sp ≤ 255) ∧ (0 ≤ s.c.pc ∧ s.c.pc ≤ 255) ∧ (0 ≤ m1 ∧ m1 ≤ 255) ∧ (0 ≤ s.m.page ∧ s.m.page ≤ 255) ∧ (0 ≤ u ∧ u ≤ 255)) (bm : 0 ≤ m2 ∧ m2 ≤ 3) (hu : bits .or .i64 s.p.border (m2 * 8) = u) (hF1 : ∀ W g, Blk W g #[.bool s.c.iff, .bool s.c.ei, .bool s.c.halt, .bool s.m.locked, .bool (s.m.screen == 3)] → Calls Tryz.prog 37 #[.slice (some ⟨g, 0, none⟩) 5 5] W fun r w' => r = .returned (.int .i64 m1) ∧ w' = W) (hF2 : ∀ W g, Blk W g #[.bool s.p.mic, .bool s.p.beep] → Calls Tryz.prog 37 #[.slice (some ⟨g, 0, none⟩) 2 2] W fun r w' => r = .returned (.int .i64 m2) ∧ w' = W)
    (f : Nat → Bool) (e : Nat × Nat × Nat × Value) (a : Act) (w : World) (hun : f 42 = false) (hdep : ∀ d ∈ ee_o42.after, Region.binds .any d = true → f d.on = true) (hJ : ee_J w1 b d n ocap base oa L s vr vm m1 m2 u f e w) (hFr : Fr ee_O A f (fun j => ee_V b d n ocap base oa L s vr vm m1 m2 u j e) a) (hKp : Kept ee_O A f a)
    (K : Act → World → Prop) (hK : Hid (∀ v e' w', v = ee_V b d n ocap base oa L s vr vm m1 m2 u 42 e' → (∀ j, f j = true → ee_V b d n ocap base oa L s vr vm m1 m2 u j e' = ee_V b d n ocap base oa L s vr vm m1 m2 u j e) → ee_J w1 b d n ocap base oa L s vr vm m1 m2 u (fun j => j == 42 || f j) e' w' → K (a.put ee_o42.dst v) w')) :
    if Region.wanted ee_o42 (yielded ee_O a.tmps) = true then Oper.wp Tryz.prog ee_o42 a w K Q else K (a.put ee_o42.dst undef) w := by
  unfold ee_o42 at hdep hK ⊢
  obtain ⟨hg, r0, r1, j23, j39, j44, j46⟩ := hJ
  obtain ⟨⟨a1, a2⟩, ⟨a3, a4⟩, ⟨a5, a6⟩, ⟨a7, a8⟩, ⟨a9, a10⟩, a11, a12⟩ := bx
  have k32 : f 32 = true := hdep { on := 32, ground := .data } (by simp) rfl
  have v58 : a.tmps.getD 58 undef = .int .i64 s.p.border := hFr.new 32 58 rfl k32
  have k41 : f 41 = true := hdep { on := 41, ground := .data } (by simp) rfl
  have v67 : a.tmps.getD 67 undef = .int .i64 (m2 * 8) := hFr.new 41 67 rfl k41
  replace hg := hid hg
  replace r0 := hid r0
  replace r1 := hid r1
  replace j23 := hid j23
  replace j39 := hid j39
  replace j44 := hid j44
  replace j46 := hid j46
  clear hdep hFr hKp h4 h3 h1
  go_simp
  try rw [hu]
  exact hK.out _ e _ rfl (fun _ _ => rfl) ⟨hg.out, r0.out, r1.out, j23.out, j39.out, j44.out, j46.out⟩
set_option maxRecDepth 100000 in
set_option maxHeartbeats 2000000 in
theorem ee_s43 (A : Act) (w1 : World) (Q : Exit → Act → World → Prop) (b d n ocap base : Nat) (oa : Option Addr) (L : List Value) (s : Sn) (vr vm : Value) (m1 m2 u : Int) 
    (h4 : A.tmps.getD 4 undef = .slice oa n ocap) (h3 : A.tmps.getD 3 undef = .pointer (some ⟨d, 0, none⟩)) (h1 : A.tmps.getD 1 undef = .pointer (some ⟨b, 0, none⟩)) (qb : Blk w1 b (snA s vr vm)) (qd : Blk w1 d (cuA s.c)) (nb : some b ≠ (Value.slice oa n ocap).ownBlock) (nd : some d ≠ (Value.slice oa n ocap).ownBlock) (own : w1.ownsRow base 5 1 (Value.slice oa n ocap) n L) (hbase : base ≤ w1.heap.size) (hn : n ≤ 100) (bx : (0 ≤ s.c.f ∧ s.c.f ≤ 255) ∧ (0 ≤ s.c.sp ∧ s.c.sp ≤ 255) ∧ (0 ≤ s.c.pc ∧ s.c.pc ≤ 255) ∧ (0 ≤ m1 ∧ m1 ≤ 255) ∧ (0 ≤ s.m.page ∧ s.m.page ≤ 255) ∧ (0 ≤ u ∧ u ≤ 255)) (bm : 0 ≤ m2 ∧ m2 ≤ 3) (hu : bits .or .i64 s.p.border (m2 * 8) = u) (hF1 : ∀ W g, Blk W g #[.bool s.c.iff, .bool s.c.ei, .bool s.c.halt, .bool s.m.locked, .bool (s.m.screen == 3)] → Calls Tryz.prog 37 #[.slice (some ⟨g, 0, none⟩) 5 5] W fun r w' => r = .returned (.int .i64 m1) ∧ w' = W) (hF2 : ∀ W g, Blk W g #[.bool s.p.mic, .bool s.p.beep] → Calls Tryz.prog 37 #[.slice (some ⟨g, 0, none⟩) 2 2] W fun r w' => r = .returned (.int .i64 m2) ∧ w' = W)
    (f : Nat → Bool) (e : Nat × Nat × Nat × Value) (a : Act) (w : World) (hun : f 43 = false) (hdep : ∀ d ∈ ee_o43.after, Region.binds .any d = true → f d.on = true) (hJ : ee_J w1 b d n ocap base oa L s vr vm m1 m2 u f e w) (hFr : Fr ee_O A f (fun j => ee_V b d n ocap base oa L s vr vm m1 m2 u j e) a) (hKp : Kept ee_O A f a)
    (K : Act → World → Prop) (hK : Hid (∀ v e' w', v = ee_V b d n ocap base oa L s vr vm m1 m2 u 43 e' → (∀ j, f j = true → ee_V b d n ocap base oa L s vr vm m1 m2 u j e' = ee_V b d n ocap base oa L s vr vm m1 m2 u j e) → ee_J w1 b d n ocap base oa L s vr vm m1 m2 u (fun j => j == 43 || f j) e' w' → K (a.put ee_o43.dst v) w')) :
    if Region.wanted ee_o43 (yielded ee_O a.tmps) = true then Oper.wp Tryz.prog ee_o43 a w K Q else K (a.put ee_o43.dst undef) w := by
  unfold ee_o43 at hdep hK ⊢
  obtain ⟨hg, r0, r1, j23, j39, j44, j46⟩ := hJ
  obtain ⟨⟨a1, a2⟩, ⟨a3, a4⟩, ⟨a5, a6⟩, ⟨a7, a8⟩, ⟨a9, a10⟩, a11, a12⟩ := bx
  have k42 : f 42 = true := hdep { on := 42, ground := .data } (by simp) rfl
  have v68 : a.tmps.getD 68 undef = .int .i64 u := hFr.new 42 68 rfl k42
  have hw : IntKind.u8.wrap u = u := by simp [IntKind.wrap, IntKind.signed, IntKind.bits]; omega
  have hw2 : u % 256 = u := by omega
  replace hg := hid hg
  replace r0 := hid r0
  replace r1 := hid r1
  replace j23 := hid j23
  replace j39 := hid j39
  replace j44 := hid j44
  replace j46 := hid j46
  clear hdep hFr hKp h4 h3 h1
  go_simp
  exact hK.out _ e _ rfl (fun _ _ => rfl) ⟨hg.out, r0.out, r1.out, j23.out, j39.out, j44.out, j46.out⟩
set_option maxRecDepth 100000 in
set_option maxHeartbeats 2000000 in
theorem ee_s44 (A : Act) (w1 : World) (Q : Exit → Act → World → Prop) (b d n ocap base : Nat) (oa : Option Addr) (L : List Value) (s : Sn) (vr vm : Value) (m1 m2 u : Int) 
    (h4 : A.tmps.getD 4 undef = .slice oa n ocap) (h3 : A.tmps.getD 3 undef = .pointer (some ⟨d, 0, none⟩)) (h1 : A.tmps.getD 1 undef = .pointer (some ⟨b, 0, none⟩)) (qb : Blk w1 b (snA s vr vm)) (qd : Blk w1 d (cuA s.c)) (nb : some b ≠ (Value.slice oa n ocap).ownBlock) (nd : some d ≠ (Value.slice oa n ocap).ownBlock) (own : w1.ownsRow base 5 1 (Value.slice oa n ocap) n L) (hbase : base ≤ w1.heap.size) (hn : n ≤ 100) (bx : (0 ≤ s.c.f ∧ s.c.f ≤ 255) ∧ (0 ≤ s.c.sp ∧ s.c.sp ≤ 255) ∧ (0 ≤ s.c.pc ∧ s.c.pc ≤ 255) ∧ (0 ≤ m1 ∧ m1 ≤ 255) ∧ (0 ≤ s.m.page ∧ s.m.page ≤ 255) ∧ (0 ≤ u ∧ u ≤ 255)) (bm : 0 ≤ m2 ∧ m2 ≤ 3) (hu : bits .or .i64 s.p.border (m2 * 8) = u) (hF1 : ∀ W g, Blk W g #[.bool s.c.iff, .bool s.c.ei, .bool s.c.halt, .bool s.m.locked, .bool (s.m.screen == 3)] → Calls Tryz.prog 37 #[.slice (some ⟨g, 0, none⟩) 5 5] W fun r w' => r = .returned (.int .i64 m1) ∧ w' = W) (hF2 : ∀ W g, Blk W g #[.bool s.p.mic, .bool s.p.beep] → Calls Tryz.prog 37 #[.slice (some ⟨g, 0, none⟩) 2 2] W fun r w' => r = .returned (.int .i64 m2) ∧ w' = W)
    (f : Nat → Bool) (e : Nat × Nat × Nat × Value) (a : Act) (w : World) (hun : f 44 = false) (hdep : ∀ d ∈ ee_o44.after, Region.binds .any d = true → f d.on = true) (hJ : ee_J w1 b d n ocap base oa L s vr vm m1 m2 u f e w) (hFr : Fr ee_O A f (fun j => ee_V b d n ocap base oa L s vr vm m1 m2 u j e) a) (hKp : Kept ee_O A f a)
    (K : Act → World → Prop) (hK : Hid (∀ v e' w', v = ee_V b d n ocap base oa L s vr vm m1 m2 u 44 e' → (∀ j, f j = true → ee_V b d n ocap base oa L s vr vm m1 m2 u j e' = ee_V b d n ocap base oa L s vr vm m1 m2 u j e) → ee_J w1 b d n ocap base oa L s vr vm m1 m2 u (fun j => j == 44 || f j) e' w' → K (a.put ee_o44.dst v) w')) :
    if Region.wanted ee_o44 (yielded ee_O a.tmps) = true then Oper.wp Tryz.prog ee_o44 a w K Q else K (a.put ee_o44.dst undef) w := by
  unfold ee_o44 at hdep hK ⊢
  obtain ⟨hg, r0, r1, j23, j39, j44, j46⟩ := hJ
  obtain ⟨⟨a1, a2⟩, ⟨a3, a4⟩, ⟨a5, a6⟩, ⟨a7, a8⟩, ⟨a9, a10⟩, a11, a12⟩ := bx
  have k3 : f 3 = true := hdep { on := 3, ground := .data } (by simp) rfl
  have v29 : a.tmps.getD 29 undef = .int .u8 s.c.f := hFr.new 3 29 rfl k3
  have k6 : f 6 = true := hdep { on := 6, ground := .data } (by simp) rfl
  have v32 : a.tmps.getD 32 undef = .int .u8 s.c.sp := hFr.new 6 32 rfl k6
  have k9 : f 9 = true := hdep { on := 9, ground := .data } (by simp) rfl
  have v35 : a.tmps.getD 35 undef = .int .u8 s.c.pc := hFr.new 9 35 rfl k9
  have k25 : f 25 = true := hdep { on := 25, ground := .data } (by simp) rfl
  have v51 : a.tmps.getD 51 undef = .int .u8 m1 := hFr.new 25 51 rfl k25
  have k29 : f 29 = true := hdep { on := 29, ground := .data } (by simp) rfl
  have v55 : a.tmps.getD 55 undef = .int .u8 s.m.page := hFr.new 29 55 rfl k29
  have k43 : f 43 = true := hdep { on := 43, ground := .data } (by simp) rfl
  have v69 : a.tmps.getD 69 undef = .int .u8 u := hFr.new 43 69 rfl k43
  have v29b : a.tmps[29]?.getD undef = .int .u8 s.c.f := by simpa using v29
  have v32b : a.tmps[32]?.getD undef = .int .u8 s.c.sp := by simpa using v32
  have v35b : a.tmps[35]?.getD undef = .int .u8 s.c.pc := by simpa using v35
  have v51b : a.tmps[51]?.getD undef = .int .u8 m1 := by simpa using v51
  have v55b : a.tmps[55]?.getD undef = .int .u8 s.m.page := by simpa using v55
  have v69b : a.tmps[69]?.getD undef = .int .u8 u := by simpa using v69
  have hal := hid ((Below.refl w.heap.size w).alloc (Nat.le_refl _) (.cells #[.int .u8 s.c.f, .int .u8 s.c.sp, .int .u8 s.c.pc, .int .u8 m1, .int .u8 s.m.page, .int .u8 u] 5))
  have hq := hid (Blk.new w #[.int .u8 s.c.f, .int .u8 s.c.sp, .int .u8 s.c.pc, .int .u8 m1, .int .u8 s.m.page, .int .u8 u] 5)
  have hsz : Hid (w1.heap.size ≤ w.heap.size) := hg.size
  replace hg := hid hg
  replace r0 := hid r0
  replace r1 := hid r1
  replace j23 := hid j23
  replace j39 := hid j39
  replace j44 := hid j44
  replace j46 := hid j46
  clear hdep hFr hKp h4 h3 h1
  go_simp
  exact hK.out _ (e.1, e.2.1, w.heap.size, e.2.2.2) _ rfl (ee_k44 b d n ocap base oa L s vr vm m1 m2 u e w.heap.size hun) ⟨gtr13 hg.out ⟨hal.out.os, hal.out.tape, hal.out.output, hal.out.size, fun k hk _ => hal.out.block k hk⟩, fun h => (r0.out h).alloc _, fun h => (r1.out h).alloc _, fun h => ⟨(j23.out h).1, (j23.out h).2.below hal.out (j23.out h).2.lt⟩, fun h => ⟨(j39.out h).1, (j39.out h).2.below hal.out (j39.out h).2.lt⟩, fun _ => ⟨hsz.out, hq.out⟩, j46.out⟩
set_option maxRecDepth 100000 in
set_option maxHeartbeats 2000000 in
theorem ee_s45 (A : Act) (w1 : World) (Q : Exit → Act → World → Prop) (b d n ocap base : Nat) (oa : Option Addr) (L : List Value) (s : Sn) (vr vm : Value) (m1 m2 u : Int) 
    (h4 : A.tmps.getD 4 undef = .slice oa n ocap) (h3 : A.tmps.getD 3 undef = .pointer (some ⟨d, 0, none⟩)) (h1 : A.tmps.getD 1 undef = .pointer (some ⟨b, 0, none⟩)) (qb : Blk w1 b (snA s vr vm)) (qd : Blk w1 d (cuA s.c)) (nb : some b ≠ (Value.slice oa n ocap).ownBlock) (nd : some d ≠ (Value.slice oa n ocap).ownBlock) (own : w1.ownsRow base 5 1 (Value.slice oa n ocap) n L) (hbase : base ≤ w1.heap.size) (hn : n ≤ 100) (bx : (0 ≤ s.c.f ∧ s.c.f ≤ 255) ∧ (0 ≤ s.c.sp ∧ s.c.sp ≤ 255) ∧ (0 ≤ s.c.pc ∧ s.c.pc ≤ 255) ∧ (0 ≤ m1 ∧ m1 ≤ 255) ∧ (0 ≤ s.m.page ∧ s.m.page ≤ 255) ∧ (0 ≤ u ∧ u ≤ 255)) (bm : 0 ≤ m2 ∧ m2 ≤ 3) (hu : bits .or .i64 s.p.border (m2 * 8) = u) (hF1 : ∀ W g, Blk W g #[.bool s.c.iff, .bool s.c.ei, .bool s.c.halt, .bool s.m.locked, .bool (s.m.screen == 3)] → Calls Tryz.prog 37 #[.slice (some ⟨g, 0, none⟩) 5 5] W fun r w' => r = .returned (.int .i64 m1) ∧ w' = W) (hF2 : ∀ W g, Blk W g #[.bool s.p.mic, .bool s.p.beep] → Calls Tryz.prog 37 #[.slice (some ⟨g, 0, none⟩) 2 2] W fun r w' => r = .returned (.int .i64 m2) ∧ w' = W)
    (f : Nat → Bool) (e : Nat × Nat × Nat × Value) (a : Act) (w : World) (hun : f 45 = false) (hdep : ∀ d ∈ ee_o45.after, Region.binds .any d = true → f d.on = true) (hJ : ee_J w1 b d n ocap base oa L s vr vm m1 m2 u f e w) (hFr : Fr ee_O A f (fun j => ee_V b d n ocap base oa L s vr vm m1 m2 u j e) a) (hKp : Kept ee_O A f a)
    (K : Act → World → Prop) (hK : Hid (∀ v e' w', v = ee_V b d n ocap base oa L s vr vm m1 m2 u 45 e' → (∀ j, f j = true → ee_V b d n ocap base oa L s vr vm m1 m2 u j e' = ee_V b d n ocap base oa L s vr vm m1 m2 u j e) → ee_J w1 b d n ocap base oa L s vr vm m1 m2 u (fun j => j == 45 || f j) e' w' → K (a.put ee_o45.dst v) w')) :
    if Region.wanted ee_o45 (yielded ee_O a.tmps) = true then Oper.wp Tryz.prog ee_o45 a w K Q else K (a.put ee_o45.dst undef) w := by
  unfold ee_o45 at hdep hK ⊢
  obtain ⟨hg, r0, r1, j23, j39, j44, j46⟩ := hJ
  obtain ⟨⟨a1, a2⟩, ⟨a3, a4⟩, ⟨a5, a6⟩, ⟨a7, a8⟩, ⟨a9, a10⟩, a11, a12⟩ := bx
  have k0 : f 0 = true := hdep { on := 0, ground := .data } (by simp) rfl
  have v26 : a.tmps.getD 26 undef = .slice oa n ocap := hFr.new 0 26 rfl k0
  have k44 : f 44 = true := hdep { on := 44, ground := .data } (by simp) rfl
  have v70 : a.tmps.getD 70 undef = .slice (some ⟨e.2.2.1, 0, none⟩) 6 6 := hFr.new 44 70 rfl k44
  obtain ⟨i0, hi0, hz0, hz1, hz2⟩ := info_parts infoU8
  obtain ⟨tt, hbk⟩ := (j44 k44).2
  have hsz := hg.size
  rw [if_pos (show Region.wanted _ _ = true from rfl)]
  refine wp_append_lies w _ _ 22 rfl base 5 i0 _ 1 1 Tryz.underlying22 hi0 hz0 hz1 hz2 rfl (by omega) (Value.slice oa n ocap) n L v26 (r0 hun) ⟨e.2.2.1, 0, none⟩ 6 6 [.int .u8 s.c.f, .int .u8 s.c.sp, .int .u8 s.c.pc, .int .u8 m1, .int .u8 s.m.page, .int .u8 u] v70 rfl (World.news_of_block (cs := #[.int .u8 s.c.f, .int .u8 s.c.sp, .int .u8 s.c.pc, .int .u8 m1, .int .u8 s.m.page, .int .u8 u]) (t := tt) (fr := (0, 0)) hbk) (by simp [Value.oneCell']) (by omega) (by unfold maxLen; omega) (by omega) (by omega) _ rfl ?_
  intro gg cap2 w2 ho hgr hat hlt
  exact hK.out _ (e.1, e.2.1, e.2.2.1, .slice (some ⟨gg, 0, none⟩) (n + 6) cap2) _ rfl (ee_k45 b d n ocap base oa L s vr vm m1 m2 u e _ hun (by cases h46 : f 46; rfl; have := (j46 h46).2; rw [hun] at this; cases this)) ⟨gtr13 hg hgr, fun h => (by cases h), fun _ => ho, fun h => ⟨(j23 h).1, (j23 h).2.grown hgr (ne_own own (j23 h).1)⟩, fun h => ⟨(j39 h).1, (j39 h).2.grown hgr (ne_own own (j39 h).1)⟩, fun h => ⟨(j44 h).1, (j44 h).2.grown hgr (ne_own own (j44 h).1)⟩, fun h => ⟨k0, rfl⟩⟩
set_option maxRecDepth 100000 in
set_option maxHeartbeats 2000000 in
theorem ee_s46 (A : Act) (w1 : World) (Q : Exit → Act → World → Prop) (b d n ocap base : Nat) (oa : Option Addr) (L : List Value) (s : Sn) (vr vm : Value) (m1 m2 u : Int) 
    (h4 : A.tmps.getD 4 undef = .slice oa n ocap) (h3 : A.tmps.getD 3 undef = .pointer (some ⟨d, 0, none⟩)) (h1 : A.tmps.getD 1 undef = .pointer (some ⟨b, 0, none⟩)) (qb : Blk w1 b (snA s vr vm)) (qd : Blk w1 d (cuA s.c)) (nb : some b ≠ (Value.slice oa n ocap).ownBlock) (nd : some d ≠ (Value.slice oa n ocap).ownBlock) (own : w1.ownsRow base 5 1 (Value.slice oa n ocap) n L) (hbase : base ≤ w1.heap.size) (hn : n ≤ 100) (bx : (0 ≤ s.c.f ∧ s.c.f ≤ 255) ∧ (0 ≤ s.c.sp ∧ s.c.sp ≤ 255) ∧ (0 ≤ s.c.pc ∧ s.c.pc ≤ 255) ∧ (0 ≤ m1 ∧ m1 ≤ 255) ∧ (0 ≤ s.m.page ∧ s.m.page ≤ 255) ∧ (0 ≤ u ∧ u ≤ 255)) (bm : 0 ≤ m2 ∧ m2 ≤ 3) (hu : bits .or .i64 s.p.border (m2 * 8) = u) (hF1 : ∀ W g, Blk W g #[.bool s.c.iff, .bool s.c.ei, .bool s.c.halt, .bool s.m.locked, .bool (s.m.screen == 3)] → Calls Tryz.prog 37 #[.slice (some ⟨g, 0, none⟩) 5 5] W fun r w' => r = .returned (.int .i64 m1) ∧ w' = W) (hF2 : ∀ W g, Blk W g #[.bool s.p.mic, .bool s.p.beep] → Calls Tryz.prog 37 #[.slice (some ⟨g, 0, none⟩) 2 2] W fun r w' => r = .returned (.int .i64 m2) ∧ w' = W)
    (f : Nat → Bool) (e : Nat × Nat × Nat × Value) (a : Act) (w : World) (hun : f 46 = false) (hdep : ∀ d ∈ ee_o46.after, Region.binds .any d = true → f d.on = true) (hJ : ee_J w1 b d n ocap base oa L s vr vm m1 m2 u f e w) (hFr : Fr ee_O A f (fun j => ee_V b d n ocap base oa L s vr vm m1 m2 u j e) a) (hKp : Kept ee_O A f a)
    (K : Act → World → Prop) (hK : Hid (∀ v e' w', v = ee_V b d n ocap base oa L s vr vm m1 m2 u 46 e' → (∀ j, f j = true → ee_V b d n ocap base oa L s vr vm m1 m2 u j e' = ee_V b d n ocap base oa L s vr vm m1 m2 u j e) → ee_J w1 b d n ocap base oa L s vr vm m1 m2 u (fun j => j == 46 || f j) e' w' → K (a.put ee_o46.dst v) w')) :
    if Region.wanted ee_o46 (yielded ee_O a.tmps) = true then Oper.wp Tryz.prog ee_o46 a w K Q else K (a.put ee_o46.dst undef) w := by
  unfold ee_o46 at hdep hK ⊢
  obtain ⟨hg, r0, r1, j23, j39, j44, j46⟩ := hJ
  obtain ⟨⟨a1, a2⟩, ⟨a3, a4⟩, ⟨a5, a6⟩, ⟨a7, a8⟩, ⟨a9, a10⟩, a11, a12⟩ := bx
  have k45 : f 45 = true := hdep { on := 45, ground := .data } (by simp) rfl
  have v71 : a.tmps.getD 71 undef = e.2.2.2 := hFr.new 45 71 rfl k45
  have k0 : f 0 = true := hdep { on := 0, ground := .phase } (by simp) rfl
  replace hg := hid hg
  replace r0 := hid r0
  replace r1 := hid r1
  replace j23 := hid j23
  replace j39 := hid j39
  replace j44 := hid j44
  replace j46 := hid j46
  clear hdep hFr hKp h4 h3 h1
  go_simp
  exact hK.out _ e _ rfl (fun _ _ => rfl) ⟨hg.out, r0.out, r1.out, j23.out, j39.out, j44.out, fun _ => ⟨k0, k45⟩⟩
set_option maxRecDepth 100000 in
set_option maxHeartbeats 4000000 in
theorem ee_reg (A : Act) (w1 : World) (Q : Exit → Act → World → Prop) (b d n ocap base : Nat) (oa : Option Addr) (L : List Value) (s : Sn) (vr vm : Value) (m1 m2 u : Int) 
    (h4 : A.tmps.getD 4 undef = .slice oa n ocap) (h3 : A.tmps.getD 3 undef = .pointer (some ⟨d, 0, none⟩)) (h1 : A.tmps.getD 1 undef = .pointer (some ⟨b, 0, none⟩)) (qb : Blk w1 b (snA s vr vm)) (qd : Blk w1 d (cuA s.c)) (nb : some b ≠ (Value.slice oa n ocap).ownBlock) (nd : some d ≠ (Value.slice oa n ocap).ownBlock) (own : w1.ownsRow base 5 1 (Value.slice oa n ocap) n L) (hbase : base ≤ w1.heap.size) (hn : n ≤ 100) (bx : (0 ≤ s.c.f ∧ s.c.f ≤ 255) ∧ (0 ≤ s.c.sp ∧ s.c.sp ≤ 255) ∧ (0 ≤ s.c.pc ∧ s.c.pc ≤ 255) ∧ (0 ≤ m1 ∧ m1 ≤ 255) ∧ (0 ≤ s.m.page ∧ s.m.page ≤ 255) ∧ (0 ≤ u ∧ u ≤ 255)) (bm : 0 ≤ m2 ∧ m2 ≤ 3) (hu : bits .or .i64 s.p.border (m2 * 8) = u) (hF1 : ∀ W g, Blk W g #[.bool s.c.iff, .bool s.c.ei, .bool s.c.halt, .bool s.m.locked, .bool (s.m.screen == 3)] → Calls Tryz.prog 37 #[.slice (some ⟨g, 0, none⟩) 5 5] W fun r w' => r = .returned (.int .i64 m1) ∧ w' = W) (hF2 : ∀ W g, Blk W g #[.bool s.p.mic, .bool s.p.beep] → Calls Tryz.prog 37 #[.slice (some ⟨g, 0, none⟩) 2 2] W fun r w' => r = .returned (.int .i64 m2) ∧ w' = W) (hN : 72 ≤ A.tmps.size)
    (h : ∀ (w : World) (e : Nat × Nat × Nat × Value), w1.grownBy w (Value.slice oa n ocap).ownBlock ∧ w.ownsRow base 5 1 e.2.2.2 (n + 6) (L ++ [.int .u8 s.c.f, .int .u8 s.c.sp, .int .u8 s.c.pc, .int .u8 m1, .int .u8 s.m.page, .int .u8 u]) → Q .normal (putsA A [(26, .slice oa n ocap), (27, .pointer (some ⟨d, 8, none⟩)), (28, .int .i64 s.c.f), (29, .int .u8 s.c.f), (30, .pointer (some ⟨d, 9, none⟩)), (31, .int .i64 s.c.sp), (32, .int .u8 s.c.sp), (33, .pointer (some ⟨d, 10, none⟩)), (34, .int .i64 s.c.pc), (35, .int .u8 s.c.pc), (36, .pointer (some ⟨d, 11, none⟩)), (37, .bool s.c.iff), (38, .pointer (some ⟨d, 12, none⟩)), (39, .bool s.c.ei), (40, .pointer (some ⟨d, 13, none⟩)), (41, .bool s.c.halt), (42, .pointer (some ⟨b, 14, none⟩)), (43, .pointer (some ⟨b, 18, none⟩)), (44, .bool s.m.locked), (45, .pointer (some ⟨b, 14, none⟩)), (46, .pointer (some ⟨b, 17, none⟩)), (47, .int .i64 s.m.screen), (48, .bool (s.m.screen == 3)), (49, .slice (some ⟨e.1, 0, none⟩) 5 5), (50, .int .i64 m1), (51, .int .u8 m1), (52, .pointer (some ⟨b, 14, none⟩)), (53, .pointer (some ⟨b, 16, none⟩)), (54, .int .i64 s.m.page), (55, .int .u8 s.m.page), (56, .pointer (some ⟨b, 19, none⟩)), (57, .pointer (some ⟨b, 28, none⟩)), (58, .int .i64 s.p.border), (59, .pointer (some ⟨b, 19, none⟩)), (60, .pointer (some ⟨b, 29, none⟩)), (61, .bool s.p.mic), (62, .pointer (some ⟨b, 19, none⟩)), (63, .pointer (some ⟨b, 30, none⟩)), (64, .bool s.p.beep), (65, .slice (some ⟨e.2.1, 0, none⟩) 2 2), (66, .int .i64 m2), (67, .int .i64 (m2 * 8)), (68, .int .i64 u), (69, .int .u8 u), (70, .slice (some ⟨e.2.2.1, 0, none⟩) 6 6), (71, e.2.2.2), (4, e.2.2.2)]) w) :
    (Code.region 7 #[({ dst := some 26, op := Op.move (Operand.tmp 4), type := 22, pos := "l13_snap.go:24", after := #[], guard := none } : Oper), ({ dst := some 27, op := Op.fieldAddr 25 (Operand.tmp 3) 1, type := 0, pos := "l13_snap.go:24", after := #[], guard := none } : Oper), ({ dst := some 28, op := Op.load 3 (Operand.tmp 27), type := 3, pos := "l13_snap.go:24", after := #[{ on := 1, ground := Ground.data }], guard := none } : Oper), ({ dst := some 29, op := Op.convert 3 5 (Operand.tmp 28), type := 5, pos := "l13_snap.go:24", after := #[{ on := 2, ground := Ground.data }], guard := none } : Oper), ({ dst := some 30, op := Op.fieldAddr 25 (Operand.tmp 3) 2, type := 0, pos := "l13_snap.go:24", after := #[], guard := none } : Oper), ({ dst := some 31, op := Op.load 3 (Operand.tmp 30), type := 3, pos := "l13_snap.go:24", after := #[{ on := 4, ground := Ground.data }], guard := none } : Oper), ({ dst := some 32, op := Op.convert 3 5 (Operand.tmp 31), type := 5, pos := "l13_snap.go:24", after := #[{ on := 5, ground := Ground.data }], guard := none } : Oper), ({ dst := some 33, op := Op.fieldAddr 25 (Operand.tmp 3) 3, type := 0, pos := "l13_snap.go:24", after := #[], guard := none } : Oper), ({ dst := some 34, op := Op.load 3 (Operand.tmp 33), type := 3, pos := "l13_snap.go:24", after := #[{ on := 7, ground := Ground.data }], guard := none } : Oper), ({ dst := some 35, op := Op.convert 3 5 (Operand.tmp 34), type := 5, pos := "l13_snap.go:24", after := #[{ on := 8, ground := Ground.data }], guard := none } : Oper), ({ dst := some 36, op := Op.fieldAddr 25 (Operand.tmp 3) 4, type := 0, pos := "l13_snap.go:24", after := #[], guard := none } : Oper), ({ dst := some 37, op := Op.load 4 (Operand.tmp 36), type := 4, pos := "l13_snap.go:24", after := #[{ on := 10, ground := Ground.data }], guard := none } : Oper), ({ dst := some 38, op := Op.fieldAddr 25 (Operand.tmp 3) 5, type := 0, pos := "l13_snap.go:24", after := #[], guard := none } : Oper), ({ dst := some 39, op := Op.load 4 (Operand.tmp 38), type := 4, pos := "l13_snap.go:24", after := #[{ on := 12, ground := Ground.data }], guard := none } : Oper), ({ dst := some 40, op := Op.fieldAddr 25 (Operand.tmp 3) 6, type := 0, pos := "l13_snap.go:24", after := #[], guard := none } : Oper), ({ dst := some 41, op := Op.load 4 (Operand.tmp 40), type := 4, pos := "l13_snap.go:24", after := #[{ on := 14, ground := Ground.data }], guard := none } : Oper), ({ dst := some 42, op := Op.fieldAddr 33 (Operand.tmp 1) 1, type := 0, pos := "l13_snap.go:24", after := #[], guard := none } : Oper), ({ dst := some 43, op := Op.fieldAddr 29 (Operand.tmp 42) 4, type := 0, pos := "l13_snap.go:24", after := #[{ on := 16, ground := Ground.data }], guard := none } : Oper), ({ dst := some 44, op := Op.load 4 (Operand.tmp 43), type := 4, pos := "l13_snap.go:24", after := #[{ on := 17, ground := Ground.data }], guard := none } : Oper), ({ dst := some 45, op := Op.fieldAddr 33 (Operand.tmp 1) 1, type := 0, pos := "l13_snap.go:24", after := #[], guard := none } : Oper), ({ dst := some 46, op := Op.fieldAddr 29 (Operand.tmp 45) 3, type := 0, pos := "l13_snap.go:24", after := #[{ on := 19, ground := Ground.data }], guard := none } : Oper), ({ dst := some 47, op := Op.load 3 (Operand.tmp 46), type := 3, pos := "l13_snap.go:24", after := #[{ on := 20, ground := Ground.data }], guard := none } : Oper), ({ dst := some 48, op := Op.binOp BinOp.eql 3 (Operand.tmp 47) (Operand.const (Value.int IntKind.i64 3)) 3, type := 4, pos := "l13_snap.go:24", after := #[{ on := 21, ground := Ground.data }], guard := none } : Oper), ({ dst := some 49, op := Op.buildSlice 80 5 #[(0, Operand.tmp 37), (1, Operand.tmp 39), (2, Operand.tmp 41), (3, Operand.tmp 44), (4, Operand.tmp 48)], type := 80, pos := "l13_snap.go:24", after := #[{ on := 11, ground := Ground.data }, { on := 13, ground := Ground.data }, { on := 15, ground := Ground.data }, { on := 18, ground := Ground.data }, { on := 22, ground := Ground.data }], guard := none } : Oper), ({ dst := some 50, op := Op.call { callee := Callee.value (Operand.func 37), args := #[Operand.tmp 49], argTypes := #[80] }, type := 3, pos := "l13_snap.go:24", after := #[{ on := 23, ground := Ground.data }], guard := none } : Oper), ({ dst := some 51, op := Op.convert 3 5 (Operand.tmp 50), type := 5, pos := "l13_snap.go:24", after := #[{ on := 24, ground := Ground.data }], guard := none } : Oper), ({ dst := some 52, op := Op.fieldAddr 33 (Operand.tmp 1) 1, type := 0, pos := "l13_snap.go:24", after := #[], guard := none } : Oper), ({ dst := some 53, op := Op.fieldAddr 29 (Operand.tmp 52) 2, type := 0, pos := "l13_snap.go:24", after := #[{ on := 26, ground := Ground.data }], guard := none } : Oper), ({ dst := some 54, op := Op.load 3 (Operand.tmp 53), type := 3, pos := "l13_snap.go:24", after := #[{ on := 27, ground := Ground.data }], guard := none } : Oper), ({ dst := some 55, op := Op.convert 3 5 (Operand.tmp 54), type := 5, pos := "l13_snap.go:24", after := #[{ on := 28, ground := Ground.data }], guard := none } : Oper), ({ dst := some 56, op := Op.fieldAddr 33 (Operand.tmp 1) 2, type := 0, pos := "l13_snap.go:24", after := #[], guard := none } : Oper), ({ dst := some 57, op := Op.fieldAddr 31 (Operand.tmp 56) 2, type := 0, pos := "l13_snap.go:24", after := #[{ on := 30, ground := Ground.data }], guard := none } : Oper), ({ dst := some 58, op := Op.load 3 (Operand.tmp 57), type := 3, pos := "l13_snap.go:24", after := #[{ on := 31, ground := Ground.data }], guard := none } : Oper), ({ dst := some 59, op := Op.fieldAddr 33 (Operand.tmp 1) 2, type := 0, pos := "l13_snap.go:24", after := #[], guard := none } : Oper), ({ dst := some 60, op := Op.fieldAddr 31 (Operand.tmp 59) 3, type := 0, pos := "l13_snap.go:24", after := #[{ on := 33, ground := Ground.data }], guard := none } : Oper), ({ dst := some 61, op := Op.load 4 (Operand.tmp 60), type := 4, pos := "l13_snap.go:24", after := #[{ on := 34, ground := Ground.data }], guard := none } : Oper), ({ dst := some 62, op := Op.fieldAddr 33 (Operand.tmp 1) 2, type := 0, pos := "l13_snap.go:24", after := #[], guard := none } : Oper), ({ dst := some 63, op := Op.fieldAddr 31 (Operand.tmp 62) 4, type := 0, pos := "l13_snap.go:24", after := #[{ on := 36, ground := Ground.data }], guard := none } : Oper), ({ dst := some 64, op := Op.load 4 (Operand.tmp 63), type := 4, pos := "l13_snap.go:24", after := #[{ on := 37, ground := Ground.data }], guard := none } : Oper), ({ dst := some 65, op := Op.buildSlice 80 2 #[(0, Operand.tmp 61), (1, Operand.tmp 64)], type := 80, pos := "l13_snap.go:24", after := #[{ on := 35, ground := Ground.data }, { on := 38, ground := Ground.data }], guard := none } : Oper), ({ dst := some 66, op := Op.call { callee := Callee.value (Operand.func 37), args := #[Operand.tmp 65], argTypes := #[80] }, type := 3, pos := "l13_snap.go:24", after := #[{ on := 39, ground := Ground.data }, { on := 24, ground := Ground.chain }], guard := none } : Oper), ({ dst := some 67, op := Op.binOp BinOp.shl 3 (Operand.tmp 66) (Operand.const (Value.int IntKind.u64 3)) 81, type := 3, pos := "l13_snap.go:24", after := #[{ on := 40, ground := Ground.data }], guard := none } : Oper), ({ dst := some 68, op := Op.binOp BinOp.or 3 (Operand.tmp 58) (Operand.tmp 67) 3, type := 3, pos := "l13_snap.go:24", after := #[{ on := 32, ground := Ground.data }, { on := 41, ground := Ground.data }], guard := none } : Oper), ({ dst := some 69, op := Op.convert 3 5 (Operand.tmp 68), type := 5, pos := "l13_snap.go:24", after := #[{ on := 42, ground := Ground.data }], guard := none } : Oper), ({ dst := some 70, op := Op.buildSlice 22 6 #[(0, Operand.tmp 29), (1, Operand.tmp 32), (2, Operand.tmp 35), (3, Operand.tmp 51), (4, Operand.tmp 55), (5, Operand.tmp 69)], type := 22, pos := "l13_snap.go:24", after := #[{ on := 3, ground := Ground.data }, { on := 6, ground := Ground.data }, { on := 9, ground := Ground.data }, { on := 25, ground := Ground.data }, { on := 29, ground := Ground.data }, { on := 43, ground := Ground.data }], guard := none } : Oper), ({ dst := some 71, op := Op.call { callee := Callee.builtin Builtin.append, args := #[Operand.tmp 26, Operand.tmp 70], argTypes := #[22, 22] }, type := 22, pos := "l13_snap.go:24", after := #[{ on := 0, ground := Ground.data }, { on := 44, ground := Ground.data }, { on := 40, ground := Ground.chain }], guard := none } : Oper), ({ dst := some 4, op := Op.assign (Operand.tmp 71), type := 22, pos := "l13_snap.go:24", after := #[{ on := 45, ground := Ground.data }, { on := 45, ground := Ground.chain }, { on := 0, ground := Ground.phase }, { on := 1, ground := Ground.phase }, { on := 2, ground := Ground.phase }, { on := 3, ground := Ground.phase }, { on := 4, ground := Ground.phase }, { on := 5, ground := Ground.phase }, { on := 6, ground := Ground.phase }, { on := 7, ground := Ground.phase }, { on := 8, ground := Ground.phase }, { on := 9, ground := Ground.phase }, { on := 10, ground := Ground.phase }, { on := 11, ground := Ground.phase }, { on := 12, ground := Ground.phase }, { on := 13, ground := Ground.phase }, { on := 14, ground := Ground.phase }, { on := 15, ground := Ground.phase }, { on := 16, ground := Ground.phase }, { on := 17, ground := Ground.phase }, { on := 18, ground := Ground.phase }, { on := 19, ground := Ground.phase }, { on := 20, ground := Ground.phase }, { on := 21, ground := Ground.phase }, { on := 22, ground := Ground.phase }, { on := 23, ground := Ground.phase }, { on := 24, ground := Ground.phase }, { on := 25, ground := Ground.phase }, { on := 26, ground := Ground.phase }, { on := 27, ground := Ground.phase }, { on := 28, ground := Ground.phase }, { on := 29, ground := Ground.phase }, { on := 30, ground := Ground.phase }, { on := 31, ground := Ground.phase }, { on := 32, ground := Ground.phase }, { on := 33, ground := Ground.phase }, { on := 34, ground := Ground.phase }, { on := 35, ground := Ground.phase }, { on := 36, ground := Ground.phase }, { on := 37, ground := Ground.phase }, { on := 38, ground := Ground.phase }, { on := 39, ground := Ground.phase }, { on := 40, ground := Ground.phase }, { on := 41, ground := Ground.phase }, { on := 42, ground := Ground.phase }, { on := 43, ground := Ground.phase }, { on := 44, ground := Ground.phase }, { on := 45, ground := Ground.phase }], guard := none } : Oper)] true).wp Tryz.prog Q A w1 := by
  show (Code.region 7 ee_O true).wp Tryz.prog Q A w1
  refine wp_region_slotsK (E := Nat × Nat × Nat × Value) (ee_V b d n ocap base oa L s vr vm m1 m2 u) (ee_J w1 b d n ocap base oa L s vr vm m1 m2 u) (by kernel_rfl) (by kernel_rfl) (by kernel_rfl) (fun i s hi => ?_) ?_ (0, 0, 0, undef) ⟨⟨rfl, rfl, rfl, Nat.le_refl _, fun _ _ _ => rfl⟩, fun _ => own, fun h => (by cases h), fun h => (by cases h), fun h => (by cases h), fun h => (by cases h), fun h => (by cases h)⟩ ?_
  · cases hc : ([26, 27, 28, 29, 30, 31, 32, 33, 34, 35, 36, 37, 38, 39, 40, 41, 42, 43, 44, 45, 46, 47, 48, 49, 50, 51, 52, 53, 54, 55, 56, 57, 58, 59, 60, 61, 62, 63, 64, 65, 66, 67, 68, 69, 70, 71, 4] : List Nat).contains s
    · exact absurd hi (ee_no hc i)
    · have : s ∈ ([26, 27, 28, 29, 30, 31, 32, 33, 34, 35, 36, 37, 38, 39, 40, 41, 42, 43, 44, 45, 46, 47, 48, 49, 50, 51, 52, 53, 54, 55, 56, 57, 58, 59, 60, 61, 62, 63, 64, 65, 66, 67, 68, 69, 70, 71, 4] : List Nat) := by simpa using hc
      simp only [List.mem_cons, List.not_mem_nil, or_false] at this
      omega
  · intro f e a w i o hi ho hun hdep hJ hFr hKp K hK
    have hi8 : i < 47 := hi
    rcases (by omega : i = 0 ∨ i = 1 ∨ i = 2 ∨ i = 3 ∨ i = 4 ∨ i = 5 ∨ i = 6 ∨ i = 7 ∨ i = 8 ∨ i = 9 ∨ i = 10 ∨ i = 11 ∨ i = 12 ∨ i = 13 ∨ i = 14 ∨ i = 15 ∨ i = 16 ∨ i = 17 ∨ i = 18 ∨ i = 19 ∨ i = 20 ∨ i = 21 ∨ i = 22 ∨ i = 23 ∨ i = 24 ∨ i = 25 ∨ i = 26 ∨ i = 27 ∨ i = 28 ∨ i = 29 ∨ i = 30 ∨ i = 31 ∨ i = 32 ∨ i = 33 ∨ i = 34 ∨ i = 35 ∨ i = 36 ∨ i = 37 ∨ i = 38 ∨ i = 39 ∨ i = 40 ∨ i = 41 ∨ i = 42 ∨ i = 43 ∨ i = 44 ∨ i = 45 ∨ i = 46) with rfl | rfl | rfl | rfl | rfl | rfl | rfl | rfl | rfl | rfl | rfl | rfl | rfl | rfl | rfl | rfl | rfl | rfl | rfl | rfl | rfl | rfl | rfl | rfl | rfl | rfl | rfl | rfl | rfl | rfl | rfl | rfl | rfl | rfl | rfl | rfl | rfl | rfl | rfl | rfl | rfl | rfl | rfl | rfl | rfl | rfl | rfl
    · obtain rfl := Option.some.inj ho
      exact ee_s0 A w1 Q b d n ocap base oa L s vr vm m1 m2 u h4 h3 h1 qb qd nb nd own hbase hn bx bm hu hF1 hF2 f e a w hun hdep hJ hFr hKp K hK
    · obtain rfl := Option.some.inj ho
      exact ee_s1 A w1 Q b d n ocap base oa L s vr vm m1 m2 u h4 h3 h1 qb qd nb nd own hbase hn bx bm hu hF1 hF2 f e a w hun hdep hJ hFr hKp K hK
    · obtain rfl := Option.some.inj ho
      exact ee_s2 A w1 Q b d n ocap base oa L s vr vm m1 m2 u h4 h3 h1 qb qd nb nd own hbase hn bx bm hu hF1 hF2 f e a w hun hdep hJ hFr hKp K hK
    · obtain rfl := Option.some.inj ho
      exact ee_s3 A w1 Q b d n ocap base oa L s vr vm m1 m2 u h4 h3 h1 qb qd nb nd own hbase hn bx bm hu hF1 hF2 f e a w hun hdep hJ hFr hKp K hK
    · obtain rfl := Option.some.inj ho
      exact ee_s4 A w1 Q b d n ocap base oa L s vr vm m1 m2 u h4 h3 h1 qb qd nb nd own hbase hn bx bm hu hF1 hF2 f e a w hun hdep hJ hFr hKp K hK
    · obtain rfl := Option.some.inj ho
      exact ee_s5 A w1 Q b d n ocap base oa L s vr vm m1 m2 u h4 h3 h1 qb qd nb nd own hbase hn bx bm hu hF1 hF2 f e a w hun hdep hJ hFr hKp K hK
    · obtain rfl := Option.some.inj ho
      exact ee_s6 A w1 Q b d n ocap base oa L s vr vm m1 m2 u h4 h3 h1 qb qd nb nd own hbase hn bx bm hu hF1 hF2 f e a w hun hdep hJ hFr hKp K hK
    · obtain rfl := Option.some.inj ho
      exact ee_s7 A w1 Q b d n ocap base oa L s vr vm m1 m2 u h4 h3 h1 qb qd nb nd own hbase hn bx bm hu hF1 hF2 f e a w hun hdep hJ hFr hKp K hK
    · obtain rfl := Option.some.inj ho
      exact ee_s8 A w1 Q b d n ocap base oa L s vr vm m1 m2 u h4 h3 h1 qb qd nb nd own hbase hn bx bm hu hF1 hF2 f e a w hun hdep hJ hFr hKp K hK
    · obtain rfl := Option.some.inj ho
      exact ee_s9 A w1 Q b d n ocap base oa L s vr vm m1 m2 u h4 h3 h1 qb qd nb nd own hbase hn bx bm hu hF1 hF2 f e a w hun hdep hJ hFr hKp K hK
    · obtain rfl := Option.some.inj ho
      exact ee_s10 A w1 Q b d n ocap base oa L s vr vm m1 m2 u h4 h3 h1 qb qd nb nd own hbase hn bx bm hu hF1 hF2 f e a w hun hdep hJ hFr hKp K hK
    · obtain rfl := Option.some.inj ho
      exact ee_s11 A w1 Q b d n ocap base oa L s vr vm m1 m2 u h4 h3 h1 qb qd nb nd own hbase hn bx bm hu hF1 hF2 f e a w hun hdep hJ hFr hKp K hK
    · obtain rfl := Option.some.inj ho
      exact ee_s12 A w1 Q b d n ocap base oa L s vr vm m1 m2 u h4 h3 h1 qb qd nb nd own hbase hn bx bm hu hF1 hF2 f e a w hun hdep hJ hFr hKp K hK
    · obtain rfl := Option.some.inj ho
      exact ee_s13 A w1 Q b d n ocap base oa L s vr vm m1 m2 u h4 h3 h1 qb qd nb nd own hbase hn bx bm hu hF1 hF2 f e a w hun hdep hJ hFr hKp K hK
    · obtain rfl := Option.some.inj ho
      exact ee_s14 A w1 Q b d n ocap base oa L s vr vm m1 m2 u h4 h3 h1 qb qd nb nd own hbase hn bx bm hu hF1 hF2 f e a w hun hdep hJ hFr hKp K hK
    · obtain rfl := Option.some.inj ho
      exact ee_s15 A w1 Q b d n ocap base oa L s vr vm m1 m2 u h4 h3 h1 qb qd nb nd own hbase hn bx bm hu hF1 hF2 f e a w hun hdep hJ hFr hKp K hK
    · obtain rfl := Option.some.inj ho
      exact ee_s16 A w1 Q b d n ocap base oa L s vr vm m1 m2 u h4 h3 h1 qb qd nb nd own hbase hn bx bm hu hF1 hF2 f e a w hun hdep hJ hFr hKp K hK
    · obtain rfl := Option.some.inj ho
      exact ee_s17 A w1 Q b d n ocap base oa L s vr vm m1 m2 u h4 h3 h1 qb qd nb nd own hbase hn bx bm hu hF1 hF2 f e a w hun hdep hJ hFr hKp K hK
    · obtain rfl := Option.some.inj ho
      exact ee_s18 A w1 Q b d n ocap base oa L s vr vm m1 m2 u h4 h3 h1 qb qd nb nd own hbase hn bx bm hu hF1 hF2 f e a w hun hdep hJ hFr hKp K hK
    · obtain rfl := Option.some.inj ho
      exact ee_s19 A w1 Q b d n ocap base oa L s vr vm m1 m2 u h4 h3 h1 qb qd nb nd own hbase hn bx bm hu hF1 hF2 f e a w hun hdep hJ hFr hKp K hK
    · obtain rfl := Option.some.inj ho
      exact ee_s20 A w1 Q b d n ocap base oa L s vr vm m1 m2 u h4 h3 h1 qb qd nb nd own hbase hn bx bm hu hF1 hF2 f e a w hun hdep hJ hFr hKp K hK
    · obtain rfl := Option.some.inj ho
      exact ee_s21 A w1 Q b d n ocap base oa L s vr vm m1 m2 u h4 h3 h1 qb qd nb nd own hbase hn bx bm hu hF1 hF2 f e a w hun hdep hJ hFr hKp K hK
    · obtain rfl := Option.some.inj ho
      exact ee_s22 A w1 Q b d n ocap base oa L s vr vm m1 m2 u h4 h3 h1 qb qd nb nd own hbase hn bx bm hu hF1 hF2 f e a w hun hdep hJ hFr hKp K hK
    · obtain rfl := Option.some.inj ho
      exact ee_s23 A w1 Q b d n ocap base oa L s vr vm m1 m2 u h4 h3 h1 qb qd nb nd own hbase hn bx bm hu hF1 hF2 f e a w hun hdep hJ hFr hKp K hK
    · obtain rfl := Option.some.inj ho
      exact ee_s24 A w1 Q b d n ocap base oa L s vr vm m1 m2 u h4 h3 h1 qb qd nb nd own hbase hn bx bm hu hF1 hF2 f e a w hun hdep hJ hFr hKp K hK
    · obtain rfl := Option.some.inj ho
      exact ee_s25 A w1 Q b d n ocap base oa L s vr vm m1 m2 u h4 h3 h1 qb qd nb nd own hbase hn bx bm hu hF1 hF2 f e a w hun hdep hJ hFr hKp K hK
    · obtain rfl := Option.some.inj ho
      exact ee_s26 A w1 Q b d n ocap base oa L s vr vm m1 m2 u h4 h3 h1 qb qd nb nd own hbase hn bx bm hu hF1 hF2 f e a w hun hdep hJ hFr hKp K hK
    · obtain rfl := Option.some.inj ho
      exact ee_s27 A w1 Q b d n ocap base oa L s vr vm m1 m2 u h4 h3 h1 qb qd nb nd own hbase hn bx bm hu hF1 hF2 f e a w hun hdep hJ hFr hKp K hK
    · obtain rfl := Option.some.inj ho
      exact ee_s28 A w1 Q b d n ocap base oa L s vr vm m1 m2 u h4 h3 h1 qb qd nb nd own hbase hn bx bm hu hF1 hF2 f e a w hun hdep hJ hFr hKp K hK
    · obtain rfl := Option.some.inj ho
      exact ee_s29 A w1 Q b d n ocap base oa L s vr vm m1 m2 u h4 h3 h1 qb qd nb nd own hbase hn bx bm hu hF1 hF2 f e a w hun hdep hJ hFr hKp K hK
    · obtain rfl := Option.some.inj ho
      exact ee_s30 A w1 Q b d n ocap base oa L s vr vm m1 m2 u h4 h3 h1 qb qd nb nd own hbase hn bx bm hu hF1 hF2 f e a w hun hdep hJ hFr hKp K hK
    · obtain rfl := Option.some.inj ho
      exact ee_s31 A w1 Q b d n ocap base oa L s vr vm m1 m2 u h4 h3 h1 qb qd nb nd own hbase hn bx bm hu hF1 hF2 f e a w hun hdep hJ hFr hKp K hK
    · obtain rfl := Option.some.inj ho
      exact ee_s32 A w1 Q b d n ocap base oa L s vr vm m1 m2 u h4 h3 h1 qb qd nb nd own hbase hn bx bm hu hF1 hF2 f e a w hun hdep hJ hFr hKp K hK
    · obtain rfl := Option.some.inj ho
      exact ee_s33 A w1 Q b d n ocap base oa L s vr vm m1 m2 u h4 h3 h1 qb qd nb nd own hbase hn bx bm hu hF1 hF2 f e a w hun hdep hJ hFr hKp K hK
    · obtain rfl := Option.some.inj ho
      exact ee_s34 A w1 Q b d n ocap base oa L s vr vm m1 m2 u h4 h3 h1 qb qd nb nd own hbase hn bx bm hu hF1 hF2 f e a w hun hdep hJ hFr hKp K hK
    · obtain rfl := Option.some.inj ho
      exact ee_s35 A w1 Q b d n ocap base oa L s vr vm m1 m2 u h4 h3 h1 qb qd nb nd own hbase hn bx bm hu hF1 hF2 f e a w hun hdep hJ hFr hKp K hK
    · obtain rfl := Option.some.inj ho
      exact ee_s36 A w1 Q b d n ocap base oa L s vr vm m1 m2 u h4 h3 h1 qb qd nb nd own hbase hn bx bm hu hF1 hF2 f e a w hun hdep hJ hFr hKp K hK
    · obtain rfl := Option.some.inj ho
      exact ee_s37 A w1 Q b d n ocap base oa L s vr vm m1 m2 u h4 h3 h1 qb qd nb nd own hbase hn bx bm hu hF1 hF2 f e a w hun hdep hJ hFr hKp K hK
    · obtain rfl := Option.some.inj ho
      exact ee_s38 A w1 Q b d n ocap base oa L s vr vm m1 m2 u h4 h3 h1 qb qd nb nd own hbase hn bx bm hu hF1 hF2 f e a w hun hdep hJ hFr hKp K hK
    · obtain rfl := Option.some.inj ho
      exact ee_s39 A w1 Q b d n ocap base oa L s vr vm m1 m2 u h4 h3 h1 qb qd nb nd own hbase hn bx bm hu hF1 hF2 f e a w hun hdep hJ hFr hKp K hK
    · obtain rfl := Option.some.inj ho
      exact ee_s40 A w1 Q b d n ocap base oa L s vr vm m1 m2 u h4 h3 h1 qb qd nb nd own hbase hn bx bm hu hF1 hF2 f e a w hun hdep hJ hFr hKp K hK
    · obtain rfl := Option.some.inj ho
      exact ee_s41 A w1 Q b d n ocap base oa L s vr vm m1 m2 u h4 h3 h1 qb qd nb nd own hbase hn bx bm hu hF1 hF2 f e a w hun hdep hJ hFr hKp K hK
    · obtain rfl := Option.some.inj ho
      exact ee_s42 A w1 Q b d n ocap base oa L s vr vm m1 m2 u h4 h3 h1 qb qd nb nd own hbase hn bx bm hu hF1 hF2 f e a w hun hdep hJ hFr hKp K hK
    · obtain rfl := Option.some.inj ho
      exact ee_s43 A w1 Q b d n ocap base oa L s vr vm m1 m2 u h4 h3 h1 qb qd nb nd own hbase hn bx bm hu hF1 hF2 f e a w hun hdep hJ hFr hKp K hK
    · obtain rfl := Option.some.inj ho
      exact ee_s44 A w1 Q b d n ocap base oa L s vr vm m1 m2 u h4 h3 h1 qb qd nb nd own hbase hn bx bm hu hF1 hF2 f e a w hun hdep hJ hFr hKp K hK
    · obtain rfl := Option.some.inj ho
      exact ee_s45 A w1 Q b d n ocap base oa L s vr vm m1 m2 u h4 h3 h1 qb qd nb nd own hbase hn bx bm hu hF1 hF2 f e a w hun hdep hJ hFr hKp K hK
    · obtain rfl := Option.some.inj ho
      exact ee_s46 A w1 Q b d n ocap base oa L s vr vm m1 m2 u h4 h3 h1 qb qd nb nd own hbase hn bx bm hu hF1 hF2 f e a w hun hdep hJ hFr hKp K hK
  · intro f e a w hall hJ hFr
    have := h w e ⟨hJ.1, hJ.2.2.1 (hall 45 (by decide))⟩
    rw [hFr.eq [(26, .slice oa n ocap), (27, .pointer (some ⟨d, 8, none⟩)), (28, .int .i64 s.c.f), (29, .int .u8 s.c.f), (30, .pointer (some ⟨d, 9, none⟩)), (31, .int .i64 s.c.sp), (32, .int .u8 s.c.sp), (33, .pointer (some ⟨d, 10, none⟩)), (34, .int .i64 s.c.pc), (35, .int .u8 s.c.pc), (36, .pointer (some ⟨d, 11, none⟩)), (37, .bool s.c.iff), (38, .pointer (some ⟨d, 12, none⟩)), (39, .bool s.c.ei), (40, .pointer (some ⟨d, 13, none⟩)), (41, .bool s.c.halt), (42, .pointer (some ⟨b, 14, none⟩)), (43, .pointer (some ⟨b, 18, none⟩)), (44, .bool s.m.locked), (45, .pointer (some ⟨b, 14, none⟩)), (46, .pointer (some ⟨b, 17, none⟩)), (47, .int .i64 s.m.screen), (48, .bool (s.m.screen == 3)), (49, .slice (some ⟨e.1, 0, none⟩) 5 5), (50, .int .i64 m1), (51, .int .u8 m1), (52, .pointer (some ⟨b, 14, none⟩)), (53, .pointer (some ⟨b, 16, none⟩)), (54, .int .i64 s.m.page), (55, .int .u8 s.m.page), (56, .pointer (some ⟨b, 19, none⟩)), (57, .pointer (some ⟨b, 28, none⟩)), (58, .int .i64 s.p.border), (59, .pointer (some ⟨b, 19, none⟩)), (60, .pointer (some ⟨b, 29, none⟩)), (61, .bool s.p.mic), (62, .pointer (some ⟨b, 19, none⟩)), (63, .pointer (some ⟨b, 30, none⟩)), (64, .bool s.p.beep), (65, .slice (some ⟨e.2.1, 0, none⟩) 2 2), (66, .int .i64 m2), (67, .int .i64 (m2 * 8)), (68, .int .i64 u), (69, .int .u8 u), (70, .slice (some ⟨e.2.2.1, 0, none⟩) 6 6), (71, e.2.2.2), (4, e.2.2.2)] (fun s hs => ?_) (fun i s hi => ?_)]
    · exact this
    · have hne : ∀ k ∈ ([26, 27, 28, 29, 30, 31, 32, 33, 34, 35, 36, 37, 38, 39, 40, 41, 42, 43, 44, 45, 46, 47, 48, 49, 50, 51, 52, 53, 54, 55, 56, 57, 58, 59, 60, 61, 62, 63, 64, 65, 66, 67, 68, 69, 70, 71, 4] : List Nat), k ≠ s := by
        intro k hk e2
        subst e2
        simp only [List.mem_cons, List.not_mem_nil, or_false] at hk
        rcases hk with rfl | rfl | rfl | rfl | rfl | rfl | rfl | rfl | rfl | rfl | rfl | rfl | rfl | rfl | rfl | rfl | rfl | rfl | rfl | rfl | rfl | rfl | rfl | rfl | rfl | rfl | rfl | rfl | rfl | rfl | rfl | rfl | rfl | rfl | rfl | rfl | rfl | rfl | rfl | rfl | rfl | rfl | rfl | rfl | rfl | rfl | rfl
        · exact hs 0 rfl
        · exact hs 1 rfl
        · exact hs 2 rfl
        · exact hs 3 rfl
        · exact hs 4 rfl
        · exact hs 5 rfl
        · exact hs 6 rfl
        · exact hs 7 rfl
        · exact hs 8 rfl
        · exact hs 9 rfl
        · exact hs 10 rfl
        · exact hs 11 rfl
        · exact hs 12 rfl
        · exact hs 13 rfl
        · exact hs 14 rfl
        · exact hs 15 rfl
        · exact hs 16 rfl
        · exact hs 17 rfl
        · exact hs 18 rfl
        · exact hs 19 rfl
        · exact hs 20 rfl
        · exact hs 21 rfl
        · exact hs 22 rfl
        · exact hs 23 rfl
        · exact hs 24 rfl
        · exact hs 25 rfl
        · exact hs 26 rfl
        · exact hs 27 rfl
        · exact hs 28 rfl
        · exact hs 29 rfl
        · exact hs 30 rfl
        · exact hs 31 rfl
        · exact hs 32 rfl
        · exact hs 33 rfl
        · exact hs 34 rfl
        · exact hs 35 rfl
        · exact hs 36 rfl
        · exact hs 37 rfl
        · exact hs 38 rfl
        · exact hs 39 rfl
        · exact hs 40 rfl
        · exact hs 41 rfl
        · exact hs 42 rfl
        · exact hs 43 rfl
        · exact hs 44 rfl
        · exact hs 45 rfl
        · exact hs 46 rfl
      simp only [lookA]
      simp [hne]
    · have hl : i < 47 := by
        rcases Nat.lt_or_ge i 47 with h1 | h1
        · exact h1
        · unfold dstAt at hi
          rw [Array.getElem?_eq_none (by exact h1)] at hi
          cases hi
      refine ⟨hall i hl, ?_⟩
      rcases (by omega : i = 0 ∨ i = 1 ∨ i = 2 ∨ i = 3 ∨ i = 4 ∨ i = 5 ∨ i = 6 ∨ i = 7 ∨ i = 8 ∨ i = 9 ∨ i = 10 ∨ i = 11 ∨ i = 12 ∨ i = 13 ∨ i = 14 ∨ i = 15 ∨ i = 16 ∨ i = 17 ∨ i = 18 ∨ i = 19 ∨ i = 20 ∨ i = 21 ∨ i = 22 ∨ i = 23 ∨ i = 24 ∨ i = 25 ∨ i = 26 ∨ i = 27 ∨ i = 28 ∨ i = 29 ∨ i = 30 ∨ i = 31 ∨ i = 32 ∨ i = 33 ∨ i = 34 ∨ i = 35 ∨ i = 36 ∨ i = 37 ∨ i = 38 ∨ i = 39 ∨ i = 40 ∨ i = 41 ∨ i = 42 ∨ i = 43 ∨ i = 44 ∨ i = 45 ∨ i = 46) with rfl | rfl | rfl | rfl | rfl | rfl | rfl | rfl | rfl | rfl | rfl | rfl | rfl | rfl | rfl | rfl | rfl | rfl | rfl | rfl | rfl | rfl | rfl | rfl | rfl | rfl | rfl | rfl | rfl | rfl | rfl | rfl | rfl | rfl | rfl | rfl | rfl | rfl | rfl | rfl | rfl | rfl | rfl | rfl | rfl | rfl | rfl
      all_goals first
        | (cases hi; rfl)
        | cases hi
end Go.Proofs.YtghcagibdcblnaaGreatDoor
