/- The law FnTap's drawn statement: a text with another byte in it. -/
import Derived.Test.YtakdhmlegickmaaDoorUbw
import Derived.Test.YtakdhmlegickmaaDoorIww
namespace Go.Proofs.YtakdhmlegickmaaDoor
open Go.ChangeShapes Go.WideShapes Go.ChangeAt Go.RowKit
set_option linter.unusedVariables false
set_option linter.unusedSimpArgs false

def bt_V (S : ByteArray) (m0 m1 q q1 : Nat) (y x : Int) (a1 : Option Addr) (len1 cap1 : Nat) : Nat → Nat → Value := fun i e => match i with
  | 0 => .string S
  | 1 => .int .i64 (m0 : Int)
  | 2 => .string (S.extract 0 m0)
  | 3 => .string S
  | 4 => .int .i64 (m0 : Int)
  | 5 => .int .u8 y
  | 6 => .slice a1 len1 cap1
  | 7 => .int .i64 (q : Int)
  | 8 => .int .i64 (q1 : Int)
  | 9 => .int .u8 (q1 : Int)
  | 10 => .int .u8 x
  | 11 => .slice (some ⟨e, 0, none⟩) 1 1
  | 12 => .string (strOfNums [x])
  | 13 => .string (S.extract 0 m0 ++ strOfNums [x])
  | 14 => .string S
  | 15 => .int .i64 (m0 : Int)
  | 16 => .int .i64 (m1 : Int)
  | 17 => .string (S.extract m1 S.size)
  | 18 => .string (S.extract 0 m0 ++ strOfNums [x] ++ S.extract m1 S.size)
  | 19 => .string (S.extract 0 m0 ++ strOfNums [x] ++ S.extract m1 S.size)
  | _ => undef
def bt_J (w1 : World) (S : ByteArray) (m0 m1 q q1 : Nat) (y x : Int) (a1 : Option Addr) (len1 cap1 : Nat) (f : Nat → Bool) (e : Nat) (w : World) : Prop :=
  Below w1.heap.size w1 w ∧ (f 11 = true → Blk w e #[.int .u8 x])
def bt_o0 : Oper := ({ dst := some 119, op := Op.move (Operand.tmp 13), type := 9, pos := "laws.go:537", after := #[], guard := none } : Oper)
def bt_o1 : Oper := ({ dst := some 120, op := Op.move (Operand.tmp 17), type := 3, pos := "laws.go:537", after := #[], guard := none } : Oper)
def bt_o2 : Oper := ({ dst := some 121, op := Op.slice 9 (Operand.tmp 119) none (some (Operand.tmp 120)) none, type := 9, pos := "laws.go:537", after := #[{ on := 0, ground := Ground.data }, { on := 1, ground := Ground.data }], guard := none } : Oper)
def bt_o3 : Oper := ({ dst := some 122, op := Op.move (Operand.tmp 13), type := 9, pos := "laws.go:537", after := #[], guard := none } : Oper)
def bt_o4 : Oper := ({ dst := some 123, op := Op.move (Operand.tmp 17), type := 3, pos := "laws.go:537", after := #[], guard := none } : Oper)
def bt_o5 : Oper := ({ dst := some 124, op := Op.index 9 (Operand.tmp 122) (Operand.tmp 123), type := 5, pos := "laws.go:537", after := #[{ on := 3, ground := Ground.data }, { on := 4, ground := Ground.data }], guard := none } : Oper)
def bt_o6 : Oper := ({ dst := some 125, op := Op.move (Operand.tmp 1), type := 22, pos := "laws.go:537", after := #[], guard := none } : Oper)
def bt_o7 : Oper := ({ dst := some 126, op := Op.call { callee := Callee.value (Operand.func 11), args := #[Operand.tmp 125, Operand.const (Value.int IntKind.i64 3), Operand.const (Value.int IntKind.i64 255)], argTypes := #[22, 3, 3] }, type := 3, pos := "laws.go:537", after := #[{ on := 6, ground := Ground.data }], guard := none } : Oper)
def bt_o8 : Oper := ({ dst := some 127, op := Op.binOp BinOp.add 3 (Operand.const (Value.int IntKind.i64 1)) (Operand.tmp 126) 3, type := 3, pos := "laws.go:537", after := #[{ on := 7, ground := Ground.data }], guard := none } : Oper)
def bt_o9 : Oper := ({ dst := some 128, op := Op.convert 3 5 (Operand.tmp 127), type := 5, pos := "laws.go:537", after := #[{ on := 8, ground := Ground.data }], guard := none } : Oper)
def bt_o10 : Oper := ({ dst := some 129, op := Op.binOp BinOp.xor 5 (Operand.tmp 124) (Operand.tmp 128) 5, type := 5, pos := "laws.go:537", after := #[{ on := 5, ground := Ground.data }, { on := 9, ground := Ground.data }], guard := none } : Oper)
def bt_o11 : Oper := ({ dst := some 130, op := Op.buildSlice 22 1 #[(0, Operand.tmp 129)], type := 22, pos := "laws.go:537", after := #[{ on := 10, ground := Ground.data }], guard := none } : Oper)
def bt_o12 : Oper := ({ dst := some 131, op := Op.convert 22 9 (Operand.tmp 130), type := 9, pos := "laws.go:537", after := #[{ on := 11, ground := Ground.data }], guard := none } : Oper)
def bt_o13 : Oper := ({ dst := some 132, op := Op.binOp BinOp.add 9 (Operand.tmp 121) (Operand.tmp 131) 9, type := 9, pos := "laws.go:537", after := #[{ on := 2, ground := Ground.data }, { on := 12, ground := Ground.data }], guard := none } : Oper)
def bt_o14 : Oper := ({ dst := some 133, op := Op.move (Operand.tmp 13), type := 9, pos := "laws.go:537", after := #[], guard := none } : Oper)
def bt_o15 : Oper := ({ dst := some 134, op := Op.move (Operand.tmp 17), type := 3, pos := "laws.go:537", after := #[], guard := none } : Oper)
def bt_o16 : Oper := ({ dst := some 135, op := Op.binOp BinOp.add 3 (Operand.tmp 134) (Operand.const (Value.int IntKind.i64 1)) 3, type := 3, pos := "laws.go:537", after := #[{ on := 15, ground := Ground.data }], guard := none } : Oper)
def bt_o17 : Oper := ({ dst := some 136, op := Op.slice 9 (Operand.tmp 133) (some (Operand.tmp 135)) none none, type := 9, pos := "laws.go:537", after := #[{ on := 14, ground := Ground.data }, { on := 16, ground := Ground.data }], guard := none } : Oper)
def bt_o18 : Oper := ({ dst := some 137, op := Op.binOp BinOp.add 9 (Operand.tmp 132) (Operand.tmp 136) 9, type := 9, pos := "laws.go:537", after := #[{ on := 13, ground := Ground.data }, { on := 17, ground := Ground.data }], guard := none } : Oper)
def bt_o19 : Oper := ({ dst := some 18, op := Op.assign (Operand.tmp 137), type := 9, pos := "laws.go:537", after := #[{ on := 18, ground := Ground.data }, { on := 7, ground := Ground.chain }, { on := 0, ground := Ground.phase }, { on := 1, ground := Ground.phase }, { on := 2, ground := Ground.phase }, { on := 3, ground := Ground.phase }, { on := 4, ground := Ground.phase }, { on := 5, ground := Ground.phase }, { on := 6, ground := Ground.phase }, { on := 7, ground := Ground.phase }, { on := 8, ground := Ground.phase }, { on := 9, ground := Ground.phase }, { on := 10, ground := Ground.phase }, { on := 11, ground := Ground.phase }, { on := 12, ground := Ground.phase }, { on := 13, ground := Ground.phase }, { on := 14, ground := Ground.phase }, { on := 15, ground := Ground.phase }, { on := 16, ground := Ground.phase }, { on := 17, ground := Ground.phase }, { on := 18, ground := Ground.phase }], guard := none } : Oper)
def bt_O : Array Oper := #[bt_o0, bt_o1, bt_o2, bt_o3, bt_o4, bt_o5, bt_o6, bt_o7, bt_o8, bt_o9, bt_o10, bt_o11, bt_o12, bt_o13, bt_o14, bt_o15, bt_o16, bt_o17, bt_o18, bt_o19]
theorem bt_no {s : Nat} (h : ([119, 120, 121, 122, 123, 124, 125, 126, 127, 128, 129, 130, 131, 132, 133, 134, 135, 136, 137, 18] : List Nat).contains s = false) : ∀ i, dstAt bt_O i ≠ some s := by
  intro i hi
  have hl : i < 20 := by
    rcases Nat.lt_or_ge i 20 with h1 | h1
    · exact h1
    · unfold dstAt at hi
      rw [Array.getElem?_eq_none (by exact h1)] at hi
      cases hi
  rcases (by omega : i = 0 ∨ i = 1 ∨ i = 2 ∨ i = 3 ∨ i = 4 ∨ i = 5 ∨ i = 6 ∨ i = 7 ∨ i = 8 ∨ i = 9 ∨ i = 10 ∨ i = 11 ∨ i = 12 ∨ i = 13 ∨ i = 14 ∨ i = 15 ∨ i = 16 ∨ i = 17 ∨ i = 18 ∨ i = 19) with rfl | rfl | rfl | rfl | rfl | rfl | rfl | rfl | rfl | rfl | rfl | rfl | rfl | rfl | rfl | rfl | rfl | rfl | rfl | rfl
  all_goals first
    | (cases hi; simp at h)
    | cases hi
theorem bt_keep (S : ByteArray) (m0 m1 q q1 : Nat) (y x : Int) (a1 : Option Addr) (len1 cap1 : Nat) {f : Nat → Bool} (e e' : Nat) (hn : f 11 = false) : ∀ j, f j = true → bt_V S m0 m1 q q1 y x a1 len1 cap1 j e' = bt_V S m0 m1 q q1 y x a1 len1 cap1 j e := by
  intro j hj
  unfold bt_V
  split
  · rfl
  · rfl
  · rfl
  · rfl
  · rfl
  · rfl
  · rfl
  · rfl
  · rfl
  · rfl
  · rfl
  · rw [hn] at hj; cases hj
  · rfl
  · rfl
  · rfl
  · rfl
  · rfl
  · rfl
  · rfl
  · rfl
  · rfl
set_option maxRecDepth 100000 in
set_option maxHeartbeats 2000000 in
theorem bt_s0 (A : Act) (w1 : World) (Q : Exit → Act → World → Prop) (S : ByteArray) (m0 m1 q q1 : Nat) (y x : Int) (a1 : Option Addr) (len1 cap1 : Nat) 
    (hS : A.tmps.getD 13 undef = .string S) (hK17 : A.tmps.getD 17 undef = .int .i64 (m0 : Int)) (h1 : A.tmps.getD 1 undef = .slice a1 len1 cap1) (hix : ∀ w, (Instr.index 9 (.string S) (.int .i64 (m0 : Int))).run Tryd.prog w = .ok (.int .u8 y) w) (hKS : m0 < S.size) (hSz : S.size ≤ 100) (hK1 : (m0 : Int) + 1 = (m1 : Int)) (hq : q < 255) (hq1 : 1 + (q : Int) = (q1 : Int)) (hx : bits .xor .u8 y (q1 : Int) = x) (hx2 : 0 ≤ x ∧ x ≤ 255) (hy : 0 ≤ y ∧ y ≤ 255) (hat : ∀ W, Below w1.heap.size w1 W → Calls Tryd.prog 11 #[.slice a1 len1 cap1, .int .i64 3, .int .i64 255] W fun r w' => r = .returned (.int .i64 (q : Int)) ∧ Below W.heap.size W w')
    (f : Nat → Bool) (e : Nat) (a : Act) (w : World) (hun : f 0 = false) (hdep : ∀ d ∈ bt_o0.after, Region.binds .any d = true → f d.on = true) (hJ : bt_J w1 S m0 m1 q q1 y x a1 len1 cap1 f e w) (hFr : Fr bt_O A f (fun j => bt_V S m0 m1 q q1 y x a1 len1 cap1 j e) a)
    (K : Act → World → Prop) (hK : Hid (∀ v e' w', v = bt_V S m0 m1 q q1 y x a1 len1 cap1 0 e' → (∀ j, f j = true → bt_V S m0 m1 q q1 y x a1 len1 cap1 j e' = bt_V S m0 m1 q q1 y x a1 len1 cap1 j e) → bt_J w1 S m0 m1 q q1 y x a1 len1 cap1 (fun j => j == 0 || f j) e' w' → K (a.put bt_o0.dst v) w')) :
    if Region.wanted bt_o0 (yielded bt_O a.tmps) = true then Oper.wp Tryd.prog bt_o0 a w K Q else K (a.put bt_o0.dst undef) w := by
  unfold bt_o0 at hdep hK ⊢
  have hK9 := hK
  obtain ⟨hB, h11⟩ := hJ
  have v13 := (hFr.old 13 (bt_no (by decide))).trans hS
  replace hB := hid hB
  replace h11 := hid h11
  clear hdep hFr hS hK17 h1
  go_simp
  exact hK9.out _ e _ rfl (fun _ _ => rfl) ⟨hB.out, h11.out⟩
set_option maxRecDepth 100000 in
set_option maxHeartbeats 2000000 in
theorem bt_s1 (A : Act) (w1 : World) (Q : Exit → Act → World → Prop) (S : ByteArray) (m0 m1 q q1 : Nat) (y x : Int) (a1 : Option Addr) (len1 cap1 : Nat) 
    (hS : A.tmps.getD 13 undef = .string S) (hK17 : A.tmps.getD 17 undef = .int .i64 (m0 : Int)) (h1 : A.tmps.getD 1 undef = .slice a1 len1 cap1) (hix : ∀ w, (Instr.index 9 (.string S) (.int .i64 (m0 : Int))).run Tryd.prog w = .ok (.int .u8 y) w) (hKS : m0 < S.size) (hSz : S.size ≤ 100) (hK1 : (m0 : Int) + 1 = (m1 : Int)) (hq : q < 255) (hq1 : 1 + (q : Int) = (q1 : Int)) (hx : bits .xor .u8 y (q1 : Int) = x) (hx2 : 0 ≤ x ∧ x ≤ 255) (hy : 0 ≤ y ∧ y ≤ 255) (hat : ∀ W, Below w1.heap.size w1 W → Calls Tryd.prog 11 #[.slice a1 len1 cap1, .int .i64 3, .int .i64 255] W fun r w' => r = .returned (.int .i64 (q : Int)) ∧ Below W.heap.size W w')
    (f : Nat → Bool) (e : Nat) (a : Act) (w : World) (hun : f 1 = false) (hdep : ∀ d ∈ bt_o1.after, Region.binds .any d = true → f d.on = true) (hJ : bt_J w1 S m0 m1 q q1 y x a1 len1 cap1 f e w) (hFr : Fr bt_O A f (fun j => bt_V S m0 m1 q q1 y x a1 len1 cap1 j e) a)
    (K : Act → World → Prop) (hK : Hid (∀ v e' w', v = bt_V S m0 m1 q q1 y x a1 len1 cap1 1 e' → (∀ j, f j = true → bt_V S m0 m1 q q1 y x a1 len1 cap1 j e' = bt_V S m0 m1 q q1 y x a1 len1 cap1 j e) → bt_J w1 S m0 m1 q q1 y x a1 len1 cap1 (fun j => j == 1 || f j) e' w' → K (a.put bt_o1.dst v) w')) :
    if Region.wanted bt_o1 (yielded bt_O a.tmps) = true then Oper.wp Tryd.prog bt_o1 a w K Q else K (a.put bt_o1.dst undef) w := by
  unfold bt_o1 at hdep hK ⊢
  have hK9 := hK
  obtain ⟨hB, h11⟩ := hJ
  have v17 := (hFr.old 17 (bt_no (by decide))).trans hK17
  replace hB := hid hB
  replace h11 := hid h11
  clear hdep hFr hS hK17 h1
  go_simp
  exact hK9.out _ e _ rfl (fun _ _ => rfl) ⟨hB.out, h11.out⟩
set_option maxRecDepth 100000 in
set_option maxHeartbeats 2000000 in
theorem bt_s2 (A : Act) (w1 : World) (Q : Exit → Act → World → Prop) (S : ByteArray) (m0 m1 q q1 : Nat) (y x : Int) (a1 : Option Addr) (len1 cap1 : Nat) 
    (hS : A.tmps.getD 13 undef = .string S) (hK17 : A.tmps.getD 17 undef = .int .i64 (m0 : Int)) (h1 : A.tmps.getD 1 undef = .slice a1 len1 cap1) (hix : ∀ w, (Instr.index 9 (.string S) (.int .i64 (m0 : Int))).run Tryd.prog w = .ok (.int .u8 y) w) (hKS : m0 < S.size) (hSz : S.size ≤ 100) (hK1 : (m0 : Int) + 1 = (m1 : Int)) (hq : q < 255) (hq1 : 1 + (q : Int) = (q1 : Int)) (hx : bits .xor .u8 y (q1 : Int) = x) (hx2 : 0 ≤ x ∧ x ≤ 255) (hy : 0 ≤ y ∧ y ≤ 255) (hat : ∀ W, Below w1.heap.size w1 W → Calls Tryd.prog 11 #[.slice a1 len1 cap1, .int .i64 3, .int .i64 255] W fun r w' => r = .returned (.int .i64 (q : Int)) ∧ Below W.heap.size W w')
    (f : Nat → Bool) (e : Nat) (a : Act) (w : World) (hun : f 2 = false) (hdep : ∀ d ∈ bt_o2.after, Region.binds .any d = true → f d.on = true) (hJ : bt_J w1 S m0 m1 q q1 y x a1 len1 cap1 f e w) (hFr : Fr bt_O A f (fun j => bt_V S m0 m1 q q1 y x a1 len1 cap1 j e) a)
    (K : Act → World → Prop) (hK : Hid (∀ v e' w', v = bt_V S m0 m1 q q1 y x a1 len1 cap1 2 e' → (∀ j, f j = true → bt_V S m0 m1 q q1 y x a1 len1 cap1 j e' = bt_V S m0 m1 q q1 y x a1 len1 cap1 j e) → bt_J w1 S m0 m1 q q1 y x a1 len1 cap1 (fun j => j == 2 || f j) e' w' → K (a.put bt_o2.dst v) w')) :
    if Region.wanted bt_o2 (yielded bt_O a.tmps) = true then Oper.wp Tryd.prog bt_o2 a w K Q else K (a.put bt_o2.dst undef) w := by
  unfold bt_o2 at hdep hK ⊢
  have hK9 := hK
  obtain ⟨hB, h11⟩ := hJ
  have k0 : f 0 = true := hdep { on := 0, ground := .data } (by simp) rfl
  have v119 : a.tmps.getD 119 undef = .string S := hFr.new 0 119 rfl k0
  have k1 : f 1 = true := hdep { on := 1, ground := .data } (by simp) rfl
  have v120 : a.tmps.getD 120 undef = .int .i64 (m0 : Int) := hFr.new 1 120 rfl k1
  have kb0 : (0 : Int) ≤ (m0 : Int) := by omega
  have kb1 : (m0 : Int) ≤ (S.size : Int) := by omega
  have kb2 : (0 : Int) ≤ (m1 : Int) := by omega
  have kb3 : (m1 : Int) ≤ (S.size : Int) := by omega
  replace hB := hid hB
  replace h11 := hid h11
  clear hdep hFr hS hK17 h1
  go_simp
  exact hK9.out _ e _ rfl (fun _ _ => rfl) ⟨hB.out, h11.out⟩
set_option maxRecDepth 100000 in
set_option maxHeartbeats 2000000 in
theorem bt_s3 (A : Act) (w1 : World) (Q : Exit → Act → World → Prop) (S : ByteArray) (m0 m1 q q1 : Nat) (y x : Int) (a1 : Option Addr) (len1 cap1 : Nat) 
    (hS : A.tmps.getD 13 undef = .string S) (hK17 : A.tmps.getD 17 undef = .int .i64 (m0 : Int)) (h1 : A.tmps.getD 1 undef = .slice a1 len1 cap1) (hix : ∀ w, (Instr.index 9 (.string S) (.int .i64 (m0 : Int))).run Tryd.prog w = .ok (.int .u8 y) w) (hKS : m0 < S.size) (hSz : S.size ≤ 100) (hK1 : (m0 : Int) + 1 = (m1 : Int)) (hq : q < 255) (hq1 : 1 + (q : Int) = (q1 : Int)) (hx : bits .xor .u8 y (q1 : Int) = x) (hx2 : 0 ≤ x ∧ x ≤ 255) (hy : 0 ≤ y ∧ y ≤ 255) (hat : ∀ W, Below w1.heap.size w1 W → Calls Tryd.prog 11 #[.slice a1 len1 cap1, .int .i64 3, .int .i64 255] W fun r w' => r = .returned (.int .i64 (q : Int)) ∧ Below W.heap.size W w')
    (f : Nat → Bool) (e : Nat) (a : Act) (w : World) (hun : f 3 = false) (hdep : ∀ d ∈ bt_o3.after, Region.binds .any d = true → f d.on = true) (hJ : bt_J w1 S m0 m1 q q1 y x a1 len1 cap1 f e w) (hFr : Fr bt_O A f (fun j => bt_V S m0 m1 q q1 y x a1 len1 cap1 j e) a)
    (K : Act → World → Prop) (hK : Hid (∀ v e' w', v = bt_V S m0 m1 q q1 y x a1 len1 cap1 3 e' → (∀ j, f j = true → bt_V S m0 m1 q q1 y x a1 len1 cap1 j e' = bt_V S m0 m1 q q1 y x a1 len1 cap1 j e) → bt_J w1 S m0 m1 q q1 y x a1 len1 cap1 (fun j => j == 3 || f j) e' w' → K (a.put bt_o3.dst v) w')) :
    if Region.wanted bt_o3 (yielded bt_O a.tmps) = true then Oper.wp Tryd.prog bt_o3 a w K Q else K (a.put bt_o3.dst undef) w := by
  unfold bt_o3 at hdep hK ⊢
  have hK9 := hK
  obtain ⟨hB, h11⟩ := hJ
  have v13 := (hFr.old 13 (bt_no (by decide))).trans hS
  replace hB := hid hB
  replace h11 := hid h11
  clear hdep hFr hS hK17 h1
  go_simp
  exact hK9.out _ e _ rfl (fun _ _ => rfl) ⟨hB.out, h11.out⟩
set_option maxRecDepth 100000 in
set_option maxHeartbeats 2000000 in
theorem bt_s4 (A : Act) (w1 : World) (Q : Exit → Act → World → Prop) (S : ByteArray) (m0 m1 q q1 : Nat) (y x : Int) (a1 : Option Addr) (len1 cap1 : Nat) 
    (hS : A.tmps.getD 13 undef = .string S) (hK17 : A.tmps.getD 17 undef = .int .i64 (m0 : Int)) (h1 : A.tmps.getD 1 undef = .slice a1 len1 cap1) (hix : ∀ w, (Instr.index 9 (.string S) (.int .i64 (m0 : Int))).run Tryd.prog w = .ok (.int .u8 y) w) (hKS : m0 < S.size) (hSz : S.size ≤ 100) (hK1 : (m0 : Int) + 1 = (m1 : Int)) (hq : q < 255) (hq1 : 1 + (q : Int) = (q1 : Int)) (hx : bits .xor .u8 y (q1 : Int) = x) (hx2 : 0 ≤ x ∧ x ≤ 255) (hy : 0 ≤ y ∧ y ≤ 255) (hat : ∀ W, Below w1.heap.size w1 W → Calls Tryd.prog 11 #[.slice a1 len1 cap1, .int .i64 3, .int .i64 255] W fun r w' => r = .returned (.int .i64 (q : Int)) ∧ Below W.heap.size W w')
    (f : Nat → Bool) (e : Nat) (a : Act) (w : World) (hun : f 4 = false) (hdep : ∀ d ∈ bt_o4.after, Region.binds .any d = true → f d.on = true) (hJ : bt_J w1 S m0 m1 q q1 y x a1 len1 cap1 f e w) (hFr : Fr bt_O A f (fun j => bt_V S m0 m1 q q1 y x a1 len1 cap1 j e) a)
    (K : Act → World → Prop) (hK : Hid (∀ v e' w', v = bt_V S m0 m1 q q1 y x a1 len1 cap1 4 e' → (∀ j, f j = true → bt_V S m0 m1 q q1 y x a1 len1 cap1 j e' = bt_V S m0 m1 q q1 y x a1 len1 cap1 j e) → bt_J w1 S m0 m1 q q1 y x a1 len1 cap1 (fun j => j == 4 || f j) e' w' → K (a.put bt_o4.dst v) w')) :
    if Region.wanted bt_o4 (yielded bt_O a.tmps) = true then Oper.wp Tryd.prog bt_o4 a w K Q else K (a.put bt_o4.dst undef) w := by
  unfold bt_o4 at hdep hK ⊢
  have hK9 := hK
  obtain ⟨hB, h11⟩ := hJ
  have v17 := (hFr.old 17 (bt_no (by decide))).trans hK17
  replace hB := hid hB
  replace h11 := hid h11
  clear hdep hFr hS hK17 h1
  go_simp
  exact hK9.out _ e _ rfl (fun _ _ => rfl) ⟨hB.out, h11.out⟩
set_option maxRecDepth 100000 in
set_option maxHeartbeats 2000000 in
theorem bt_s5 (A : Act) (w1 : World) (Q : Exit → Act → World → Prop) (S : ByteArray) (m0 m1 q q1 : Nat) (y x : Int) (a1 : Option Addr) (len1 cap1 : Nat) 
    (hS : A.tmps.getD 13 undef = .string S) (hK17 : A.tmps.getD 17 undef = .int .i64 (m0 : Int)) (h1 : A.tmps.getD 1 undef = .slice a1 len1 cap1) (hix : ∀ w, (Instr.index 9 (.string S) (.int .i64 (m0 : Int))).run Tryd.prog w = .ok (.int .u8 y) w) (hKS : m0 < S.size) (hSz : S.size ≤ 100) (hK1 : (m0 : Int) + 1 = (m1 : Int)) (hq : q < 255) (hq1 : 1 + (q : Int) = (q1 : Int)) (hx : bits .xor .u8 y (q1 : Int) = x) (hx2 : 0 ≤ x ∧ x ≤ 255) (hy : 0 ≤ y ∧ y ≤ 255) (hat : ∀ W, Below w1.heap.size w1 W → Calls Tryd.prog 11 #[.slice a1 len1 cap1, .int .i64 3, .int .i64 255] W fun r w' => r = .returned (.int .i64 (q : Int)) ∧ Below W.heap.size W w')
    (f : Nat → Bool) (e : Nat) (a : Act) (w : World) (hun : f 5 = false) (hdep : ∀ d ∈ bt_o5.after, Region.binds .any d = true → f d.on = true) (hJ : bt_J w1 S m0 m1 q q1 y x a1 len1 cap1 f e w) (hFr : Fr bt_O A f (fun j => bt_V S m0 m1 q q1 y x a1 len1 cap1 j e) a)
    (K : Act → World → Prop) (hK : Hid (∀ v e' w', v = bt_V S m0 m1 q q1 y x a1 len1 cap1 5 e' → (∀ j, f j = true → bt_V S m0 m1 q q1 y x a1 len1 cap1 j e' = bt_V S m0 m1 q q1 y x a1 len1 cap1 j e) → bt_J w1 S m0 m1 q q1 y x a1 len1 cap1 (fun j => j == 5 || f j) e' w' → K (a.put bt_o5.dst v) w')) :
    if Region.wanted bt_o5 (yielded bt_O a.tmps) = true then Oper.wp Tryd.prog bt_o5 a w K Q else K (a.put bt_o5.dst undef) w := by
  unfold bt_o5 at hdep hK ⊢
  have hK9 := hK
  obtain ⟨hB, h11⟩ := hJ
  have k3 : f 3 = true := hdep { on := 3, ground := .data } (by simp) rfl
  have v122 : a.tmps.getD 122 undef = .string S := hFr.new 3 122 rfl k3
  have k4 : f 4 = true := hdep { on := 4, ground := .data } (by simp) rfl
  have v123 : a.tmps.getD 123 undef = .int .i64 (m0 : Int) := hFr.new 4 123 rfl k4
  replace hB := hid hB
  replace h11 := hid h11
  clear hdep hFr hS hK17 h1
  go_simp
  exact hK9.out _ e _ rfl (fun _ _ => rfl) ⟨hB.out, h11.out⟩
set_option maxRecDepth 100000 in
set_option maxHeartbeats 2000000 in
theorem bt_s6 (A : Act) (w1 : World) (Q : Exit → Act → World → Prop) (S : ByteArray) (m0 m1 q q1 : Nat) (y x : Int) (a1 : Option Addr) (len1 cap1 : Nat) 
    (hS : A.tmps.getD 13 undef = .string S) (hK17 : A.tmps.getD 17 undef = .int .i64 (m0 : Int)) (h1 : A.tmps.getD 1 undef = .slice a1 len1 cap1) (hix : ∀ w, (Instr.index 9 (.string S) (.int .i64 (m0 : Int))).run Tryd.prog w = .ok (.int .u8 y) w) (hKS : m0 < S.size) (hSz : S.size ≤ 100) (hK1 : (m0 : Int) + 1 = (m1 : Int)) (hq : q < 255) (hq1 : 1 + (q : Int) = (q1 : Int)) (hx : bits .xor .u8 y (q1 : Int) = x) (hx2 : 0 ≤ x ∧ x ≤ 255) (hy : 0 ≤ y ∧ y ≤ 255) (hat : ∀ W, Below w1.heap.size w1 W → Calls Tryd.prog 11 #[.slice a1 len1 cap1, .int .i64 3, .int .i64 255] W fun r w' => r = .returned (.int .i64 (q : Int)) ∧ Below W.heap.size W w')
    (f : Nat → Bool) (e : Nat) (a : Act) (w : World) (hun : f 6 = false) (hdep : ∀ d ∈ bt_o6.after, Region.binds .any d = true → f d.on = true) (hJ : bt_J w1 S m0 m1 q q1 y x a1 len1 cap1 f e w) (hFr : Fr bt_O A f (fun j => bt_V S m0 m1 q q1 y x a1 len1 cap1 j e) a)
    (K : Act → World → Prop) (hK : Hid (∀ v e' w', v = bt_V S m0 m1 q q1 y x a1 len1 cap1 6 e' → (∀ j, f j = true → bt_V S m0 m1 q q1 y x a1 len1 cap1 j e' = bt_V S m0 m1 q q1 y x a1 len1 cap1 j e) → bt_J w1 S m0 m1 q q1 y x a1 len1 cap1 (fun j => j == 6 || f j) e' w' → K (a.put bt_o6.dst v) w')) :
    if Region.wanted bt_o6 (yielded bt_O a.tmps) = true then Oper.wp Tryd.prog bt_o6 a w K Q else K (a.put bt_o6.dst undef) w := by
  unfold bt_o6 at hdep hK ⊢
  have hK9 := hK
  obtain ⟨hB, h11⟩ := hJ
  have v1 := (hFr.old 1 (bt_no (by decide))).trans h1
  replace hB := hid hB
  replace h11 := hid h11
  clear hdep hFr hS hK17 h1
  go_simp
  exact hK9.out _ e _ rfl (fun _ _ => rfl) ⟨hB.out, h11.out⟩
set_option maxRecDepth 100000 in
set_option maxHeartbeats 2000000 in
theorem bt_s7 (A : Act) (w1 : World) (Q : Exit → Act → World → Prop) (S : ByteArray) (m0 m1 q q1 : Nat) (y x : Int) (a1 : Option Addr) (len1 cap1 : Nat) 
    (hS : A.tmps.getD 13 undef = .string S) (hK17 : A.tmps.getD 17 undef = .int .i64 (m0 : Int)) (h1 : A.tmps.getD 1 undef = .slice a1 len1 cap1) (hix : ∀ w, (Instr.index 9 (.string S) (.int .i64 (m0 : Int))).run Tryd.prog w = .ok (.int .u8 y) w) (hKS : m0 < S.size) (hSz : S.size ≤ 100) (hK1 : (m0 : Int) + 1 = (m1 : Int)) (hq : q < 255) (hq1 : 1 + (q : Int) = (q1 : Int)) (hx : bits .xor .u8 y (q1 : Int) = x) (hx2 : 0 ≤ x ∧ x ≤ 255) (hy : 0 ≤ y ∧ y ≤ 255) (hat : ∀ W, Below w1.heap.size w1 W → Calls Tryd.prog 11 #[.slice a1 len1 cap1, .int .i64 3, .int .i64 255] W fun r w' => r = .returned (.int .i64 (q : Int)) ∧ Below W.heap.size W w')
    (f : Nat → Bool) (e : Nat) (a : Act) (w : World) (hun : f 7 = false) (hdep : ∀ d ∈ bt_o7.after, Region.binds .any d = true → f d.on = true) (hJ : bt_J w1 S m0 m1 q q1 y x a1 len1 cap1 f e w) (hFr : Fr bt_O A f (fun j => bt_V S m0 m1 q q1 y x a1 len1 cap1 j e) a)
    (K : Act → World → Prop) (hK : Hid (∀ v e' w', v = bt_V S m0 m1 q q1 y x a1 len1 cap1 7 e' → (∀ j, f j = true → bt_V S m0 m1 q q1 y x a1 len1 cap1 j e' = bt_V S m0 m1 q q1 y x a1 len1 cap1 j e) → bt_J w1 S m0 m1 q q1 y x a1 len1 cap1 (fun j => j == 7 || f j) e' w' → K (a.put bt_o7.dst v) w')) :
    if Region.wanted bt_o7 (yielded bt_O a.tmps) = true then Oper.wp Tryd.prog bt_o7 a w K Q else K (a.put bt_o7.dst undef) w := by
  unfold bt_o7 at hdep hK ⊢
  have hK9 := hK
  obtain ⟨hB, h11⟩ := hJ
  have k6 : f 6 = true := hdep { on := 6, ground := .data } (by simp) rfl
  have v125 : a.tmps.getD 125 undef = .slice a1 len1 cap1 := hFr.new 6 125 rfl k6
  replace hB := hid hB
  replace h11 := hid h11
  clear hdep hFr hS hK17 h1
  go_simp
  go_at_call 11
  refine (hat _ hB.out).mono ?_
  rintro r w' ⟨rfl, hb'⟩
  replace hb' := hid hb'
  go_simp
  exact hK9.out _ e _ rfl (fun _ _ => rfl) ⟨new_trans hB.out hb'.out, fun h => (h11.out h).below hb'.out (h11.out h).lt⟩
set_option maxRecDepth 100000 in
set_option maxHeartbeats 2000000 in
theorem bt_s8 (A : Act) (w1 : World) (Q : Exit → Act → World → Prop) (S : ByteArray) (m0 m1 q q1 : Nat) (y x : Int) (a1 : Option Addr) (len1 cap1 : Nat) 
    (hS : A.tmps.getD 13 undef = .string S) (hK17 : A.tmps.getD 17 undef = .int .i64 (m0 : Int)) (h1 : A.tmps.getD 1 undef = .slice a1 len1 cap1) (hix : ∀ w, (Instr.index 9 (.string S) (.int .i64 (m0 : Int))).run Tryd.prog w = .ok (.int .u8 y) w) (hKS : m0 < S.size) (hSz : S.size ≤ 100) (hK1 : (m0 : Int) + 1 = (m1 : Int)) (hq : q < 255) (hq1 : 1 + (q : Int) = (q1 : Int)) (hx : bits .xor .u8 y (q1 : Int) = x) (hx2 : 0 ≤ x ∧ x ≤ 255) (hy : 0 ≤ y ∧ y ≤ 255) (hat : ∀ W, Below w1.heap.size w1 W → Calls Tryd.prog 11 #[.slice a1 len1 cap1, .int .i64 3, .int .i64 255] W fun r w' => r = .returned (.int .i64 (q : Int)) ∧ Below W.heap.size W w')
    (f : Nat → Bool) (e : Nat) (a : Act) (w : World) (hun : f 8 = false) (hdep : ∀ d ∈ bt_o8.after, Region.binds .any d = true → f d.on = true) (hJ : bt_J w1 S m0 m1 q q1 y x a1 len1 cap1 f e w) (hFr : Fr bt_O A f (fun j => bt_V S m0 m1 q q1 y x a1 len1 cap1 j e) a)
    (K : Act → World → Prop) (hK : Hid (∀ v e' w', v = bt_V S m0 m1 q q1 y x a1 len1 cap1 8 e' → (∀ j, f j = true → bt_V S m0 m1 q q1 y x a1 len1 cap1 j e' = bt_V S m0 m1 q q1 y x a1 len1 cap1 j e) → bt_J w1 S m0 m1 q q1 y x a1 len1 cap1 (fun j => j == 8 || f j) e' w' → K (a.put bt_o8.dst v) w')) :
    if Region.wanted bt_o8 (yielded bt_O a.tmps) = true then Oper.wp Tryd.prog bt_o8 a w K Q else K (a.put bt_o8.dst undef) w := by
  unfold bt_o8 at hdep hK ⊢
  have hK9 := hK
  obtain ⟨hB, h11⟩ := hJ
  have k7 : f 7 = true := hdep { on := 7, ground := .data } (by simp) rfl
  have v126 : a.tmps.getD 126 undef = .int .i64 (q : Int) := hFr.new 7 126 rfl k7
  have hw : IntKind.i64.wrap (q1 : Int) = (q1 : Int) := by rw [IntKind.wrap_i64]; omega
  replace hB := hid hB
  replace h11 := hid h11
  clear hdep hFr hS hK17 h1
  go_simp
  exact hK9.out _ e _ rfl (fun _ _ => rfl) ⟨hB.out, h11.out⟩
set_option maxRecDepth 100000 in
set_option maxHeartbeats 2000000 in
theorem bt_s9 (A : Act) (w1 : World) (Q : Exit → Act → World → Prop) (S : ByteArray) (m0 m1 q q1 : Nat) (y x : Int) (a1 : Option Addr) (len1 cap1 : Nat) 
    (hS : A.tmps.getD 13 undef = .string S) (hK17 : A.tmps.getD 17 undef = .int .i64 (m0 : Int)) (h1 : A.tmps.getD 1 undef = .slice a1 len1 cap1) (hix : ∀ w, (Instr.index 9 (.string S) (.int .i64 (m0 : Int))).run Tryd.prog w = .ok (.int .u8 y) w) (hKS : m0 < S.size) (hSz : S.size ≤ 100) (hK1 : (m0 : Int) + 1 = (m1 : Int)) (hq : q < 255) (hq1 : 1 + (q : Int) = (q1 : Int)) (hx : bits .xor .u8 y (q1 : Int) = x) (hx2 : 0 ≤ x ∧ x ≤ 255) (hy : 0 ≤ y ∧ y ≤ 255) (hat : ∀ W, Below w1.heap.size w1 W → Calls Tryd.prog 11 #[.slice a1 len1 cap1, .int .i64 3, .int .i64 255] W fun r w' => r = .returned (.int .i64 (q : Int)) ∧ Below W.heap.size W w')
    (f : Nat → Bool) (e : Nat) (a : Act) (w : World) (hun : f 9 = false) (hdep : ∀ d ∈ bt_o9.after, Region.binds .any d = true → f d.on = true) (hJ : bt_J w1 S m0 m1 q q1 y x a1 len1 cap1 f e w) (hFr : Fr bt_O A f (fun j => bt_V S m0 m1 q q1 y x a1 len1 cap1 j e) a)
    (K : Act → World → Prop) (hK : Hid (∀ v e' w', v = bt_V S m0 m1 q q1 y x a1 len1 cap1 9 e' → (∀ j, f j = true → bt_V S m0 m1 q q1 y x a1 len1 cap1 j e' = bt_V S m0 m1 q q1 y x a1 len1 cap1 j e) → bt_J w1 S m0 m1 q q1 y x a1 len1 cap1 (fun j => j == 9 || f j) e' w' → K (a.put bt_o9.dst v) w')) :
    if Region.wanted bt_o9 (yielded bt_O a.tmps) = true then Oper.wp Tryd.prog bt_o9 a w K Q else K (a.put bt_o9.dst undef) w := by
  unfold bt_o9 at hdep hK ⊢
  have hK9 := hK
  obtain ⟨hB, h11⟩ := hJ
  have k8 : f 8 = true := hdep { on := 8, ground := .data } (by simp) rfl
  have v127 : a.tmps.getD 127 undef = .int .i64 (q1 : Int) := hFr.new 8 127 rfl k8
  have hw : IntKind.u8.wrap (q1 : Int) = (q1 : Int) := by simp [IntKind.wrap, IntKind.signed, IntKind.bits]; omega
  have hw2 : (q1 : Int) % 256 = (q1 : Int) := by omega
  replace hB := hid hB
  replace h11 := hid h11
  clear hdep hFr hS hK17 h1
  go_simp
  exact hK9.out _ e _ rfl (fun _ _ => rfl) ⟨hB.out, h11.out⟩
set_option maxRecDepth 100000 in
set_option maxHeartbeats 2000000 in
theorem bt_s10 (A : Act) (w1 : World) (Q : Exit → Act → World → Prop) (S : ByteArray) (m0 m1 q q1 : Nat) (y x : Int) (a1 : Option Addr) (len1 cap1 : Nat) 
    (hS : A.tmps.getD 13 undef = .string S) (hK17 : A.tmps.getD 17 undef = .int .i64 (m0 : Int)) (h1 : A.tmps.getD 1 undef = .slice a1 len1 cap1) (hix : ∀ w, (Instr.index 9 (.string S) (.int .i64 (m0 : Int))).run Tryd.prog w = .ok (.int .u8 y) w) (hKS : m0 < S.size) (hSz : S.size ≤ 100) (hK1 : (m0 : Int) + 1 = (m1 : Int)) (hq : q < 255) (hq1 : 1 + (q : Int) = (q1 : Int)) (hx : bits .xor .u8 y (q1 : Int) = x) (hx2 : 0 ≤ x ∧ x ≤ 255) (hy : 0 ≤ y ∧ y ≤ 255) (hat : ∀ W, Below w1.heap.size w1 W → Calls Tryd.prog 11 #[.slice a1 len1 cap1, .int .i64 3, .int .i64 255] W fun r w' => r = .returned (.int .i64 (q : Int)) ∧ Below W.heap.size W w')
    (f : Nat → Bool) (e : Nat) (a : Act) (w : World) (hun : f 10 = false) (hdep : ∀ d ∈ bt_o10.after, Region.binds .any d = true → f d.on = true) (hJ : bt_J w1 S m0 m1 q q1 y x a1 len1 cap1 f e w) (hFr : Fr bt_O A f (fun j => bt_V S m0 m1 q q1 y x a1 len1 cap1 j e) a)
    (K : Act → World → Prop) (hK : Hid (∀ v e' w', v = bt_V S m0 m1 q q1 y x a1 len1 cap1 10 e' → (∀ j, f j = true → bt_V S m0 m1 q q1 y x a1 len1 cap1 j e' = bt_V S m0 m1 q q1 y x a1 len1 cap1 j e) → bt_J w1 S m0 m1 q q1 y x a1 len1 cap1 (fun j => j == 10 || f j) e' w' → K (a.put bt_o10.dst v) w')) :
    if Region.wanted bt_o10 (yielded bt_O a.tmps) = true then Oper.wp Tryd.prog bt_o10 a w K Q else K (a.put bt_o10.dst undef) w := by
  unfold bt_o10 at hdep hK ⊢
  have hK9 := hK
  obtain ⟨hB, h11⟩ := hJ
  have k5 : f 5 = true := hdep { on := 5, ground := .data } (by simp) rfl
  have v124 : a.tmps.getD 124 undef = .int .u8 y := hFr.new 5 124 rfl k5
  have k9 : f 9 = true := hdep { on := 9, ground := .data } (by simp) rfl
  have v128 : a.tmps.getD 128 undef = .int .u8 (q1 : Int) := hFr.new 9 128 rfl k9
  replace hB := hid hB
  replace h11 := hid h11
  clear hdep hFr hS hK17 h1
  go_simp
  exact hK9.out _ e _ rfl (fun _ _ => rfl) ⟨hB.out, h11.out⟩
set_option maxRecDepth 100000 in
set_option maxHeartbeats 2000000 in
theorem bt_s11 (A : Act) (w1 : World) (Q : Exit → Act → World → Prop) (S : ByteArray) (m0 m1 q q1 : Nat) (y x : Int) (a1 : Option Addr) (len1 cap1 : Nat) 
    (hS : A.tmps.getD 13 undef = .string S) (hK17 : A.tmps.getD 17 undef = .int .i64 (m0 : Int)) (h1 : A.tmps.getD 1 undef = .slice a1 len1 cap1) (hix : ∀ w, (Instr.index 9 (.string S) (.int .i64 (m0 : Int))).run Tryd.prog w = .ok (.int .u8 y) w) (hKS : m0 < S.size) (hSz : S.size ≤ 100) (hK1 : (m0 : Int) + 1 = (m1 : Int)) (hq : q < 255) (hq1 : 1 + (q : Int) = (q1 : Int)) (hx : bits .xor .u8 y (q1 : Int) = x) (hx2 : 0 ≤ x ∧ x ≤ 255) (hy : 0 ≤ y ∧ y ≤ 255) (hat : ∀ W, Below w1.heap.size w1 W → Calls Tryd.prog 11 #[.slice a1 len1 cap1, .int .i64 3, .int .i64 255] W fun r w' => r = .returned (.int .i64 (q : Int)) ∧ Below W.heap.size W w')
    (f : Nat → Bool) (e : Nat) (a : Act) (w : World) (hun : f 11 = false) (hdep : ∀ d ∈ bt_o11.after, Region.binds .any d = true → f d.on = true) (hJ : bt_J w1 S m0 m1 q q1 y x a1 len1 cap1 f e w) (hFr : Fr bt_O A f (fun j => bt_V S m0 m1 q q1 y x a1 len1 cap1 j e) a)
    (K : Act → World → Prop) (hK : Hid (∀ v e' w', v = bt_V S m0 m1 q q1 y x a1 len1 cap1 11 e' → (∀ j, f j = true → bt_V S m0 m1 q q1 y x a1 len1 cap1 j e' = bt_V S m0 m1 q q1 y x a1 len1 cap1 j e) → bt_J w1 S m0 m1 q q1 y x a1 len1 cap1 (fun j => j == 11 || f j) e' w' → K (a.put bt_o11.dst v) w')) :
    if Region.wanted bt_o11 (yielded bt_O a.tmps) = true then Oper.wp Tryd.prog bt_o11 a w K Q else K (a.put bt_o11.dst undef) w := by
  unfold bt_o11 at hdep hK ⊢
  have hK9 := hK
  obtain ⟨hB, h11⟩ := hJ
  have k10 : f 10 = true := hdep { on := 10, ground := .data } (by simp) rfl
  have v129 : a.tmps.getD 129 undef = .int .u8 x := hFr.new 10 129 rfl k10
  have v129b : a.tmps[129]?.getD undef = .int .u8 x := by simpa using v129
  have hal := hid ((Below.refl w.heap.size w).alloc (Nat.le_refl _) (.cells #[.int .u8 x] 5))
  have hn := hid (Blk.new w #[.int .u8 x] 5)
  replace hB := hid hB
  replace h11 := hid h11
  clear hdep hFr hS hK17 h1
  go_simp
  exact hK9.out _ w.heap.size _ rfl (bt_keep S m0 m1 q q1 y x a1 len1 cap1 e w.heap.size hun) ⟨new_trans hB.out hal.out, fun _ => hn.out⟩
set_option maxRecDepth 100000 in
set_option maxHeartbeats 2000000 in
theorem bt_s12 (A : Act) (w1 : World) (Q : Exit → Act → World → Prop) (S : ByteArray) (m0 m1 q q1 : Nat) (y x : Int) (a1 : Option Addr) (len1 cap1 : Nat) 
    (hS : A.tmps.getD 13 undef = .string S) (hK17 : A.tmps.getD 17 undef = .int .i64 (m0 : Int)) (h1 : A.tmps.getD 1 undef = .slice a1 len1 cap1) (hix : ∀ w, (Instr.index 9 (.string S) (.int .i64 (m0 : Int))).run Tryd.prog w = .ok (.int .u8 y) w) (hKS : m0 < S.size) (hSz : S.size ≤ 100) (hK1 : (m0 : Int) + 1 = (m1 : Int)) (hq : q < 255) (hq1 : 1 + (q : Int) = (q1 : Int)) (hx : bits .xor .u8 y (q1 : Int) = x) (hx2 : 0 ≤ x ∧ x ≤ 255) (hy : 0 ≤ y ∧ y ≤ 255) (hat : ∀ W, Below w1.heap.size w1 W → Calls Tryd.prog 11 #[.slice a1 len1 cap1, .int .i64 3, .int .i64 255] W fun r w' => r = .returned (.int .i64 (q : Int)) ∧ Below W.heap.size W w')
    (f : Nat → Bool) (e : Nat) (a : Act) (w : World) (hun : f 12 = false) (hdep : ∀ d ∈ bt_o12.after, Region.binds .any d = true → f d.on = true) (hJ : bt_J w1 S m0 m1 q q1 y x a1 len1 cap1 f e w) (hFr : Fr bt_O A f (fun j => bt_V S m0 m1 q q1 y x a1 len1 cap1 j e) a)
    (K : Act → World → Prop) (hK : Hid (∀ v e' w', v = bt_V S m0 m1 q q1 y x a1 len1 cap1 12 e' → (∀ j, f j = true → bt_V S m0 m1 q q1 y x a1 len1 cap1 j e' = bt_V S m0 m1 q q1 y x a1 len1 cap1 j e) → bt_J w1 S m0 m1 q q1 y x a1 len1 cap1 (fun j => j == 12 || f j) e' w' → K (a.put bt_o12.dst v) w')) :
    if Region.wanted bt_o12 (yielded bt_O a.tmps) = true then Oper.wp Tryd.prog bt_o12 a w K Q else K (a.put bt_o12.dst undef) w := by
  unfold bt_o12 at hdep hK ⊢
  have hK9 := hK
  obtain ⟨hB, h11⟩ := hJ
  have k11 : f 11 = true := hdep { on := 11, ground := .data } (by simp) rfl
  have v130 : a.tmps.getD 130 undef = .slice (some ⟨e, 0, none⟩) 1 1 := hFr.new 11 130 rfl k11
  have yy := conv1 (h11 k11)
  replace hB := hid hB
  replace h11 := hid h11
  clear hdep hFr hS hK17 h1
  go_simp
  exact hK9.out _ e _ rfl (fun _ _ => rfl) ⟨hB.out, h11.out⟩
set_option maxRecDepth 100000 in
set_option maxHeartbeats 2000000 in
theorem bt_s13 (A : Act) (w1 : World) (Q : Exit → Act → World → Prop) (S : ByteArray) (m0 m1 q q1 : Nat) (y x : Int) (a1 : Option Addr) (len1 cap1 : Nat) 
    (hS : A.tmps.getD 13 undef = .string S) (hK17 : A.tmps.getD 17 undef = .int .i64 (m0 : Int)) (h1 : A.tmps.getD 1 undef = .slice a1 len1 cap1) (hix : ∀ w, (Instr.index 9 (.string S) (.int .i64 (m0 : Int))).run Tryd.prog w = .ok (.int .u8 y) w) (hKS : m0 < S.size) (hSz : S.size ≤ 100) (hK1 : (m0 : Int) + 1 = (m1 : Int)) (hq : q < 255) (hq1 : 1 + (q : Int) = (q1 : Int)) (hx : bits .xor .u8 y (q1 : Int) = x) (hx2 : 0 ≤ x ∧ x ≤ 255) (hy : 0 ≤ y ∧ y ≤ 255) (hat : ∀ W, Below w1.heap.size w1 W → Calls Tryd.prog 11 #[.slice a1 len1 cap1, .int .i64 3, .int .i64 255] W fun r w' => r = .returned (.int .i64 (q : Int)) ∧ Below W.heap.size W w')
    (f : Nat → Bool) (e : Nat) (a : Act) (w : World) (hun : f 13 = false) (hdep : ∀ d ∈ bt_o13.after, Region.binds .any d = true → f d.on = true) (hJ : bt_J w1 S m0 m1 q q1 y x a1 len1 cap1 f e w) (hFr : Fr bt_O A f (fun j => bt_V S m0 m1 q q1 y x a1 len1 cap1 j e) a)
    (K : Act → World → Prop) (hK : Hid (∀ v e' w', v = bt_V S m0 m1 q q1 y x a1 len1 cap1 13 e' → (∀ j, f j = true → bt_V S m0 m1 q q1 y x a1 len1 cap1 j e' = bt_V S m0 m1 q q1 y x a1 len1 cap1 j e) → bt_J w1 S m0 m1 q q1 y x a1 len1 cap1 (fun j => j == 13 || f j) e' w' → K (a.put bt_o13.dst v) w')) :
    if Region.wanted bt_o13 (yielded bt_O a.tmps) = true then Oper.wp Tryd.prog bt_o13 a w K Q else K (a.put bt_o13.dst undef) w := by
  unfold bt_o13 at hdep hK ⊢
  have hK9 := hK
  obtain ⟨hB, h11⟩ := hJ
  have k2 : f 2 = true := hdep { on := 2, ground := .data } (by simp) rfl
  have v121 : a.tmps.getD 121 undef = .string (S.extract 0 m0) := hFr.new 2 121 rfl k2
  have k12 : f 12 = true := hdep { on := 12, ground := .data } (by simp) rfl
  have v131 : a.tmps.getD 131 undef = .string (strOfNums [x]) := hFr.new 12 131 rfl k12
  have z1 : (S.extract 0 m0).size = m0 := by rw [ByteArray.size_extract]; omega
  have z2 : (strOfNums [x]).size = 1 := strOfNums_size _
  have z3 : (S.extract m1 S.size).size ≤ 100 := by rw [ByteArray.size_extract]; omega
  have z4 : (S.extract 0 m0 ++ strOfNums [x]).size = m0 + 1 := by rw [ByteArray.size_append, z1, z2]
  have z5 : ¬ 9223372036854775807 < m0 + 1 := by omega
  have z7 : ¬ 9223372036854775807 < m0 + 1 + (S.size - m1) := by omega
  have z6 : ¬ 9223372036854775807 < m0 + 1 + (S.extract m1 S.size).size := by omega
  replace hB := hid hB
  replace h11 := hid h11
  clear hdep hFr hS hK17 h1
  go_simp
  exact hK9.out _ e _ rfl (fun _ _ => rfl) ⟨hB.out, h11.out⟩
set_option maxRecDepth 100000 in
set_option maxHeartbeats 2000000 in
theorem bt_s14 (A : Act) (w1 : World) (Q : Exit → Act → World → Prop) (S : ByteArray) (m0 m1 q q1 : Nat) (y x : Int) (a1 : Option Addr) (len1 cap1 : Nat) 
    (hS : A.tmps.getD 13 undef = .string S) (hK17 : A.tmps.getD 17 undef = .int .i64 (m0 : Int)) (h1 : A.tmps.getD 1 undef = .slice a1 len1 cap1) (hix : ∀ w, (Instr.index 9 (.string S) (.int .i64 (m0 : Int))).run Tryd.prog w = .ok (.int .u8 y) w) (hKS : m0 < S.size) (hSz : S.size ≤ 100) (hK1 : (m0 : Int) + 1 = (m1 : Int)) (hq : q < 255) (hq1 : 1 + (q : Int) = (q1 : Int)) (hx : bits .xor .u8 y (q1 : Int) = x) (hx2 : 0 ≤ x ∧ x ≤ 255) (hy : 0 ≤ y ∧ y ≤ 255) (hat : ∀ W, Below w1.heap.size w1 W → Calls Tryd.prog 11 #[.slice a1 len1 cap1, .int .i64 3, .int .i64 255] W fun r w' => r = .returned (.int .i64 (q : Int)) ∧ Below W.heap.size W w')
    (f : Nat → Bool) (e : Nat) (a : Act) (w : World) (hun : f 14 = false) (hdep : ∀ d ∈ bt_o14.after, Region.binds .any d = true → f d.on = true) (hJ : bt_J w1 S m0 m1 q q1 y x a1 len1 cap1 f e w) (hFr : Fr bt_O A f (fun j => bt_V S m0 m1 q q1 y x a1 len1 cap1 j e) a)
    (K : Act → World → Prop) (hK : Hid (∀ v e' w', v = bt_V S m0 m1 q q1 y x a1 len1 cap1 14 e' → (∀ j, f j = true → bt_V S m0 m1 q q1 y x a1 len1 cap1 j e' = bt_V S m0 m1 q q1 y x a1 len1 cap1 j e) → bt_J w1 S m0 m1 q q1 y x a1 len1 cap1 (fun j => j == 14 || f j) e' w' → K (a.put bt_o14.dst v) w')) :
    if Region.wanted bt_o14 (yielded bt_O a.tmps) = true then Oper.wp Tryd.prog bt_o14 a w K Q else K (a.put bt_o14.dst undef) w := by
  unfold bt_o14 at hdep hK ⊢
  have hK9 := hK
  obtain ⟨hB, h11⟩ := hJ
  have v13 := (hFr.old 13 (bt_no (by decide))).trans hS
  replace hB := hid hB
  replace h11 := hid h11
  clear hdep hFr hS hK17 h1
  go_simp
  exact hK9.out _ e _ rfl (fun _ _ => rfl) ⟨hB.out, h11.out⟩
set_option maxRecDepth 100000 in
set_option maxHeartbeats 2000000 in
theorem bt_s15 (A : Act) (w1 : World) (Q : Exit → Act → World → Prop) (S : ByteArray) (m0 m1 q q1 : Nat) (y x : Int) (a1 : Option Addr) (len1 cap1 : Nat) 
    (hS : A.tmps.getD 13 undef = .string S) (hK17 : A.tmps.getD 17 undef = .int .i64 (m0 : Int)) (h1 : A.tmps.getD 1 undef = .slice a1 len1 cap1) (hix : ∀ w, (Instr.index 9 (.string S) (.int .i64 (m0 : Int))).run Tryd.prog w = .ok (.int .u8 y) w) (hKS : m0 < S.size) (hSz : S.size ≤ 100) (hK1 : (m0 : Int) + 1 = (m1 : Int)) (hq : q < 255) (hq1 : 1 + (q : Int) = (q1 : Int)) (hx : bits .xor .u8 y (q1 : Int) = x) (hx2 : 0 ≤ x ∧ x ≤ 255) (hy : 0 ≤ y ∧ y ≤ 255) (hat : ∀ W, Below w1.heap.size w1 W → Calls Tryd.prog 11 #[.slice a1 len1 cap1, .int .i64 3, .int .i64 255] W fun r w' => r = .returned (.int .i64 (q : Int)) ∧ Below W.heap.size W w')
    (f : Nat → Bool) (e : Nat) (a : Act) (w : World) (hun : f 15 = false) (hdep : ∀ d ∈ bt_o15.after, Region.binds .any d = true → f d.on = true) (hJ : bt_J w1 S m0 m1 q q1 y x a1 len1 cap1 f e w) (hFr : Fr bt_O A f (fun j => bt_V S m0 m1 q q1 y x a1 len1 cap1 j e) a)
    (K : Act → World → Prop) (hK : Hid (∀ v e' w', v = bt_V S m0 m1 q q1 y x a1 len1 cap1 15 e' → (∀ j, f j = true → bt_V S m0 m1 q q1 y x a1 len1 cap1 j e' = bt_V S m0 m1 q q1 y x a1 len1 cap1 j e) → bt_J w1 S m0 m1 q q1 y x a1 len1 cap1 (fun j => j == 15 || f j) e' w' → K (a.put bt_o15.dst v) w')) :
    if Region.wanted bt_o15 (yielded bt_O a.tmps) = true then Oper.wp Tryd.prog bt_o15 a w K Q else K (a.put bt_o15.dst undef) w := by
  unfold bt_o15 at hdep hK ⊢
  have hK9 := hK
  obtain ⟨hB, h11⟩ := hJ
  have v17 := (hFr.old 17 (bt_no (by decide))).trans hK17
  replace hB := hid hB
  replace h11 := hid h11
  clear hdep hFr hS hK17 h1
  go_simp
  exact hK9.out _ e _ rfl (fun _ _ => rfl) ⟨hB.out, h11.out⟩
set_option maxRecDepth 100000 in
set_option maxHeartbeats 2000000 in
theorem bt_s16 (A : Act) (w1 : World) (Q : Exit → Act → World → Prop) (S : ByteArray) (m0 m1 q q1 : Nat) (y x : Int) (a1 : Option Addr) (len1 cap1 : Nat) 
    (hS : A.tmps.getD 13 undef = .string S) (hK17 : A.tmps.getD 17 undef = .int .i64 (m0 : Int)) (h1 : A.tmps.getD 1 undef = .slice a1 len1 cap1) (hix : ∀ w, (Instr.index 9 (.string S) (.int .i64 (m0 : Int))).run Tryd.prog w = .ok (.int .u8 y) w) (hKS : m0 < S.size) (hSz : S.size ≤ 100) (hK1 : (m0 : Int) + 1 = (m1 : Int)) (hq : q < 255) (hq1 : 1 + (q : Int) = (q1 : Int)) (hx : bits .xor .u8 y (q1 : Int) = x) (hx2 : 0 ≤ x ∧ x ≤ 255) (hy : 0 ≤ y ∧ y ≤ 255) (hat : ∀ W, Below w1.heap.size w1 W → Calls Tryd.prog 11 #[.slice a1 len1 cap1, .int .i64 3, .int .i64 255] W fun r w' => r = .returned (.int .i64 (q : Int)) ∧ Below W.heap.size W w')
    (f : Nat → Bool) (e : Nat) (a : Act) (w : World) (hun : f 16 = false) (hdep : ∀ d ∈ bt_o16.after, Region.binds .any d = true → f d.on = true) (hJ : bt_J w1 S m0 m1 q q1 y x a1 len1 cap1 f e w) (hFr : Fr bt_O A f (fun j => bt_V S m0 m1 q q1 y x a1 len1 cap1 j e) a)
    (K : Act → World → Prop) (hK : Hid (∀ v e' w', v = bt_V S m0 m1 q q1 y x a1 len1 cap1 16 e' → (∀ j, f j = true → bt_V S m0 m1 q q1 y x a1 len1 cap1 j e' = bt_V S m0 m1 q q1 y x a1 len1 cap1 j e) → bt_J w1 S m0 m1 q q1 y x a1 len1 cap1 (fun j => j == 16 || f j) e' w' → K (a.put bt_o16.dst v) w')) :
    if Region.wanted bt_o16 (yielded bt_O a.tmps) = true then Oper.wp Tryd.prog bt_o16 a w K Q else K (a.put bt_o16.dst undef) w := by
  unfold bt_o16 at hdep hK ⊢
  have hK9 := hK
  obtain ⟨hB, h11⟩ := hJ
  have k15 : f 15 = true := hdep { on := 15, ground := .data } (by simp) rfl
  have v134 : a.tmps.getD 134 undef = .int .i64 (m0 : Int) := hFr.new 15 134 rfl k15
  have hw : IntKind.i64.wrap (m1 : Int) = (m1 : Int) := by rw [IntKind.wrap_i64]; omega
  replace hB := hid hB
  replace h11 := hid h11
  clear hdep hFr hS hK17 h1
  go_simp
  exact hK9.out _ e _ rfl (fun _ _ => rfl) ⟨hB.out, h11.out⟩
set_option maxRecDepth 100000 in
set_option maxHeartbeats 2000000 in
theorem bt_s17 (A : Act) (w1 : World) (Q : Exit → Act → World → Prop) (S : ByteArray) (m0 m1 q q1 : Nat) (y x : Int) (a1 : Option Addr) (len1 cap1 : Nat) 
    (hS : A.tmps.getD 13 undef = .string S) (hK17 : A.tmps.getD 17 undef = .int .i64 (m0 : Int)) (h1 : A.tmps.getD 1 undef = .slice a1 len1 cap1) (hix : ∀ w, (Instr.index 9 (.string S) (.int .i64 (m0 : Int))).run Tryd.prog w = .ok (.int .u8 y) w) (hKS : m0 < S.size) (hSz : S.size ≤ 100) (hK1 : (m0 : Int) + 1 = (m1 : Int)) (hq : q < 255) (hq1 : 1 + (q : Int) = (q1 : Int)) (hx : bits .xor .u8 y (q1 : Int) = x) (hx2 : 0 ≤ x ∧ x ≤ 255) (hy : 0 ≤ y ∧ y ≤ 255) (hat : ∀ W, Below w1.heap.size w1 W → Calls Tryd.prog 11 #[.slice a1 len1 cap1, .int .i64 3, .int .i64 255] W fun r w' => r = .returned (.int .i64 (q : Int)) ∧ Below W.heap.size W w')
    (f : Nat → Bool) (e : Nat) (a : Act) (w : World) (hun : f 17 = false) (hdep : ∀ d ∈ bt_o17.after, Region.binds .any d = true → f d.on = true) (hJ : bt_J w1 S m0 m1 q q1 y x a1 len1 cap1 f e w) (hFr : Fr bt_O A f (fun j => bt_V S m0 m1 q q1 y x a1 len1 cap1 j e) a)
    (K : Act → World → Prop) (hK : Hid (∀ v e' w', v = bt_V S m0 m1 q q1 y x a1 len1 cap1 17 e' → (∀ j, f j = true → bt_V S m0 m1 q q1 y x a1 len1 cap1 j e' = bt_V S m0 m1 q q1 y x a1 len1 cap1 j e) → bt_J w1 S m0 m1 q q1 y x a1 len1 cap1 (fun j => j == 17 || f j) e' w' → K (a.put bt_o17.dst v) w')) :
    if Region.wanted bt_o17 (yielded bt_O a.tmps) = true then Oper.wp Tryd.prog bt_o17 a w K Q else K (a.put bt_o17.dst undef) w := by
  unfold bt_o17 at hdep hK ⊢
  have hK9 := hK
  obtain ⟨hB, h11⟩ := hJ
  have k14 : f 14 = true := hdep { on := 14, ground := .data } (by simp) rfl
  have v133 : a.tmps.getD 133 undef = .string S := hFr.new 14 133 rfl k14
  have k16 : f 16 = true := hdep { on := 16, ground := .data } (by simp) rfl
  have v135 : a.tmps.getD 135 undef = .int .i64 (m1 : Int) := hFr.new 16 135 rfl k16
  have kb0 : (0 : Int) ≤ (m0 : Int) := by omega
  have kb1 : (m0 : Int) ≤ (S.size : Int) := by omega
  have kb2 : (0 : Int) ≤ (m1 : Int) := by omega
  have kb3 : (m1 : Int) ≤ (S.size : Int) := by omega
  replace hB := hid hB
  replace h11 := hid h11
  clear hdep hFr hS hK17 h1
  go_simp
  exact hK9.out _ e _ rfl (fun _ _ => rfl) ⟨hB.out, h11.out⟩
set_option maxRecDepth 100000 in
set_option maxHeartbeats 2000000 in
theorem bt_s18 (A : Act) (w1 : World) (Q : Exit → Act → World → Prop) (S : ByteArray) (m0 m1 q q1 : Nat) (y x : Int) (a1 : Option Addr) (len1 cap1 : Nat) 
    (hS : A.tmps.getD 13 undef = .string S) (hK17 : A.tmps.getD 17 undef = .int .i64 (m0 : Int)) (h1 : A.tmps.getD 1 undef = .slice a1 len1 cap1) (hix : ∀ w, (Instr.index 9 (.string S) (.int .i64 (m0 : Int))).run Tryd.prog w = .ok (.int .u8 y) w) (hKS : m0 < S.size) (hSz : S.size ≤ 100) (hK1 : (m0 : Int) + 1 = (m1 : Int)) (hq : q < 255) (hq1 : 1 + (q : Int) = (q1 : Int)) (hx : bits .xor .u8 y (q1 : Int) = x) (hx2 : 0 ≤ x ∧ x ≤ 255) (hy : 0 ≤ y ∧ y ≤ 255) (hat : ∀ W, Below w1.heap.size w1 W → Calls Tryd.prog 11 #[.slice a1 len1 cap1, .int .i64 3, .int .i64 255] W fun r w' => r = .returned (.int .i64 (q : Int)) ∧ Below W.heap.size W w')
    (f : Nat → Bool) (e : Nat) (a : Act) (w : World) (hun : f 18 = false) (hdep : ∀ d ∈ bt_o18.after, Region.binds .any d = true → f d.on = true) (hJ : bt_J w1 S m0 m1 q q1 y x a1 len1 cap1 f e w) (hFr : Fr bt_O A f (fun j => bt_V S m0 m1 q q1 y x a1 len1 cap1 j e) a)
    (K : Act → World → Prop) (hK : Hid (∀ v e' w', v = bt_V S m0 m1 q q1 y x a1 len1 cap1 18 e' → (∀ j, f j = true → bt_V S m0 m1 q q1 y x a1 len1 cap1 j e' = bt_V S m0 m1 q q1 y x a1 len1 cap1 j e) → bt_J w1 S m0 m1 q q1 y x a1 len1 cap1 (fun j => j == 18 || f j) e' w' → K (a.put bt_o18.dst v) w')) :
    if Region.wanted bt_o18 (yielded bt_O a.tmps) = true then Oper.wp Tryd.prog bt_o18 a w K Q else K (a.put bt_o18.dst undef) w := by
  unfold bt_o18 at hdep hK ⊢
  have hK9 := hK
  obtain ⟨hB, h11⟩ := hJ
  have k13 : f 13 = true := hdep { on := 13, ground := .data } (by simp) rfl
  have v132 : a.tmps.getD 132 undef = .string (S.extract 0 m0 ++ strOfNums [x]) := hFr.new 13 132 rfl k13
  have k17 : f 17 = true := hdep { on := 17, ground := .data } (by simp) rfl
  have v136 : a.tmps.getD 136 undef = .string (S.extract m1 S.size) := hFr.new 17 136 rfl k17
  have z1 : (S.extract 0 m0).size = m0 := by rw [ByteArray.size_extract]; omega
  have z2 : (strOfNums [x]).size = 1 := strOfNums_size _
  have z3 : (S.extract m1 S.size).size ≤ 100 := by rw [ByteArray.size_extract]; omega
  have z4 : (S.extract 0 m0 ++ strOfNums [x]).size = m0 + 1 := by rw [ByteArray.size_append, z1, z2]
  have z5 : ¬ 9223372036854775807 < m0 + 1 := by omega
  have z7 : ¬ 9223372036854775807 < m0 + 1 + (S.size - m1) := by omega
  have z6 : ¬ 9223372036854775807 < m0 + 1 + (S.extract m1 S.size).size := by omega
  replace hB := hid hB
  replace h11 := hid h11
  clear hdep hFr hS hK17 h1
  go_simp
  exact hK9.out _ e _ rfl (fun _ _ => rfl) ⟨hB.out, h11.out⟩
set_option maxRecDepth 100000 in
set_option maxHeartbeats 2000000 in
theorem bt_s19 (A : Act) (w1 : World) (Q : Exit → Act → World → Prop) (S : ByteArray) (m0 m1 q q1 : Nat) (y x : Int) (a1 : Option Addr) (len1 cap1 : Nat) 
    (hS : A.tmps.getD 13 undef = .string S) (hK17 : A.tmps.getD 17 undef = .int .i64 (m0 : Int)) (h1 : A.tmps.getD 1 undef = .slice a1 len1 cap1) (hix : ∀ w, (Instr.index 9 (.string S) (.int .i64 (m0 : Int))).run Tryd.prog w = .ok (.int .u8 y) w) (hKS : m0 < S.size) (hSz : S.size ≤ 100) (hK1 : (m0 : Int) + 1 = (m1 : Int)) (hq : q < 255) (hq1 : 1 + (q : Int) = (q1 : Int)) (hx : bits .xor .u8 y (q1 : Int) = x) (hx2 : 0 ≤ x ∧ x ≤ 255) (hy : 0 ≤ y ∧ y ≤ 255) (hat : ∀ W, Below w1.heap.size w1 W → Calls Tryd.prog 11 #[.slice a1 len1 cap1, .int .i64 3, .int .i64 255] W fun r w' => r = .returned (.int .i64 (q : Int)) ∧ Below W.heap.size W w')
    (f : Nat → Bool) (e : Nat) (a : Act) (w : World) (hun : f 19 = false) (hdep : ∀ d ∈ bt_o19.after, Region.binds .any d = true → f d.on = true) (hJ : bt_J w1 S m0 m1 q q1 y x a1 len1 cap1 f e w) (hFr : Fr bt_O A f (fun j => bt_V S m0 m1 q q1 y x a1 len1 cap1 j e) a)
    (K : Act → World → Prop) (hK : Hid (∀ v e' w', v = bt_V S m0 m1 q q1 y x a1 len1 cap1 19 e' → (∀ j, f j = true → bt_V S m0 m1 q q1 y x a1 len1 cap1 j e' = bt_V S m0 m1 q q1 y x a1 len1 cap1 j e) → bt_J w1 S m0 m1 q q1 y x a1 len1 cap1 (fun j => j == 19 || f j) e' w' → K (a.put bt_o19.dst v) w')) :
    if Region.wanted bt_o19 (yielded bt_O a.tmps) = true then Oper.wp Tryd.prog bt_o19 a w K Q else K (a.put bt_o19.dst undef) w := by
  unfold bt_o19 at hdep hK ⊢
  have hK9 := hK
  obtain ⟨hB, h11⟩ := hJ
  have k18 : f 18 = true := hdep { on := 18, ground := .data } (by simp) rfl
  have v137 : a.tmps.getD 137 undef = .string (S.extract 0 m0 ++ strOfNums [x] ++ S.extract m1 S.size) := hFr.new 18 137 rfl k18
  replace hB := hid hB
  replace h11 := hid h11
  clear hdep hFr hS hK17 h1
  go_simp
  exact hK9.out _ e _ rfl (fun _ _ => rfl) ⟨hB.out, h11.out⟩
set_option maxRecDepth 100000 in
set_option maxHeartbeats 4000000 in
theorem bt_reg (A : Act) (w1 : World) (Q : Exit → Act → World → Prop) (S : ByteArray) (m0 m1 q q1 : Nat) (y x : Int) (a1 : Option Addr) (len1 cap1 : Nat) 
    (hS : A.tmps.getD 13 undef = .string S) (hK17 : A.tmps.getD 17 undef = .int .i64 (m0 : Int)) (h1 : A.tmps.getD 1 undef = .slice a1 len1 cap1) (hix : ∀ w, (Instr.index 9 (.string S) (.int .i64 (m0 : Int))).run Tryd.prog w = .ok (.int .u8 y) w) (hKS : m0 < S.size) (hSz : S.size ≤ 100) (hK1 : (m0 : Int) + 1 = (m1 : Int)) (hq : q < 255) (hq1 : 1 + (q : Int) = (q1 : Int)) (hx : bits .xor .u8 y (q1 : Int) = x) (hx2 : 0 ≤ x ∧ x ≤ 255) (hy : 0 ≤ y ∧ y ≤ 255) (hat : ∀ W, Below w1.heap.size w1 W → Calls Tryd.prog 11 #[.slice a1 len1 cap1, .int .i64 3, .int .i64 255] W fun r w' => r = .returned (.int .i64 (q : Int)) ∧ Below W.heap.size W w') (hN : 138 ≤ A.tmps.size)
    (h : ∀ (w : World) (e : Nat), Below w1.heap.size w1 w → Q .normal (putsA A [(119, .string S), (120, .int .i64 (m0 : Int)), (121, .string (S.extract 0 m0)), (122, .string S), (123, .int .i64 (m0 : Int)), (124, .int .u8 y), (125, .slice a1 len1 cap1), (126, .int .i64 (q : Int)), (127, .int .i64 (q1 : Int)), (128, .int .u8 (q1 : Int)), (129, .int .u8 x), (130, .slice (some ⟨e, 0, none⟩) 1 1), (131, .string (strOfNums [x])), (132, .string (S.extract 0 m0 ++ strOfNums [x])), (133, .string S), (134, .int .i64 (m0 : Int)), (135, .int .i64 (m1 : Int)), (136, .string (S.extract m1 S.size)), (137, .string (S.extract 0 m0 ++ strOfNums [x] ++ S.extract m1 S.size)), (18, .string (S.extract 0 m0 ++ strOfNums [x] ++ S.extract m1 S.size))]) w) :
    (Code.region 15 #[({ dst := some 119, op := Op.move (Operand.tmp 13), type := 9, pos := "laws.go:537", after := #[], guard := none } : Oper), ({ dst := some 120, op := Op.move (Operand.tmp 17), type := 3, pos := "laws.go:537", after := #[], guard := none } : Oper), ({ dst := some 121, op := Op.slice 9 (Operand.tmp 119) none (some (Operand.tmp 120)) none, type := 9, pos := "laws.go:537", after := #[{ on := 0, ground := Ground.data }, { on := 1, ground := Ground.data }], guard := none } : Oper), ({ dst := some 122, op := Op.move (Operand.tmp 13), type := 9, pos := "laws.go:537", after := #[], guard := none } : Oper), ({ dst := some 123, op := Op.move (Operand.tmp 17), type := 3, pos := "laws.go:537", after := #[], guard := none } : Oper), ({ dst := some 124, op := Op.index 9 (Operand.tmp 122) (Operand.tmp 123), type := 5, pos := "laws.go:537", after := #[{ on := 3, ground := Ground.data }, { on := 4, ground := Ground.data }], guard := none } : Oper), ({ dst := some 125, op := Op.move (Operand.tmp 1), type := 22, pos := "laws.go:537", after := #[], guard := none } : Oper), ({ dst := some 126, op := Op.call { callee := Callee.value (Operand.func 11), args := #[Operand.tmp 125, Operand.const (Value.int IntKind.i64 3), Operand.const (Value.int IntKind.i64 255)], argTypes := #[22, 3, 3] }, type := 3, pos := "laws.go:537", after := #[{ on := 6, ground := Ground.data }], guard := none } : Oper), ({ dst := some 127, op := Op.binOp BinOp.add 3 (Operand.const (Value.int IntKind.i64 1)) (Operand.tmp 126) 3, type := 3, pos := "laws.go:537", after := #[{ on := 7, ground := Ground.data }], guard := none } : Oper), ({ dst := some 128, op := Op.convert 3 5 (Operand.tmp 127), type := 5, pos := "laws.go:537", after := #[{ on := 8, ground := Ground.data }], guard := none } : Oper), ({ dst := some 129, op := Op.binOp BinOp.xor 5 (Operand.tmp 124) (Operand.tmp 128) 5, type := 5, pos := "laws.go:537", after := #[{ on := 5, ground := Ground.data }, { on := 9, ground := Ground.data }], guard := none } : Oper), ({ dst := some 130, op := Op.buildSlice 22 1 #[(0, Operand.tmp 129)], type := 22, pos := "laws.go:537", after := #[{ on := 10, ground := Ground.data }], guard := none } : Oper), ({ dst := some 131, op := Op.convert 22 9 (Operand.tmp 130), type := 9, pos := "laws.go:537", after := #[{ on := 11, ground := Ground.data }], guard := none } : Oper), ({ dst := some 132, op := Op.binOp BinOp.add 9 (Operand.tmp 121) (Operand.tmp 131) 9, type := 9, pos := "laws.go:537", after := #[{ on := 2, ground := Ground.data }, { on := 12, ground := Ground.data }], guard := none } : Oper), ({ dst := some 133, op := Op.move (Operand.tmp 13), type := 9, pos := "laws.go:537", after := #[], guard := none } : Oper), ({ dst := some 134, op := Op.move (Operand.tmp 17), type := 3, pos := "laws.go:537", after := #[], guard := none } : Oper), ({ dst := some 135, op := Op.binOp BinOp.add 3 (Operand.tmp 134) (Operand.const (Value.int IntKind.i64 1)) 3, type := 3, pos := "laws.go:537", after := #[{ on := 15, ground := Ground.data }], guard := none } : Oper), ({ dst := some 136, op := Op.slice 9 (Operand.tmp 133) (some (Operand.tmp 135)) none none, type := 9, pos := "laws.go:537", after := #[{ on := 14, ground := Ground.data }, { on := 16, ground := Ground.data }], guard := none } : Oper), ({ dst := some 137, op := Op.binOp BinOp.add 9 (Operand.tmp 132) (Operand.tmp 136) 9, type := 9, pos := "laws.go:537", after := #[{ on := 13, ground := Ground.data }, { on := 17, ground := Ground.data }], guard := none } : Oper), ({ dst := some 18, op := Op.assign (Operand.tmp 137), type := 9, pos := "laws.go:537", after := #[{ on := 18, ground := Ground.data }, { on := 7, ground := Ground.chain }, { on := 0, ground := Ground.phase }, { on := 1, ground := Ground.phase }, { on := 2, ground := Ground.phase }, { on := 3, ground := Ground.phase }, { on := 4, ground := Ground.phase }, { on := 5, ground := Ground.phase }, { on := 6, ground := Ground.phase }, { on := 7, ground := Ground.phase }, { on := 8, ground := Ground.phase }, { on := 9, ground := Ground.phase }, { on := 10, ground := Ground.phase }, { on := 11, ground := Ground.phase }, { on := 12, ground := Ground.phase }, { on := 13, ground := Ground.phase }, { on := 14, ground := Ground.phase }, { on := 15, ground := Ground.phase }, { on := 16, ground := Ground.phase }, { on := 17, ground := Ground.phase }, { on := 18, ground := Ground.phase }], guard := none } : Oper)] true).wp Tryd.prog Q A w1 := by
  show (Code.region 15 bt_O true).wp Tryd.prog Q A w1
  refine wp_region_slots (E := Nat) (bt_V S m0 m1 q q1 y x a1 len1 cap1) (bt_J w1 S m0 m1 q q1 y x a1 len1 cap1) (by kernel_rfl) (by kernel_rfl) (by kernel_rfl) (fun i s hi => ?_) ?_ 0 ⟨(Below.refl _ _).drew, fun h => (by cases h)⟩ ?_
  · cases hc : ([119, 120, 121, 122, 123, 124, 125, 126, 127, 128, 129, 130, 131, 132, 133, 134, 135, 136, 137, 18] : List Nat).contains s
    · exact absurd hi (bt_no hc i)
    · have : s ∈ ([119, 120, 121, 122, 123, 124, 125, 126, 127, 128, 129, 130, 131, 132, 133, 134, 135, 136, 137, 18] : List Nat) := by simpa using hc
      simp only [List.mem_cons, List.not_mem_nil, or_false] at this
      omega
  · intro f e a w i o hi ho hun hdep hJ hFr K hK
    have hi8 : i < 20 := hi
    rcases (by omega : i = 0 ∨ i = 1 ∨ i = 2 ∨ i = 3 ∨ i = 4 ∨ i = 5 ∨ i = 6 ∨ i = 7 ∨ i = 8 ∨ i = 9 ∨ i = 10 ∨ i = 11 ∨ i = 12 ∨ i = 13 ∨ i = 14 ∨ i = 15 ∨ i = 16 ∨ i = 17 ∨ i = 18 ∨ i = 19) with rfl | rfl | rfl | rfl | rfl | rfl | rfl | rfl | rfl | rfl | rfl | rfl | rfl | rfl | rfl | rfl | rfl | rfl | rfl | rfl
    · obtain rfl := Option.some.inj ho
      exact bt_s0 A w1 Q S m0 m1 q q1 y x a1 len1 cap1 hS hK17 h1 hix hKS hSz hK1 hq hq1 hx hx2 hy hat f e a w hun hdep hJ hFr K hK
    · obtain rfl := Option.some.inj ho
      exact bt_s1 A w1 Q S m0 m1 q q1 y x a1 len1 cap1 hS hK17 h1 hix hKS hSz hK1 hq hq1 hx hx2 hy hat f e a w hun hdep hJ hFr K hK
    · obtain rfl := Option.some.inj ho
      exact bt_s2 A w1 Q S m0 m1 q q1 y x a1 len1 cap1 hS hK17 h1 hix hKS hSz hK1 hq hq1 hx hx2 hy hat f e a w hun hdep hJ hFr K hK
    · obtain rfl := Option.some.inj ho
      exact bt_s3 A w1 Q S m0 m1 q q1 y x a1 len1 cap1 hS hK17 h1 hix hKS hSz hK1 hq hq1 hx hx2 hy hat f e a w hun hdep hJ hFr K hK
    · obtain rfl := Option.some.inj ho
      exact bt_s4 A w1 Q S m0 m1 q q1 y x a1 len1 cap1 hS hK17 h1 hix hKS hSz hK1 hq hq1 hx hx2 hy hat f e a w hun hdep hJ hFr K hK
    · obtain rfl := Option.some.inj ho
      exact bt_s5 A w1 Q S m0 m1 q q1 y x a1 len1 cap1 hS hK17 h1 hix hKS hSz hK1 hq hq1 hx hx2 hy hat f e a w hun hdep hJ hFr K hK
    · obtain rfl := Option.some.inj ho
      exact bt_s6 A w1 Q S m0 m1 q q1 y x a1 len1 cap1 hS hK17 h1 hix hKS hSz hK1 hq hq1 hx hx2 hy hat f e a w hun hdep hJ hFr K hK
    · obtain rfl := Option.some.inj ho
      exact bt_s7 A w1 Q S m0 m1 q q1 y x a1 len1 cap1 hS hK17 h1 hix hKS hSz hK1 hq hq1 hx hx2 hy hat f e a w hun hdep hJ hFr K hK
    · obtain rfl := Option.some.inj ho
      exact bt_s8 A w1 Q S m0 m1 q q1 y x a1 len1 cap1 hS hK17 h1 hix hKS hSz hK1 hq hq1 hx hx2 hy hat f e a w hun hdep hJ hFr K hK
    · obtain rfl := Option.some.inj ho
      exact bt_s9 A w1 Q S m0 m1 q q1 y x a1 len1 cap1 hS hK17 h1 hix hKS hSz hK1 hq hq1 hx hx2 hy hat f e a w hun hdep hJ hFr K hK
    · obtain rfl := Option.some.inj ho
      exact bt_s10 A w1 Q S m0 m1 q q1 y x a1 len1 cap1 hS hK17 h1 hix hKS hSz hK1 hq hq1 hx hx2 hy hat f e a w hun hdep hJ hFr K hK
    · obtain rfl := Option.some.inj ho
      exact bt_s11 A w1 Q S m0 m1 q q1 y x a1 len1 cap1 hS hK17 h1 hix hKS hSz hK1 hq hq1 hx hx2 hy hat f e a w hun hdep hJ hFr K hK
    · obtain rfl := Option.some.inj ho
      exact bt_s12 A w1 Q S m0 m1 q q1 y x a1 len1 cap1 hS hK17 h1 hix hKS hSz hK1 hq hq1 hx hx2 hy hat f e a w hun hdep hJ hFr K hK
    · obtain rfl := Option.some.inj ho
      exact bt_s13 A w1 Q S m0 m1 q q1 y x a1 len1 cap1 hS hK17 h1 hix hKS hSz hK1 hq hq1 hx hx2 hy hat f e a w hun hdep hJ hFr K hK
    · obtain rfl := Option.some.inj ho
      exact bt_s14 A w1 Q S m0 m1 q q1 y x a1 len1 cap1 hS hK17 h1 hix hKS hSz hK1 hq hq1 hx hx2 hy hat f e a w hun hdep hJ hFr K hK
    · obtain rfl := Option.some.inj ho
      exact bt_s15 A w1 Q S m0 m1 q q1 y x a1 len1 cap1 hS hK17 h1 hix hKS hSz hK1 hq hq1 hx hx2 hy hat f e a w hun hdep hJ hFr K hK
    · obtain rfl := Option.some.inj ho
      exact bt_s16 A w1 Q S m0 m1 q q1 y x a1 len1 cap1 hS hK17 h1 hix hKS hSz hK1 hq hq1 hx hx2 hy hat f e a w hun hdep hJ hFr K hK
    · obtain rfl := Option.some.inj ho
      exact bt_s17 A w1 Q S m0 m1 q q1 y x a1 len1 cap1 hS hK17 h1 hix hKS hSz hK1 hq hq1 hx hx2 hy hat f e a w hun hdep hJ hFr K hK
    · obtain rfl := Option.some.inj ho
      exact bt_s18 A w1 Q S m0 m1 q q1 y x a1 len1 cap1 hS hK17 h1 hix hKS hSz hK1 hq hq1 hx hx2 hy hat f e a w hun hdep hJ hFr K hK
    · obtain rfl := Option.some.inj ho
      exact bt_s19 A w1 Q S m0 m1 q q1 y x a1 len1 cap1 hS hK17 h1 hix hKS hSz hK1 hq hq1 hx hx2 hy hat f e a w hun hdep hJ hFr K hK
  · intro f e a w hall hJ hFr
    have := h w e hJ.1
    rw [hFr.eq [(119, .string S), (120, .int .i64 (m0 : Int)), (121, .string (S.extract 0 m0)), (122, .string S), (123, .int .i64 (m0 : Int)), (124, .int .u8 y), (125, .slice a1 len1 cap1), (126, .int .i64 (q : Int)), (127, .int .i64 (q1 : Int)), (128, .int .u8 (q1 : Int)), (129, .int .u8 x), (130, .slice (some ⟨e, 0, none⟩) 1 1), (131, .string (strOfNums [x])), (132, .string (S.extract 0 m0 ++ strOfNums [x])), (133, .string S), (134, .int .i64 (m0 : Int)), (135, .int .i64 (m1 : Int)), (136, .string (S.extract m1 S.size)), (137, .string (S.extract 0 m0 ++ strOfNums [x] ++ S.extract m1 S.size)), (18, .string (S.extract 0 m0 ++ strOfNums [x] ++ S.extract m1 S.size))] (fun s hs => ?_) (fun i s hi => ?_)]
    · exact this
    · have hne : ∀ k ∈ ([119, 120, 121, 122, 123, 124, 125, 126, 127, 128, 129, 130, 131, 132, 133, 134, 135, 136, 137, 18] : List Nat), k ≠ s := by
        intro k hk e2
        subst e2
        simp only [List.mem_cons, List.not_mem_nil, or_false] at hk
        rcases hk with rfl | rfl | rfl | rfl | rfl | rfl | rfl | rfl | rfl | rfl | rfl | rfl | rfl | rfl | rfl | rfl | rfl | rfl | rfl | rfl
        · exact hs 0 rfl
        · exact hs 1 rfl
        · exact hs 2 rfl
        · exact hs 3 rfl
        · exact hs 4 rfl
        · exact hs 5 rfl
        · exact hs 6 rfl
        · exact hs 7 rfl
        · exact hs 8 rfl
        · exact hs 9 rfl
        · exact hs 10 rfl
        · exact hs 11 rfl
        · exact hs 12 rfl
        · exact hs 13 rfl
        · exact hs 14 rfl
        · exact hs 15 rfl
        · exact hs 16 rfl
        · exact hs 17 rfl
        · exact hs 18 rfl
        · exact hs 19 rfl
      simp only [lookA]
      simp [hne]
    · have hl : i < 20 := by
        rcases Nat.lt_or_ge i 20 with h1 | h1
        · exact h1
        · unfold dstAt at hi
          rw [Array.getElem?_eq_none (by exact h1)] at hi
          cases hi
      refine ⟨hall i hl, ?_⟩
      rcases (by omega : i = 0 ∨ i = 1 ∨ i = 2 ∨ i = 3 ∨ i = 4 ∨ i = 5 ∨ i = 6 ∨ i = 7 ∨ i = 8 ∨ i = 9 ∨ i = 10 ∨ i = 11 ∨ i = 12 ∨ i = 13 ∨ i = 14 ∨ i = 15 ∨ i = 16 ∨ i = 17 ∨ i = 18 ∨ i = 19) with rfl | rfl | rfl | rfl | rfl | rfl | rfl | rfl | rfl | rfl | rfl | rfl | rfl | rfl | rfl | rfl | rfl | rfl | rfl | rfl
      all_goals first
        | (cases hi; rfl)
        | cases hi
end Go.Proofs.YtakdhmlegickmaaDoor
