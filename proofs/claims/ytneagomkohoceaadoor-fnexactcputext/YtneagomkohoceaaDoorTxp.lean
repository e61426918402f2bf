/- Words appended to a processor's: the program's drawn regions. -/
import Derived.Test.YtneagomkohoceaaDoorTxn
import Derived.Test.YtneagomkohoceaaDoorTxo
import Derived.Test.YtneagomkohoceaaDoorIx
namespace Go.Proofs.YtneagomkohoceaaDoor
open Go.ChangeShapes Go.WideShapes Go.ChangeAt Go.RowKit
set_option linter.unusedVariables false
set_option linter.unusedSimpArgs false

theorem gtrX {a b c : World} {r : Option Nat} (h : a.grownBy b r) (k : b.grownBy c r) : a.grownBy c r :=
  ⟨k.os.trans h.os, k.tape.trans h.tape, k.output.trans h.output, Nat.le_trans h.size k.size, fun j hj hne => (k.block j (Nat.lt_of_lt_of_le hj h.size) hne).trans (h.block j hj hne)⟩
theorem gbX {b c : World} {r : Option Nat} (h : Below b.heap.size b c) : b.grownBy c r := ⟨h.os, h.tape, h.output, h.size, fun k hk _ => h.block k hk⟩
def e8_V (b n ocap base : Nat) (oa : Option Addr) (L : List Value) (c : Cu) (HF HS HP : ByteArray) : Nat → Nat × Value → Value := fun i e => match i with
  | 0 => (Value.slice oa n ocap)
  | 1 => .pointer (some ⟨b, 8, none⟩)
  | 2 => .int .i64 c.f
  | 3 => .string HF
  | 4 => .string (⟨#[102]⟩ ++ HF)
  | 5 => .pointer (some ⟨b, 9, none⟩)
  | 6 => .int .i64 c.sp
  | 7 => .string HS
  | 8 => .string (⟨#[115, 112]⟩ ++ HS)
  | 9 => .pointer (some ⟨b, 10, none⟩)
  | 10 => .int .i64 c.pc
  | 11 => .string HP
  | 12 => .string (⟨#[112, 99]⟩ ++ HP)
  | 13 => .slice (some ⟨e.1, 0, none⟩) 3 3
  | 14 => e.2
  | 15 => e.2
  | _ => undef
def e8_J (w1 : World) (b n ocap base : Nat) (oa : Option Addr) (L : List Value) (c : Cu) (HF HS HP : ByteArray) (f : Nat → Bool) (e : Nat × Value) (w : World) : Prop :=
  w1.grownBy w (Value.slice oa n ocap).ownBlock ∧ (f 14 = false → w.ownsRow base 9 1 (Value.slice oa n ocap) n L) ∧ (f 14 = true → w.ownsRow base 9 1 e.2 (n + 3) (L ++ [.string (⟨#[102]⟩ ++ HF), .string (⟨#[115, 112]⟩ ++ HS), .string (⟨#[112, 99]⟩ ++ HP)])) ∧ (f 13 = true → w1.heap.size ≤ e.1 ∧ w.heap[e.1]? = some (.cells #[.string (⟨#[102]⟩ ++ HF), .string (⟨#[115, 112]⟩ ++ HS), .string (⟨#[112, 99]⟩ ++ HP)] 9 (0, 0))) ∧ (f 15 = true → f 0 = true ∧ f 14 = true) ∧ (f 14 = true → f 13 = true)
def e8_o0 : Oper := ({ dst := some 24, op := Op.move (Operand.tmp 3), type := 37, pos := "l15_text.go:90", after := #[], guard := none } : Oper)
def e8_o1 : Oper := ({ dst := some 25, op := Op.fieldAddr 52 (Operand.tmp 1) 1, type := 0, pos := "l15_text.go:90", after := #[], guard := none } : Oper)
def e8_o2 : Oper := ({ dst := some 26, op := Op.load 3 (Operand.tmp 25), type := 3, pos := "l15_text.go:90", after := #[{ on := 1, ground := Ground.data }], guard := none } : Oper)
def e8_o3 : Oper := ({ dst := some 27, op := Op.call { callee := Callee.value (Operand.func 72), args := #[Operand.tmp 26], argTypes := #[3] }, type := 9, pos := "l15_text.go:90", after := #[{ on := 2, ground := Ground.data }], guard := none } : Oper)
def e8_o4 : Oper := ({ dst := some 28, op := Op.binOp BinOp.add 9 (Operand.const (Value.string { data := #[102] })) (Operand.tmp 27) 9, type := 9, pos := "l15_text.go:90", after := #[{ on := 3, ground := Ground.data }], guard := none } : Oper)
def e8_o5 : Oper := ({ dst := some 29, op := Op.fieldAddr 52 (Operand.tmp 1) 2, type := 0, pos := "l15_text.go:90", after := #[], guard := none } : Oper)
def e8_o6 : Oper := ({ dst := some 30, op := Op.load 3 (Operand.tmp 29), type := 3, pos := "l15_text.go:90", after := #[{ on := 5, ground := Ground.data }], guard := none } : Oper)
def e8_o7 : Oper := ({ dst := some 31, op := Op.call { callee := Callee.value (Operand.func 72), args := #[Operand.tmp 30], argTypes := #[3] }, type := 9, pos := "l15_text.go:90", after := #[{ on := 6, ground := Ground.data }, { on := 3, ground := Ground.chain }], guard := none } : Oper)
def e8_o8 : Oper := ({ dst := some 32, op := Op.binOp BinOp.add 9 (Operand.const (Value.string { data := #[115, 112] })) (Operand.tmp 31) 9, type := 9, pos := "l15_text.go:90", after := #[{ on := 7, ground := Ground.data }], guard := none } : Oper)
def e8_o9 : Oper := ({ dst := some 33, op := Op.fieldAddr 52 (Operand.tmp 1) 3, type := 0, pos := "l15_text.go:90", after := #[], guard := none } : Oper)
def e8_o10 : Oper := ({ dst := some 34, op := Op.load 3 (Operand.tmp 33), type := 3, pos := "l15_text.go:90", after := #[{ on := 9, ground := Ground.data }], guard := none } : Oper)
def e8_o11 : Oper := ({ dst := some 35, op := Op.call { callee := Callee.value (Operand.func 72), args := #[Operand.tmp 34], argTypes := #[3] }, type := 9, pos := "l15_text.go:90", after := #[{ on := 10, ground := Ground.data }, { on := 7, ground := Ground.chain }], guard := none } : Oper)
def e8_o12 : Oper := ({ dst := some 36, op := Op.binOp BinOp.add 9 (Operand.const (Value.string { data := #[112, 99] })) (Operand.tmp 35) 9, type := 9, pos := "l15_text.go:90", after := #[{ on := 11, ground := Ground.data }], guard := none } : Oper)
def e8_o13 : Oper := ({ dst := some 37, op := Op.buildSlice 37 3 #[(0, Operand.tmp 28), (1, Operand.tmp 32), (2, Operand.tmp 36)], type := 37, pos := "l15_text.go:90", after := #[{ on := 4, ground := Ground.data }, { on := 8, ground := Ground.data }, { on := 12, ground := Ground.data }], guard := none } : Oper)
def e8_o14 : Oper := ({ dst := some 38, op := Op.call { callee := Callee.builtin Builtin.append, args := #[Operand.tmp 24, Operand.tmp 37], argTypes := #[37, 37] }, type := 37, pos := "l15_text.go:90", after := #[{ on := 0, ground := Ground.data }, { on := 13, ground := Ground.data }, { on := 11, ground := Ground.chain }], guard := none } : Oper)
def e8_o15 : Oper := ({ dst := some 3, op := Op.assign (Operand.tmp 38), type := 37, pos := "l15_text.go:90", after := #[{ on := 14, ground := Ground.data }, { on := 14, ground := Ground.chain }, { on := 0, ground := Ground.phase }, { on := 1, ground := Ground.phase }, { on := 2, ground := Ground.phase }, { on := 3, ground := Ground.phase }, { on := 4, ground := Ground.phase }, { on := 5, ground := Ground.phase }, { on := 6, ground := Ground.phase }, { on := 7, ground := Ground.phase }, { on := 8, ground := Ground.phase }, { on := 9, ground := Ground.phase }, { on := 10, ground := Ground.phase }, { on := 11, ground := Ground.phase }, { on := 12, ground := Ground.phase }, { on := 13, ground := Ground.phase }, { on := 14, ground := Ground.phase }], guard := none } : Oper)
def e8_O : Array Oper := #[e8_o0, e8_o1, e8_o2, e8_o3, e8_o4, e8_o5, e8_o6, e8_o7, e8_o8, e8_o9, e8_o10, e8_o11, e8_o12, e8_o13, e8_o14, e8_o15]
theorem e8_no {s : Nat} (h : ([24, 25, 26, 27, 28, 29, 30, 31, 32, 33, 34, 35, 36, 37, 38, 3] : List Nat).contains s = false) : ∀ i, dstAt e8_O i ≠ some s := by
  intro i hi
  have hl : i < 16 := by
    rcases Nat.lt_or_ge i 16 with h1 | h1
    · exact h1
    · unfold dstAt at hi
      rw [Array.getElem?_eq_none (by exact h1)] at hi
      cases hi
  rcases (by omega : i = 0 ∨ i = 1 ∨ i = 2 ∨ i = 3 ∨ i = 4 ∨ i = 5 ∨ i = 6 ∨ i = 7 ∨ i = 8 ∨ i = 9 ∨ i = 10 ∨ i = 11 ∨ i = 12 ∨ i = 13 ∨ i = 14 ∨ i = 15) with rfl | rfl | rfl | rfl | rfl | rfl | rfl | rfl | rfl | rfl | rfl | rfl | rfl | rfl | rfl | rfl
  all_goals first
    | (cases hi; simp at h)
    | cases hi
theorem e8_k13 (b n ocap base : Nat) (oa : Option Addr) (L : List Value) (c : Cu) (HF HS HP : ByteArray) {f : Nat → Bool} (e : Nat × Value) (x : Nat) (hn : f 13 = false) : ∀ j, f j = true → e8_V b n ocap base oa L c HF HS HP j (x, e.2) = e8_V b n ocap base oa L c HF HS HP j e := by
  intro j hj
  unfold e8_V
  split
  · rfl
  · rfl
  · rfl
  · rfl
  · rfl
  · rfl
  · rfl
  · rfl
  · rfl
  · rfl
  · rfl
  · rfl
  · rfl
  · rw [hn] at hj; cases hj
  · rfl
  · rfl
  · rfl
theorem e8_k14 (b n ocap base : Nat) (oa : Option Addr) (L : List Value) (c : Cu) (HF HS HP : ByteArray) {f : Nat → Bool} (e : Nat × Value) (x : Value) (hn : f 14 = false) (hn2 : f 15 = false) : ∀ j, f j = true → e8_V b n ocap base oa L c HF HS HP j (e.1, x) = e8_V b n ocap base oa L c HF HS HP j e := by
  intro j hj
  unfold e8_V
  split
  · rfl
  · rfl
  · rfl
  · rfl
  · rfl
  · rfl
  · rfl
  · rfl
  · rfl
  · rfl
  · rfl
  · rfl
  · rfl
  · rfl
  · rw [hn] at hj; cases hj
  · rw [hn2] at hj; cases hj
  · rfl
set_option maxRecDepth 100000 in
set_option maxHeartbeats 2000000 in
theorem e8_s0 (A : Act) (w1 : World) (Q : Exit → Act → World → Prop) (b n ocap base : Nat) (oa : Option Addr) (L : List Value) (c : Cu) (HF HS HP : ByteArray) 
    (h3 : A.tmps.getD 3 undef = .slice oa n ocap) (h1 : A.tmps.getD 1 undef = .pointer (some ⟨b, 0, none⟩)) (qb : Blk w1 b (cuA c)) (nb : some b ≠ (Value.slice oa n ocap).ownBlock) (own : w1.ownsRow base 9 1 (Value.slice oa n ocap) n L) (hbase : base ≤ w1.heap.size) (hn : n ≤ 100) (hown1 : ∀ k, (Value.slice oa n ocap).ownBlock = some k → k < w1.heap.size) (hF : Hid (∀ W, Calls Tryd.prog 72 #[.int .i64 c.f] W fun e w' => e = .returned (.string HF) ∧ Below W.heap.size W w')) (hS : Hid (∀ W, Calls Tryd.prog 72 #[.int .i64 c.sp] W fun e w' => e = .returned (.string HS) ∧ Below W.heap.size W w')) (hP : Hid (∀ W, Calls Tryd.prog 72 #[.int .i64 c.pc] W fun e w' => e = .returned (.string HP) ∧ Below W.heap.size W w')) (hz : HF.size = 2 ∧ HS.size = 2 ∧ HP.size = 2)
    (f : Nat → Bool) (e : Nat × Value) (a : Act) (w : World) (hun : f 0 = false) (hdep : ∀ d ∈ e8_o0.after, Region.binds .any d = true → f d.on = true) (hJ : e8_J w1 b n ocap base oa L c HF HS HP f e w) (hFr : Fr e8_O A f (fun j => e8_V b n ocap base oa L c HF HS HP j e) a) (hKp : Kept e8_O A f a)
    (K : Act → World → Prop) (hK : Hid (∀ v e' w', v = e8_V b n ocap base oa L c HF HS HP 0 e' → (∀ j, f j = true → e8_V b n ocap base oa L c HF HS HP j e' = e8_V b n ocap base oa L c HF HS HP j e) → e8_J w1 b n ocap base oa L c HF HS HP (fun j => j == 0 || f j) e' w' → K (a.put e8_o0.dst v) w')) :
    if Region.wanted e8_o0 (yielded e8_O a.tmps) = true then Oper.wp Tryd.prog e8_o0 a w K Q else K (a.put e8_o0.dst undef) w := by
  unfold e8_o0 at hdep hK ⊢
  obtain ⟨hg, r0, r1, j17, j19, ja⟩ := hJ
  have fl : f 15 = false := by
    cases hl : f 15
    · rfl
    · have := (j19 hl).1
      rw [hun] at this
      cases this
  have v3 := (hKp 15 3 rfl fl).trans h3
  replace hg := hid hg
  replace r0 := hid r0
  replace r1 := hid r1
  replace j17 := hid j17
  replace j19 := hid j19
  replace ja := hid ja
  clear hdep hFr hKp h3 h1
  go_simp
  exact hK.out _ e _ rfl (fun _ _ => rfl) ⟨hg.out, r0.out, r1.out, j17.out, fun h => ⟨rfl, (j19.out h).2⟩, ja.out⟩
set_option maxRecDepth 100000 in
set_option maxHeartbeats 2000000 in
theorem e8_s1 (A : Act) (w1 : World) (Q : Exit → Act → World → Prop) (b n ocap base : Nat) (oa : Option Addr) (L : List Value) (c : Cu) (HF HS HP : ByteArray) 
    (h3 : A.tmps.getD 3 undef = .slice oa n ocap) (h1 : A.tmps.getD 1 undef = .pointer (some ⟨b, 0, none⟩)) (qb : Blk w1 b (cuA c)) (nb : some b ≠ (Value.slice oa n ocap).ownBlock) (own : w1.ownsRow base 9 1 (Value.slice oa n ocap) n L) (hbase : base ≤ w1.heap.size) (hn : n ≤ 100) (hown1 : ∀ k, (Value.slice oa n ocap).ownBlock = some k → k < w1.heap.size) (hF : Hid (∀ W, Calls Tryd.prog 72 #[.int .i64 c.f] W fun e w' => e = .returned (.string HF) ∧ Below W.heap.size W w')) (hS : Hid (∀ W, Calls Tryd.prog 72 #[.int .i64 c.sp] W fun e w' => e = .returned (.string HS) ∧ Below W.heap.size W w')) (hP : Hid (∀ W, Calls Tryd.prog 72 #[.int .i64 c.pc] W fun e w' => e = .returned (.string HP) ∧ Below W.heap.size W w')) (hz : HF.size = 2 ∧ HS.size = 2 ∧ HP.size = 2)
    (f : Nat → Bool) (e : Nat × Value) (a : Act) (w : World) (hun : f 1 = false) (hdep : ∀ d ∈ e8_o1.after, Region.binds .any d = true → f d.on = true) (hJ : e8_J w1 b n ocap base oa L c HF HS HP f e w) (hFr : Fr e8_O A f (fun j => e8_V b n ocap base oa L c HF HS HP j e) a) (hKp : Kept e8_O A f a)
    (K : Act → World → Prop) (hK : Hid (∀ v e' w', v = e8_V b n ocap base oa L c HF HS HP 1 e' → (∀ j, f j = true → e8_V b n ocap base oa L c HF HS HP j e' = e8_V b n ocap base oa L c HF HS HP j e) → e8_J w1 b n ocap base oa L c HF HS HP (fun j => j == 1 || f j) e' w' → K (a.put e8_o1.dst v) w')) :
    if Region.wanted e8_o1 (yielded e8_O a.tmps) = true then Oper.wp Tryd.prog e8_o1 a w K Q else K (a.put e8_o1.dst undef) w := by
  unfold e8_o1 at hdep hK ⊢
  obtain ⟨hg, r0, r1, j17, j19, ja⟩ := hJ
  have v1 := (hFr.old 1 (e8_no (by decide))).trans h1
  replace hg := hid hg
  replace r0 := hid r0
  replace r1 := hid r1
  replace j17 := hid j17
  replace j19 := hid j19
  replace ja := hid ja
  clear hdep hFr hKp h3 h1
  go_simp
  exact hK.out _ e _ rfl (fun _ _ => rfl) ⟨hg.out, r0.out, r1.out, j17.out, j19.out, ja.out⟩
set_option maxRecDepth 100000 in
set_option maxHeartbeats 2000000 in
theorem e8_s2 (A : Act) (w1 : World) (Q : Exit → Act → World → Prop) (b n ocap base : Nat) (oa : Option Addr) (L : List Value) (c : Cu) (HF HS HP : ByteArray) 
    (h3 : A.tmps.getD 3 undef = .slice oa n ocap) (h1 : A.tmps.getD 1 undef = .pointer (some ⟨b, 0, none⟩)) (qb : Blk w1 b (cuA c)) (nb : some b ≠ (Value.slice oa n ocap).ownBlock) (own : w1.ownsRow base 9 1 (Value.slice oa n ocap) n L) (hbase : base ≤ w1.heap.size) (hn : n ≤ 100) (hown1 : ∀ k, (Value.slice oa n ocap).ownBlock = some k → k < w1.heap.size) (hF : Hid (∀ W, Calls Tryd.prog 72 #[.int .i64 c.f] W fun e w' => e = .returned (.string HF) ∧ Below W.heap.size W w')) (hS : Hid (∀ W, Calls Tryd.prog 72 #[.int .i64 c.sp] W fun e w' => e = .returned (.string HS) ∧ Below W.heap.size W w')) (hP : Hid (∀ W, Calls Tryd.prog 72 #[.int .i64 c.pc] W fun e w' => e = .returned (.string HP) ∧ Below W.heap.size W w')) (hz : HF.size = 2 ∧ HS.size = 2 ∧ HP.size = 2)
    (f : Nat → Bool) (e : Nat × Value) (a : Act) (w : World) (hun : f 2 = false) (hdep : ∀ d ∈ e8_o2.after, Region.binds .any d = true → f d.on = true) (hJ : e8_J w1 b n ocap base oa L c HF HS HP f e w) (hFr : Fr e8_O A f (fun j => e8_V b n ocap base oa L c HF HS HP j e) a) (hKp : Kept e8_O A f a)
    (K : Act → World → Prop) (hK : Hid (∀ v e' w', v = e8_V b n ocap base oa L c HF HS HP 2 e' → (∀ j, f j = true → e8_V b n ocap base oa L c HF HS HP j e' = e8_V b n ocap base oa L c HF HS HP j e) → e8_J w1 b n ocap base oa L c HF HS HP (fun j => j == 2 || f j) e' w' → K (a.put e8_o2.dst v) w')) :
    if Region.wanted e8_o2 (yielded e8_O a.tmps) = true then Oper.wp Tryd.prog e8_o2 a w K Q else K (a.put e8_o2.dst undef) w := by
  unfold e8_o2 at hdep hK ⊢
  obtain ⟨hg, r0, r1, j17, j19, ja⟩ := hJ
  have k1 : f 1 = true := hdep { on := 1, ground := .data } (by simp) rfl
  have v25 : a.tmps.getD 25 undef = .pointer (some ⟨b, 8, none⟩) := hFr.new 1 25 rfl k1
  have y : w.cell? ⟨b, 8, none⟩ = some (.int .i64 c.f) := (qb.grown hg nb).cell 8
  replace hg := hid hg
  replace r0 := hid r0
  replace r1 := hid r1
  replace j17 := hid j17
  replace j19 := hid j19
  replace ja := hid ja
  clear hdep hFr hKp h3 h1
  go_simp
  exact hK.out _ e _ rfl (fun _ _ => rfl) ⟨hg.out, r0.out, r1.out, j17.out, j19.out, ja.out⟩
set_option maxRecDepth 100000 in
set_option maxHeartbeats 2000000 in
theorem e8_s3 (A : Act) (w1 : World) (Q : Exit → Act → World → Prop) (b n ocap base : Nat) (oa : Option Addr) (L : List Value) (c : Cu) (HF HS HP : ByteArray) 
    (h3 : A.tmps.getD 3 undef = .slice oa n ocap) (h1 : A.tmps.getD 1 undef = .pointer (some ⟨b, 0, none⟩)) (qb : Blk w1 b (cuA c)) (nb : some b ≠ (Value.slice oa n ocap).ownBlock) (own : w1.ownsRow base 9 1 (Value.slice oa n ocap) n L) (hbase : base ≤ w1.heap.size) (hn : n ≤ 100) (hown1 : ∀ k, (Value.slice oa n ocap).ownBlock = some k → k < w1.heap.size) (hF : Hid (∀ W, Calls Tryd.prog 72 #[.int .i64 c.f] W fun e w' => e = .returned (.string HF) ∧ Below W.heap.size W w')) (hS : Hid (∀ W, Calls Tryd.prog 72 #[.int .i64 c.sp] W fun e w' => e = .returned (.string HS) ∧ Below W.heap.size W w')) (hP : Hid (∀ W, Calls Tryd.prog 72 #[.int .i64 c.pc] W fun e w' => e = .returned (.string HP) ∧ Below W.heap.size W w')) (hz : HF.size = 2 ∧ HS.size = 2 ∧ HP.size = 2)
    (f : Nat → Bool) (e : Nat × Value) (a : Act) (w : World) (hun : f 3 = false) (hdep : ∀ d ∈ e8_o3.after, Region.binds .any d = true → f d.on = true) (hJ : e8_J w1 b n ocap base oa L c HF HS HP f e w) (hFr : Fr e8_O A f (fun j => e8_V b n ocap base oa L c HF HS HP j e) a) (hKp : Kept e8_O A f a)
    (K : Act → World → Prop) (hK : Hid (∀ v e' w', v = e8_V b n ocap base oa L c HF HS HP 3 e' → (∀ j, f j = true → e8_V b n ocap base oa L c HF HS HP j e' = e8_V b n ocap base oa L c HF HS HP j e) → e8_J w1 b n ocap base oa L c HF HS HP (fun j => j == 3 || f j) e' w' → K (a.put e8_o3.dst v) w')) :
    if Region.wanted e8_o3 (yielded e8_O a.tmps) = true then Oper.wp Tryd.prog e8_o3 a w K Q else K (a.put e8_o3.dst undef) w := by
  unfold e8_o3 at hdep hK ⊢
  obtain ⟨hg, r0, r1, j17, j19, ja⟩ := hJ
  have k2 : f 2 = true := hdep { on := 2, ground := .data } (by simp) rfl
  have v26 : a.tmps.getD 26 undef = .int .i64 c.f := hFr.new 2 26 rfl k2
  replace hg := hid hg
  replace r0 := hid r0
  replace r1 := hid r1
  replace j17 := hid j17
  replace j19 := hid j19
  replace ja := hid ja
  clear hdep hFr hKp h3 h1
  go_simp
  go_at_call 72
  refine (hF.out w).mono ?_
  rintro r w' ⟨rfl, hb'⟩
  have hb2 := hid hb'
  clear hb'
  go_simp
  exact hK.out _ e _ rfl (fun _ _ => rfl) ⟨gtrX hg.out (gbX hb2.out), fun h => ownX_below (r0.out h) hb2.out, fun h => ownX_below (r1.out h) hb2.out, fun h => ⟨(j17.out h).1, (hb2.out.block _ (Array.getElem?_eq_some_iff.1 (j17.out h).2).1).trans (j17.out h).2⟩, j19.out, ja.out⟩
set_option maxRecDepth 100000 in
set_option maxHeartbeats 2000000 in
theorem e8_s4 (A : Act) (w1 : World) (Q : Exit → Act → World → Prop) (b n ocap base : Nat) (oa : Option Addr) (L : List Value) (c : Cu) (HF HS HP : ByteArray) 
    (h3 : A.tmps.getD 3 undef = .slice oa n ocap) (h1 : A.tmps.getD 1 undef = .pointer (some ⟨b, 0, none⟩)) (qb : Blk w1 b (cuA c)) (nb : some b ≠ (Value.slice oa n ocap).ownBlock) (own : w1.ownsRow base 9 1 (Value.slice oa n ocap) n L) (hbase : base ≤ w1.heap.size) (hn : n ≤ 100) (hown1 : ∀ k, (Value.slice oa n ocap).ownBlock = some k → k < w1.heap.size) (hF : Hid (∀ W, Calls Tryd.prog 72 #[.int .i64 c.f] W fun e w' => e = .returned (.string HF) ∧ Below W.heap.size W w')) (hS : Hid (∀ W, Calls Tryd.prog 72 #[.int .i64 c.sp] W fun e w' => e = .returned (.string HS) ∧ Below W.heap.size W w')) (hP : Hid (∀ W, Calls Tryd.prog 72 #[.int .i64 c.pc] W fun e w' => e = .returned (.string HP) ∧ Below W.heap.size W w')) (hz : HF.size = 2 ∧ HS.size = 2 ∧ HP.size = 2)
    (f : Nat → Bool) (e : Nat × Value) (a : Act) (w : World) (hun : f 4 = false) (hdep : ∀ d ∈ e8_o4.after, Region.binds .any d = true → f d.on = true) (hJ : e8_J w1 b n ocap base oa L c HF HS HP f e w) (hFr : Fr e8_O A f (fun j => e8_V b n ocap base oa L c HF HS HP j e) a) (hKp : Kept e8_O A f a)
    (K : Act → World → Prop) (hK : Hid (∀ v e' w', v = e8_V b n ocap base oa L c HF HS HP 4 e' → (∀ j, f j = true → e8_V b n ocap base oa L c HF HS HP j e' = e8_V b n ocap base oa L c HF HS HP j e) → e8_J w1 b n ocap base oa L c HF HS HP (fun j => j == 4 || f j) e' w' → K (a.put e8_o4.dst v) w')) :
    if Region.wanted e8_o4 (yielded e8_O a.tmps) = true then Oper.wp Tryd.prog e8_o4 a w K Q else K (a.put e8_o4.dst undef) w := by
  unfold e8_o4 at hdep hK ⊢
  obtain ⟨hg, r0, r1, j17, j19, ja⟩ := hJ
  have k3 : f 3 = true := hdep { on := 3, ground := .data } (by simp) rfl
  have v27 : a.tmps.getD 27 undef = .string HF := hFr.new 3 27 rfl k3
  obtain ⟨g1, g2, g3⟩ := hz
  have z1 : ¬ 9223372036854775807 < 1 + HF.size := by omega
  have z2 : ¬ 9223372036854775807 < 2 + HS.size := by omega
  have z3 : ¬ 9223372036854775807 < 2 + HP.size := by omega
  have z4 : ¬ (9223372036854775807 < 1 + 2) := by omega
  replace hg := hid hg
  replace r0 := hid r0
  replace r1 := hid r1
  replace j17 := hid j17
  replace j19 := hid j19
  replace ja := hid ja
  clear hdep hFr hKp h3 h1
  go_simp
  exact hK.out _ e _ rfl (fun _ _ => rfl) ⟨hg.out, r0.out, r1.out, j17.out, j19.out, ja.out⟩
set_option maxRecDepth 100000 in
set_option maxHeartbeats 2000000 in
theorem e8_s5 (A : Act) (w1 : World) (Q : Exit → Act → World → Prop) (b n ocap base : Nat) (oa : Option Addr) (L : List Value) (c : Cu) (HF HS HP : ByteArray) 
    (h3 : A.tmps.getD 3 undef = .slice oa n ocap) (h1 : A.tmps.getD 1 undef = .pointer (some ⟨b, 0, none⟩)) (qb : Blk w1 b (cuA c)) (nb : some b ≠ (Value.slice oa n ocap).ownBlock) (own : w1.ownsRow base 9 1 (Value.slice oa n ocap) n L) (hbase : base ≤ w1.heap.size) (hn : n ≤ 100) (hown1 : ∀ k, (Value.slice oa n ocap).ownBlock = some k → k < w1.heap.size) (hF : Hid (∀ W, Calls Tryd.prog 72 #[.int .i64 c.f] W fun e w' => e = .returned (.string HF) ∧ Below W.heap.size W w')) (hS : Hid (∀ W, Calls Tryd.prog 72 #[.int .i64 c.sp] W fun e w' => e = .returned (.string HS) ∧ Below W.heap.size W w')) (hP : Hid (∀ W, Calls Tryd.prog 72 #[.int .i64 c.pc] W fun e w' => e = .returned (.string HP) ∧ Below W.heap.size W w')) (hz : HF.size = 2 ∧ HS.size = 2 ∧ HP.size = 2)
    (f : Nat → Bool) (e : Nat × Value) (a : Act) (w : World) (hun : f 5 = false) (hdep : ∀ d ∈ e8_o5.after, Region.binds .any d = true → f d.on = true) (hJ : e8_J w1 b n ocap base oa L c HF HS HP f e w) (hFr : Fr e8_O A f (fun j => e8_V b n ocap base oa L c HF HS HP j e) a) (hKp : Kept e8_O A f a)
    (K : Act → World → Prop) (hK : Hid (∀ v e' w', v = e8_V b n ocap base oa L c HF HS HP 5 e' → (∀ j, f j = true → e8_V b n ocap base oa L c HF HS HP j e' = e8_V b n ocap base oa L c HF HS HP j e) → e8_J w1 b n ocap base oa L c HF HS HP (fun j => j == 5 || f j) e' w' → K (a.put e8_o5.dst v) w')) :
    if Region.wanted e8_o5 (yielded e8_O a.tmps) = true then Oper.wp Tryd.prog e8_o5 a w K Q else K (a.put e8_o5.dst undef) w := by
  unfold e8_o5 at hdep hK ⊢
  obtain ⟨hg, r0, r1, j17, j19, ja⟩ := hJ
  have v1 := (hFr.old 1 (e8_no (by decide))).trans h1
  replace hg := hid hg
  replace r0 := hid r0
  replace r1 := hid r1
  replace j17 := hid j17
  replace j19 := hid j19
  replace ja := hid ja
  clear hdep hFr hKp h3 h1
  go_simp
  exact hK.out _ e _ rfl (fun _ _ => rfl) ⟨hg.out, r0.out, r1.out, j17.out, j19.out, ja.out⟩
set_option maxRecDepth 100000 in
set_option maxHeartbeats 2000000 in
theorem e8_s6 (A : Act) (w1 : World) (Q : Exit → Act → World → Prop) (b n ocap base : Nat) (oa : Option Addr) (L : List Value) (c : Cu) (HF HS HP : ByteArray) 
    (h3 : A.tmps.getD 3 undef = .slice oa n ocap) (h1 : A.tmps.getD 1 undef = .pointer (some ⟨b, 0, none⟩)) (qb : Blk w1 b (cuA c)) (nb : some b ≠ (Value.slice oa n ocap).ownBlock) (own : w1.ownsRow base 9 1 (Value.slice oa n ocap) n L) (hbase : base ≤ w1.heap.size) (hn : n ≤ 100) (hown1 : ∀ k, (Value.slice oa n ocap).ownBlock = some k → k < w1.heap.size) (hF : Hid (∀ W, Calls Tryd.prog 72 #[.int .i64 c.f] W fun e w' => e = .returned (.string HF) ∧ Below W.heap.size W w')) (hS : Hid (∀ W, Calls Tryd.prog 72 #[.int .i64 c.sp] W fun e w' => e = .returned (.string HS) ∧ Below W.heap.size W w')) (hP : Hid (∀ W, Calls Tryd.prog 72 #[.int .i64 c.pc] W fun e w' => e = .returned (.string HP) ∧ Below W.heap.size W w')) (hz : HF.size = 2 ∧ HS.size = 2 ∧ HP.size = 2)
    (f : Nat → Bool) (e : Nat × Value) (a : Act) (w : World) (hun : f 6 = false) (hdep : ∀ d ∈ e8_o6.after, Region.binds .any d = true → f d.on = true) (hJ : e8_J w1 b n ocap base oa L c HF HS HP f e w) (hFr : Fr e8_O A f (fun j => e8_V b n ocap base oa L c HF HS HP j e) a) (hKp : Kept e8_O A f a)
    (K : Act → World → Prop) (hK : Hid (∀ v e' w', v = e8_V b n ocap base oa L c HF HS HP 6 e' → (∀ j, f j = true → e8_V b n ocap base oa L c HF HS HP j e' = e8_V b n ocap base oa L c HF HS HP j e) → e8_J w1 b n ocap base oa L c HF HS HP (fun j => j == 6 || f j) e' w' → K (a.put e8_o6.dst v) w')) :
    if Region.wanted e8_o6 (yielded e8_O a.tmps) = true then Oper.wp Tryd.prog e8_o6 a w K Q else K (a.put e8_o6.dst undef) w := by
  unfold e8_o6 at hdep hK ⊢
  obtain ⟨hg, r0, r1, j17, j19, ja⟩ := hJ
  have k5 : f 5 = true := hdep { on := 5, ground := .data } (by simp) rfl
  have v29 : a.tmps.getD 29 undef = .pointer (some ⟨b, 9, none⟩) := hFr.new 5 29 rfl k5
  have y : w.cell? ⟨b, 9, none⟩ = some (.int .i64 c.sp) := (qb.grown hg nb).cell 9
  replace hg := hid hg
  replace r0 := hid r0
  replace r1 := hid r1
  replace j17 := hid j17
  replace j19 := hid j19
  replace ja := hid ja
  clear hdep hFr hKp h3 h1
  go_simp
  exact hK.out _ e _ rfl (fun _ _ => rfl) ⟨hg.out, r0.out, r1.out, j17.out, j19.out, ja.out⟩
set_option maxRecDepth 100000 in
set_option maxHeartbeats 2000000 in
theorem e8_s7 (A : Act) (w1 : World) (Q : Exit → Act → World → Prop) (b n ocap base : Nat) (oa : Option Addr) (L : List Value) (c : Cu) (HF HS HP : ByteArray) 
    (h3 : A.tmps.getD 3 undef = .slice oa n ocap) (h1 : A.tmps.getD 1 undef = .pointer (some ⟨b, 0, none⟩)) (qb : Blk w1 b (cuA c)) (nb : some b ≠ (Value.slice oa n ocap).ownBlock) (own : w1.ownsRow base 9 1 (Value.slice oa n ocap) n L) (hbase : base ≤ w1.heap.size) (hn : n ≤ 100) (hown1 : ∀ k, (Value.slice oa n ocap).ownBlock = some k → k < w1.heap.size) (hF : Hid (∀ W, Calls Tryd.prog 72 #[.int .i64 c.f] W fun e w' => e = .returned (.string HF) ∧ Below W.heap.size W w')) (hS : Hid (∀ W, Calls Tryd.prog 72 #[.int .i64 c.sp] W fun e w' => e = .returned (.string HS) ∧ Below W.heap.size W w')) (hP : Hid (∀ W, Calls Tryd.prog 72 #[.int .i64 c.pc] W fun e w' => e = .returned (.string HP) ∧ Below W.heap.size W w')) (hz : HF.size = 2 ∧ HS.size = 2 ∧ HP.size = 2)
    (f : Nat → Bool) (e : Nat × Value) (a : Act) (w : World) (hun : f 7 = false) (hdep : ∀ d ∈ e8_o7.after, Region.binds .any d = true → f d.on = true) (hJ : e8_J w1 b n ocap base oa L c HF HS HP f e w) (hFr : Fr e8_O A f (fun j => e8_V b n ocap base oa L c HF HS HP j e) a) (hKp : Kept e8_O A f a)
    (K : Act → World → Prop) (hK : Hid (∀ v e' w', v = e8_V b n ocap base oa L c HF HS HP 7 e' → (∀ j, f j = true → e8_V b n ocap base oa L c HF HS HP j e' = e8_V b n ocap base oa L c HF HS HP j e) → e8_J w1 b n ocap base oa L c HF HS HP (fun j => j == 7 || f j) e' w' → K (a.put e8_o7.dst v) w')) :
    if Region.wanted e8_o7 (yielded e8_O a.tmps) = true then Oper.wp Tryd.prog e8_o7 a w K Q else K (a.put e8_o7.dst undef) w := by
  unfold e8_o7 at hdep hK ⊢
  obtain ⟨hg, r0, r1, j17, j19, ja⟩ := hJ
  have k6 : f 6 = true := hdep { on := 6, ground := .data } (by simp) rfl
  have v30 : a.tmps.getD 30 undef = .int .i64 c.sp := hFr.new 6 30 rfl k6
  replace hg := hid hg
  replace r0 := hid r0
  replace r1 := hid r1
  replace j17 := hid j17
  replace j19 := hid j19
  replace ja := hid ja
  clear hdep hFr hKp h3 h1
  go_simp
  go_at_call 72
  refine (hS.out w).mono ?_
  rintro r w' ⟨rfl, hb'⟩
  have hb2 := hid hb'
  clear hb'
  go_simp
  exact hK.out _ e _ rfl (fun _ _ => rfl) ⟨gtrX hg.out (gbX hb2.out), fun h => ownX_below (r0.out h) hb2.out, fun h => ownX_below (r1.out h) hb2.out, fun h => ⟨(j17.out h).1, (hb2.out.block _ (Array.getElem?_eq_some_iff.1 (j17.out h).2).1).trans (j17.out h).2⟩, j19.out, ja.out⟩
set_option maxRecDepth 100000 in
set_option maxHeartbeats 2000000 in
theorem e8_s8 (A : Act) (w1 : World) (Q : Exit → Act → World → Prop) (b n ocap base : Nat) (oa : Option Addr) (L : List Value) (c : Cu) (HF HS HP : ByteArray) 
    (h3 : A.tmps.getD 3 undef = .slice oa n ocap) (h1 : A.tmps.getD 1 undef = .pointer (some ⟨b, 0, none⟩)) (qb : Blk w1 b (cuA c)) (nb : some b ≠ (Value.slice oa n ocap).ownBlock) (own : w1.ownsRow base 9 1 (Value.slice oa n ocap) n L) (hbase : base ≤ w1.heap.size) (hn : n ≤ 100) (hown1 : ∀ k, (Value.slice oa n ocap).ownBlock = some k → k < w1.heap.size) (hF : Hid (∀ W, Calls Tryd.prog 72 #[.int .i64 c.f] W fun e w' => e = .returned (.string HF) ∧ Below W.heap.size W w')) (hS : Hid (∀ W, Calls Tryd.prog 72 #[.int .i64 c.sp] W fun e w' => e = .returned (.string HS) ∧ Below W.heap.size W w')) (hP : Hid (∀ W, Calls Tryd.prog 72 #[.int .i64 c.pc] W fun e w' => e = .returned (.string HP) ∧ Below W.heap.size W w')) (hz : HF.size = 2 ∧ HS.size = 2 ∧ HP.size = 2)
    (f : Nat → Bool) (e : Nat × Value) (a : Act) (w : World) (hun : f 8 = false) (hdep : ∀ d ∈ e8_o8.after, Region.binds .any d = true → f d.on = true) (hJ : e8_J w1 b n ocap base oa L c HF HS HP f e w) (hFr : Fr e8_O A f (fun j => e8_V b n ocap base oa L c HF HS HP j e) a) (hKp : Kept e8_O A f a)
    (K : Act → World → Prop) (hK : Hid (∀ v e' w', v = e8_V b n ocap base oa L c HF HS HP 8 e' → (∀ j, f j = true → e8_V b n ocap base oa L c HF HS HP j e' = e8_V b n ocap base oa L c HF HS HP j e) → e8_J w1 b n ocap base oa L c HF HS HP (fun j => j == 8 || f j) e' w' → K (a.put e8_o8.dst v) w')) :
    if Region.wanted e8_o8 (yielded e8_O a.tmps) = true then Oper.wp Tryd.prog e8_o8 a w K Q else K (a.put e8_o8.dst undef) w := by
  unfold e8_o8 at hdep hK ⊢
  obtain ⟨hg, r0, r1, j17, j19, ja⟩ := hJ
  have k7 : f 7 = true := hdep { on := 7, ground := .data } (by simp) rfl
  have v31 : a.tmps.getD 31 undef = .string HS := hFr.new 7 31 rfl k7
  obtain ⟨g1, g2, g3⟩ := hz
  have z1 : ¬ 9223372036854775807 < 1 + HF.size := by omega
  have z2 : ¬ 9223372036854775807 < 2 + HS.size := by omega
  have z3 : ¬ 9223372036854775807 < 2 + HP.size := by omega
  have z4 : ¬ (9223372036854775807 < 1 + 2) := by omega
  replace hg := hid hg
  replace r0 := hid r0
  replace r1 := hid r1
  replace j17 := hid j17
  replace j19 := hid j19
  replace ja := hid ja
  clear hdep hFr hKp h3 h1
  go_simp
  exact hK.out _ e _ rfl (fun _ _ => rfl) ⟨hg.out, r0.out, r1.out, j17.out, j19.out, ja.out⟩
set_option maxRecDepth 100000 in
set_option maxHeartbeats 2000000 in
theorem e8_s9 (A : Act) (w1 : World) (Q : Exit → Act → World → Prop) (b n ocap base : Nat) (oa : Option Addr) (L : List Value) (c : Cu) (HF HS HP : ByteArray) 
    (h3 : A.tmps.getD 3 undef = .slice oa n ocap) (h1 : A.tmps.getD 1 undef = .pointer (some ⟨b, 0, none⟩)) (qb : Blk w1 b (cuA c)) (nb : some b ≠ (Value.slice oa n ocap).ownBlock) (own : w1.ownsRow base 9 1 (Value.slice oa n ocap) n L) (hbase : base ≤ w1.heap.size) (hn : n ≤ 100) (hown1 : ∀ k, (Value.slice oa n ocap).ownBlock = some k → k < w1.heap.size) (hF : Hid (∀ W, Calls Tryd.prog 72 #[.int .i64 c.f] W fun e w' => e = .returned (.string HF) ∧ Below W.heap.size W w')) (hS : Hid (∀ W, Calls Tryd.prog 72 #[.int .i64 c.sp] W fun e w' => e = .returned (.string HS) ∧ Below W.heap.size W w')) (hP : Hid (∀ W, Calls Tryd.prog 72 #[.int .i64 c.pc] W fun e w' => e = .returned (.string HP) ∧ Below W.heap.size W w')) (hz : HF.size = 2 ∧ HS.size = 2 ∧ HP.size = 2)
    (f : Nat → Bool) (e : Nat × Value) (a : Act) (w : World) (hun : f 9 = false) (hdep : ∀ d ∈ e8_o9.after, Region.binds .any d = true → f d.on = true) (hJ : e8_J w1 b n ocap base oa L c HF HS HP f e w) (hFr : Fr e8_O A f (fun j => e8_V b n ocap base oa L c HF HS HP j e) a) (hKp : Kept e8_O A f a)
    (K : Act → World → Prop) (hK : Hid (∀ v e' w', v = e8_V b n ocap base oa L c HF HS HP 9 e' → (∀ j, f j = true → e8_V b n ocap base oa L c HF HS HP j e' = e8_V b n ocap base oa L c HF HS HP j e) → e8_J w1 b n ocap base oa L c HF HS HP (fun j => j == 9 || f j) e' w' → K (a.put e8_o9.dst v) w')) :
    if Region.wanted e8_o9 (yielded e8_O a.tmps) = true then Oper.wp Tryd.prog e8_o9 a w K Q else K (a.put e8_o9.dst undef) w := by
  unfold e8_o9 at hdep hK ⊢
  obtain ⟨hg, r0, r1, j17, j19, ja⟩ := hJ
  have v1 := (hFr.old 1 (e8_no (by decide))).trans h1
  replace hg := hid hg
  replace r0 := hid r0
  replace r1 := hid r1
  replace j17 := hid j17
  replace j19 := hid j19
  replace ja := hid ja
  clear hdep hFr hKp h3 h1
  go_simp
  exact hK.out _ e _ rfl (fun _ _ => rfl) ⟨hg.out, r0.out, r1.out, j17.out, j19.out, ja.out⟩
set_option maxRecDepth 100000 in
set_option maxHeartbeats 2000000 in
theorem e8_s10 (A : Act) (w1 : World) (Q : Exit → Act → World → Prop) (b n ocap base : Nat) (oa : Option Addr) (L : List Value) (c : Cu) (HF HS HP : ByteArray) 
    (h3 : A.tmps.getD 3 undef = .slice oa n ocap) (h1 : A.tmps.getD 1 undef = .pointer (some ⟨b, 0, none⟩)) (qb : Blk w1 b (cuA c)) (nb : some b ≠ (Value.slice oa n ocap).ownBlock) (own : w1.ownsRow base 9 1 (Value.slice oa n ocap) n L) (hbase : base ≤ w1.heap.size) (hn : n ≤ 100) (hown1 : ∀ k, (Value.slice oa n ocap).ownBlock = some k → k < w1.heap.size) (hF : Hid (∀ W, Calls Tryd.prog 72 #[.int .i64 c.f] W fun e w' => e = .returned (.string HF) ∧ Below W.heap.size W w')) (hS : Hid (∀ W, Calls Tryd.prog 72 #[.int .i64 c.sp] W fun e w' => e = .returned (.string HS) ∧ Below W.heap.size W w')) (hP : Hid (∀ W, Calls Tryd.prog 72 #[.int .i64 c.pc] W fun e w' => e = .returned (.string HP) ∧ Below W.heap.size W w')) (hz : HF.size = 2 ∧ HS.size = 2 ∧ HP.size = 2)
    (f : Nat → Bool) (e : Nat × Value) (a : Act) (w : World) (hun : f 10 = false) (hdep : ∀ d ∈ e8_o10.after, Region.binds .any d = true → f d.on = true) (hJ : e8_J w1 b n ocap base oa L c HF HS HP f e w) (hFr : Fr e8_O A f (fun j => e8_V b n ocap base oa L c HF HS HP j e) a) (hKp : Kept e8_O A f a)
    (K : Act → World → Prop) (hK : Hid (∀ v e' w', v = e8_V b n ocap base oa L c HF HS HP 10 e' → (∀ j, f j = true → e8_V b n ocap base oa L c HF HS HP j e' = e8_V b n ocap base oa L c HF HS HP j e) → e8_J w1 b n ocap base oa L c HF HS HP (fun j => j == 10 || f j) e' w' → K (a.put e8_o10.dst v) w')) :
    if Region.wanted e8_o10 (yielded e8_O a.tmps) = true then Oper.wp Tryd.prog e8_o10 a w K Q else K (a.put e8_o10.dst undef) w := by
  unfold e8_o10 at hdep hK ⊢
  obtain ⟨hg, r0, r1, j17, j19, ja⟩ := hJ
  have k9 : f 9 = true := hdep { on := 9, ground := .data } (by simp) rfl
  have v33 : a.tmps.getD 33 undef = .pointer (some ⟨b, 10, none⟩) := hFr.new 9 33 rfl k9
  have y : w.cell? ⟨b, 10, none⟩ = some (.int .i64 c.pc) := (qb.grown hg nb).cell 10
  replace hg := hid hg
  replace r0 := hid r0
  replace r1 := hid r1
  replace j17 := hid j17
  replace j19 := hid j19
  replace ja := hid ja
  clear hdep hFr hKp h3 h1
  go_simp
  exact hK.out _ e _ rfl (fun _ _ => rfl) ⟨hg.out, r0.out, r1.out, j17.out, j19.out, ja.out⟩
set_option maxRecDepth 100000 in
set_option maxHeartbeats 2000000 in
theorem e8_s11 (A : Act) (w1 : World) (Q : Exit → Act → World → Prop) (b n ocap base : Nat) (oa : Option Addr) (L : List Value) (c : Cu) (HF HS HP : ByteArray) 
    (h3 : A.tmps.getD 3 undef = .slice oa n ocap) (h1 : A.tmps.getD 1 undef = .pointer (some ⟨b, 0, none⟩)) (qb : Blk w1 b (cuA c)) (nb : some b ≠ (Value.slice oa n ocap).ownBlock) (own : w1.ownsRow base 9 1 (Value.slice oa n ocap) n L) (hbase : base ≤ w1.heap.size) (hn : n ≤ 100) (hown1 : ∀ k, (Value.slice oa n ocap).ownBlock = some k → k < w1.heap.size) (hF : Hid (∀ W, Calls Tryd.prog 72 #[.int .i64 c.f] W fun e w' => e = .returned (.string HF) ∧ Below W.heap.size W w')) (hS : Hid (∀ W, Calls Tryd.prog 72 #[.int .i64 c.sp] W fun e w' => e = .returned (.string HS) ∧ Below W.heap.size W w')) (hP : Hid (∀ W, Calls Tryd.prog 72 #[.int .i64 c.pc] W fun e w' => e = .returned (.string HP) ∧ Below W.heap.size W w')) (hz : HF.size = 2 ∧ HS.size = 2 ∧ HP.size = 2)
    (f : Nat → Bool) (e : Nat × Value) (a : Act) (w : World) (hun : f 11 = false) (hdep : ∀ d ∈ e8_o11.after, Region.binds .any d = true → f d.on = true) (hJ : e8_J w1 b n ocap base oa L c HF HS HP f e w) (hFr : Fr e8_O A f (fun j => e8_V b n ocap base oa L c HF HS HP j e) a) (hKp : Kept e8_O A f a)
    (K : Act → World → Prop) (hK : Hid (∀ v e' w', v = e8_V b n ocap base oa L c HF HS HP 11 e' → (∀ j, f j = true → e8_V b n ocap base oa L c HF HS HP j e' = e8_V b n ocap base oa L c HF HS HP j e) → e8_J w1 b n ocap base oa L c HF HS HP (fun j => j == 11 || f j) e' w' → K (a.put e8_o11.dst v) w')) :
    if Region.wanted e8_o11 (yielded e8_O a.tmps) = true then Oper.wp Tryd.prog e8_o11 a w K Q else K (a.put e8_o11.dst undef) w := by
  unfold e8_o11 at hdep hK ⊢
  obtain ⟨hg, r0, r1, j17, j19, ja⟩ := hJ
  have k10 : f 10 = true := hdep { on := 10, ground := .data } (by simp) rfl
  have v34 : a.tmps.getD 34 undef = .int .i64 c.pc := hFr.new 10 34 rfl k10
  replace hg := hid hg
  replace r0 := hid r0
  replace r1 := hid r1
  replace j17 := hid j17
  replace j19 := hid j19
  replace ja := hid ja
  clear hdep hFr hKp h3 h1
  go_simp
  go_at_call 72
  refine (hP.out w).mono ?_
  rintro r w' ⟨rfl, hb'⟩
  have hb2 := hid hb'
  clear hb'
  go_simp
  exact hK.out _ e _ rfl (fun _ _ => rfl) ⟨gtrX hg.out (gbX hb2.out), fun h => ownX_below (r0.out h) hb2.out, fun h => ownX_below (r1.out h) hb2.out, fun h => ⟨(j17.out h).1, (hb2.out.block _ (Array.getElem?_eq_some_iff.1 (j17.out h).2).1).trans (j17.out h).2⟩, j19.out, ja.out⟩
set_option maxRecDepth 100000 in
set_option maxHeartbeats 2000000 in
theorem e8_s12 (A : Act) (w1 : World) (Q : Exit → Act → World → Prop) (b n ocap base : Nat) (oa : Option Addr) (L : List Value) (c : Cu) (HF HS HP : ByteArray) 
    (h3 : A.tmps.getD 3 undef = .slice oa n ocap) (h1 : A.tmps.getD 1 undef = .pointer (some ⟨b, 0, none⟩)) (qb : Blk w1 b (cuA c)) (nb : some b ≠ (Value.slice oa n ocap).ownBlock) (own : w1.ownsRow base 9 1 (Value.slice oa n ocap) n L) (hbase : base ≤ w1.heap.size) (hn : n ≤ 100) (hown1 : ∀ k, (Value.slice oa n ocap).ownBlock = some k → k < w1.heap.size) (hF : Hid (∀ W, Calls Tryd.prog 72 #[.int .i64 c.f] W fun e w' => e = .returned (.string HF) ∧ Below W.heap.size W w')) (hS : Hid (∀ W, Calls Tryd.prog 72 #[.int .i64 c.sp] W fun e w' => e = .returned (.string HS) ∧ Below W.heap.size W w')) (hP : Hid (∀ W, Calls Tryd.prog 72 #[.int .i64 c.pc] W fun e w' => e = .returned (.string HP) ∧ Below W.heap.size W w')) (hz : HF.size = 2 ∧ HS.size = 2 ∧ HP.size = 2)
    (f : Nat → Bool) (e : Nat × Value) (a : Act) (w : World) (hun : f 12 = false) (hdep : ∀ d ∈ e8_o12.after, Region.binds .any d = true → f d.on = true) (hJ : e8_J w1 b n ocap base oa L c HF HS HP f e w) (hFr : Fr e8_O A f (fun j => e8_V b n ocap base oa L c HF HS HP j e) a) (hKp : Kept e8_O A f a)
    (K : Act → World → Prop) (hK : Hid (∀ v e' w', v = e8_V b n ocap base oa L c HF HS HP 12 e' → (∀ j, f j = true → e8_V b n ocap base oa L c HF HS HP j e' = e8_V b n ocap base oa L c HF HS HP j e) → e8_J w1 b n ocap base oa L c HF HS HP (fun j => j == 12 || f j) e' w' → K (a.put e8_o12.dst v) w')) :
    if Region.wanted e8_o12 (yielded e8_O a.tmps) = true then Oper.wp Tryd.prog e8_o12 a w K Q else K (a.put e8_o12.dst undef) w := by
  unfold e8_o12 at hdep hK ⊢
  obtain ⟨hg, r0, r1, j17, j19, ja⟩ := hJ
  have k11 : f 11 = true := hdep { on := 11, ground := .data } (by simp) rfl
  have v35 : a.tmps.getD 35 undef = .string HP := hFr.new 11 35 rfl k11
  obtain ⟨g1, g2, g3⟩ := hz
  have z1 : ¬ 9223372036854775807 < 1 + HF.size := by omega
  have z2 : ¬ 9223372036854775807 < 2 + HS.size := by omega
  have z3 : ¬ 9223372036854775807 < 2 + HP.size := by omega
  have z4 : ¬ (9223372036854775807 < 1 + 2) := by omega
  replace hg := hid hg
  replace r0 := hid r0
  replace r1 := hid r1
  replace j17 := hid j17
  replace j19 := hid j19
  replace ja := hid ja
  clear hdep hFr hKp h3 h1
  go_simp
  exact hK.out _ e _ rfl (fun _ _ => rfl) ⟨hg.out, r0.out, r1.out, j17.out, j19.out, ja.out⟩
set_option maxRecDepth 100000 in
set_option maxHeartbeats 2000000 in
theorem e8_s13 (A : Act) (w1 : World) (Q : Exit → Act → World → Prop) (b n ocap base : Nat) (oa : Option Addr) (L : List Value) (c : Cu) (HF HS HP : ByteArray) 
    (h3 : A.tmps.getD 3 undef = .slice oa n ocap) (h1 : A.tmps.getD 1 undef = .pointer (some ⟨b, 0, none⟩)) (qb : Blk w1 b (cuA c)) (nb : some b ≠ (Value.slice oa n ocap).ownBlock) (own : w1.ownsRow base 9 1 (Value.slice oa n ocap) n L) (hbase : base ≤ w1.heap.size) (hn : n ≤ 100) (hown1 : ∀ k, (Value.slice oa n ocap).ownBlock = some k → k < w1.heap.size) (hF : Hid (∀ W, Calls Tryd.prog 72 #[.int .i64 c.f] W fun e w' => e = .returned (.string HF) ∧ Below W.heap.size W w')) (hS : Hid (∀ W, Calls Tryd.prog 72 #[.int .i64 c.sp] W fun e w' => e = .returned (.string HS) ∧ Below W.heap.size W w')) (hP : Hid (∀ W, Calls Tryd.prog 72 #[.int .i64 c.pc] W fun e w' => e = .returned (.string HP) ∧ Below W.heap.size W w')) (hz : HF.size = 2 ∧ HS.size = 2 ∧ HP.size = 2)
    (f : Nat → Bool) (e : Nat × Value) (a : Act) (w : World) (hun : f 13 = false) (hdep : ∀ d ∈ e8_o13.after, Region.binds .any d = true → f d.on = true) (hJ : e8_J w1 b n ocap base oa L c HF HS HP f e w) (hFr : Fr e8_O A f (fun j => e8_V b n ocap base oa L c HF HS HP j e) a) (hKp : Kept e8_O A f a)
    (K : Act → World → Prop) (hK : Hid (∀ v e' w', v = e8_V b n ocap base oa L c HF HS HP 13 e' → (∀ j, f j = true → e8_V b n ocap base oa L c HF HS HP j e' = e8_V b n ocap base oa L c HF HS HP j e) → e8_J w1 b n ocap base oa L c HF HS HP (fun j => j == 13 || f j) e' w' → K (a.put e8_o13.dst v) w')) :
    if Region.wanted e8_o13 (yielded e8_O a.tmps) = true then Oper.wp Tryd.prog e8_o13 a w K Q else K (a.put e8_o13.dst undef) w := by
  unfold e8_o13 at hdep hK ⊢
  obtain ⟨hg, r0, r1, j17, j19, ja⟩ := hJ
  have na : f 14 = false := by
    cases hx : f 14
    · rfl
    · have := ja hx
      rw [hun] at this
      cases this
  have k4 : f 4 = true := hdep { on := 4, ground := .data } (by simp) rfl
  have v28 : a.tmps.getD 28 undef = .string (⟨#[102]⟩ ++ HF) := hFr.new 4 28 rfl k4
  have k8 : f 8 = true := hdep { on := 8, ground := .data } (by simp) rfl
  have v32 : a.tmps.getD 32 undef = .string (⟨#[115, 112]⟩ ++ HS) := hFr.new 8 32 rfl k8
  have k12 : f 12 = true := hdep { on := 12, ground := .data } (by simp) rfl
  have v36 : a.tmps.getD 36 undef = .string (⟨#[112, 99]⟩ ++ HP) := hFr.new 12 36 rfl k12
  have v28b : a.tmps[28]?.getD undef = .string (⟨#[102]⟩ ++ HF) := by simpa using v28
  have v32b : a.tmps[32]?.getD undef = .string (⟨#[115, 112]⟩ ++ HS) := by simpa using v32
  have v36b : a.tmps[36]?.getD undef = .string (⟨#[112, 99]⟩ ++ HP) := by simpa using v36
  have hal := hid ((Below.refl w.heap.size w).alloc (Nat.le_refl _) (.cells #[.string (⟨#[102]⟩ ++ HF), .string (⟨#[115, 112]⟩ ++ HS), .string (⟨#[112, 99]⟩ ++ HP)] 9))
  have hq : Hid ((w.alloc (.cells #[.string (⟨#[102]⟩ ++ HF), .string (⟨#[115, 112]⟩ ++ HS), .string (⟨#[112, 99]⟩ ++ HP)] 9)).heap[w.heap.size]? = some (.cells #[.string (⟨#[102]⟩ ++ HF), .string (⟨#[115, 112]⟩ ++ HS), .string (⟨#[112, 99]⟩ ++ HP)] 9 (0, 0))) := heap_alloc_new w _
  have hsz : Hid (w1.heap.size ≤ w.heap.size) := hg.size
  replace hg := hid hg
  replace r0 := hid r0
  replace r1 := hid r1
  replace j17 := hid j17
  replace j19 := hid j19
  replace ja := hid ja
  clear hdep hFr hKp h3 h1
  replace na := hid na
  go_simp
  exact hK.out _ (w.heap.size, e.2) _ rfl (e8_k13 b n ocap base oa L c HF HS HP e w.heap.size hun) ⟨gtrX hg.out (gbX hal.out), fun h => (r0.out h).alloc _, fun h => (r1.out h).alloc _, fun _ => ⟨hsz.out, hq.out⟩, j19.out, fun _ => rfl⟩
set_option maxRecDepth 100000 in
set_option maxHeartbeats 2000000 in
theorem e8_s14 (A : Act) (w1 : World) (Q : Exit → Act → World → Prop) (b n ocap base : Nat) (oa : Option Addr) (L : List Value) (c : Cu) (HF HS HP : ByteArray) 
    (h3 : A.tmps.getD 3 undef = .slice oa n ocap) (h1 : A.tmps.getD 1 undef = .pointer (some ⟨b, 0, none⟩)) (qb : Blk w1 b (cuA c)) (nb : some b ≠ (Value.slice oa n ocap).ownBlock) (own : w1.ownsRow base 9 1 (Value.slice oa n ocap) n L) (hbase : base ≤ w1.heap.size) (hn : n ≤ 100) (hown1 : ∀ k, (Value.slice oa n ocap).ownBlock = some k → k < w1.heap.size) (hF : Hid (∀ W, Calls Tryd.prog 72 #[.int .i64 c.f] W fun e w' => e = .returned (.string HF) ∧ Below W.heap.size W w')) (hS : Hid (∀ W, Calls Tryd.prog 72 #[.int .i64 c.sp] W fun e w' => e = .returned (.string HS) ∧ Below W.heap.size W w')) (hP : Hid (∀ W, Calls Tryd.prog 72 #[.int .i64 c.pc] W fun e w' => e = .returned (.string HP) ∧ Below W.heap.size W w')) (hz : HF.size = 2 ∧ HS.size = 2 ∧ HP.size = 2)
    (f : Nat → Bool) (e : Nat × Value) (a : Act) (w : World) (hun : f 14 = false) (hdep : ∀ d ∈ e8_o14.after, Region.binds .any d = true → f d.on = true) (hJ : e8_J w1 b n ocap base oa L c HF HS HP f e w) (hFr : Fr e8_O A f (fun j => e8_V b n ocap base oa L c HF HS HP j e) a) (hKp : Kept e8_O A f a)
    (K : Act → World → Prop) (hK : Hid (∀ v e' w', v = e8_V b n ocap base oa L c HF HS HP 14 e' → (∀ j, f j = true → e8_V b n ocap base oa L c HF HS HP j e' = e8_V b n ocap base oa L c HF HS HP j e) → e8_J w1 b n ocap base oa L c HF HS HP (fun j => j == 14 || f j) e' w' → K (a.put e8_o14.dst v) w')) :
    if Region.wanted e8_o14 (yielded e8_O a.tmps) = true then Oper.wp Tryd.prog e8_o14 a w K Q else K (a.put e8_o14.dst undef) w := by
  unfold e8_o14 at hdep hK ⊢
  obtain ⟨hg, r0, r1, j17, j19, ja⟩ := hJ
  have k0 : f 0 = true := hdep { on := 0, ground := .data } (by simp) rfl
  have v24 : a.tmps.getD 24 undef = (Value.slice oa n ocap) := hFr.new 0 24 rfl k0
  have k13 : f 13 = true := hdep { on := 13, ground := .data } (by simp) rfl
  have v37 : a.tmps.getD 37 undef = .slice (some ⟨e.1, 0, none⟩) 3 3 := hFr.new 13 37 rfl k13
  obtain ⟨i0, hi0, hz0, hz1, hz2⟩ := info_parts infoStr
  have hbk := (j17 k13).2
  have hsz := hg.size
  rw [if_pos (show Region.wanted _ _ = true from rfl)]
  have nl : f 15 = false := by
    cases hl : f 15
    · rfl
    · have := (j19 hl).2
      rw [hun] at this
      cases this
  refine wp_append_lies w _ _ 37 rfl base 9 i0 _ 1 16 Tryd.underlying37 hi0 hz0 hz1 hz2 rfl (by omega) (Value.slice oa n ocap) n L v24 (r0 hun) ⟨e.1, 0, none⟩ 3 3 [.string (⟨#[102]⟩ ++ HF), .string (⟨#[115, 112]⟩ ++ HS), .string (⟨#[112, 99]⟩ ++ HP)] v37 rfl (World.news_of_block (cs := #[.string (⟨#[102]⟩ ++ HF), .string (⟨#[115, 112]⟩ ++ HS), .string (⟨#[112, 99]⟩ ++ HP)]) (t := 9) (fr := (0, 0)) hbk) (by simp [Value.oneCell']) (by omega) (by unfold maxLen; omega) (by omega) (by omega) _ rfl ?_
  intro gg cap2 w2 ho hgr hat hlt
  exact hK.out _ (e.1, .slice (some ⟨gg, 0, none⟩) (n + 3) cap2) _ rfl (e8_k14 b n ocap base oa L c HF HS HP e _ hun nl) ⟨gtrX hg hgr, fun h => (by cases h), fun _ => ho, fun h => ⟨(j17 h).1, (hgr.block _ (Array.getElem?_eq_some_iff.1 (j17 h).2).1 (fun he => by have h1 := (r0 hun).lt _ he.symm; have h2 := (j17 h).1; have h3 := hown1 _ he.symm; omega)).trans (j17 h).2⟩, fun h => ⟨(j19 h).1, rfl⟩, fun _ => k13⟩
set_option maxRecDepth 100000 in
set_option maxHeartbeats 2000000 in
theorem e8_s15 (A : Act) (w1 : World) (Q : Exit → Act → World → Prop) (b n ocap base : Nat) (oa : Option Addr) (L : List Value) (c : Cu) (HF HS HP : ByteArray) 
    (h3 : A.tmps.getD 3 undef = .slice oa n ocap) (h1 : A.tmps.getD 1 undef = .pointer (some ⟨b, 0, none⟩)) (qb : Blk w1 b (cuA c)) (nb : some b ≠ (Value.slice oa n ocap).ownBlock) (own : w1.ownsRow base 9 1 (Value.slice oa n ocap) n L) (hbase : base ≤ w1.heap.size) (hn : n ≤ 100) (hown1 : ∀ k, (Value.slice oa n ocap).ownBlock = some k → k < w1.heap.size) (hF : Hid (∀ W, Calls Tryd.prog 72 #[.int .i64 c.f] W fun e w' => e = .returned (.string HF) ∧ Below W.heap.size W w')) (hS : Hid (∀ W, Calls Tryd.prog 72 #[.int .i64 c.sp] W fun e w' => e = .returned (.string HS) ∧ Below W.heap.size W w')) (hP : Hid (∀ W, Calls Tryd.prog 72 #[.int .i64 c.pc] W fun e w' => e = .returned (.string HP) ∧ Below W.heap.size W w')) (hz : HF.size = 2 ∧ HS.size = 2 ∧ HP.size = 2)
    (f : Nat → Bool) (e : Nat × Value) (a : Act) (w : World) (hun : f 15 = false) (hdep : ∀ d ∈ e8_o15.after, Region.binds .any d = true → f d.on = true) (hJ : e8_J w1 b n ocap base oa L c HF HS HP f e w) (hFr : Fr e8_O A f (fun j => e8_V b n ocap base oa L c HF HS HP j e) a) (hKp : Kept e8_O A f a)
    (K : Act → World → Prop) (hK : Hid (∀ v e' w', v = e8_V b n ocap base oa L c HF HS HP 15 e' → (∀ j, f j = true → e8_V b n ocap base oa L c HF HS HP j e' = e8_V b n ocap base oa L c HF HS HP j e) → e8_J w1 b n ocap base oa L c HF HS HP (fun j => j == 15 || f j) e' w' → K (a.put e8_o15.dst v) w')) :
    if Region.wanted e8_o15 (yielded e8_O a.tmps) = true then Oper.wp Tryd.prog e8_o15 a w K Q else K (a.put e8_o15.dst undef) w := by
  unfold e8_o15 at hdep hK ⊢
  obtain ⟨hg, r0, r1, j17, j19, ja⟩ := hJ
  have k14 : f 14 = true := hdep { on := 14, ground := .data } (by simp) rfl
  have v38 : a.tmps.getD 38 undef = e.2 := hFr.new 14 38 rfl k14
  have k0 : f 0 = true := hdep { on := 0, ground := .phase } (by simp) rfl
  replace hg := hid hg
  replace r0 := hid r0
  replace r1 := hid r1
  replace j17 := hid j17
  replace j19 := hid j19
  replace ja := hid ja
  clear hdep hFr hKp h3 h1
  go_simp
  exact hK.out _ e _ rfl (fun _ _ => rfl) ⟨hg.out, r0.out, r1.out, j17.out, fun _ => ⟨k0, k14⟩, ja.out⟩
set_option maxRecDepth 100000 in
set_option maxHeartbeats 4000000 in
theorem e8_reg (A : Act) (w1 : World) (Q : Exit → Act → World → Prop) (b n ocap base : Nat) (oa : Option Addr) (L : List Value) (c : Cu) (HF HS HP : ByteArray) 
    (h3 : A.tmps.getD 3 undef = .slice oa n ocap) (h1 : A.tmps.getD 1 undef = .pointer (some ⟨b, 0, none⟩)) (qb : Blk w1 b (cuA c)) (nb : some b ≠ (Value.slice oa n ocap).ownBlock) (own : w1.ownsRow base 9 1 (Value.slice oa n ocap) n L) (hbase : base ≤ w1.heap.size) (hn : n ≤ 100) (hown1 : ∀ k, (Value.slice oa n ocap).ownBlock = some k → k < w1.heap.size) (hF : Hid (∀ W, Calls Tryd.prog 72 #[.int .i64 c.f] W fun e w' => e = .returned (.string HF) ∧ Below W.heap.size W w')) (hS : Hid (∀ W, Calls Tryd.prog 72 #[.int .i64 c.sp] W fun e w' => e = .returned (.string HS) ∧ Below W.heap.size W w')) (hP : Hid (∀ W, Calls Tryd.prog 72 #[.int .i64 c.pc] W fun e w' => e = .returned (.string HP) ∧ Below W.heap.size W w')) (hz : HF.size = 2 ∧ HS.size = 2 ∧ HP.size = 2) (hN : 39 ≤ A.tmps.size)
    (h : ∀ (w : World) (e : Nat × Value), w1.grownBy w (Value.slice oa n ocap).ownBlock ∧ w.ownsRow base 9 1 e.2 (n + 3) (L ++ [.string (⟨#[102]⟩ ++ HF), .string (⟨#[115, 112]⟩ ++ HS), .string (⟨#[112, 99]⟩ ++ HP)]) → Q .normal (putsA A [(24, (Value.slice oa n ocap)), (25, .pointer (some ⟨b, 8, none⟩)), (26, .int .i64 c.f), (27, .string HF), (28, .string (⟨#[102]⟩ ++ HF)), (29, .pointer (some ⟨b, 9, none⟩)), (30, .int .i64 c.sp), (31, .string HS), (32, .string (⟨#[115, 112]⟩ ++ HS)), (33, .pointer (some ⟨b, 10, none⟩)), (34, .int .i64 c.pc), (35, .string HP), (36, .string (⟨#[112, 99]⟩ ++ HP)), (37, .slice (some ⟨e.1, 0, none⟩) 3 3), (38, e.2), (3, e.2)]) w) :
    (Code.region 8 #[({ dst := some 24, op := Op.move (Operand.tmp 3), type := 37, pos := "l15_text.go:90", after := #[], guard := none } : Oper), ({ dst := some 25, op := Op.fieldAddr 52 (Operand.tmp 1) 1, type := 0, pos := "l15_text.go:90", after := #[], guard := none } : Oper), ({ dst := some 26, op := Op.load 3 (Operand.tmp 25), type := 3, pos := "l15_text.go:90", after := #[{ on := 1, ground := Ground.data }], guard := none } : Oper), ({ dst := some 27, op := Op.call { callee := Callee.value (Operand.func 72), args := #[Operand.tmp 26], argTypes := #[3] }, type := 9, pos := "l15_text.go:90", after := #[{ on := 2, ground := Ground.data }], guard := none } : Oper), ({ dst := some 28, op := Op.binOp BinOp.add 9 (Operand.const (Value.string { data := #[102] })) (Operand.tmp 27) 9, type := 9, pos := "l15_text.go:90", after := #[{ on := 3, ground := Ground.data }], guard := none } : Oper), ({ dst := some 29, op := Op.fieldAddr 52 (Operand.tmp 1) 2, type := 0, pos := "l15_text.go:90", after := #[], guard := none } : Oper), ({ dst := some 30, op := Op.load 3 (Operand.tmp 29), type := 3, pos := "l15_text.go:90", after := #[{ on := 5, ground := Ground.data }], guard := none } : Oper), ({ dst := some 31, op := Op.call { callee := Callee.value (Operand.func 72), args := #[Operand.tmp 30], argTypes := #[3] }, type := 9, pos := "l15_text.go:90", after := #[{ on := 6, ground := Ground.data }, { on := 3, ground := Ground.chain }], guard := none } : Oper), ({ dst := some 32, op := Op.binOp BinOp.add 9 (Operand.const (Value.string { data := #[115, 112] })) (Operand.tmp 31) 9, type := 9, pos := "l15_text.go:90", after := #[{ on := 7, ground := Ground.data }], guard := none } : Oper), ({ dst := some 33, op := Op.fieldAddr 52 (Operand.tmp 1) 3, type := 0, pos := "l15_text.go:90", after := #[], guard := none } : Oper), ({ dst := some 34, op := Op.load 3 (Operand.tmp 33), type := 3, pos := "l15_text.go:90", after := #[{ on := 9, ground := Ground.data }], guard := none } : Oper), ({ dst := some 35, op := Op.call { callee := Callee.value (Operand.func 72), args := #[Operand.tmp 34], argTypes := #[3] }, type := 9, pos := "l15_text.go:90", after := #[{ on := 10, ground := Ground.data }, { on := 7, ground := Ground.chain }], guard := none } : Oper), ({ dst := some 36, op := Op.binOp BinOp.add 9 (Operand.const (Value.string { data := #[112, 99] })) (Operand.tmp 35) 9, type := 9, pos := "l15_text.go:90", after := #[{ on := 11, ground := Ground.data }], guard := none } : Oper), ({ dst := some 37, op := Op.buildSlice 37 3 #[(0, Operand.tmp 28), (1, Operand.tmp 32), (2, Operand.tmp 36)], type := 37, pos := "l15_text.go:90", after := #[{ on := 4, ground := Ground.data }, { on := 8, ground := Ground.data }, { on := 12, ground := Ground.data }], guard := none } : Oper), ({ dst := some 38, op := Op.call { callee := Callee.builtin Builtin.append, args := #[Operand.tmp 24, Operand.tmp 37], argTypes := #[37, 37] }, type := 37, pos := "l15_text.go:90", after := #[{ on := 0, ground := Ground.data }, { on := 13, ground := Ground.data }, { on := 11, ground := Ground.chain }], guard := none } : Oper), ({ dst := some 3, op := Op.assign (Operand.tmp 38), type := 37, pos := "l15_text.go:90", after := #[{ on := 14, ground := Ground.data }, { on := 14, ground := Ground.chain }, { on := 0, ground := Ground.phase }, { on := 1, ground := Ground.phase }, { on := 2, ground := Ground.phase }, { on := 3, ground := Ground.phase }, { on := 4, ground := Ground.phase }, { on := 5, ground := Ground.phase }, { on := 6, ground := Ground.phase }, { on := 7, ground := Ground.phase }, { on := 8, ground := Ground.phase }, { on := 9, ground := Ground.phase }, { on := 10, ground := Ground.phase }, { on := 11, ground := Ground.phase }, { on := 12, ground := Ground.phase }, { on := 13, ground := Ground.phase }, { on := 14, ground := Ground.phase }], guard := none } : Oper)] true).wp Tryd.prog Q A w1 := by
  show (Code.region 8 e8_O true).wp Tryd.prog Q A w1
  refine wp_region_slotsK (E := Nat × Value) (e8_V b n ocap base oa L c HF HS HP) (e8_J w1 b n ocap base oa L c HF HS HP) (by kernel_rfl) (by kernel_rfl) (by kernel_rfl) (fun i s hi => ?_) ?_ (0, undef) ⟨⟨rfl, rfl, rfl, Nat.le_refl _, fun _ _ _ => rfl⟩, fun _ => own, fun h => (by cases h), fun h => (by cases h), fun h => (by cases h), fun h => (by cases h)⟩ ?_
  · cases hc : ([24, 25, 26, 27, 28, 29, 30, 31, 32, 33, 34, 35, 36, 37, 38, 3] : List Nat).contains s
    · exact absurd hi (e8_no hc i)
    · have : s ∈ ([24, 25, 26, 27, 28, 29, 30, 31, 32, 33, 34, 35, 36, 37, 38, 3] : List Nat) := by simpa using hc
      simp only [List.mem_cons, List.not_mem_nil, or_false] at this
      omega
  · intro f e a w i o hi ho hun hdep hJ hFr hKp K hK
    have hi8 : i < 16 := hi
    rcases (by omega : i = 0 ∨ i = 1 ∨ i = 2 ∨ i = 3 ∨ i = 4 ∨ i = 5 ∨ i = 6 ∨ i = 7 ∨ i = 8 ∨ i = 9 ∨ i = 10 ∨ i = 11 ∨ i = 12 ∨ i = 13 ∨ i = 14 ∨ i = 15) with rfl | rfl | rfl | rfl | rfl | rfl | rfl | rfl | rfl | rfl | rfl | rfl | rfl | rfl | rfl | rfl
    · obtain rfl := Option.some.inj ho
      exact e8_s0 A w1 Q b n ocap base oa L c HF HS HP h3 h1 qb nb own hbase hn hown1 hF hS hP hz f e a w hun hdep hJ hFr hKp K hK
    · obtain rfl := Option.some.inj ho
      exact e8_s1 A w1 Q b n ocap base oa L c HF HS HP h3 h1 qb nb own hbase hn hown1 hF hS hP hz f e a w hun hdep hJ hFr hKp K hK
    · obtain rfl := Option.some.inj ho
      exact e8_s2 A w1 Q b n ocap base oa L c HF HS HP h3 h1 qb nb own hbase hn hown1 hF hS hP hz f e a w hun hdep hJ hFr hKp K hK
    · obtain rfl := Option.some.inj ho
      exact e8_s3 A w1 Q b n ocap base oa L c HF HS HP h3 h1 qb nb own hbase hn hown1 hF hS hP hz f e a w hun hdep hJ hFr hKp K hK
    · obtain rfl := Option.some.inj ho
      exact e8_s4 A w1 Q b n ocap base oa L c HF HS HP h3 h1 qb nb own hbase hn hown1 hF hS hP hz f e a w hun hdep hJ hFr hKp K hK
    · obtain rfl := Option.some.inj ho
      exact e8_s5 A w1 Q b n ocap base oa L c HF HS HP h3 h1 qb nb own hbase hn hown1 hF hS hP hz f e a w hun hdep hJ hFr hKp K hK
    · obtain rfl := Option.some.inj ho
      exact e8_s6 A w1 Q b n ocap base oa L c HF HS HP h3 h1 qb nb own hbase hn hown1 hF hS hP hz f e a w hun hdep hJ hFr hKp K hK
    · obtain rfl := Option.some.inj ho
      exact e8_s7 A w1 Q b n ocap base oa L c HF HS HP h3 h1 qb nb own hbase hn hown1 hF hS hP hz f e a w hun hdep hJ hFr hKp K hK
    · obtain rfl := Option.some.inj ho
      exact e8_s8 A w1 Q b n ocap base oa L c HF HS HP h3 h1 qb nb own hbase hn hown1 hF hS hP hz f e a w hun hdep hJ hFr hKp K hK
    · obtain rfl := Option.some.inj ho
      exact e8_s9 A w1 Q b n ocap base oa L c HF HS HP h3 h1 qb nb own hbase hn hown1 hF hS hP hz f e a w hun hdep hJ hFr hKp K hK
    · obtain rfl := Option.some.inj ho
      exact e8_s10 A w1 Q b n ocap base oa L c HF HS HP h3 h1 qb nb own hbase hn hown1 hF hS hP hz f e a w hun hdep hJ hFr hKp K hK
    · obtain rfl := Option.some.inj ho
      exact e8_s11 A w1 Q b n ocap base oa L c HF HS HP h3 h1 qb nb own hbase hn hown1 hF hS hP hz f e a w hun hdep hJ hFr hKp K hK
    · obtain rfl := Option.some.inj ho
      exact e8_s12 A w1 Q b n ocap base oa L c HF HS HP h3 h1 qb nb own hbase hn hown1 hF hS hP hz f e a w hun hdep hJ hFr hKp K hK
    · obtain rfl := Option.some.inj ho
      exact e8_s13 A w1 Q b n ocap base oa L c HF HS HP h3 h1 qb nb own hbase hn hown1 hF hS hP hz f e a w hun hdep hJ hFr hKp K hK
    · obtain rfl := Option.some.inj ho
      exact e8_s14 A w1 Q b n ocap base oa L c HF HS HP h3 h1 qb nb own hbase hn hown1 hF hS hP hz f e a w hun hdep hJ hFr hKp K hK
    · obtain rfl := Option.some.inj ho
      exact e8_s15 A w1 Q b n ocap base oa L c HF HS HP h3 h1 qb nb own hbase hn hown1 hF hS hP hz f e a w hun hdep hJ hFr hKp K hK
  · intro f e a w hall hJ hFr
    have := h w e ⟨hJ.1, hJ.2.2.1 (hall 14 (by decide))⟩
    rw [hFr.eq [(24, (Value.slice oa n ocap)), (25, .pointer (some ⟨b, 8, none⟩)), (26, .int .i64 c.f), (27, .string HF), (28, .string (⟨#[102]⟩ ++ HF)), (29, .pointer (some ⟨b, 9, none⟩)), (30, .int .i64 c.sp), (31, .string HS), (32, .string (⟨#[115, 112]⟩ ++ HS)), (33, .pointer (some ⟨b, 10, none⟩)), (34, .int .i64 c.pc), (35, .string HP), (36, .string (⟨#[112, 99]⟩ ++ HP)), (37, .slice (some ⟨e.1, 0, none⟩) 3 3), (38, e.2), (3, e.2)] (fun s hs => ?_) (fun i s hi => ?_)]
    · exact this
    · have hne : ∀ k ∈ ([24, 25, 26, 27, 28, 29, 30, 31, 32, 33, 34, 35, 36, 37, 38, 3] : List Nat), k ≠ s := by
        intro k hk e2
        subst e2
        simp only [List.mem_cons, List.not_mem_nil, or_false] at hk
        rcases hk with rfl | rfl | rfl | rfl | rfl | rfl | rfl | rfl | rfl | rfl | rfl | rfl | rfl | rfl | rfl | rfl
        · exact hs 0 rfl
        · exact hs 1 rfl
        · exact hs 2 rfl
        · exact hs 3 rfl
        · exact hs 4 rfl
        · exact hs 5 rfl
        · exact hs 6 rfl
        · exact hs 7 rfl
        · exact hs 8 rfl
        · exact hs 9 rfl
        · exact hs 10 rfl
        · exact hs 11 rfl
        · exact hs 12 rfl
        · exact hs 13 rfl
        · exact hs 14 rfl
        · exact hs 15 rfl
      simp only [lookA]
      simp [hne]
    · have hl : i < 16 := by
        rcases Nat.lt_or_ge i 16 with h1 | h1
        · exact h1
        · unfold dstAt at hi
          rw [Array.getElem?_eq_none (by exact h1)] at hi
          cases hi
      refine ⟨hall i hl, ?_⟩
      rcases (by omega : i = 0 ∨ i = 1 ∨ i = 2 ∨ i = 3 ∨ i = 4 ∨ i = 5 ∨ i = 6 ∨ i = 7 ∨ i = 8 ∨ i = 9 ∨ i = 10 ∨ i = 11 ∨ i = 12 ∨ i = 13 ∨ i = 14 ∨ i = 15) with rfl | rfl | rfl | rfl | rfl | rfl | rfl | rfl | rfl | rfl | rfl | rfl | rfl | rfl | rfl | rfl
      all_goals first
        | (cases hi; rfl)
        | cases hi
def e9_V (b n ocap base : Nat) (oa : Option Addr) (L : List Value) (c : Cu) (D1 D2 : ByteArray) : Nat → Nat × Value → Value := fun i e => match i with
  | 0 => (Value.slice oa n ocap)
  | 1 => .pointer (some ⟨b, 11, none⟩)
  | 2 => .bool c.iff
  | 3 => .string D1
  | 4 => .pointer (some ⟨b, 13, none⟩)
  | 5 => .bool c.halt
  | 6 => .string D2
  | 7 => .slice (some ⟨e.1, 0, none⟩) 2 2
  | 8 => e.2
  | 9 => e.2
  | _ => undef
def e9_J (w1 : World) (b n ocap base : Nat) (oa : Option Addr) (L : List Value) (c : Cu) (D1 D2 : ByteArray) (f : Nat → Bool) (e : Nat × Value) (w : World) : Prop :=
  w1.grownBy w (Value.slice oa n ocap).ownBlock ∧ (f 8 = false → w.ownsRow base 9 1 (Value.slice oa n ocap) n L) ∧ (f 8 = true → w.ownsRow base 9 1 e.2 (n + 2) (L ++ [.string D1, .string D2])) ∧ (f 7 = true → w1.heap.size ≤ e.1 ∧ w.heap[e.1]? = some (.cells #[.string D1, .string D2] 9 (0, 0))) ∧ (f 9 = true → f 0 = true ∧ f 8 = true) ∧ (f 8 = true → f 7 = true)
def e9_o0 : Oper := ({ dst := some 39, op := Op.move (Operand.tmp 3), type := 37, pos := "l15_text.go:91", after := #[], guard := none } : Oper)
def e9_o1 : Oper := ({ dst := some 40, op := Op.fieldAddr 52 (Operand.tmp 1) 4, type := 0, pos := "l15_text.go:91", after := #[], guard := none } : Oper)
def e9_o2 : Oper := ({ dst := some 41, op := Op.load 4 (Operand.tmp 40), type := 4, pos := "l15_text.go:91", after := #[{ on := 1, ground := Ground.data }], guard := none } : Oper)
def e9_o3 : Oper := ({ dst := some 42, op := Op.call { callee := Callee.value (Operand.func 78), args := #[Operand.tmp 41, Operand.const (Value.string { data := #[101, 105] }), Operand.const (Value.string { data := #[] })], argTypes := #[4, 9, 9] }, type := 9, pos := "l15_text.go:91", after := #[{ on := 2, ground := Ground.data }], guard := none } : Oper)
def e9_o4 : Oper := ({ dst := some 43, op := Op.fieldAddr 52 (Operand.tmp 1) 6, type := 0, pos := "l15_text.go:91", after := #[], guard := none } : Oper)
def e9_o5 : Oper := ({ dst := some 44, op := Op.load 4 (Operand.tmp 43), type := 4, pos := "l15_text.go:91", after := #[{ on := 4, ground := Ground.data }], guard := none } : Oper)
def e9_o6 : Oper := ({ dst := some 45, op := Op.call { callee := Callee.value (Operand.func 78), args := #[Operand.tmp 44, Operand.const (Value.string { data := #[104, 97, 108, 116] }), Operand.const (Value.string { data := #[] })], argTypes := #[4, 9, 9] }, type := 9, pos := "l15_text.go:91", after := #[{ on := 5, ground := Ground.data }, { on := 3, ground := Ground.chain }], guard := none } : Oper)
def e9_o7 : Oper := ({ dst := some 46, op := Op.buildSlice 37 2 #[(0, Operand.tmp 42), (1, Operand.tmp 45)], type := 37, pos := "l15_text.go:91", after := #[{ on := 3, ground := Ground.data }, { on := 6, ground := Ground.data }], guard := none } : Oper)
def e9_o8 : Oper := ({ dst := some 47, op := Op.call { callee := Callee.builtin Builtin.append, args := #[Operand.tmp 39, Operand.tmp 46], argTypes := #[37, 37] }, type := 37, pos := "l15_text.go:91", after := #[{ on := 0, ground := Ground.data }, { on := 7, ground := Ground.data }, { on := 6, ground := Ground.chain }], guard := none } : Oper)
def e9_o9 : Oper := ({ dst := some 3, op := Op.assign (Operand.tmp 47), type := 37, pos := "l15_text.go:91", after := #[{ on := 8, ground := Ground.data }, { on := 8, ground := Ground.chain }, { on := 0, ground := Ground.phase }, { on := 1, ground := Ground.phase }, { on := 2, ground := Ground.phase }, { on := 3, ground := Ground.phase }, { on := 4, ground := Ground.phase }, { on := 5, ground := Ground.phase }, { on := 6, ground := Ground.phase }, { on := 7, ground := Ground.phase }, { on := 8, ground := Ground.phase }], guard := none } : Oper)
def e9_O : Array Oper := #[e9_o0, e9_o1, e9_o2, e9_o3, e9_o4, e9_o5, e9_o6, e9_o7, e9_o8, e9_o9]
theorem e9_no {s : Nat} (h : ([39, 40, 41, 42, 43, 44, 45, 46, 47, 3] : List Nat).contains s = false) : ∀ i, dstAt e9_O i ≠ some s := by
  intro i hi
  have hl : i < 10 := by
    rcases Nat.lt_or_ge i 10 with h1 | h1
    · exact h1
    · unfold dstAt at hi
      rw [Array.getElem?_eq_none (by exact h1)] at hi
      cases hi
  rcases (by omega : i = 0 ∨ i = 1 ∨ i = 2 ∨ i = 3 ∨ i = 4 ∨ i = 5 ∨ i = 6 ∨ i = 7 ∨ i = 8 ∨ i = 9) with rfl | rfl | rfl | rfl | rfl | rfl | rfl | rfl | rfl | rfl
  all_goals first
    | (cases hi; simp at h)
    | cases hi
theorem e9_k7 (b n ocap base : Nat) (oa : Option Addr) (L : List Value) (c : Cu) (D1 D2 : ByteArray) {f : Nat → Bool} (e : Nat × Value) (x : Nat) (hn : f 7 = false) : ∀ j, f j = true → e9_V b n ocap base oa L c D1 D2 j (x, e.2) = e9_V b n ocap base oa L c D1 D2 j e := by
  intro j hj
  unfold e9_V
  split
  · rfl
  · rfl
  · rfl
  · rfl
  · rfl
  · rfl
  · rfl
  · rw [hn] at hj; cases hj
  · rfl
  · rfl
  · rfl
theorem e9_k8 (b n ocap base : Nat) (oa : Option Addr) (L : List Value) (c : Cu) (D1 D2 : ByteArray) {f : Nat → Bool} (e : Nat × Value) (x : Value) (hn : f 8 = false) (hn2 : f 9 = false) : ∀ j, f j = true → e9_V b n ocap base oa L c D1 D2 j (e.1, x) = e9_V b n ocap base oa L c D1 D2 j e := by
  intro j hj
  unfold e9_V
  split
  · rfl
  · rfl
  · rfl
  · rfl
  · rfl
  · rfl
  · rfl
  · rfl
  · rw [hn] at hj; cases hj
  · rw [hn2] at hj; cases hj
  · rfl
set_option maxRecDepth 100000 in
set_option maxHeartbeats 2000000 in
theorem e9_s0 (A : Act) (w1 : World) (Q : Exit → Act → World → Prop) (b n ocap base : Nat) (oa : Option Addr) (L : List Value) (c : Cu) (D1 D2 : ByteArray) 
    (h3 : A.tmps.getD 3 undef = .slice oa n ocap) (h1 : A.tmps.getD 1 undef = .pointer (some ⟨b, 0, none⟩)) (qb : Blk w1 b (cuA c)) (nb : some b ≠ (Value.slice oa n ocap).ownBlock) (own : w1.ownsRow base 9 1 (Value.slice oa n ocap) n L) (hbase : base ≤ w1.heap.size) (hn : n ≤ 100) (hown1 : ∀ k, (Value.slice oa n ocap).ownBlock = some k → k < w1.heap.size) (hI : Hid (∀ W, Calls Tryd.prog 78 #[.bool c.iff, .string ⟨#[101, 105]⟩, .string ⟨#[]⟩] W fun e w' => e = .returned (.string D1) ∧ w' = W)) (hH : Hid (∀ W, Calls Tryd.prog 78 #[.bool c.halt, .string ⟨#[104, 97, 108, 116]⟩, .string ⟨#[]⟩] W fun e w' => e = .returned (.string D2) ∧ w' = W))
    (f : Nat → Bool) (e : Nat × Value) (a : Act) (w : World) (hun : f 0 = false) (hdep : ∀ d ∈ e9_o0.after, Region.binds .any d = true → f d.on = true) (hJ : e9_J w1 b n ocap base oa L c D1 D2 f e w) (hFr : Fr e9_O A f (fun j => e9_V b n ocap base oa L c D1 D2 j e) a) (hKp : Kept e9_O A f a)
    (K : Act → World → Prop) (hK : Hid (∀ v e' w', v = e9_V b n ocap base oa L c D1 D2 0 e' → (∀ j, f j = true → e9_V b n ocap base oa L c D1 D2 j e' = e9_V b n ocap base oa L c D1 D2 j e) → e9_J w1 b n ocap base oa L c D1 D2 (fun j => j == 0 || f j) e' w' → K (a.put e9_o0.dst v) w')) :
    if Region.wanted e9_o0 (yielded e9_O a.tmps) = true then Oper.wp Tryd.prog e9_o0 a w K Q else K (a.put e9_o0.dst undef) w := by
  unfold e9_o0 at hdep hK ⊢
  obtain ⟨hg, r0, r1, j17, j19, ja⟩ := hJ
  have fl : f 9 = false := by
    cases hl : f 9
    · rfl
    · have := (j19 hl).1
      rw [hun] at this
      cases this
  have v3 := (hKp 9 3 rfl fl).trans h3
  replace hg := hid hg
  replace r0 := hid r0
  replace r1 := hid r1
  replace j17 := hid j17
  replace j19 := hid j19
  replace ja := hid ja
  clear hdep hFr hKp h3 h1
  go_simp
  exact hK.out _ e _ rfl (fun _ _ => rfl) ⟨hg.out, r0.out, r1.out, j17.out, fun h => ⟨rfl, (j19.out h).2⟩, ja.out⟩
set_option maxRecDepth 100000 in
set_option maxHeartbeats 2000000 in
theorem e9_s1 (A : Act) (w1 : World) (Q : Exit → Act → World → Prop) (b n ocap base : Nat) (oa : Option Addr) (L : List Value) (c : Cu) (D1 D2 : ByteArray) 
    (h3 : A.tmps.getD 3 undef = .slice oa n ocap) (h1 : A.tmps.getD 1 undef = .pointer (some ⟨b, 0, none⟩)) (qb : Blk w1 b (cuA c)) (nb : some b ≠ (Value.slice oa n ocap).ownBlock) (own : w1.ownsRow base 9 1 (Value.slice oa n ocap) n L) (hbase : base ≤ w1.heap.size) (hn : n ≤ 100) (hown1 : ∀ k, (Value.slice oa n ocap).ownBlock = some k → k < w1.heap.size) (hI : Hid (∀ W, Calls Tryd.prog 78 #[.bool c.iff, .string ⟨#[101, 105]⟩, .string ⟨#[]⟩] W fun e w' => e = .returned (.string D1) ∧ w' = W)) (hH : Hid (∀ W, Calls Tryd.prog 78 #[.bool c.halt, .string ⟨#[104, 97, 108, 116]⟩, .string ⟨#[]⟩] W fun e w' => e = .returned (.string D2) ∧ w' = W))
    (f : Nat → Bool) (e : Nat × Value) (a : Act) (w : World) (hun : f 1 = false) (hdep : ∀ d ∈ e9_o1.after, Region.binds .any d = true → f d.on = true) (hJ : e9_J w1 b n ocap base oa L c D1 D2 f e w) (hFr : Fr e9_O A f (fun j => e9_V b n ocap base oa L c D1 D2 j e) a) (hKp : Kept e9_O A f a)
    (K : Act → World → Prop) (hK : Hid (∀ v e' w', v = e9_V b n ocap base oa L c D1 D2 1 e' → (∀ j, f j = true → e9_V b n ocap base oa L c D1 D2 j e' = e9_V b n ocap base oa L c D1 D2 j e) → e9_J w1 b n ocap base oa L c D1 D2 (fun j => j == 1 || f j) e' w' → K (a.put e9_o1.dst v) w')) :
    if Region.wanted e9_o1 (yielded e9_O a.tmps) = true then Oper.wp Tryd.prog e9_o1 a w K Q else K (a.put e9_o1.dst undef) w := by
  unfold e9_o1 at hdep hK ⊢
  obtain ⟨hg, r0, r1, j17, j19, ja⟩ := hJ
  have v1 := (hFr.old 1 (e9_no (by decide))).trans h1
  replace hg := hid hg
  replace r0 := hid r0
  replace r1 := hid r1
  replace j17 := hid j17
  replace j19 := hid j19
  replace ja := hid ja
  clear hdep hFr hKp h3 h1
  go_simp
  exact hK.out _ e _ rfl (fun _ _ => rfl) ⟨hg.out, r0.out, r1.out, j17.out, j19.out, ja.out⟩
set_option maxRecDepth 100000 in
set_option maxHeartbeats 2000000 in
theorem e9_s2 (A : Act) (w1 : World) (Q : Exit → Act → World → Prop) (b n ocap base : Nat) (oa : Option Addr) (L : List Value) (c : Cu) (D1 D2 : ByteArray) 
    (h3 : A.tmps.getD 3 undef = .slice oa n ocap) (h1 : A.tmps.getD 1 undef = .pointer (some ⟨b, 0, none⟩)) (qb : Blk w1 b (cuA c)) (nb : some b ≠ (Value.slice oa n ocap).ownBlock) (own : w1.ownsRow base 9 1 (Value.slice oa n ocap) n L) (hbase : base ≤ w1.heap.size) (hn : n ≤ 100) (hown1 : ∀ k, (Value.slice oa n ocap).ownBlock = some k → k < w1.heap.size) (hI : Hid (∀ W, Calls Tryd.prog 78 #[.bool c.iff, .string ⟨#[101, 105]⟩, .string ⟨#[]⟩] W fun e w' => e = .returned (.string D1) ∧ w' = W)) (hH : Hid (∀ W, Calls Tryd.prog 78 #[.bool c.halt, .string ⟨#[104, 97, 108, 116]⟩, .string ⟨#[]⟩] W fun e w' => e = .returned (.string D2) ∧ w' = W))
    (f : Nat → Bool) (e : Nat × Value) (a : Act) (w : World) (hun : f 2 = false) (hdep : ∀ d ∈ e9_o2.after, Region.binds .any d = true → f d.on = true) (hJ : e9_J w1 b n ocap base oa L c D1 D2 f e w) (hFr : Fr e9_O A f (fun j => e9_V b n ocap base oa L c D1 D2 j e) a) (hKp : Kept e9_O A f a)
    (K : Act → World → Prop) (hK : Hid (∀ v e' w', v = e9_V b n ocap base oa L c D1 D2 2 e' → (∀ j, f j = true → e9_V b n ocap base oa L c D1 D2 j e' = e9_V b n ocap base oa L c D1 D2 j e) → e9_J w1 b n ocap base oa L c D1 D2 (fun j => j == 2 || f j) e' w' → K (a.put e9_o2.dst v) w')) :
    if Region.wanted e9_o2 (yielded e9_O a.tmps) = true then Oper.wp Tryd.prog e9_o2 a w K Q else K (a.put e9_o2.dst undef) w := by
  unfold e9_o2 at hdep hK ⊢
  obtain ⟨hg, r0, r1, j17, j19, ja⟩ := hJ
  have k1 : f 1 = true := hdep { on := 1, ground := .data } (by simp) rfl
  have v40 : a.tmps.getD 40 undef = .pointer (some ⟨b, 11, none⟩) := hFr.new 1 40 rfl k1
  have y : w.cell? ⟨b, 11, none⟩ = some (.bool c.iff) := (qb.grown hg nb).cell 11
  replace hg := hid hg
  replace r0 := hid r0
  replace r1 := hid r1
  replace j17 := hid j17
  replace j19 := hid j19
  replace ja := hid ja
  clear hdep hFr hKp h3 h1
  go_simp
  exact hK.out _ e _ rfl (fun _ _ => rfl) ⟨hg.out, r0.out, r1.out, j17.out, j19.out, ja.out⟩
set_option maxRecDepth 100000 in
set_option maxHeartbeats 2000000 in
theorem e9_s3 (A : Act) (w1 : World) (Q : Exit → Act → World → Prop) (b n ocap base : Nat) (oa : Option Addr) (L : List Value) (c : Cu) (D1 D2 : ByteArray) 
    (h3 : A.tmps.getD 3 undef = .slice oa n ocap) (h1 : A.tmps.getD 1 undef = .pointer (some ⟨b, 0, none⟩)) (qb : Blk w1 b (cuA c)) (nb : some b ≠ (Value.slice oa n ocap).ownBlock) (own : w1.ownsRow base 9 1 (Value.slice oa n ocap) n L) (hbase : base ≤ w1.heap.size) (hn : n ≤ 100) (hown1 : ∀ k, (Value.slice oa n ocap).ownBlock = some k → k < w1.heap.size) (hI : Hid (∀ W, Calls Tryd.prog 78 #[.bool c.iff, .string ⟨#[101, 105]⟩, .string ⟨#[]⟩] W fun e w' => e = .returned (.string D1) ∧ w' = W)) (hH : Hid (∀ W, Calls Tryd.prog 78 #[.bool c.halt, .string ⟨#[104, 97, 108, 116]⟩, .string ⟨#[]⟩] W fun e w' => e = .returned (.string D2) ∧ w' = W))
    (f : Nat → Bool) (e : Nat × Value) (a : Act) (w : World) (hun : f 3 = false) (hdep : ∀ d ∈ e9_o3.after, Region.binds .any d = true → f d.on = true) (hJ : e9_J w1 b n ocap base oa L c D1 D2 f e w) (hFr : Fr e9_O A f (fun j => e9_V b n ocap base oa L c D1 D2 j e) a) (hKp : Kept e9_O A f a)
    (K : Act → World → Prop) (hK : Hid (∀ v e' w', v = e9_V b n ocap base oa L c D1 D2 3 e' → (∀ j, f j = true → e9_V b n ocap base oa L c D1 D2 j e' = e9_V b n ocap base oa L c D1 D2 j e) → e9_J w1 b n ocap base oa L c D1 D2 (fun j => j == 3 || f j) e' w' → K (a.put e9_o3.dst v) w')) :
    if Region.wanted e9_o3 (yielded e9_O a.tmps) = true then Oper.wp Tryd.prog e9_o3 a w K Q else K (a.put e9_o3.dst undef) w := by
  unfold e9_o3 at hdep hK ⊢
  obtain ⟨hg, r0, r1, j17, j19, ja⟩ := hJ
  have k2 : f 2 = true := hdep { on := 2, ground := .data } (by simp) rfl
  have v41 : a.tmps.getD 41 undef = .bool c.iff := hFr.new 2 41 rfl k2
  replace hg := hid hg
  replace r0 := hid r0
  replace r1 := hid r1
  replace j17 := hid j17
  replace j19 := hid j19
  replace ja := hid ja
  clear hdep hFr hKp h3 h1
  go_simp
  go_at_call 78
  refine (hI.out w).mono ?_
  rintro r w' ⟨rfl, hww⟩
  obtain rfl := hww.symm
  go_simp
  exact hK.out _ e _ rfl (fun _ _ => rfl) ⟨hg.out, r0.out, r1.out, j17.out, j19.out, ja.out⟩
set_option maxRecDepth 100000 in
set_option maxHeartbeats 2000000 in
theorem e9_s4 (A : Act) (w1 : World) (Q : Exit → Act → World → Prop) (b n ocap base : Nat) (oa : Option Addr) (L : List Value) (c : Cu) (D1 D2 : ByteArray) 
    (h3 : A.tmps.getD 3 undef = .slice oa n ocap) (h1 : A.tmps.getD 1 undef = .pointer (some ⟨b, 0, none⟩)) (qb : Blk w1 b (cuA c)) (nb : some b ≠ (Value.slice oa n ocap).ownBlock) (own : w1.ownsRow base 9 1 (Value.slice oa n ocap) n L) (hbase : base ≤ w1.heap.size) (hn : n ≤ 100) (hown1 : ∀ k, (Value.slice oa n ocap).ownBlock = some k → k < w1.heap.size) (hI : Hid (∀ W, Calls Tryd.prog 78 #[.bool c.iff, .string ⟨#[101, 105]⟩, .string ⟨#[]⟩] W fun e w' => e = .returned (.string D1) ∧ w' = W)) (hH : Hid (∀ W, Calls Tryd.prog 78 #[.bool c.halt, .string ⟨#[104, 97, 108, 116]⟩, .string ⟨#[]⟩] W fun e w' => e = .returned (.string D2) ∧ w' = W))
    (f : Nat → Bool) (e : Nat × Value) (a : Act) (w : World) (hun : f 4 = false) (hdep : ∀ d ∈ e9_o4.after, Region.binds .any d = true → f d.on = true) (hJ : e9_J w1 b n ocap base oa L c D1 D2 f e w) (hFr : Fr e9_O A f (fun j => e9_V b n ocap base oa L c D1 D2 j e) a) (hKp : Kept e9_O A f a)
    (K : Act → World → Prop) (hK : Hid (∀ v e' w', v = e9_V b n ocap base oa L c D1 D2 4 e' → (∀ j, f j = true → e9_V b n ocap base oa L c D1 D2 j e' = e9_V b n ocap base oa L c D1 D2 j e) → e9_J w1 b n ocap base oa L c D1 D2 (fun j => j == 4 || f j) e' w' → K (a.put e9_o4.dst v) w')) :
    if Region.wanted e9_o4 (yielded e9_O a.tmps) = true then Oper.wp Tryd.prog e9_o4 a w K Q else K (a.put e9_o4.dst undef) w := by
  unfold e9_o4 at hdep hK ⊢
  obtain ⟨hg, r0, r1, j17, j19, ja⟩ := hJ
  have v1 := (hFr.old 1 (e9_no (by decide))).trans h1
  replace hg := hid hg
  replace r0 := hid r0
  replace r1 := hid r1
  replace j17 := hid j17
  replace j19 := hid j19
  replace ja := hid ja
  clear hdep hFr hKp h3 h1
  go_simp
  exact hK.out _ e _ rfl (fun _ _ => rfl) ⟨hg.out, r0.out, r1.out, j17.out, j19.out, ja.out⟩
set_option maxRecDepth 100000 in
set_option maxHeartbeats 2000000 in
theorem e9_s5 (A : Act) (w1 : World) (Q : Exit → Act → World → Prop) (b n ocap base : Nat) (oa : Option Addr) (L : List Value) (c : Cu) (D1 D2 : ByteArray) 
    (h3 : A.tmps.getD 3 undef = .slice oa n ocap) (h1 : A.tmps.getD 1 undef = .pointer (some ⟨b, 0, none⟩)) (qb : Blk w1 b (cuA c)) (nb : some b ≠ (Value.slice oa n ocap).ownBlock) (own : w1.ownsRow base 9 1 (Value.slice oa n ocap) n L) (hbase : base ≤ w1.heap.size) (hn : n ≤ 100) (hown1 : ∀ k, (Value.slice oa n ocap).ownBlock = some k → k < w1.heap.size) (hI : Hid (∀ W, Calls Tryd.prog 78 #[.bool c.iff, .string ⟨#[101, 105]⟩, .string ⟨#[]⟩] W fun e w' => e = .returned (.string D1) ∧ w' = W)) (hH : Hid (∀ W, Calls Tryd.prog 78 #[.bool c.halt, .string ⟨#[104, 97, 108, 116]⟩, .string ⟨#[]⟩] W fun e w' => e = .returned (.string D2) ∧ w' = W))
    (f : Nat → Bool) (e : Nat × Value) (a : Act) (w : World) (hun : f 5 = false) (hdep : ∀ d ∈ e9_o5.after, Region.binds .any d = true → f d.on = true) (hJ : e9_J w1 b n ocap base oa L c D1 D2 f e w) (hFr : Fr e9_O A f (fun j => e9_V b n ocap base oa L c D1 D2 j e) a) (hKp : Kept e9_O A f a)
    (K : Act → World → Prop) (hK : Hid (∀ v e' w', v = e9_V b n ocap base oa L c D1 D2 5 e' → (∀ j, f j = true → e9_V b n ocap base oa L c D1 D2 j e' = e9_V b n ocap base oa L c D1 D2 j e) → e9_J w1 b n ocap base oa L c D1 D2 (fun j => j == 5 || f j) e' w' → K (a.put e9_o5.dst v) w')) :
    if Region.wanted e9_o5 (yielded e9_O a.tmps) = true then Oper.wp Tryd.prog e9_o5 a w K Q else K (a.put e9_o5.dst undef) w := by
  unfold e9_o5 at hdep hK ⊢
  obtain ⟨hg, r0, r1, j17, j19, ja⟩ := hJ
  have k4 : f 4 = true := hdep { on := 4, ground := .data } (by simp) rfl
  have v43 : a.tmps.getD 43 undef = .pointer (some ⟨b, 13, none⟩) := hFr.new 4 43 rfl k4
  have y : w.cell? ⟨b, 13, none⟩ = some (.bool c.halt) := (qb.grown hg nb).cell 13
  replace hg := hid hg
  replace r0 := hid r0
  replace r1 := hid r1
  replace j17 := hid j17
  replace j19 := hid j19
  replace ja := hid ja
  clear hdep hFr hKp h3 h1
  go_simp
  exact hK.out _ e _ rfl (fun _ _ => rfl) ⟨hg.out, r0.out, r1.out, j17.out, j19.out, ja.out⟩
set_option maxRecDepth 100000 in
set_option maxHeartbeats 2000000 in
theorem e9_s6 (A : Act) (w1 : World) (Q : Exit → Act → World → Prop) (b n ocap base : Nat) (oa : Option Addr) (L : List Value) (c : Cu) (D1 D2 : ByteArray) 
    (h3 : A.tmps.getD 3 undef = .slice oa n ocap) (h1 : A.tmps.getD 1 undef = .pointer (some ⟨b, 0, none⟩)) (qb : Blk w1 b (cuA c)) (nb : some b ≠ (Value.slice oa n ocap).ownBlock) (own : w1.ownsRow base 9 1 (Value.slice oa n ocap) n L) (hbase : base ≤ w1.heap.size) (hn : n ≤ 100) (hown1 : ∀ k, (Value.slice oa n ocap).ownBlock = some k → k < w1.heap.size) (hI : Hid (∀ W, Calls Tryd.prog 78 #[.bool c.iff, .string ⟨#[101, 105]⟩, .string ⟨#[]⟩] W fun e w' => e = .returned (.string D1) ∧ w' = W)) (hH : Hid (∀ W, Calls Tryd.prog 78 #[.bool c.halt, .string ⟨#[104, 97, 108, 116]⟩, .string ⟨#[]⟩] W fun e w' => e = .returned (.string D2) ∧ w' = W))
    (f : Nat → Bool) (e : Nat × Value) (a : Act) (w : World) (hun : f 6 = false) (hdep : ∀ d ∈ e9_o6.after, Region.binds .any d = true → f d.on = true) (hJ : e9_J w1 b n ocap base oa L c D1 D2 f e w) (hFr : Fr e9_O A f (fun j => e9_V b n ocap base oa L c D1 D2 j e) a) (hKp : Kept e9_O A f a)
    (K : Act → World → Prop) (hK : Hid (∀ v e' w', v = e9_V b n ocap base oa L c D1 D2 6 e' → (∀ j, f j = true → e9_V b n ocap base oa L c D1 D2 j e' = e9_V b n ocap base oa L c D1 D2 j e) → e9_J w1 b n ocap base oa L c D1 D2 (fun j => j == 6 || f j) e' w' → K (a.put e9_o6.dst v) w')) :
    if Region.wanted e9_o6 (yielded e9_O a.tmps) = true then Oper.wp Tryd.prog e9_o6 a w K Q else K (a.put e9_o6.dst undef) w := by
  unfold e9_o6 at hdep hK ⊢
  obtain ⟨hg, r0, r1, j17, j19, ja⟩ := hJ
  have k5 : f 5 = true := hdep { on := 5, ground := .data } (by simp) rfl
  have v44 : a.tmps.getD 44 undef = .bool c.halt := hFr.new 5 44 rfl k5
  replace hg := hid hg
  replace r0 := hid r0
  replace r1 := hid r1
  replace j17 := hid j17
  replace j19 := hid j19
  replace ja := hid ja
  clear hdep hFr hKp h3 h1
  go_simp
  go_at_call 78
  refine (hH.out w).mono ?_
  rintro r w' ⟨rfl, hww⟩
  obtain rfl := hww.symm
  go_simp
  exact hK.out _ e _ rfl (fun _ _ => rfl) ⟨hg.out, r0.out, r1.out, j17.out, j19.out, ja.out⟩
set_option maxRecDepth 100000 in
set_option maxHeartbeats 2000000 in
theorem e9_s7 (A : Act) (w1 : World) (Q : Exit → Act → World → Prop) (b n ocap base : Nat) (oa : Option Addr) (L : List Value) (c : Cu) (D1 D2 : ByteArray) 
    (h3 : A.tmps.getD 3 undef = .slice oa n ocap) (h1 : A.tmps.getD 1 undef = .pointer (some ⟨b, 0, none⟩)) (qb : Blk w1 b (cuA c)) (nb : some b ≠ (Value.slice oa n ocap).ownBlock) (own : w1.ownsRow base 9 1 (Value.slice oa n ocap) n L) (hbase : base ≤ w1.heap.size) (hn : n ≤ 100) (hown1 : ∀ k, (Value.slice oa n ocap).ownBlock = some k → k < w1.heap.size) (hI : Hid (∀ W, Calls Tryd.prog 78 #[.bool c.iff, .string ⟨#[101, 105]⟩, .string ⟨#[]⟩] W fun e w' => e = .returned (.string D1) ∧ w' = W)) (hH : Hid (∀ W, Calls Tryd.prog 78 #[.bool c.halt, .string ⟨#[104, 97, 108, 116]⟩, .string ⟨#[]⟩] W fun e w' => e = .returned (.string D2) ∧ w' = W))
    (f : Nat → Bool) (e : Nat × Value) (a : Act) (w : World) (hun : f 7 = false) (hdep : ∀ d ∈ e9_o7.after, Region.binds .any d = true → f d.on = true) (hJ : e9_J w1 b n ocap base oa L c D1 D2 f e w) (hFr : Fr e9_O A f (fun j => e9_V b n ocap base oa L c D1 D2 j e) a) (hKp : Kept e9_O A f a)
    (K : Act → World → Prop) (hK : Hid (∀ v e' w', v = e9_V b n ocap base oa L c D1 D2 7 e' → (∀ j, f j = true → e9_V b n ocap base oa L c D1 D2 j e' = e9_V b n ocap base oa L c D1 D2 j e) → e9_J w1 b n ocap base oa L c D1 D2 (fun j => j == 7 || f j) e' w' → K (a.put e9_o7.dst v) w')) :
    if Region.wanted e9_o7 (yielded e9_O a.tmps) = true then Oper.wp Tryd.prog e9_o7 a w K Q else K (a.put e9_o7.dst undef) w := by
  unfold e9_o7 at hdep hK ⊢
  obtain ⟨hg, r0, r1, j17, j19, ja⟩ := hJ
  have na : f 8 = false := by
    cases hx : f 8
    · rfl
    · have := ja hx
      rw [hun] at this
      cases this
  have k3 : f 3 = true := hdep { on := 3, ground := .data } (by simp) rfl
  have v42 : a.tmps.getD 42 undef = .string D1 := hFr.new 3 42 rfl k3
  have k6 : f 6 = true := hdep { on := 6, ground := .data } (by simp) rfl
  have v45 : a.tmps.getD 45 undef = .string D2 := hFr.new 6 45 rfl k6
  have v42b : a.tmps[42]?.getD undef = .string D1 := by simpa using v42
  have v45b : a.tmps[45]?.getD undef = .string D2 := by simpa using v45
  have hal := hid ((Below.refl w.heap.size w).alloc (Nat.le_refl _) (.cells #[.string D1, .string D2] 9))
  have hq : Hid ((w.alloc (.cells #[.string D1, .string D2] 9)).heap[w.heap.size]? = some (.cells #[.string D1, .string D2] 9 (0, 0))) := heap_alloc_new w _
  have hsz : Hid (w1.heap.size ≤ w.heap.size) := hg.size
  replace hg := hid hg
  replace r0 := hid r0
  replace r1 := hid r1
  replace j17 := hid j17
  replace j19 := hid j19
  replace ja := hid ja
  clear hdep hFr hKp h3 h1
  replace na := hid na
  go_simp
  exact hK.out _ (w.heap.size, e.2) _ rfl (e9_k7 b n ocap base oa L c D1 D2 e w.heap.size hun) ⟨gtrX hg.out (gbX hal.out), fun h => (r0.out h).alloc _, fun h => (r1.out h).alloc _, fun _ => ⟨hsz.out, hq.out⟩, j19.out, fun _ => rfl⟩
set_option maxRecDepth 100000 in
set_option maxHeartbeats 2000000 in
theorem e9_s8 (A : Act) (w1 : World) (Q : Exit → Act → World → Prop) (b n ocap base : Nat) (oa : Option Addr) (L : List Value) (c : Cu) (D1 D2 : ByteArray) 
    (h3 : A.tmps.getD 3 undef = .slice oa n ocap) (h1 : A.tmps.getD 1 undef = .pointer (some ⟨b, 0, none⟩)) (qb : Blk w1 b (cuA c)) (nb : some b ≠ (Value.slice oa n ocap).ownBlock) (own : w1.ownsRow base 9 1 (Value.slice oa n ocap) n L) (hbase : base ≤ w1.heap.size) (hn : n ≤ 100) (hown1 : ∀ k, (Value.slice oa n ocap).ownBlock = some k → k < w1.heap.size) (hI : Hid (∀ W, Calls Tryd.prog 78 #[.bool c.iff, .string ⟨#[101, 105]⟩, .string ⟨#[]⟩] W fun e w' => e = .returned (.string D1) ∧ w' = W)) (hH : Hid (∀ W, Calls Tryd.prog 78 #[.bool c.halt, .string ⟨#[104, 97, 108, 116]⟩, .string ⟨#[]⟩] W fun e w' => e = .returned (.string D2) ∧ w' = W))
    (f : Nat → Bool) (e : Nat × Value) (a : Act) (w : World) (hun : f 8 = false) (hdep : ∀ d ∈ e9_o8.after, Region.binds .any d = true → f d.on = true) (hJ : e9_J w1 b n ocap base oa L c D1 D2 f e w) (hFr : Fr e9_O A f (fun j => e9_V b n ocap base oa L c D1 D2 j e) a) (hKp : Kept e9_O A f a)
    (K : Act → World → Prop) (hK : Hid (∀ v e' w', v = e9_V b n ocap base oa L c D1 D2 8 e' → (∀ j, f j = true → e9_V b n ocap base oa L c D1 D2 j e' = e9_V b n ocap base oa L c D1 D2 j e) → e9_J w1 b n ocap base oa L c D1 D2 (fun j => j == 8 || f j) e' w' → K (a.put e9_o8.dst v) w')) :
    if Region.wanted e9_o8 (yielded e9_O a.tmps) = true then Oper.wp Tryd.prog e9_o8 a w K Q else K (a.put e9_o8.dst undef) w := by
  unfold e9_o8 at hdep hK ⊢
  obtain ⟨hg, r0, r1, j17, j19, ja⟩ := hJ
  have k0 : f 0 = true := hdep { on := 0, ground := .data } (by simp) rfl
  have v39 : a.tmps.getD 39 undef = (Value.slice oa n ocap) := hFr.new 0 39 rfl k0
  have k7 : f 7 = true := hdep { on := 7, ground := .data } (by simp) rfl
  have v46 : a.tmps.getD 46 undef = .slice (some ⟨e.1, 0, none⟩) 2 2 := hFr.new 7 46 rfl k7
  obtain ⟨i0, hi0, hz0, hz1, hz2⟩ := info_parts infoStr
  have hbk := (j17 k7).2
  have hsz := hg.size
  rw [if_pos (show Region.wanted _ _ = true from rfl)]
  have nl : f 9 = false := by
    cases hl : f 9
    · rfl
    · have := (j19 hl).2
      rw [hun] at this
      cases this
  refine wp_append_lies w _ _ 37 rfl base 9 i0 _ 1 16 Tryd.underlying37 hi0 hz0 hz1 hz2 rfl (by omega) (Value.slice oa n ocap) n L v39 (r0 hun) ⟨e.1, 0, none⟩ 2 2 [.string D1, .string D2] v46 rfl (World.news_of_block (cs := #[.string D1, .string D2]) (t := 9) (fr := (0, 0)) hbk) (by simp [Value.oneCell']) (by omega) (by unfold maxLen; omega) (by omega) (by omega) _ rfl ?_
  intro gg cap2 w2 ho hgr hat hlt
  exact hK.out _ (e.1, .slice (some ⟨gg, 0, none⟩) (n + 2) cap2) _ rfl (e9_k8 b n ocap base oa L c D1 D2 e _ hun nl) ⟨gtrX hg hgr, fun h => (by cases h), fun _ => ho, fun h => ⟨(j17 h).1, (hgr.block _ (Array.getElem?_eq_some_iff.1 (j17 h).2).1 (fun he => by have h1 := (r0 hun).lt _ he.symm; have h2 := (j17 h).1; have h3 := hown1 _ he.symm; omega)).trans (j17 h).2⟩, fun h => ⟨(j19 h).1, rfl⟩, fun _ => k7⟩
set_option maxRecDepth 100000 in
set_option maxHeartbeats 2000000 in
theorem e9_s9 (A : Act) (w1 : World) (Q : Exit → Act → World → Prop) (b n ocap base : Nat) (oa : Option Addr) (L : List Value) (c : Cu) (D1 D2 : ByteArray) 
    (h3 : A.tmps.getD 3 undef = .slice oa n ocap) (h1 : A.tmps.getD 1 undef = .pointer (some ⟨b, 0, none⟩)) (qb : Blk w1 b (cuA c)) (nb : some b ≠ (Value.slice oa n ocap).ownBlock) (own : w1.ownsRow base 9 1 (Value.slice oa n ocap) n L) (hbase : base ≤ w1.heap.size) (hn : n ≤ 100) (hown1 : ∀ k, (Value.slice oa n ocap).ownBlock = some k → k < w1.heap.size) (hI : Hid (∀ W, Calls Tryd.prog 78 #[.bool c.iff, .string ⟨#[101, 105]⟩, .string ⟨#[]⟩] W fun e w' => e = .returned (.string D1) ∧ w' = W)) (hH : Hid (∀ W, Calls Tryd.prog 78 #[.bool c.halt, .string ⟨#[104, 97, 108, 116]⟩, .string ⟨#[]⟩] W fun e w' => e = .returned (.string D2) ∧ w' = W))
    (f : Nat → Bool) (e : Nat × Value) (a : Act) (w : World) (hun : f 9 = false) (hdep : ∀ d ∈ e9_o9.after, Region.binds .any d = true → f d.on = true) (hJ : e9_J w1 b n ocap base oa L c D1 D2 f e w) (hFr : Fr e9_O A f (fun j => e9_V b n ocap base oa L c D1 D2 j e) a) (hKp : Kept e9_O A f a)
    (K : Act → World → Prop) (hK : Hid (∀ v e' w', v = e9_V b n ocap base oa L c D1 D2 9 e' → (∀ j, f j = true → e9_V b n ocap base oa L c D1 D2 j e' = e9_V b n ocap base oa L c D1 D2 j e) → e9_J w1 b n ocap base oa L c D1 D2 (fun j => j == 9 || f j) e' w' → K (a.put e9_o9.dst v) w')) :
    if Region.wanted e9_o9 (yielded e9_O a.tmps) = true then Oper.wp Tryd.prog e9_o9 a w K Q else K (a.put e9_o9.dst undef) w := by
  unfold e9_o9 at hdep hK ⊢
  obtain ⟨hg, r0, r1, j17, j19, ja⟩ := hJ
  have k8 : f 8 = true := hdep { on := 8, ground := .data } (by simp) rfl
  have v47 : a.tmps.getD 47 undef = e.2 := hFr.new 8 47 rfl k8
  have k0 : f 0 = true := hdep { on := 0, ground := .phase } (by simp) rfl
  replace hg := hid hg
  replace r0 := hid r0
  replace r1 := hid r1
  replace j17 := hid j17
  replace j19 := hid j19
  replace ja := hid ja
  clear hdep hFr hKp h3 h1
  go_simp
  exact hK.out _ e _ rfl (fun _ _ => rfl) ⟨hg.out, r0.out, r1.out, j17.out, fun _ => ⟨k0, k8⟩, ja.out⟩
set_option maxRecDepth 100000 in
set_option maxHeartbeats 4000000 in
theorem e9_reg (A : Act) (w1 : World) (Q : Exit → Act → World → Prop) (b n ocap base : Nat) (oa : Option Addr) (L : List Value) (c : Cu) (D1 D2 : ByteArray) 
    (h3 : A.tmps.getD 3 undef = .slice oa n ocap) (h1 : A.tmps.getD 1 undef = .pointer (some ⟨b, 0, none⟩)) (qb : Blk w1 b (cuA c)) (nb : some b ≠ (Value.slice oa n ocap).ownBlock) (own : w1.ownsRow base 9 1 (Value.slice oa n ocap) n L) (hbase : base ≤ w1.heap.size) (hn : n ≤ 100) (hown1 : ∀ k, (Value.slice oa n ocap).ownBlock = some k → k < w1.heap.size) (hI : Hid (∀ W, Calls Tryd.prog 78 #[.bool c.iff, .string ⟨#[101, 105]⟩, .string ⟨#[]⟩] W fun e w' => e = .returned (.string D1) ∧ w' = W)) (hH : Hid (∀ W, Calls Tryd.prog 78 #[.bool c.halt, .string ⟨#[104, 97, 108, 116]⟩, .string ⟨#[]⟩] W fun e w' => e = .returned (.string D2) ∧ w' = W)) (hN : 48 ≤ A.tmps.size)
    (h : ∀ (w : World) (e : Nat × Value), w1.grownBy w (Value.slice oa n ocap).ownBlock ∧ w.ownsRow base 9 1 e.2 (n + 2) (L ++ [.string D1, .string D2]) → Q .normal (putsA A [(39, (Value.slice oa n ocap)), (40, .pointer (some ⟨b, 11, none⟩)), (41, .bool c.iff), (42, .string D1), (43, .pointer (some ⟨b, 13, none⟩)), (44, .bool c.halt), (45, .string D2), (46, .slice (some ⟨e.1, 0, none⟩) 2 2), (47, e.2), (3, e.2)]) w) :
    (Code.region 9 #[({ dst := some 39, op := Op.move (Operand.tmp 3), type := 37, pos := "l15_text.go:91", after := #[], guard := none } : Oper), ({ dst := some 40, op := Op.fieldAddr 52 (Operand.tmp 1) 4, type := 0, pos := "l15_text.go:91", after := #[], guard := none } : Oper), ({ dst := some 41, op := Op.load 4 (Operand.tmp 40), type := 4, pos := "l15_text.go:91", after := #[{ on := 1, ground := Ground.data }], guard := none } : Oper), ({ dst := some 42, op := Op.call { callee := Callee.value (Operand.func 78), args := #[Operand.tmp 41, Operand.const (Value.string { data := #[101, 105] }), Operand.const (Value.string { data := #[] })], argTypes := #[4, 9, 9] }, type := 9, pos := "l15_text.go:91", after := #[{ on := 2, ground := Ground.data }], guard := none } : Oper), ({ dst := some 43, op := Op.fieldAddr 52 (Operand.tmp 1) 6, type := 0, pos := "l15_text.go:91", after := #[], guard := none } : Oper), ({ dst := some 44, op := Op.load 4 (Operand.tmp 43), type := 4, pos := "l15_text.go:91", after := #[{ on := 4, ground := Ground.data }], guard := none } : Oper), ({ dst := some 45, op := Op.call { callee := Callee.value (Operand.func 78), args := #[Operand.tmp 44, Operand.const (Value.string { data := #[104, 97, 108, 116] }), Operand.const (Value.string { data := #[] })], argTypes := #[4, 9, 9] }, type := 9, pos := "l15_text.go:91", after := #[{ on := 5, ground := Ground.data }, { on := 3, ground := Ground.chain }], guard := none } : Oper), ({ dst := some 46, op := Op.buildSlice 37 2 #[(0, Operand.tmp 42), (1, Operand.tmp 45)], type := 37, pos := "l15_text.go:91", after := #[{ on := 3, ground := Ground.data }, { on := 6, ground := Ground.data }], guard := none } : Oper), ({ dst := some 47, op := Op.call { callee := Callee.builtin Builtin.append, args := #[Operand.tmp 39, Operand.tmp 46], argTypes := #[37, 37] }, type := 37, pos := "l15_text.go:91", after := #[{ on := 0, ground := Ground.data }, { on := 7, ground := Ground.data }, { on := 6, ground := Ground.chain }], guard := none } : Oper), ({ dst := some 3, op := Op.assign (Operand.tmp 47), type := 37, pos := "l15_text.go:91", after := #[{ on := 8, ground := Ground.data }, { on := 8, ground := Ground.chain }, { on := 0, ground := Ground.phase }, { on := 1, ground := Ground.phase }, { on := 2, ground := Ground.phase }, { on := 3, ground := Ground.phase }, { on := 4, ground := Ground.phase }, { on := 5, ground := Ground.phase }, { on := 6, ground := Ground.phase }, { on := 7, ground := Ground.phase }, { on := 8, ground := Ground.phase }], guard := none } : Oper)] true).wp Tryd.prog Q A w1 := by
  show (Code.region 9 e9_O true).wp Tryd.prog Q A w1
  refine wp_region_slotsK (E := Nat × Value) (e9_V b n ocap base oa L c D1 D2) (e9_J w1 b n ocap base oa L c D1 D2) (by kernel_rfl) (by kernel_rfl) (by kernel_rfl) (fun i s hi => ?_) ?_ (0, undef) ⟨⟨rfl, rfl, rfl, Nat.le_refl _, fun _ _ _ => rfl⟩, fun _ => own, fun h => (by cases h), fun h => (by cases h), fun h => (by cases h), fun h => (by cases h)⟩ ?_
  · cases hc : ([39, 40, 41, 42, 43, 44, 45, 46, 47, 3] : List Nat).contains s
    · exact absurd hi (e9_no hc i)
    · have : s ∈ ([39, 40, 41, 42, 43, 44, 45, 46, 47, 3] : List Nat) := by simpa using hc
      simp only [List.mem_cons, List.not_mem_nil, or_false] at this
      omega
  · intro f e a w i o hi ho hun hdep hJ hFr hKp K hK
    have hi8 : i < 10 := hi
    rcases (by omega : i = 0 ∨ i = 1 ∨ i = 2 ∨ i = 3 ∨ i = 4 ∨ i = 5 ∨ i = 6 ∨ i = 7 ∨ i = 8 ∨ i = 9) with rfl | rfl | rfl | rfl | rfl | rfl | rfl | rfl | rfl | rfl
    · obtain rfl := Option.some.inj ho
      exact e9_s0 A w1 Q b n ocap base oa L c D1 D2 h3 h1 qb nb own hbase hn hown1 hI hH f e a w hun hdep hJ hFr hKp K hK
    · obtain rfl := Option.some.inj ho
      exact e9_s1 A w1 Q b n ocap base oa L c D1 D2 h3 h1 qb nb own hbase hn hown1 hI hH f e a w hun hdep hJ hFr hKp K hK
    · obtain rfl := Option.some.inj ho
      exact e9_s2 A w1 Q b n ocap base oa L c D1 D2 h3 h1 qb nb own hbase hn hown1 hI hH f e a w hun hdep hJ hFr hKp K hK
    · obtain rfl := Option.some.inj ho
      exact e9_s3 A w1 Q b n ocap base oa L c D1 D2 h3 h1 qb nb own hbase hn hown1 hI hH f e a w hun hdep hJ hFr hKp K hK
    · obtain rfl := Option.some.inj ho
      exact e9_s4 A w1 Q b n ocap base oa L c D1 D2 h3 h1 qb nb own hbase hn hown1 hI hH f e a w hun hdep hJ hFr hKp K hK
    · obtain rfl := Option.some.inj ho
      exact e9_s5 A w1 Q b n ocap base oa L c D1 D2 h3 h1 qb nb own hbase hn hown1 hI hH f e a w hun hdep hJ hFr hKp K hK
    · obtain rfl := Option.some.inj ho
      exact e9_s6 A w1 Q b n ocap base oa L c D1 D2 h3 h1 qb nb own hbase hn hown1 hI hH f e a w hun hdep hJ hFr hKp K hK
    · obtain rfl := Option.some.inj ho
      exact e9_s7 A w1 Q b n ocap base oa L c D1 D2 h3 h1 qb nb own hbase hn hown1 hI hH f e a w hun hdep hJ hFr hKp K hK
    · obtain rfl := Option.some.inj ho
      exact e9_s8 A w1 Q b n ocap base oa L c D1 D2 h3 h1 qb nb own hbase hn hown1 hI hH f e a w hun hdep hJ hFr hKp K hK
    · obtain rfl := Option.some.inj ho
      exact e9_s9 A w1 Q b n ocap base oa L c D1 D2 h3 h1 qb nb own hbase hn hown1 hI hH f e a w hun hdep hJ hFr hKp K hK
  · intro f e a w hall hJ hFr
    have := h w e ⟨hJ.1, hJ.2.2.1 (hall 8 (by decide))⟩
    rw [hFr.eq [(39, (Value.slice oa n ocap)), (40, .pointer (some ⟨b, 11, none⟩)), (41, .bool c.iff), (42, .string D1), (43, .pointer (some ⟨b, 13, none⟩)), (44, .bool c.halt), (45, .string D2), (46, .slice (some ⟨e.1, 0, none⟩) 2 2), (47, e.2), (3, e.2)] (fun s hs => ?_) (fun i s hi => ?_)]
    · exact this
    · have hne : ∀ k ∈ ([39, 40, 41, 42, 43, 44, 45, 46, 47, 3] : List Nat), k ≠ s := by
        intro k hk e2
        subst e2
        simp only [List.mem_cons, List.not_mem_nil, or_false] at hk
        rcases hk with rfl | rfl | rfl | rfl | rfl | rfl | rfl | rfl | rfl | rfl
        · exact hs 0 rfl
        · exact hs 1 rfl
        · exact hs 2 rfl
        · exact hs 3 rfl
        · exact hs 4 rfl
        · exact hs 5 rfl
        · exact hs 6 rfl
        · exact hs 7 rfl
        · exact hs 8 rfl
        · exact hs 9 rfl
      simp only [lookA]
      simp [hne]
    · have hl : i < 10 := by
        rcases Nat.lt_or_ge i 10 with h1 | h1
        · exact h1
        · unfold dstAt at hi
          rw [Array.getElem?_eq_none (by exact h1)] at hi
          cases hi
      refine ⟨hall i hl, ?_⟩
      rcases (by omega : i = 0 ∨ i = 1 ∨ i = 2 ∨ i = 3 ∨ i = 4 ∨ i = 5 ∨ i = 6 ∨ i = 7 ∨ i = 8 ∨ i = 9) with rfl | rfl | rfl | rfl | rfl | rfl | rfl | rfl | rfl | rfl
      all_goals first
        | (cases hi; rfl)
        | cases hi
end Go.Proofs.YtneagomkohoceaaDoor
