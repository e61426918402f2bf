/- A list of code: the specification. -/
import Derived.Test.YtneagomkohoceabDoorTyal
import Derived.Test.YtneagomkohoceabDoorIxl
import Derived.Test.YtneagomkohoceabDoorTxbl
import Derived.Test.YtneagomkohoceabDoorMfl
import Derived.Test.YtneagomkohoceabDoorMcl
namespace Go.Proofs.YtneagomkohoceabDoor
open Go.ChangeShapes Go.WideShapes Go.ChangeAt Go.RowKit
set_option linter.unusedVariables false
set_option linter.unusedSimpArgs false

theorem gtrY {a b c : World} {r : Option Nat} (h : a.grownBy b r) (k : b.grownBy c r) : a.grownBy c r :=
  ⟨k.os.trans h.os, k.tape.trans h.tape, k.output.trans h.output, Nat.le_trans h.size k.size, fun j hj hne => (k.block j (Nat.lt_of_lt_of_le hj h.size) hne).trans (h.block j hj hne)⟩
theorem gbY {b c : World} {r : Option Nat} (h : Below b.heap.size b c) : b.grownBy c r := ⟨h.os, h.tape, h.output, h.size, fun k hk _ => h.block k hk⟩
def lc_V (b n ocap base : Nat) (oa : Option Addr) (L : List Value) (io ia ib inn il : Int) (ii : Nat) (HI TX : ByteArray) : Nat → Nat × Value → Value := fun i e => match i with
  | 0 => (Value.slice oa n ocap)
  | 1 => .int .i64 (ii : Int)
  | 2 => .string HI
  | 3 => .string (HI ++ ⟨#[32]⟩)
  | 4 => .agg #[.int .i64 io, .int .i64 ia, .int .i64 ib, .int .i64 inn, .int .i64 il]
  | 5 => .string TX
  | 6 => .string (HI ++ ⟨#[32]⟩ ++ TX)
  | 7 => .slice (some ⟨e.1, 0, none⟩) 1 1
  | 8 => e.2
  | 9 => e.2
  | _ => undef
def lc_J (w1 : World) (b n ocap base : Nat) (oa : Option Addr) (L : List Value) (io ia ib inn il : Int) (ii : Nat) (HI TX : ByteArray) (f : Nat → Bool) (e : Nat × Value) (w : World) : Prop :=
  w1.grownBy w (Value.slice oa n ocap).ownBlock ∧ (f 8 = false → w.ownsRow base 9 1 (Value.slice oa n ocap) n L) ∧ (f 8 = true → w.ownsRow base 9 1 e.2 (n + 1) (L ++ [.string (HI ++ ⟨#[32]⟩ ++ TX)])) ∧ (f 7 = true → w1.heap.size ≤ e.1 ∧ w.heap[e.1]? = some (.cells #[.string (HI ++ ⟨#[32]⟩ ++ TX)] 9 (0, 0))) ∧ (f 9 = true → f 0 = true ∧ f 8 = true) ∧ (f 8 = true → f 7 = true)
def lc_o0 : Oper := ({ dst := some 43, op := Op.move (Operand.tmp 4), type := 48, pos := "l15_text.go:169", after := #[], guard := none } : Oper)
def lc_o1 : Oper := ({ dst := some 44, op := Op.move (Operand.tmp 5), type := 3, pos := "l15_text.go:169", after := #[], guard := none } : Oper)
def lc_o2 : Oper := ({ dst := some 45, op := Op.call { callee := Callee.value (Operand.func 70), args := #[Operand.tmp 44], argTypes := #[3] }, type := 9, pos := "l15_text.go:169", after := #[{ on := 1, ground := Ground.data }], guard := none } : Oper)
def lc_o3 : Oper := ({ dst := some 46, op := Op.binOp BinOp.add 9 (Operand.tmp 45) (Operand.const (Value.string { data := #[32] })) 9, type := 9, pos := "l15_text.go:169", after := #[{ on := 2, ground := Ground.data }], guard := none } : Oper)
def lc_o4 : Oper := ({ dst := some 47, op := Op.load 122 (Operand.tmp 7), type := 122, pos := "l15_text.go:169", after := #[], guard := none } : Oper)
def lc_o5 : Oper := ({ dst := some 48, op := Op.call { callee := Callee.value (Operand.func 71), args := #[Operand.tmp 47], argTypes := #[122] }, type := 9, pos := "l15_text.go:169", after := #[{ on := 4, ground := Ground.data }, { on := 2, ground := Ground.chain }], guard := none } : Oper)
def lc_o6 : Oper := ({ dst := some 49, op := Op.binOp BinOp.add 9 (Operand.tmp 46) (Operand.tmp 48) 9, type := 9, pos := "l15_text.go:169", after := #[{ on := 3, ground := Ground.data }, { on := 5, ground := Ground.data }], guard := none } : Oper)
def lc_o7 : Oper := ({ dst := some 50, op := Op.buildSlice 48 1 #[(0, Operand.tmp 49)], type := 48, pos := "l15_text.go:169", after := #[{ on := 6, ground := Ground.data }], guard := none } : Oper)
def lc_o8 : Oper := ({ dst := some 51, op := Op.call { callee := Callee.builtin Builtin.append, args := #[Operand.tmp 43, Operand.tmp 50], argTypes := #[48, 48] }, type := 48, pos := "l15_text.go:169", after := #[{ on := 0, ground := Ground.data }, { on := 7, ground := Ground.data }, { on := 5, ground := Ground.chain }], guard := none } : Oper)
def lc_o9 : Oper := ({ dst := some 4, op := Op.assign (Operand.tmp 51), type := 48, pos := "l15_text.go:169", after := #[{ on := 8, ground := Ground.data }, { on := 8, ground := Ground.chain }, { on := 0, ground := Ground.phase }, { on := 1, ground := Ground.phase }, { on := 2, ground := Ground.phase }, { on := 3, ground := Ground.phase }, { on := 4, ground := Ground.phase }, { on := 5, ground := Ground.phase }, { on := 6, ground := Ground.phase }, { on := 7, ground := Ground.phase }, { on := 8, ground := Ground.phase }], guard := none } : Oper)
def lc_O : Array Oper := #[lc_o0, lc_o1, lc_o2, lc_o3, lc_o4, lc_o5, lc_o6, lc_o7, lc_o8, lc_o9]
theorem lc_no {s : Nat} (h : ([43, 44, 45, 46, 47, 48, 49, 50, 51, 4] : List Nat).contains s = false) : ∀ i, dstAt lc_O i ≠ some s := by
  intro i hi
  have hl : i < 10 := by
    rcases Nat.lt_or_ge i 10 with h1 | h1
    · exact h1
    · unfold dstAt at hi
      rw [Array.getElem?_eq_none (by exact h1)] at hi
      cases hi
  rcases (by omega : i = 0 ∨ i = 1 ∨ i = 2 ∨ i = 3 ∨ i = 4 ∨ i = 5 ∨ i = 6 ∨ i = 7 ∨ i = 8 ∨ i = 9) with rfl | rfl | rfl | rfl | rfl | rfl | rfl | rfl | rfl | rfl
  all_goals first
    | (cases hi; simp at h)
    | cases hi
theorem lc_k7 (b n ocap base : Nat) (oa : Option Addr) (L : List Value) (io ia ib inn il : Int) (ii : Nat) (HI TX : ByteArray) {f : Nat → Bool} (e : Nat × Value) (x : Nat) (hn : f 7 = false) : ∀ j, f j = true → lc_V b n ocap base oa L io ia ib inn il ii HI TX j (x, e.2) = lc_V b n ocap base oa L io ia ib inn il ii HI TX j e := by
  intro j hj
  unfold lc_V
  split
  · rfl
  · rfl
  · rfl
  · rfl
  · rfl
  · rfl
  · rfl
  · rw [hn] at hj; cases hj
  · rfl
  · rfl
  · rfl
theorem lc_k8 (b n ocap base : Nat) (oa : Option Addr) (L : List Value) (io ia ib inn il : Int) (ii : Nat) (HI TX : ByteArray) {f : Nat → Bool} (e : Nat × Value) (x : Value) (hn : f 8 = false) (hn2 : f 9 = false) : ∀ j, f j = true → lc_V b n ocap base oa L io ia ib inn il ii HI TX j (e.1, x) = lc_V b n ocap base oa L io ia ib inn il ii HI TX j e := by
  intro j hj
  unfold lc_V
  split
  · rfl
  · rfl
  · rfl
  · rfl
  · rfl
  · rfl
  · rfl
  · rfl
  · rw [hn] at hj; cases hj
  · rw [hn2] at hj; cases hj
  · rfl
set_option maxRecDepth 100000 in
set_option maxHeartbeats 2000000 in
theorem lc_s0 (A : Act) (w1 : World) (Q : Exit → Act → World → Prop) (b n ocap base : Nat) (oa : Option Addr) (L : List Value) (io ia ib inn il : Int) (ii : Nat) (HI TX : ByteArray) 
    (h3 : A.tmps.getD 4 undef = .slice oa n ocap) (h1 : A.tmps.getD 7 undef = .pointer (some ⟨b, 0, none⟩)) (qb : Blk w1 b #[.int .i64 io, .int .i64 ia, .int .i64 ib, .int .i64 inn, .int .i64 il]) (nb : some b ≠ (Value.slice oa n ocap).ownBlock) (own : w1.ownsRow base 9 1 (Value.slice oa n ocap) n L) (hbase : base ≤ w1.heap.size) (hn : n ≤ 1000) (hown1 : ∀ k, (Value.slice oa n ocap).ownBlock = some k → k < w1.heap.size) (h5 : A.tmps.getD 5 undef = .int .i64 (ii : Int)) (hHx : Hid (∀ W, Calls Tryd.prog 70 #[.int .i64 (ii : Int)] W fun e w' => e = .returned (.string HI) ∧ Below W.heap.size W w')) (hTx : Hid (∀ W, Calls Tryd.prog 71 #[.agg #[.int .i64 io, .int .i64 ia, .int .i64 ib, .int .i64 inn, .int .i64 il]] W fun e w' => e = .returned (.string TX) ∧ Below W.heap.size W w')) (hz : HI.size = 2 ∧ TX.size ≤ 100)
    (f : Nat → Bool) (e : Nat × Value) (a : Act) (w : World) (hun : f 0 = false) (hdep : ∀ d ∈ lc_o0.after, Region.binds .any d = true → f d.on = true) (hJ : lc_J w1 b n ocap base oa L io ia ib inn il ii HI TX f e w) (hFr : Fr lc_O A f (fun j => lc_V b n ocap base oa L io ia ib inn il ii HI TX j e) a) (hKp : Kept lc_O A f a)
    (K : Act → World → Prop) (hK : Hid (∀ v e' w', v = lc_V b n ocap base oa L io ia ib inn il ii HI TX 0 e' → (∀ j, f j = true → lc_V b n ocap base oa L io ia ib inn il ii HI TX j e' = lc_V b n ocap base oa L io ia ib inn il ii HI TX j e) → lc_J w1 b n ocap base oa L io ia ib inn il ii HI TX (fun j => j == 0 || f j) e' w' → K (a.put lc_o0.dst v) w')) :
    if Region.wanted lc_o0 (yielded lc_O a.tmps) = true then Oper.wp Tryd.prog lc_o0 a w K Q else K (a.put lc_o0.dst undef) w := by
  unfold lc_o0 at hdep hK ⊢
  obtain ⟨hg, r0, r1, j17, j19, ja⟩ := hJ
  have fl : f 9 = false := by
    cases hl : f 9
    · rfl
    · have := (j19 hl).1
      rw [hun] at this
      cases this
  have v4 := (hKp 9 4 rfl fl).trans h3
  replace hg := hid hg
  replace r0 := hid r0
  replace r1 := hid r1
  replace j17 := hid j17
  replace j19 := hid j19
  replace ja := hid ja
  clear hdep hFr hKp h3 h1
  go_simp
  exact hK.out _ e _ rfl (fun _ _ => rfl) ⟨hg.out, r0.out, r1.out, j17.out, fun h => ⟨rfl, (j19.out h).2⟩, ja.out⟩
set_option maxRecDepth 100000 in
set_option maxHeartbeats 2000000 in
theorem lc_s1 (A : Act) (w1 : World) (Q : Exit → Act → World → Prop) (b n ocap base : Nat) (oa : Option Addr) (L : List Value) (io ia ib inn il : Int) (ii : Nat) (HI TX : ByteArray) 
    (h3 : A.tmps.getD 4 undef = .slice oa n ocap) (h1 : A.tmps.getD 7 undef = .pointer (some ⟨b, 0, none⟩)) (qb : Blk w1 b #[.int .i64 io, .int .i64 ia, .int .i64 ib, .int .i64 inn, .int .i64 il]) (nb : some b ≠ (Value.slice oa n ocap).ownBlock) (own : w1.ownsRow base 9 1 (Value.slice oa n ocap) n L) (hbase : base ≤ w1.heap.size) (hn : n ≤ 1000) (hown1 : ∀ k, (Value.slice oa n ocap).ownBlock = some k → k < w1.heap.size) (h5 : A.tmps.getD 5 undef = .int .i64 (ii : Int)) (hHx : Hid (∀ W, Calls Tryd.prog 70 #[.int .i64 (ii : Int)] W fun e w' => e = .returned (.string HI) ∧ Below W.heap.size W w')) (hTx : Hid (∀ W, Calls Tryd.prog 71 #[.agg #[.int .i64 io, .int .i64 ia, .int .i64 ib, .int .i64 inn, .int .i64 il]] W fun e w' => e = .returned (.string TX) ∧ Below W.heap.size W w')) (hz : HI.size = 2 ∧ TX.size ≤ 100)
    (f : Nat → Bool) (e : Nat × Value) (a : Act) (w : World) (hun : f 1 = false) (hdep : ∀ d ∈ lc_o1.after, Region.binds .any d = true → f d.on = true) (hJ : lc_J w1 b n ocap base oa L io ia ib inn il ii HI TX f e w) (hFr : Fr lc_O A f (fun j => lc_V b n ocap base oa L io ia ib inn il ii HI TX j e) a) (hKp : Kept lc_O A f a)
    (K : Act → World → Prop) (hK : Hid (∀ v e' w', v = lc_V b n ocap base oa L io ia ib inn il ii HI TX 1 e' → (∀ j, f j = true → lc_V b n ocap base oa L io ia ib inn il ii HI TX j e' = lc_V b n ocap base oa L io ia ib inn il ii HI TX j e) → lc_J w1 b n ocap base oa L io ia ib inn il ii HI TX (fun j => j == 1 || f j) e' w' → K (a.put lc_o1.dst v) w')) :
    if Region.wanted lc_o1 (yielded lc_O a.tmps) = true then Oper.wp Tryd.prog lc_o1 a w K Q else K (a.put lc_o1.dst undef) w := by
  unfold lc_o1 at hdep hK ⊢
  obtain ⟨hg, r0, r1, j17, j19, ja⟩ := hJ
  have v5 := (hFr.old 5 (lc_no (by decide))).trans h5
  replace hg := hid hg
  replace r0 := hid r0
  replace r1 := hid r1
  replace j17 := hid j17
  replace j19 := hid j19
  replace ja := hid ja
  clear hdep hFr hKp h3 h1
  go_simp
  exact hK.out _ e _ rfl (fun _ _ => rfl) ⟨hg.out, r0.out, r1.out, j17.out, j19.out, ja.out⟩
set_option maxRecDepth 100000 in
set_option maxHeartbeats 2000000 in
theorem lc_s2 (A : Act) (w1 : World) (Q : Exit → Act → World → Prop) (b n ocap base : Nat) (oa : Option Addr) (L : List Value) (io ia ib inn il : Int) (ii : Nat) (HI TX : ByteArray) 
    (h3 : A.tmps.getD 4 undef = .slice oa n ocap) (h1 : A.tmps.getD 7 undef = .pointer (some ⟨b, 0, none⟩)) (qb : Blk w1 b #[.int .i64 io, .int .i64 ia, .int .i64 ib, .int .i64 inn, .int .i64 il]) (nb : some b ≠ (Value.slice oa n ocap).ownBlock) (own : w1.ownsRow base 9 1 (Value.slice oa n ocap) n L) (hbase : base ≤ w1.heap.size) (hn : n ≤ 1000) (hown1 : ∀ k, (Value.slice oa n ocap).ownBlock = some k → k < w1.heap.size) (h5 : A.tmps.getD 5 undef = .int .i64 (ii : Int)) (hHx : Hid (∀ W, Calls Tryd.prog 70 #[.int .i64 (ii : Int)] W fun e w' => e = .returned (.string HI) ∧ Below W.heap.size W w')) (hTx : Hid (∀ W, Calls Tryd.prog 71 #[.agg #[.int .i64 io, .int .i64 ia, .int .i64 ib, .int .i64 inn, .int .i64 il]] W fun e w' => e = .returned (.string TX) ∧ Below W.heap.size W w')) (hz : HI.size = 2 ∧ TX.size ≤ 100)
    (f : Nat → Bool) (e : Nat × Value) (a : Act) (w : World) (hun : f 2 = false) (hdep : ∀ d ∈ lc_o2.after, Region.binds .any d = true → f d.on = true) (hJ : lc_J w1 b n ocap base oa L io ia ib inn il ii HI TX f e w) (hFr : Fr lc_O A f (fun j => lc_V b n ocap base oa L io ia ib inn il ii HI TX j e) a) (hKp : Kept lc_O A f a)
    (K : Act → World → Prop) (hK : Hid (∀ v e' w', v = lc_V b n ocap base oa L io ia ib inn il ii HI TX 2 e' → (∀ j, f j = true → lc_V b n ocap base oa L io ia ib inn il ii HI TX j e' = lc_V b n ocap base oa L io ia ib inn il ii HI TX j e) → lc_J w1 b n ocap base oa L io ia ib inn il ii HI TX (fun j => j == 2 || f j) e' w' → K (a.put lc_o2.dst v) w')) :
    if Region.wanted lc_o2 (yielded lc_O a.tmps) = true then Oper.wp Tryd.prog lc_o2 a w K Q else K (a.put lc_o2.dst undef) w := by
  unfold lc_o2 at hdep hK ⊢
  obtain ⟨hg, r0, r1, j17, j19, ja⟩ := hJ
  have k1 : f 1 = true := hdep { on := 1, ground := .data } (by simp) rfl
  have v44 : a.tmps.getD 44 undef = .int .i64 (ii : Int) := hFr.new 1 44 rfl k1
  replace hg := hid hg
  replace r0 := hid r0
  replace r1 := hid r1
  replace j17 := hid j17
  replace j19 := hid j19
  replace ja := hid ja
  clear hdep hFr hKp h3 h1
  go_simp
  go_at_call 70
  refine (hHx.out w).mono ?_
  rintro r w' ⟨rfl, hb'⟩
  have hb2 := hid hb'
  clear hb'
  go_simp
  exact hK.out _ e _ rfl (fun _ _ => rfl) ⟨gtrY hg.out (gbY hb2.out), fun h => ownX_below (r0.out h) hb2.out, fun h => ownX_below (r1.out h) hb2.out, fun h => ⟨(j17.out h).1, (hb2.out.block _ (Array.getElem?_eq_some_iff.1 (j17.out h).2).1).trans (j17.out h).2⟩, j19.out, ja.out⟩
set_option maxRecDepth 100000 in
set_option maxHeartbeats 2000000 in
theorem lc_s3 (A : Act) (w1 : World) (Q : Exit → Act → World → Prop) (b n ocap base : Nat) (oa : Option Addr) (L : List Value) (io ia ib inn il : Int) (ii : Nat) (HI TX : ByteArray) 
    (h3 : A.tmps.getD 4 undef = .slice oa n ocap) (h1 : A.tmps.getD 7 undef = .pointer (some ⟨b, 0, none⟩)) (qb : Blk w1 b #[.int .i64 io, .int .i64 ia, .int .i64 ib, .int .i64 inn, .int .i64 il]) (nb : some b ≠ (Value.slice oa n ocap).ownBlock) (own : w1.ownsRow base 9 1 (Value.slice oa n ocap) n L) (hbase : base ≤ w1.heap.size) (hn : n ≤ 1000) (hown1 : ∀ k, (Value.slice oa n ocap).ownBlock = some k → k < w1.heap.size) (h5 : A.tmps.getD 5 undef = .int .i64 (ii : Int)) (hHx : Hid (∀ W, Calls Tryd.prog 70 #[.int .i64 (ii : Int)] W fun e w' => e = .returned (.string HI) ∧ Below W.heap.size W w')) (hTx : Hid (∀ W, Calls Tryd.prog 71 #[.agg #[.int .i64 io, .int .i64 ia, .int .i64 ib, .int .i64 inn, .int .i64 il]] W fun e w' => e = .returned (.string TX) ∧ Below W.heap.size W w')) (hz : HI.size = 2 ∧ TX.size ≤ 100)
    (f : Nat → Bool) (e : Nat × Value) (a : Act) (w : World) (hun : f 3 = false) (hdep : ∀ d ∈ lc_o3.after, Region.binds .any d = true → f d.on = true) (hJ : lc_J w1 b n ocap base oa L io ia ib inn il ii HI TX f e w) (hFr : Fr lc_O A f (fun j => lc_V b n ocap base oa L io ia ib inn il ii HI TX j e) a) (hKp : Kept lc_O A f a)
    (K : Act → World → Prop) (hK : Hid (∀ v e' w', v = lc_V b n ocap base oa L io ia ib inn il ii HI TX 3 e' → (∀ j, f j = true → lc_V b n ocap base oa L io ia ib inn il ii HI TX j e' = lc_V b n ocap base oa L io ia ib inn il ii HI TX j e) → lc_J w1 b n ocap base oa L io ia ib inn il ii HI TX (fun j => j == 3 || f j) e' w' → K (a.put lc_o3.dst v) w')) :
    if Region.wanted lc_o3 (yielded lc_O a.tmps) = true then Oper.wp Tryd.prog lc_o3 a w K Q else K (a.put lc_o3.dst undef) w := by
  unfold lc_o3 at hdep hK ⊢
  obtain ⟨hg, r0, r1, j17, j19, ja⟩ := hJ
  have k2 : f 2 = true := hdep { on := 2, ground := .data } (by simp) rfl
  have v45 : a.tmps.getD 45 undef = .string HI := hFr.new 2 45 rfl k2
  obtain ⟨g1, g2⟩ := hz
  have z1 : ¬ 9223372036854775807 < 2 + 1 := by omega
  have z2 : ¬ 9223372036854775807 < 2 + 1 + TX.size := by omega
  have z3 : ¬ 9223372036854775807 < HI.size + 1 := by omega
  have z4 : ¬ 9223372036854775807 < HI.size + 1 + TX.size := by omega
  have z5 : ¬ 9223372036854775807 < 3 + TX.size := by omega
  replace hg := hid hg
  replace r0 := hid r0
  replace r1 := hid r1
  replace j17 := hid j17
  replace j19 := hid j19
  replace ja := hid ja
  clear hdep hFr hKp h3 h1
  go_simp
  exact hK.out _ e _ rfl (fun _ _ => rfl) ⟨hg.out, r0.out, r1.out, j17.out, j19.out, ja.out⟩
set_option maxRecDepth 100000 in
set_option maxHeartbeats 2000000 in
theorem lc_s4 (A : Act) (w1 : World) (Q : Exit → Act → World → Prop) (b n ocap base : Nat) (oa : Option Addr) (L : List Value) (io ia ib inn il : Int) (ii : Nat) (HI TX : ByteArray) 
    (h3 : A.tmps.getD 4 undef = .slice oa n ocap) (h1 : A.tmps.getD 7 undef = .pointer (some ⟨b, 0, none⟩)) (qb : Blk w1 b #[.int .i64 io, .int .i64 ia, .int .i64 ib, .int .i64 inn, .int .i64 il]) (nb : some b ≠ (Value.slice oa n ocap).ownBlock) (own : w1.ownsRow base 9 1 (Value.slice oa n ocap) n L) (hbase : base ≤ w1.heap.size) (hn : n ≤ 1000) (hown1 : ∀ k, (Value.slice oa n ocap).ownBlock = some k → k < w1.heap.size) (h5 : A.tmps.getD 5 undef = .int .i64 (ii : Int)) (hHx : Hid (∀ W, Calls Tryd.prog 70 #[.int .i64 (ii : Int)] W fun e w' => e = .returned (.string HI) ∧ Below W.heap.size W w')) (hTx : Hid (∀ W, Calls Tryd.prog 71 #[.agg #[.int .i64 io, .int .i64 ia, .int .i64 ib, .int .i64 inn, .int .i64 il]] W fun e w' => e = .returned (.string TX) ∧ Below W.heap.size W w')) (hz : HI.size = 2 ∧ TX.size ≤ 100)
    (f : Nat → Bool) (e : Nat × Value) (a : Act) (w : World) (hun : f 4 = false) (hdep : ∀ d ∈ lc_o4.after, Region.binds .any d = true → f d.on = true) (hJ : lc_J w1 b n ocap base oa L io ia ib inn il ii HI TX f e w) (hFr : Fr lc_O A f (fun j => lc_V b n ocap base oa L io ia ib inn il ii HI TX j e) a) (hKp : Kept lc_O A f a)
    (K : Act → World → Prop) (hK : Hid (∀ v e' w', v = lc_V b n ocap base oa L io ia ib inn il ii HI TX 4 e' → (∀ j, f j = true → lc_V b n ocap base oa L io ia ib inn il ii HI TX j e' = lc_V b n ocap base oa L io ia ib inn il ii HI TX j e) → lc_J w1 b n ocap base oa L io ia ib inn il ii HI TX (fun j => j == 4 || f j) e' w' → K (a.put lc_o4.dst v) w')) :
    if Region.wanted lc_o4 (yielded lc_O a.tmps) = true then Oper.wp Tryd.prog lc_o4 a w K Q else K (a.put lc_o4.dst undef) w := by
  unfold lc_o4 at hdep hK ⊢
  obtain ⟨hg, r0, r1, j17, j19, ja⟩ := hJ
  have v7 := (hFr.old 7 (lc_no (by decide))).trans h1
  have y := (qb.grown hg nb).cell
  replace hg := hid hg
  replace r0 := hid r0
  replace r1 := hid r1
  replace j17 := hid j17
  replace j19 := hid j19
  replace ja := hid ja
  clear hdep hFr hKp h3 h1
  go_simp
  exact hK.out _ e _ rfl (fun _ _ => rfl) ⟨hg.out, r0.out, r1.out, j17.out, j19.out, ja.out⟩
set_option maxRecDepth 100000 in
set_option maxHeartbeats 2000000 in
theorem lc_s5 (A : Act) (w1 : World) (Q : Exit → Act → World → Prop) (b n ocap base : Nat) (oa : Option Addr) (L : List Value) (io ia ib inn il : Int) (ii : Nat) (HI TX : ByteArray) 
    (h3 : A.tmps.getD 4 undef = .slice oa n ocap) (h1 : A.tmps.getD 7 undef = .pointer (some ⟨b, 0, none⟩)) (qb : Blk w1 b #[.int .i64 io, .int .i64 ia, .int .i64 ib, .int .i64 inn, .int .i64 il]) (nb : some b ≠ (Value.slice oa n ocap).ownBlock) (own : w1.ownsRow base 9 1 (Value.slice oa n ocap) n L) (hbase : base ≤ w1.heap.size) (hn : n ≤ 1000) (hown1 : ∀ k, (Value.slice oa n ocap).ownBlock = some k → k < w1.heap.size) (h5 : A.tmps.getD 5 undef = .int .i64 (ii : Int)) (hHx : Hid (∀ W, Calls Tryd.prog 70 #[.int .i64 (ii : Int)] W fun e w' => e = .returned (.string HI) ∧ Below W.heap.size W w')) (hTx : Hid (∀ W, Calls Tryd.prog 71 #[.agg #[.int .i64 io, .int .i64 ia, .int .i64 ib, .int .i64 inn, .int .i64 il]] W fun e w' => e = .returned (.string TX) ∧ Below W.heap.size W w')) (hz : HI.size = 2 ∧ TX.size ≤ 100)
    (f : Nat → Bool) (e : Nat × Value) (a : Act) (w : World) (hun : f 5 = false) (hdep : ∀ d ∈ lc_o5.after, Region.binds .any d = true → f d.on = true) (hJ : lc_J w1 b n ocap base oa L io ia ib inn il ii HI TX f e w) (hFr : Fr lc_O A f (fun j => lc_V b n ocap base oa L io ia ib inn il ii HI TX j e) a) (hKp : Kept lc_O A f a)
    (K : Act → World → Prop) (hK : Hid (∀ v e' w', v = lc_V b n ocap base oa L io ia ib inn il ii HI TX 5 e' → (∀ j, f j = true → lc_V b n ocap base oa L io ia ib inn il ii HI TX j e' = lc_V b n ocap base oa L io ia ib inn il ii HI TX j e) → lc_J w1 b n ocap base oa L io ia ib inn il ii HI TX (fun j => j == 5 || f j) e' w' → K (a.put lc_o5.dst v) w')) :
    if Region.wanted lc_o5 (yielded lc_O a.tmps) = true then Oper.wp Tryd.prog lc_o5 a w K Q else K (a.put lc_o5.dst undef) w := by
  unfold lc_o5 at hdep hK ⊢
  obtain ⟨hg, r0, r1, j17, j19, ja⟩ := hJ
  have k4 : f 4 = true := hdep { on := 4, ground := .data } (by simp) rfl
  have v47 : a.tmps.getD 47 undef = .agg #[.int .i64 io, .int .i64 ia, .int .i64 ib, .int .i64 inn, .int .i64 il] := hFr.new 4 47 rfl k4
  replace hg := hid hg
  replace r0 := hid r0
  replace r1 := hid r1
  replace j17 := hid j17
  replace j19 := hid j19
  replace ja := hid ja
  clear hdep hFr hKp h3 h1
  go_simp
  go_at_call 71
  refine (hTx.out w).mono ?_
  rintro r w' ⟨rfl, hb'⟩
  have hb2 := hid hb'
  clear hb'
  go_simp
  exact hK.out _ e _ rfl (fun _ _ => rfl) ⟨gtrY hg.out (gbY hb2.out), fun h => ownX_below (r0.out h) hb2.out, fun h => ownX_below (r1.out h) hb2.out, fun h => ⟨(j17.out h).1, (hb2.out.block _ (Array.getElem?_eq_some_iff.1 (j17.out h).2).1).trans (j17.out h).2⟩, j19.out, ja.out⟩
set_option maxRecDepth 100000 in
set_option maxHeartbeats 2000000 in
theorem lc_s6 (A : Act) (w1 : World) (Q : Exit → Act → World → Prop) (b n ocap base : Nat) (oa : Option Addr) (L : List Value) (io ia ib inn il : Int) (ii : Nat) (HI TX : ByteArray) 
    (h3 : A.tmps.getD 4 undef = .slice oa n ocap) (h1 : A.tmps.getD 7 undef = .pointer (some ⟨b, 0, none⟩)) (qb : Blk w1 b #[.int .i64 io, .int .i64 ia, .int .i64 ib, .int .i64 inn, .int .i64 il]) (nb : some b ≠ (Value.slice oa n ocap).ownBlock) (own : w1.ownsRow base 9 1 (Value.slice oa n ocap) n L) (hbase : base ≤ w1.heap.size) (hn : n ≤ 1000) (hown1 : ∀ k, (Value.slice oa n ocap).ownBlock = some k → k < w1.heap.size) (h5 : A.tmps.getD 5 undef = .int .i64 (ii : Int)) (hHx : Hid (∀ W, Calls Tryd.prog 70 #[.int .i64 (ii : Int)] W fun e w' => e = .returned (.string HI) ∧ Below W.heap.size W w')) (hTx : Hid (∀ W, Calls Tryd.prog 71 #[.agg #[.int .i64 io, .int .i64 ia, .int .i64 ib, .int .i64 inn, .int .i64 il]] W fun e w' => e = .returned (.string TX) ∧ Below W.heap.size W w')) (hz : HI.size = 2 ∧ TX.size ≤ 100)
    (f : Nat → Bool) (e : Nat × Value) (a : Act) (w : World) (hun : f 6 = false) (hdep : ∀ d ∈ lc_o6.after, Region.binds .any d = true → f d.on = true) (hJ : lc_J w1 b n ocap base oa L io ia ib inn il ii HI TX f e w) (hFr : Fr lc_O A f (fun j => lc_V b n ocap base oa L io ia ib inn il ii HI TX j e) a) (hKp : Kept lc_O A f a)
    (K : Act → World → Prop) (hK : Hid (∀ v e' w', v = lc_V b n ocap base oa L io ia ib inn il ii HI TX 6 e' → (∀ j, f j = true → lc_V b n ocap base oa L io ia ib inn il ii HI TX j e' = lc_V b n ocap base oa L io ia ib inn il ii HI TX j e) → lc_J w1 b n ocap base oa L io ia ib inn il ii HI TX (fun j => j == 6 || f j) e' w' → K (a.put lc_o6.dst v) w')) :
    if Region.wanted lc_o6 (yielded lc_O a.tmps) = true then Oper.wp Tryd.prog lc_o6 a w K Q else K (a.put lc_o6.dst undef) w := by
  unfold lc_o6 at hdep hK ⊢
  obtain ⟨hg, r0, r1, j17, j19, ja⟩ := hJ
  have k3 : f 3 = true := hdep { on := 3, ground := .data } (by simp) rfl
  have v46 : a.tmps.getD 46 undef = .string (HI ++ ⟨#[32]⟩) := hFr.new 3 46 rfl k3
  have k5 : f 5 = true := hdep { on := 5, ground := .data } (by simp) rfl
  have v48 : a.tmps.getD 48 undef = .string TX := hFr.new 5 48 rfl k5
  obtain ⟨g1, g2⟩ := hz
  have z1 : ¬ 9223372036854775807 < 2 + 1 := by omega
  have z2 : ¬ 9223372036854775807 < 2 + 1 + TX.size := by omega
  have z3 : ¬ 9223372036854775807 < HI.size + 1 := by omega
  have z4 : ¬ 9223372036854775807 < HI.size + 1 + TX.size := by omega
  have z5 : ¬ 9223372036854775807 < 3 + TX.size := by omega
  replace hg := hid hg
  replace r0 := hid r0
  replace r1 := hid r1
  replace j17 := hid j17
  replace j19 := hid j19
  replace ja := hid ja
  clear hdep hFr hKp h3 h1
  go_simp
  exact hK.out _ e _ rfl (fun _ _ => rfl) ⟨hg.out, r0.out, r1.out, j17.out, j19.out, ja.out⟩
set_option maxRecDepth 100000 in
set_option maxHeartbeats 2000000 in
theorem lc_s7 (A : Act) (w1 : World) (Q : Exit → Act → World → Prop) (b n ocap base : Nat) (oa : Option Addr) (L : List Value) (io ia ib inn il : Int) (ii : Nat) (HI TX : ByteArray) 
    (h3 : A.tmps.getD 4 undef = .slice oa n ocap) (h1 : A.tmps.getD 7 undef = .pointer (some ⟨b, 0, none⟩)) (qb : Blk w1 b #[.int .i64 io, .int .i64 ia, .int .i64 ib, .int .i64 inn, .int .i64 il]) (nb : some b ≠ (Value.slice oa n ocap).ownBlock) (own : w1.ownsRow base 9 1 (Value.slice oa n ocap) n L) (hbase : base ≤ w1.heap.size) (hn : n ≤ 1000) (hown1 : ∀ k, (Value.slice oa n ocap).ownBlock = some k → k < w1.heap.size) (h5 : A.tmps.getD 5 undef = .int .i64 (ii : Int)) (hHx : Hid (∀ W, Calls Tryd.prog 70 #[.int .i64 (ii : Int)] W fun e w' => e = .returned (.string HI) ∧ Below W.heap.size W w')) (hTx : Hid (∀ W, Calls Tryd.prog 71 #[.agg #[.int .i64 io, .int .i64 ia, .int .i64 ib, .int .i64 inn, .int .i64 il]] W fun e w' => e = .returned (.string TX) ∧ Below W.heap.size W w')) (hz : HI.size = 2 ∧ TX.size ≤ 100)
    (f : Nat → Bool) (e : Nat × Value) (a : Act) (w : World) (hun : f 7 = false) (hdep : ∀ d ∈ lc_o7.after, Region.binds .any d = true → f d.on = true) (hJ : lc_J w1 b n ocap base oa L io ia ib inn il ii HI TX f e w) (hFr : Fr lc_O A f (fun j => lc_V b n ocap base oa L io ia ib inn il ii HI TX j e) a) (hKp : Kept lc_O A f a)
    (K : Act → World → Prop) (hK : Hid (∀ v e' w', v = lc_V b n ocap base oa L io ia ib inn il ii HI TX 7 e' → (∀ j, f j = true → lc_V b n ocap base oa L io ia ib inn il ii HI TX j e' = lc_V b n ocap base oa L io ia ib inn il ii HI TX j e) → lc_J w1 b n ocap base oa L io ia ib inn il ii HI TX (fun j => j == 7 || f j) e' w' → K (a.put lc_o7.dst v) w')) :
    if Region.wanted lc_o7 (yielded lc_O a.tmps) = true then Oper.wp Tryd.prog lc_o7 a w K Q else K (a.put lc_o7.dst undef) w := by
  unfold lc_o7 at hdep hK ⊢
  obtain ⟨hg, r0, r1, j17, j19, ja⟩ := hJ
  have na : f 8 = false := by
    cases hx : f 8
    · rfl
    · have := ja hx
      rw [hun] at this
      cases this
  have k6 : f 6 = true := hdep { on := 6, ground := .data } (by simp) rfl
  have v49 : a.tmps.getD 49 undef = .string (HI ++ ⟨#[32]⟩ ++ TX) := hFr.new 6 49 rfl k6
  have v49b : a.tmps[49]?.getD undef = .string (HI ++ ⟨#[32]⟩ ++ TX) := by simpa using v49
  have hal := hid ((Below.refl w.heap.size w).alloc (Nat.le_refl _) (.cells #[.string (HI ++ ⟨#[32]⟩ ++ TX)] 9))
  have hq : Hid ((w.alloc (.cells #[.string (HI ++ ⟨#[32]⟩ ++ TX)] 9)).heap[w.heap.size]? = some (.cells #[.string (HI ++ ⟨#[32]⟩ ++ TX)] 9 (0, 0))) := heap_alloc_new w _
  have hsz : Hid (w1.heap.size ≤ w.heap.size) := hg.size
  replace hg := hid hg
  replace r0 := hid r0
  replace r1 := hid r1
  replace j17 := hid j17
  replace j19 := hid j19
  replace ja := hid ja
  clear hdep hFr hKp h3 h1
  replace na := hid na
  go_simp
  exact hK.out _ (w.heap.size, e.2) _ rfl (lc_k7 b n ocap base oa L io ia ib inn il ii HI TX e w.heap.size hun) ⟨gtrY hg.out (gbY hal.out), fun h => (r0.out h).alloc _, fun h => (r1.out h).alloc _, fun _ => ⟨hsz.out, hq.out⟩, j19.out, fun _ => rfl⟩
set_option maxRecDepth 100000 in
set_option maxHeartbeats 2000000 in
theorem lc_s8 (A : Act) (w1 : World) (Q : Exit → Act → World → Prop) (b n ocap base : Nat) (oa : Option Addr) (L : List Value) (io ia ib inn il : Int) (ii : Nat) (HI TX : ByteArray) 
    (h3 : A.tmps.getD 4 undef = .slice oa n ocap) (h1 : A.tmps.getD 7 undef = .pointer (some ⟨b, 0, none⟩)) (qb : Blk w1 b #[.int .i64 io, .int .i64 ia, .int .i64 ib, .int .i64 inn, .int .i64 il]) (nb : some b ≠ (Value.slice oa n ocap).ownBlock) (own : w1.ownsRow base 9 1 (Value.slice oa n ocap) n L) (hbase : base ≤ w1.heap.size) (hn : n ≤ 1000) (hown1 : ∀ k, (Value.slice oa n ocap).ownBlock = some k → k < w1.heap.size) (h5 : A.tmps.getD 5 undef = .int .i64 (ii : Int)) (hHx : Hid (∀ W, Calls Tryd.prog 70 #[.int .i64 (ii : Int)] W fun e w' => e = .returned (.string HI) ∧ Below W.heap.size W w')) (hTx : Hid (∀ W, Calls Tryd.prog 71 #[.agg #[.int .i64 io, .int .i64 ia, .int .i64 ib, .int .i64 inn, .int .i64 il]] W fun e w' => e = .returned (.string TX) ∧ Below W.heap.size W w')) (hz : HI.size = 2 ∧ TX.size ≤ 100)
    (f : Nat → Bool) (e : Nat × Value) (a : Act) (w : World) (hun : f 8 = false) (hdep : ∀ d ∈ lc_o8.after, Region.binds .any d = true → f d.on = true) (hJ : lc_J w1 b n ocap base oa L io ia ib inn il ii HI TX f e w) (hFr : Fr lc_O A f (fun j => lc_V b n ocap base oa L io ia ib inn il ii HI TX j e) a) (hKp : Kept lc_O A f a)
    (K : Act → World → Prop) (hK : Hid (∀ v e' w', v = lc_V b n ocap base oa L io ia ib inn il ii HI TX 8 e' → (∀ j, f j = true → lc_V b n ocap base oa L io ia ib inn il ii HI TX j e' = lc_V b n ocap base oa L io ia ib inn il ii HI TX j e) → lc_J w1 b n ocap base oa L io ia ib inn il ii HI TX (fun j => j == 8 || f j) e' w' → K (a.put lc_o8.dst v) w')) :
    if Region.wanted lc_o8 (yielded lc_O a.tmps) = true then Oper.wp Tryd.prog lc_o8 a w K Q else K (a.put lc_o8.dst undef) w := by
  unfold lc_o8 at hdep hK ⊢
  obtain ⟨hg, r0, r1, j17, j19, ja⟩ := hJ
  have k0 : f 0 = true := hdep { on := 0, ground := .data } (by simp) rfl
  have v43 : a.tmps.getD 43 undef = (Value.slice oa n ocap) := hFr.new 0 43 rfl k0
  have k7 : f 7 = true := hdep { on := 7, ground := .data } (by simp) rfl
  have v50 : a.tmps.getD 50 undef = .slice (some ⟨e.1, 0, none⟩) 1 1 := hFr.new 7 50 rfl k7
  obtain ⟨i0, hi0, hz0, hz1, hz2⟩ := info_parts infoStr
  have hbk := (j17 k7).2
  have hsz := hg.size
  rw [if_pos (show Region.wanted _ _ = true from rfl)]
  have nl : f 9 = false := by
    cases hl : f 9
    · rfl
    · have := (j19 hl).2
      rw [hun] at this
      cases this
  refine wp_append_lies w _ _ 48 rfl base 9 i0 _ 1 16 Tryd.underlying48 hi0 hz0 hz1 hz2 rfl (by omega) (Value.slice oa n ocap) n L v43 (r0 hun) ⟨e.1, 0, none⟩ 1 1 [.string (HI ++ ⟨#[32]⟩ ++ TX)] v50 rfl (World.news_of_block (cs := #[.string (HI ++ ⟨#[32]⟩ ++ TX)]) (t := 9) (fr := (0, 0)) hbk) (by simp [Value.oneCell']) (by omega) (by unfold maxLen; omega) (by omega) (by omega) _ rfl ?_
  intro gg cap2 w2 ho hgr hat hlt
  exact hK.out _ (e.1, .slice (some ⟨gg, 0, none⟩) (n + 1) cap2) _ rfl (lc_k8 b n ocap base oa L io ia ib inn il ii HI TX e _ hun nl) ⟨gtrY hg hgr, fun h => (by cases h), fun _ => ho, fun h => ⟨(j17 h).1, (hgr.block _ (Array.getElem?_eq_some_iff.1 (j17 h).2).1 (fun he => by have h1 := (r0 hun).lt _ he.symm; have h2 := (j17 h).1; have h3 := hown1 _ he.symm; omega)).trans (j17 h).2⟩, fun h => ⟨(j19 h).1, rfl⟩, fun _ => k7⟩
set_option maxRecDepth 100000 in
set_option maxHeartbeats 2000000 in
theorem lc_s9 (A : Act) (w1 : World) (Q : Exit → Act → World → Prop) (b n ocap base : Nat) (oa : Option Addr) (L : List Value) (io ia ib inn il : Int) (ii : Nat) (HI TX : ByteArray) 
    (h3 : A.tmps.getD 4 undef = .slice oa n ocap) (h1 : A.tmps.getD 7 undef = .pointer (some ⟨b, 0, none⟩)) (qb : Blk w1 b #[.int .i64 io, .int .i64 ia, .int .i64 ib, .int .i64 inn, .int .i64 il]) (nb : some b ≠ (Value.slice oa n ocap).ownBlock) (own : w1.ownsRow base 9 1 (Value.slice oa n ocap) n L) (hbase : base ≤ w1.heap.size) (hn : n ≤ 1000) (hown1 : ∀ k, (Value.slice oa n ocap).ownBlock = some k → k < w1.heap.size) (h5 : A.tmps.getD 5 undef = .int .i64 (ii : Int)) (hHx : Hid (∀ W, Calls Tryd.prog 70 #[.int .i64 (ii : Int)] W fun e w' => e = .returned (.string HI) ∧ Below W.heap.size W w')) (hTx : Hid (∀ W, Calls Tryd.prog 71 #[.agg #[.int .i64 io, .int .i64 ia, .int .i64 ib, .int .i64 inn, .int .i64 il]] W fun e w' => e = .returned (.string TX) ∧ Below W.heap.size W w')) (hz : HI.size = 2 ∧ TX.size ≤ 100)
    (f : Nat → Bool) (e : Nat × Value) (a : Act) (w : World) (hun : f 9 = false) (hdep : ∀ d ∈ lc_o9.after, Region.binds .any d = true → f d.on = true) (hJ : lc_J w1 b n ocap base oa L io ia ib inn il ii HI TX f e w) (hFr : Fr lc_O A f (fun j => lc_V b n ocap base oa L io ia ib inn il ii HI TX j e) a) (hKp : Kept lc_O A f a)
    (K : Act → World → Prop) (hK : Hid (∀ v e' w', v = lc_V b n ocap base oa L io ia ib inn il ii HI TX 9 e' → (∀ j, f j = true → lc_V b n ocap base oa L io ia ib inn il ii HI TX j e' = lc_V b n ocap base oa L io ia ib inn il ii HI TX j e) → lc_J w1 b n ocap base oa L io ia ib inn il ii HI TX (fun j => j == 9 || f j) e' w' → K (a.put lc_o9.dst v) w')) :
    if Region.wanted lc_o9 (yielded lc_O a.tmps) = true then Oper.wp Tryd.prog lc_o9 a w K Q else K (a.put lc_o9.dst undef) w := by
  unfold lc_o9 at hdep hK ⊢
  obtain ⟨hg, r0, r1, j17, j19, ja⟩ := hJ
  have k8 : f 8 = true := hdep { on := 8, ground := .data } (by simp) rfl
  have v51 : a.tmps.getD 51 undef = e.2 := hFr.new 8 51 rfl k8
  have k0 : f 0 = true := hdep { on := 0, ground := .phase } (by simp) rfl
  replace hg := hid hg
  replace r0 := hid r0
  replace r1 := hid r1
  replace j17 := hid j17
  replace j19 := hid j19
  replace ja := hid ja
  clear hdep hFr hKp h3 h1
  go_simp
  exact hK.out _ e _ rfl (fun _ _ => rfl) ⟨hg.out, r0.out, r1.out, j17.out, fun _ => ⟨k0, k8⟩, ja.out⟩
set_option maxRecDepth 100000 in
set_option maxHeartbeats 4000000 in
theorem lc_reg (A : Act) (w1 : World) (Q : Exit → Act → World → Prop) (b n ocap base : Nat) (oa : Option Addr) (L : List Value) (io ia ib inn il : Int) (ii : Nat) (HI TX : ByteArray) 
    (h3 : A.tmps.getD 4 undef = .slice oa n ocap) (h1 : A.tmps.getD 7 undef = .pointer (some ⟨b, 0, none⟩)) (qb : Blk w1 b #[.int .i64 io, .int .i64 ia, .int .i64 ib, .int .i64 inn, .int .i64 il]) (nb : some b ≠ (Value.slice oa n ocap).ownBlock) (own : w1.ownsRow base 9 1 (Value.slice oa n ocap) n L) (hbase : base ≤ w1.heap.size) (hn : n ≤ 1000) (hown1 : ∀ k, (Value.slice oa n ocap).ownBlock = some k → k < w1.heap.size) (h5 : A.tmps.getD 5 undef = .int .i64 (ii : Int)) (hHx : Hid (∀ W, Calls Tryd.prog 70 #[.int .i64 (ii : Int)] W fun e w' => e = .returned (.string HI) ∧ Below W.heap.size W w')) (hTx : Hid (∀ W, Calls Tryd.prog 71 #[.agg #[.int .i64 io, .int .i64 ia, .int .i64 ib, .int .i64 inn, .int .i64 il]] W fun e w' => e = .returned (.string TX) ∧ Below W.heap.size W w')) (hz : HI.size = 2 ∧ TX.size ≤ 100) (hN : 52 ≤ A.tmps.size)
    (h : ∀ (w : World) (e : Nat × Value), w1.grownBy w (Value.slice oa n ocap).ownBlock ∧ w.ownsRow base 9 1 e.2 (n + 1) (L ++ [.string (HI ++ ⟨#[32]⟩ ++ TX)]) → Q .normal (putsA A [(43, (Value.slice oa n ocap)), (44, .int .i64 (ii : Int)), (45, .string HI), (46, .string (HI ++ ⟨#[32]⟩)), (47, .agg #[.int .i64 io, .int .i64 ia, .int .i64 ib, .int .i64 inn, .int .i64 il]), (48, .string TX), (49, .string (HI ++ ⟨#[32]⟩ ++ TX)), (50, .slice (some ⟨e.1, 0, none⟩) 1 1), (51, e.2), (4, e.2)]) w) :
    (Code.region 14 #[({ dst := some 43, op := Op.move (Operand.tmp 4), type := 48, pos := "l15_text.go:169", after := #[], guard := none } : Oper), ({ dst := some 44, op := Op.move (Operand.tmp 5), type := 3, pos := "l15_text.go:169", after := #[], guard := none } : Oper), ({ dst := some 45, op := Op.call { callee := Callee.value (Operand.func 70), args := #[Operand.tmp 44], argTypes := #[3] }, type := 9, pos := "l15_text.go:169", after := #[{ on := 1, ground := Ground.data }], guard := none } : Oper), ({ dst := some 46, op := Op.binOp BinOp.add 9 (Operand.tmp 45) (Operand.const (Value.string { data := #[32] })) 9, type := 9, pos := "l15_text.go:169", after := #[{ on := 2, ground := Ground.data }], guard := none } : Oper), ({ dst := some 47, op := Op.load 122 (Operand.tmp 7), type := 122, pos := "l15_text.go:169", after := #[], guard := none } : Oper), ({ dst := some 48, op := Op.call { callee := Callee.value (Operand.func 71), args := #[Operand.tmp 47], argTypes := #[122] }, type := 9, pos := "l15_text.go:169", after := #[{ on := 4, ground := Ground.data }, { on := 2, ground := Ground.chain }], guard := none } : Oper), ({ dst := some 49, op := Op.binOp BinOp.add 9 (Operand.tmp 46) (Operand.tmp 48) 9, type := 9, pos := "l15_text.go:169", after := #[{ on := 3, ground := Ground.data }, { on := 5, ground := Ground.data }], guard := none } : Oper), ({ dst := some 50, op := Op.buildSlice 48 1 #[(0, Operand.tmp 49)], type := 48, pos := "l15_text.go:169", after := #[{ on := 6, ground := Ground.data }], guard := none } : Oper), ({ dst := some 51, op := Op.call { callee := Callee.builtin Builtin.append, args := #[Operand.tmp 43, Operand.tmp 50], argTypes := #[48, 48] }, type := 48, pos := "l15_text.go:169", after := #[{ on := 0, ground := Ground.data }, { on := 7, ground := Ground.data }, { on := 5, ground := Ground.chain }], guard := none } : Oper), ({ dst := some 4, op := Op.assign (Operand.tmp 51), type := 48, pos := "l15_text.go:169", after := #[{ on := 8, ground := Ground.data }, { on := 8, ground := Ground.chain }, { on := 0, ground := Ground.phase }, { on := 1, ground := Ground.phase }, { on := 2, ground := Ground.phase }, { on := 3, ground := Ground.phase }, { on := 4, ground := Ground.phase }, { on := 5, ground := Ground.phase }, { on := 6, ground := Ground.phase }, { on := 7, ground := Ground.phase }, { on := 8, ground := Ground.phase }], guard := none } : Oper)] true).wp Tryd.prog Q A w1 := by
  show (Code.region 14 lc_O true).wp Tryd.prog Q A w1
  refine wp_region_slotsK (E := Nat × Value) (lc_V b n ocap base oa L io ia ib inn il ii HI TX) (lc_J w1 b n ocap base oa L io ia ib inn il ii HI TX) (by kernel_rfl) (by kernel_rfl) (by kernel_rfl) (fun i s hi => ?_) ?_ (0, undef) ⟨⟨rfl, rfl, rfl, Nat.le_refl _, fun _ _ _ => rfl⟩, fun _ => own, fun h => (by cases h), fun h => (by cases h), fun h => (by cases h), fun h => (by cases h)⟩ ?_
  · cases hc : ([43, 44, 45, 46, 47, 48, 49, 50, 51, 4] : List Nat).contains s
    · exact absurd hi (lc_no hc i)
    · have : s ∈ ([43, 44, 45, 46, 47, 48, 49, 50, 51, 4] : List Nat) := by simpa using hc
      simp only [List.mem_cons, List.not_mem_nil, or_false] at this
      omega
  · intro f e a w i o hi ho hun hdep hJ hFr hKp K hK
    have hi8 : i < 10 := hi
    rcases (by omega : i = 0 ∨ i = 1 ∨ i = 2 ∨ i = 3 ∨ i = 4 ∨ i = 5 ∨ i = 6 ∨ i = 7 ∨ i = 8 ∨ i = 9) with rfl | rfl | rfl | rfl | rfl | rfl | rfl | rfl | rfl | rfl
    · obtain rfl := Option.some.inj ho
      exact lc_s0 A w1 Q b n ocap base oa L io ia ib inn il ii HI TX h3 h1 qb nb own hbase hn hown1 h5 hHx hTx hz f e a w hun hdep hJ hFr hKp K hK
    · obtain rfl := Option.some.inj ho
      exact lc_s1 A w1 Q b n ocap base oa L io ia ib inn il ii HI TX h3 h1 qb nb own hbase hn hown1 h5 hHx hTx hz f e a w hun hdep hJ hFr hKp K hK
    · obtain rfl := Option.some.inj ho
      exact lc_s2 A w1 Q b n ocap base oa L io ia ib inn il ii HI TX h3 h1 qb nb own hbase hn hown1 h5 hHx hTx hz f e a w hun hdep hJ hFr hKp K hK
    · obtain rfl := Option.some.inj ho
      exact lc_s3 A w1 Q b n ocap base oa L io ia ib inn il ii HI TX h3 h1 qb nb own hbase hn hown1 h5 hHx hTx hz f e a w hun hdep hJ hFr hKp K hK
    · obtain rfl := Option.some.inj ho
      exact lc_s4 A w1 Q b n ocap base oa L io ia ib inn il ii HI TX h3 h1 qb nb own hbase hn hown1 h5 hHx hTx hz f e a w hun hdep hJ hFr hKp K hK
    · obtain rfl := Option.some.inj ho
      exact lc_s5 A w1 Q b n ocap base oa L io ia ib inn il ii HI TX h3 h1 qb nb own hbase hn hown1 h5 hHx hTx hz f e a w hun hdep hJ hFr hKp K hK
    · obtain rfl := Option.some.inj ho
      exact lc_s6 A w1 Q b n ocap base oa L io ia ib inn il ii HI TX h3 h1 qb nb own hbase hn hown1 h5 hHx hTx hz f e a w hun hdep hJ hFr hKp K hK
    · obtain rfl := Option.some.inj ho
      exact lc_s7 A w1 Q b n ocap base oa L io ia ib inn il ii HI TX h3 h1 qb nb own hbase hn hown1 h5 hHx hTx hz f e a w hun hdep hJ hFr hKp K hK
    · obtain rfl := Option.some.inj ho
      exact lc_s8 A w1 Q b n ocap base oa L io ia ib inn il ii HI TX h3 h1 qb nb own hbase hn hown1 h5 hHx hTx hz f e a w hun hdep hJ hFr hKp K hK
    · obtain rfl := Option.some.inj ho
      exact lc_s9 A w1 Q b n ocap base oa L io ia ib inn il ii HI TX h3 h1 qb nb own hbase hn hown1 h5 hHx hTx hz f e a w hun hdep hJ hFr hKp K hK
  · intro f e a w hall hJ hFr
    have := h w e ⟨hJ.1, hJ.2.2.1 (hall 8 (by decide))⟩
    rw [hFr.eq [(43, (Value.slice oa n ocap)), (44, .int .i64 (ii : Int)), (45, .string HI), (46, .string (HI ++ ⟨#[32]⟩)), (47, .agg #[.int .i64 io, .int .i64 ia, .int .i64 ib, .int .i64 inn, .int .i64 il]), (48, .string TX), (49, .string (HI ++ ⟨#[32]⟩ ++ TX)), (50, .slice (some ⟨e.1, 0, none⟩) 1 1), (51, e.2), (4, e.2)] (fun s hs => ?_) (fun i s hi => ?_)]
    · exact this
    · have hne : ∀ k ∈ ([43, 44, 45, 46, 47, 48, 49, 50, 51, 4] : List Nat), k ≠ s := by
        intro k hk e2
        subst e2
        simp only [List.mem_cons, List.not_mem_nil, or_false] at hk
        rcases hk with rfl | rfl | rfl | rfl | rfl | rfl | rfl | rfl | rfl | rfl
        · exact hs 0 rfl
        · exact hs 1 rfl
        · exact hs 2 rfl
        · exact hs 3 rfl
        · exact hs 4 rfl
        · exact hs 5 rfl
        · exact hs 6 rfl
        · exact hs 7 rfl
        · exact hs 8 rfl
        · exact hs 9 rfl
      simp only [lookA]
      simp [hne]
    · have hl : i < 10 := by
        rcases Nat.lt_or_ge i 10 with h1 | h1
        · exact h1
        · unfold dstAt at hi
          rw [Array.getElem?_eq_none (by exact h1)] at hi
          cases hi
      refine ⟨hall i hl, ?_⟩
      rcases (by omega : i = 0 ∨ i = 1 ∨ i = 2 ∨ i = 3 ∨ i = 4 ∨ i = 5 ∨ i = 6 ∨ i = 7 ∨ i = 8 ∨ i = 9) with rfl | rfl | rfl | rfl | rfl | rfl | rfl | rfl | rfl | rfl
      all_goals first
        | (cases hi; rfl)
        | cases hi
theorem own_shape {W : World} {lo n : Nat} {v : Value} {xs : List Value} (h : W.ownsRow lo 9 1 v n xs) : ∃ oa cap, v = .slice oa n cap ∧ ∀ k, v.ownBlock = some k → lo ≤ k ∧ k < W.heap.size := by
  have h2 := fun k hk => h.lt k hk
  rcases h.2 with ⟨rfl, rfl⟩ | ⟨g, cap, cur, rfl, _⟩
  · exact ⟨none, 0, rfl, h2⟩
  · exact ⟨_, cap, rfl, h2⟩
set_option maxRecDepth 100000 in
set_option maxHeartbeats 4000000 in
theorem llist_spec (a : Option Addr) (cap : Nat) (zs : List Int) (w : World) (h : RowR w (.slice a zs.length cap) zs) (hl : zs.length ≤ 1048576) :
    Calls Tryd.prog 26 #[.slice a zs.length cap] w fun e w' => ∃ v, e = .returned (.tuple #[v, .int .i64 (lc2 zs).2]) ∧ w'.ownsRow w.heap.size 9 1 v (lc2 zs).1.length ((lc2 zs).1.map Value.string) ∧ Below w.heap.size w w' := by
  have hnew : Hid ((w.alloc (.cells #[] 9)).ownsRow w.heap.size 9 1 (.slice (some ⟨w.heap.size, 0, none⟩) 0 0) 0 [] ∧ Below w.heap.size w (w.alloc (.cells #[] 9))) :=
    ⟨World.ownsRow_lit w #[] 0 (Nat.le_refl _) (by decide) rfl, (Below.refl _ _).alloc (Nat.le_refl _) _⟩
  by_cases h1 : 4096 < zs.length
  · have e : lc2 zs = ([], 2) := by unfold lc2; rw [if_pos h1]
    rw [e]
    clear e h
    go_enter Tryd.func26, Tryd.ntmps26
    go_wp2
    go_ret2
    exact ⟨_, rfl, hnew.out.1, hnew.out.2⟩
  by_cases h2 : 256 < zs.length
  · have e : lc2 zs = ([], 8) := by unfold lc2; rw [if_neg h1, if_pos h2]
    rw [e]
    clear e h
    go_enter Tryd.func26, Tryd.ntmps26
    go_wp2
    go_ret2
    exact ⟨_, rfl, hnew.out.1, hnew.out.2⟩
  have hby := hid (fun W (hW : RowR W (.slice a zs.length cap) zs) => bytes_spec (.slice a zs.length cap) zs zs.length W hW (by omega) (by omega))
  have hbb : bytesB zs zs.length = zs.all (fun z => inB z 0 255) := by unfold bytesB; simp
  rw [hbb] at hby
  clear hbb
  have i1 : decide ((4096 : Int) < (zs.length : Int)) = false := by simp; omega
  have i2 : decide ((256 : Int) < (zs.length : Int)) = false := by simp; omega
  cases hal : zs.all (fun z => inB z 0 255)
  · have e : lc2 zs = ([], 4) := by unfold lc2; rw [if_neg h1, if_neg h2, hal]; rfl
    rw [e]
    clear e
    replace h := hid h
    go_enter Tryd.func26, Tryd.ntmps26
    go_wp2_with fail
    refine (hby.out _ h.out).mono ?_
    rintro e w1 ⟨rfl, hww⟩
    obtain rfl := hww.symm
    rw [hal]
    clear h hby
    go_wp2
    go_ret2
    exact ⟨_, rfl, hnew.out.1, hnew.out.2⟩
  have e : lc2 zs = ((lcS zs zs.length).2, 0) := by unfold lc2; rw [if_neg h1, if_neg h2, if_pos hal]
  rw [e]
  clear e
  have hbd := hid (all_getD hal)
  have hd := hid h.disj
  replace h := hid h
  go_enter Tryd.func26, Tryd.ntmps26
  go_wp2_with fail
  refine (hby.out _ h.out).mono ?_
  rintro e w1 ⟨rfl, hww⟩
  obtain rfl := hww.symm
  rw [hal]
  clear hby hal
  go_wp2
  go_loopw [4, 5] (fun v i wr => ∃ k : Nat, i = .int .i64 (lcS zs k).1 ∧ wr.ownsRow w.heap.size 9 1 v (lcS zs k).2.length ((lcS zs k).2.map Value.string) ∧ Below w.heap.size w wr) (fun _ i _ => zs.length + 2 - (intOf i).toNat)
  case atStart => exact ⟨0, rfl, hnew.out.1, hnew.out.2⟩
  case round =>
    obtain ⟨k, rfl, hown, hb⟩ := hrel
    clear hnew
    obtain ⟨hI1, hI2⟩ := lcS_bd zs k
    by_cases hlt : (lcS zs k).1 < zs.length
    · have hsu := lcS_succ hlt
      obtain ⟨oa, oc, rfl, hob⟩ := own_shape hown
      obtain ⟨I, hI⟩ : ∃ I, (lcS zs k).1 = I := ⟨_, rfl⟩
      rw [hI] at hlt hsu hI1 hI2
      have hxb := hbd.out I
      have hyb := hbd.out (I + 1)
      obtain ⟨K, A, B, N, kK, kA, kB, kN, eO, eA, eB, eN, eT⟩ := (dec_facts hxb.1 hxb.2 hyb.1 hyb.2).2
      have hLp := decL_pos (zs.getD I 0)
      have hDec := hid (fun W => dec0_spec (zs.getD I 0) (zs.getD (I + 1) 0) W hxb.1 hxb.2 hyb.1 hyb.2)
      have hHx := hid (fun W => hexb_spec (I : Int) W (by omega) (by omega))
      have hTx := hid (fun W => text0_spec K A B N (decL (zs.getD I 0)) W kK kA kB kN)
      have hTs := insB_size hxb.1 hxb.2 hyb.1 hyb.2
      have hHs := hxB_size (I : Int)
      have hLW : Hid (hxB (I : Int) ++ ⟨#[32]⟩ ++ insB (zs.getD I 0) (zs.getD (I + 1) 0) = lcW zs I) := rfl
      rw [← eT] at hTx
      have hdv : dcdV (zs.getD I 0) (zs.getD (I + 1) 0) = insV K A B N (decL (zs.getD I 0)) := by unfold dcdV; rw [eO, eA, eB, eN]
      rw [hdv] at hDec
      clear hdv eO eA eB eN eT
      obtain ⟨b, off, ha, c1⟩ := row_some hd.out hlt
      have c1' := hb.cell (p := ⟨b, off + I, none⟩) (World.block_lt_of_cell? w _ c1)
      rw [c1] at c1'
      have hnx : Hid (∀ (W : World) v, W.ownsRow w.heap.size 9 1 v ((lcS zs k).2.length + 1) ((lcS zs k).2.map Value.string ++ [.string (hxB (I : Int) ++ ⟨#[32]⟩ ++ insB (zs.getD I 0) (zs.getD (I + 1) 0))]) → W.ownsRow w.heap.size 9 1 v (lcS zs (k + 1)).2.length ((lcS zs (k + 1)).2.map Value.string)) := fun W v hh => by
        rw [hsu]
        dsimp only
        rw [List.length_append, List.map_append, ← hLW.out]
        exact hh
      have hi' : Hid ((lcS zs (k + 1)).1 = I + (decL (zs.getD I 0)).toNat) := by rw [hsu]; exact rfl
      have hy : Hid (I + 1 < zs.length → wr.cell? ⟨b, off + (I + 1), none⟩ = some (.int .i64 (zs.getD (I + 1) 0))) := fun h2 => by
        obtain ⟨b', off', ha', c2⟩ := row_some hd.out h2
        rw [ha] at ha'
        injection ha' with ha'
        injection ha' with e1 e2
        subst e1 e2
        have := hb.cell (p := ⟨b, off + (I + 1), none⟩) (World.block_lt_of_cell? w _ c2)
        rw [c2] at this
        exact this
      have hy0 : Hid (¬ I + 1 < zs.length → zs.getD (I + 1) 0 = 0) := fun h2 => by rw [List.getD_eq_getElem?_getD, List.getElem?_eq_none (by omega)]; rfl
      subst ha
      have hown' := hid hown
      have hb' := hid hb
      have hm1000 : (lcS zs k).2.length ≤ 1000 := by omega
      have hLz : Hid (0 ≤ decL (zs.getD I 0) ∧ decL (zs.getD I 0) ≤ 2) := by show _ ∧ _; omega
      clear hown hb c1 hsu hd h hbd hLW
      rw [hI]
      generalize hxy : insB (zs.getD I 0) (zs.getD (I + 1) 0) = TX at *
      generalize hxB (I : Int) = HI at *
      generalize zs.getD I 0 = x at *
      generalize zs.getD (I + 1) 0 = y at *
      generalize decL x = L at *
      generalize (lcS zs k).2.length = m at *
      generalize (lcS zs k).2.map Value.string = M at *
      replace hxy := hid hxy
      by_cases h2 : I + 1 < zs.length
      · have c2' := hy.out h2
        clear hy hy0
        have j2 : (I : Int) + 1 < (zs.length : Int) := by omega
        go_wp2_with fail
        refine (hDec.out _).mono ?_
        rintro e w2 ⟨rfl, hb2⟩
        go_upto_region 14 with fail
        have hB2 := hid (new_trans hb'.out hb2)
        have hO2 := hid ((ownX_below hown'.out hb2).alloc (.cells #[.int .i64 K, .int .i64 A, .int .i64 B, .int .i64 N, .int .i64 L] 122))
        have hq2 := hid (Blk.new w2 #[.int .i64 K, .int .i64 A, .int .i64 B, .int .i64 N, .int .i64 L] 122)
        have hB3 : Hid (Below w.heap.size w (w2.alloc (.cells #[.int .i64 K, .int .i64 A, .int .i64 B, .int .i64 N, .int .i64 L] 122))) := hB2.out.alloc hB2.out.size _
        have hs2 : (w2.alloc (.cells #[.int .i64 K, .int .i64 A, .int .i64 B, .int .i64 N, .int .i64 L] 122)).heap.size = w2.heap.size + 1 := by simp
        have hsz2 : w.heap.size ≤ w2.heap.size := hB2.out.size
        have hob2 : ∀ k, (Value.slice oa m oc).ownBlock = some k → k < w2.heap.size := fun k hk => Nat.lt_of_lt_of_le (hob k hk).2 hb2.size
        clear hb2 hown' hB2
        generalize w2.alloc (.cells #[.int .i64 K, .int .i64 A, .int .i64 B, .int .i64 N, .int .i64 L] 122) = W at *
        refine lc_reg _ W _ w2.heap.size m oc w.heap.size oa M K A B N L I HI TX rfl rfl hq2.out (fun e => by have := hob2 _ e.symm; omega) hO2.out (by omega) hm1000 (fun k hk => by have := hob2 k hk; omega) rfl hHx hTx ⟨hHs, hTs⟩ (by simp) ?_
        rintro W3 ⟨e1, v1⟩ ⟨hg3, ho3⟩
        dsimp only at ho3
        have hB4 := hid (hB3.out.grown hg3 (by omega) (fun k hk => (hob k hk).1))
        have hq3 := hq2.out.grown hg3 (fun e => by have := hob2 _ e.symm; omega)
        have y4 := hq3.cell 4
        have hO3 := hid (hnx.out _ _ ho3)
        have hLz' := hLz.out
        clear hg3 ho3 hB3 hO2 hq2 hnx hq3 hHx hTx hDec
        simp only [putsA, Act.put, List.setIfInBounds_toArray, List.set_cons_zero, List.set_cons_succ]
        go_wp2
        go_roundw
        case rel => exact ⟨k + 1, by rw [hi'.out, Int.natCast_add, Int.toNat_of_nonneg hLz'.1], hO3.out, hB4.out⟩
        case measure => simp [intOf]; omega
      · have hyz := hy0.out h2
        subst hyz
        clear hy hy0
        have j2 : decide ((I : Int) + 1 < (zs.length : Int)) = false := by simp; omega
        go_wp2_with fail
        refine (hDec.out _).mono ?_
        rintro e w2 ⟨rfl, hb2⟩
        go_upto_region 14 with fail
        have hB2 := hid (new_trans hb'.out hb2)
        have hO2 := hid ((ownX_below hown'.out hb2).alloc (.cells #[.int .i64 K, .int .i64 A, .int .i64 B, .int .i64 N, .int .i64 L] 122))
        have hq2 := hid (Blk.new w2 #[.int .i64 K, .int .i64 A, .int .i64 B, .int .i64 N, .int .i64 L] 122)
        have hB3 : Hid (Below w.heap.size w (w2.alloc (.cells #[.int .i64 K, .int .i64 A, .int .i64 B, .int .i64 N, .int .i64 L] 122))) := hB2.out.alloc hB2.out.size _
        have hs2 : (w2.alloc (.cells #[.int .i64 K, .int .i64 A, .int .i64 B, .int .i64 N, .int .i64 L] 122)).heap.size = w2.heap.size + 1 := by simp
        have hsz2 : w.heap.size ≤ w2.heap.size := hB2.out.size
        have hob2 : ∀ k, (Value.slice oa m oc).ownBlock = some k → k < w2.heap.size := fun k hk => Nat.lt_of_lt_of_le (hob k hk).2 hb2.size
        clear hb2 hown' hB2
        generalize w2.alloc (.cells #[.int .i64 K, .int .i64 A, .int .i64 B, .int .i64 N, .int .i64 L] 122) = W at *
        refine lc_reg _ W _ w2.heap.size m oc w.heap.size oa M K A B N L I HI TX rfl rfl hq2.out (fun e => by have := hob2 _ e.symm; omega) hO2.out (by omega) hm1000 (fun k hk => by have := hob2 k hk; omega) rfl hHx hTx ⟨hHs, hTs⟩ (by simp) ?_
        rintro W3 ⟨e1, v1⟩ ⟨hg3, ho3⟩
        dsimp only at ho3
        have hB4 := hid (hB3.out.grown hg3 (by omega) (fun k hk => (hob k hk).1))
        have hq3 := hq2.out.grown hg3 (fun e => by have := hob2 _ e.symm; omega)
        have y4 := hq3.cell 4
        have hO3 := hid (hnx.out _ _ ho3)
        have hLz' := hLz.out
        clear hg3 ho3 hB3 hO2 hq2 hnx hq3 hHx hTx hDec
        simp only [putsA, Act.put, List.setIfInBounds_toArray, List.set_cons_zero, List.set_cons_succ]
        go_wp2
        go_roundw
        case rel => exact ⟨k + 1, by rw [hi'.out, Int.natCast_add, Int.toNat_of_nonneg hLz'.1], hO3.out, hB4.out⟩
        case measure => simp [intOf]; omega
    · have hfin := lcS_fin (zs := zs) (k := k) (by omega)
      have hown' := hid hown
      rw [hfin] at hown'
      have hb' := hid hb
      have hE : decide (((lcS zs k).1 : Int) < (zs.length : Int)) = false := by simp; omega
      clear hown hb hfin
      generalize (lcS zs k).1 = I at *
      go_wp2
      go_ret2
      exact ⟨_, rfl, hown'.out, hb'.out⟩
end Go.Proofs.YtneagomkohoceabDoor
