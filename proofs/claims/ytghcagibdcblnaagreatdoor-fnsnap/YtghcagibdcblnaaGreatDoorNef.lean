/- The head of a snapshot's text: the program's drawn region. -/
import Derived.Test.YtghcagibdcblnaaGreatDoorF32
import Derived.Test.YtghcagibdcblnaaGreatDoorF23
namespace Go.Proofs.YtghcagibdcblnaaGreatDoor
open Go.ChangeShapes Go.WideShapes Go.ChangeAt Go.RowKit
set_option linter.unusedVariables false
set_option linter.unusedSimpArgs false

theorem infoIN : (Tryz.prog.info? 3).map (fun i => (i.zero, i.size, i.bytes)) = some (some (.int .i64 0), 1, 8) := by kernel_rfl
def nh_V (b n ocap base : Nat) (oa : Option Addr) (L : List Value) (s : Sn) (vr vm : Value) (m1 u : Int) : Nat → Nat × Value → Value := fun i e => match i with
  | 0 => .slice oa n ocap
  | 1 => .pointer (some ⟨b, 0, none⟩)
  | 2 => .pointer (some ⟨b, 8, none⟩)
  | 3 => .int .i64 s.c.f
  | 4 => .pointer (some ⟨b, 0, none⟩)
  | 5 => .pointer (some ⟨b, 9, none⟩)
  | 6 => .int .i64 s.c.sp
  | 7 => .pointer (some ⟨b, 0, none⟩)
  | 8 => .pointer (some ⟨b, 10, none⟩)
  | 9 => .int .i64 s.c.pc
  | 10 => .agg (snA s vr vm)
  | 11 => .int .i64 m1
  | 12 => .pointer (some ⟨b, 14, none⟩)
  | 13 => .pointer (some ⟨b, 16, none⟩)
  | 14 => .int .i64 s.m.page
  | 15 => .agg (snA s vr vm)
  | 16 => .int .i64 u
  | 17 => .slice (some ⟨e.1, 0, none⟩) 6 6
  | 18 => e.2
  | 19 => e.2
  | _ => undef
def nh_J (w1 : World) (b n ocap base : Nat) (oa : Option Addr) (L : List Value) (s : Sn) (vr vm : Value) (m1 u : Int) (f : Nat → Bool) (e : Nat × Value) (w : World) : Prop :=
  w1.grownBy w (Value.slice oa n ocap).ownBlock ∧ (f 18 = false → w.ownsRow base 3 1 (Value.slice oa n ocap) n L) ∧ (f 18 = true → w.ownsRow base 3 1 e.2 (n + 6) (L ++ [.int .i64 s.c.f, .int .i64 s.c.sp, .int .i64 s.c.pc, .int .i64 m1, .int .i64 s.m.page, .int .i64 u])) ∧ (f 17 = true → w1.heap.size ≤ e.1 ∧ Blk w e.1 #[.int .i64 s.c.f, .int .i64 s.c.sp, .int .i64 s.c.pc, .int .i64 m1, .int .i64 s.m.page, .int .i64 u]) ∧ (f 19 = true → f 0 = true ∧ f 18 = true)
def nh_o0 : Oper := ({ dst := some 10, op := Op.move (Operand.tmp 3), type := 26, pos := "l13_snap.go:51", after := #[], guard := none } : Oper)
def nh_o1 : Oper := ({ dst := some 11, op := Op.fieldAddr 33 (Operand.tmp 1) 0, type := 0, pos := "l13_snap.go:51", after := #[], guard := none } : Oper)
def nh_o2 : Oper := ({ dst := some 12, op := Op.fieldAddr 25 (Operand.tmp 11) 1, type := 0, pos := "l13_snap.go:51", after := #[{ on := 1, ground := Ground.data }], guard := none } : Oper)
def nh_o3 : Oper := ({ dst := some 13, op := Op.load 3 (Operand.tmp 12), type := 3, pos := "l13_snap.go:51", after := #[{ on := 2, ground := Ground.data }], guard := none } : Oper)
def nh_o4 : Oper := ({ dst := some 14, op := Op.fieldAddr 33 (Operand.tmp 1) 0, type := 0, pos := "l13_snap.go:51", after := #[], guard := none } : Oper)
def nh_o5 : Oper := ({ dst := some 15, op := Op.fieldAddr 25 (Operand.tmp 14) 2, type := 0, pos := "l13_snap.go:51", after := #[{ on := 4, ground := Ground.data }], guard := none } : Oper)
def nh_o6 : Oper := ({ dst := some 16, op := Op.load 3 (Operand.tmp 15), type := 3, pos := "l13_snap.go:51", after := #[{ on := 5, ground := Ground.data }], guard := none } : Oper)
def nh_o7 : Oper := ({ dst := some 17, op := Op.fieldAddr 33 (Operand.tmp 1) 0, type := 0, pos := "l13_snap.go:51", after := #[], guard := none } : Oper)
def nh_o8 : Oper := ({ dst := some 18, op := Op.fieldAddr 25 (Operand.tmp 17) 3, type := 0, pos := "l13_snap.go:51", after := #[{ on := 7, ground := Ground.data }], guard := none } : Oper)
def nh_o9 : Oper := ({ dst := some 19, op := Op.load 3 (Operand.tmp 18), type := 3, pos := "l13_snap.go:51", after := #[{ on := 8, ground := Ground.data }], guard := none } : Oper)
def nh_o10 : Oper := ({ dst := some 20, op := Op.load 33 (Operand.tmp 1), type := 33, pos := "l13_snap.go:51", after := #[], guard := none } : Oper)
def nh_o11 : Oper := ({ dst := some 21, op := Op.call { callee := Callee.value (Operand.func 59), args := #[Operand.tmp 20], argTypes := #[33] }, type := 3, pos := "l13_snap.go:51", after := #[{ on := 10, ground := Ground.data }], guard := none } : Oper)
def nh_o12 : Oper := ({ dst := some 22, op := Op.fieldAddr 33 (Operand.tmp 1) 1, type := 0, pos := "l13_snap.go:51", after := #[], guard := none } : Oper)
def nh_o13 : Oper := ({ dst := some 23, op := Op.fieldAddr 29 (Operand.tmp 22) 2, type := 0, pos := "l13_snap.go:51", after := #[{ on := 12, ground := Ground.data }], guard := none } : Oper)
def nh_o14 : Oper := ({ dst := some 24, op := Op.load 3 (Operand.tmp 23), type := 3, pos := "l13_snap.go:51", after := #[{ on := 13, ground := Ground.data }], guard := none } : Oper)
def nh_o15 : Oper := ({ dst := some 25, op := Op.load 33 (Operand.tmp 1), type := 33, pos := "l13_snap.go:51", after := #[], guard := none } : Oper)
def nh_o16 : Oper := ({ dst := some 26, op := Op.call { callee := Callee.value (Operand.func 60), args := #[Operand.tmp 25], argTypes := #[33] }, type := 3, pos := "l13_snap.go:51", after := #[{ on := 15, ground := Ground.data }, { on := 11, ground := Ground.chain }], guard := none } : Oper)
def nh_o17 : Oper := ({ dst := some 27, op := Op.buildSlice 26 6 #[(0, Operand.tmp 13), (1, Operand.tmp 16), (2, Operand.tmp 19), (3, Operand.tmp 21), (4, Operand.tmp 24), (5, Operand.tmp 26)], type := 26, pos := "l13_snap.go:51", after := #[{ on := 3, ground := Ground.data }, { on := 6, ground := Ground.data }, { on := 9, ground := Ground.data }, { on := 11, ground := Ground.data }, { on := 14, ground := Ground.data }, { on := 16, ground := Ground.data }], guard := none } : Oper)
def nh_o18 : Oper := ({ dst := some 28, op := Op.call { callee := Callee.builtin Builtin.append, args := #[Operand.tmp 10, Operand.tmp 27], argTypes := #[26, 26] }, type := 26, pos := "l13_snap.go:51", after := #[{ on := 0, ground := Ground.data }, { on := 17, ground := Ground.data }, { on := 16, ground := Ground.chain }], guard := none } : Oper)
def nh_o19 : Oper := ({ dst := some 3, op := Op.assign (Operand.tmp 28), type := 26, pos := "l13_snap.go:51", after := #[{ on := 18, ground := Ground.data }, { on := 18, ground := Ground.chain }, { on := 0, ground := Ground.phase }, { on := 1, ground := Ground.phase }, { on := 2, ground := Ground.phase }, { on := 3, ground := Ground.phase }, { on := 4, ground := Ground.phase }, { on := 5, ground := Ground.phase }, { on := 6, ground := Ground.phase }, { on := 7, ground := Ground.phase }, { on := 8, ground := Ground.phase }, { on := 9, ground := Ground.phase }, { on := 10, ground := Ground.phase }, { on := 11, ground := Ground.phase }, { on := 12, ground := Ground.phase }, { on := 13, ground := Ground.phase }, { on := 14, ground := Ground.phase }, { on := 15, ground := Ground.phase }, { on := 16, ground := Ground.phase }, { on := 17, ground := Ground.phase }, { on := 18, ground := Ground.phase }], guard := none } : Oper)
def nh_O : Array Oper := #[nh_o0, nh_o1, nh_o2, nh_o3, nh_o4, nh_o5, nh_o6, nh_o7, nh_o8, nh_o9, nh_o10, nh_o11, nh_o12, nh_o13, nh_o14, nh_o15, nh_o16, nh_o17, nh_o18, nh_o19]
theorem nh_no {s : Nat} (h : ([10, 11, 12, 13, 14, 15, 16, 17, 18, 19, 20, 21, 22, 23, 24, 25, 26, 27, 28, 3] : List Nat).contains s = false) : ∀ i, dstAt nh_O i ≠ some s := by
  intro i hi
  have hl : i < 20 := by
    rcases Nat.lt_or_ge i 20 with h1 | h1
    · exact h1
    · unfold dstAt at hi
      rw [Array.getElem?_eq_none (by exact h1)] at hi
      cases hi
  rcases (by omega : i = 0 ∨ i = 1 ∨ i = 2 ∨ i = 3 ∨ i = 4 ∨ i = 5 ∨ i = 6 ∨ i = 7 ∨ i = 8 ∨ i = 9 ∨ i = 10 ∨ i = 11 ∨ i = 12 ∨ i = 13 ∨ i = 14 ∨ i = 15 ∨ i = 16 ∨ i = 17 ∨ i = 18 ∨ i = 19) with rfl | rfl | rfl | rfl | rfl | rfl | rfl | rfl | rfl | rfl | rfl | rfl | rfl | rfl | rfl | rfl | rfl | rfl | rfl | rfl
  all_goals first
    | (cases hi; simp at h)
    | cases hi
theorem nh_k17 (b n ocap base : Nat) (oa : Option Addr) (L : List Value) (s : Sn) (vr vm : Value) (m1 u : Int) {f : Nat → Bool} (e : Nat × Value) (x : Nat) (hn : f 17 = false) : ∀ j, f j = true → nh_V b n ocap base oa L s vr vm m1 u j (x, e.2) = nh_V b n ocap base oa L s vr vm m1 u j e := by
  intro j hj
  unfold nh_V
  split
  · rfl
  · rfl
  · rfl
  · rfl
  · rfl
  · rfl
  · rfl
  · rfl
  · rfl
  · rfl
  · rfl
  · rfl
  · rfl
  · rfl
  · rfl
  · rfl
  · rfl
  · rw [hn] at hj; cases hj
  · rfl
  · rfl
  · rfl
theorem nh_k18 (b n ocap base : Nat) (oa : Option Addr) (L : List Value) (s : Sn) (vr vm : Value) (m1 u : Int) {f : Nat → Bool} (e : Nat × Value) (x : Value) (hn : f 18 = false) (hn2 : f 19 = false) : ∀ j, f j = true → nh_V b n ocap base oa L s vr vm m1 u j (e.1, x) = nh_V b n ocap base oa L s vr vm m1 u j e := by
  intro j hj
  unfold nh_V
  split
  · rfl
  · rfl
  · rfl
  · rfl
  · rfl
  · rfl
  · rfl
  · rfl
  · rfl
  · rfl
  · rfl
  · rfl
  · rfl
  · rfl
  · rfl
  · rfl
  · rfl
  · rfl
  · rw [hn] at hj; cases hj
  · rw [hn2] at hj; cases hj
  · rfl
set_option maxRecDepth 100000 in
set_option maxHeartbeats 2000000 in
theorem nh_s0 (A : Act) (w1 : World) (Q : Exit → Act → World → Prop) (b n ocap base : Nat) (oa : Option Addr) (L : List Value) (s : Sn) (vr vm : Value) (m1 u : Int) 
    (h3 : A.tmps.getD 3 undef = .slice oa n ocap) (h1 : A.tmps.getD 1 undef = .pointer (some ⟨b, 0, none⟩)) (qb : Blk w1 b (snA s vr vm)) (nb : some b ≠ (Value.slice oa n ocap).ownBlock) (own : w1.ownsRow base 3 1 (Value.slice oa n ocap) n L) (hbase : base ≤ w1.heap.size) (hn : n ≤ 100) (hF1 : ∀ W, Calls Tryz.prog 59 #[.agg (snA s vr vm)] W fun r w' => r = .returned (.int .i64 m1) ∧ Below W.heap.size W w') (hF2 : ∀ W, Calls Tryz.prog 60 #[.agg (snA s vr vm)] W fun r w' => r = .returned (.int .i64 u) ∧ Below W.heap.size W w')
    (f : Nat → Bool) (e : Nat × Value) (a : Act) (w : World) (hun : f 0 = false) (hdep : ∀ d ∈ nh_o0.after, Region.binds .any d = true → f d.on = true) (hJ : nh_J w1 b n ocap base oa L s vr vm m1 u f e w) (hFr : Fr nh_O A f (fun j => nh_V b n ocap base oa L s vr vm m1 u j e) a) (hKp : Kept nh_O A f a)
    (K : Act → World → Prop) (hK : Hid (∀ v e' w', v = nh_V b n ocap base oa L s vr vm m1 u 0 e' → (∀ j, f j = true → nh_V b n ocap base oa L s vr vm m1 u j e' = nh_V b n ocap base oa L s vr vm m1 u j e) → nh_J w1 b n ocap base oa L s vr vm m1 u (fun j => j == 0 || f j) e' w' → K (a.put nh_o0.dst v) w')) :
    if Region.wanted nh_o0 (yielded nh_O a.tmps) = true then Oper.wp Tryz.prog nh_o0 a w K Q else K (a.put nh_o0.dst undef) w := by
  unfold nh_o0 at hdep hK ⊢
  obtain ⟨hg, r0, r1, j17, j19⟩ := hJ
  have f19 : f 19 = false := by
    cases h19 : f 19
    · rfl
    · have := (j19 h19).1
      rw [hun] at this
      cases this
  have v3 := (hKp 19 3 rfl f19).trans h3
  replace hg := hid hg
  replace r0 := hid r0
  replace r1 := hid r1
  replace j17 := hid j17
  replace j19 := hid j19
  clear hdep hFr hKp h3 h1
  go_simp
  exact hK.out _ e _ rfl (fun _ _ => rfl) ⟨hg.out, r0.out, r1.out, j17.out, fun h => ⟨rfl, (j19.out h).2⟩⟩
set_option maxRecDepth 100000 in
set_option maxHeartbeats 2000000 in
theorem nh_s1 (A : Act) (w1 : World) (Q : Exit → Act → World → Prop) (b n ocap base : Nat) (oa : Option Addr) (L : List Value) (s : Sn) (vr vm : Value) (m1 u : Int) 
    (h3 : A.tmps.getD 3 undef = .slice oa n ocap) (h1 : A.tmps.getD 1 undef = .pointer (some ⟨b, 0, none⟩)) (qb : Blk w1 b (snA s vr vm)) (nb : some b ≠ (Value.slice oa n ocap).ownBlock) (own : w1.ownsRow base 3 1 (Value.slice oa n ocap) n L) (hbase : base ≤ w1.heap.size) (hn : n ≤ 100) (hF1 : ∀ W, Calls Tryz.prog 59 #[.agg (snA s vr vm)] W fun r w' => r = .returned (.int .i64 m1) ∧ Below W.heap.size W w') (hF2 : ∀ W, Calls Tryz.prog 60 #[.agg (snA s vr vm)] W fun r w' => r = .returned (.int .i64 u) ∧ Below W.heap.size W w')
    (f : Nat → Bool) (e : Nat × Value) (a : Act) (w : World) (hun : f 1 = false) (hdep : ∀ d ∈ nh_o1.after, Region.binds .any d = true → f d.on = true) (hJ : nh_J w1 b n ocap base oa L s vr vm m1 u f e w) (hFr : Fr nh_O A f (fun j => nh_V b n ocap base oa L s vr vm m1 u j e) a) (hKp : Kept nh_O A f a)
    (K : Act → World → Prop) (hK : Hid (∀ v e' w', v = nh_V b n ocap base oa L s vr vm m1 u 1 e' → (∀ j, f j = true → nh_V b n ocap base oa L s vr vm m1 u j e' = nh_V b n ocap base oa L s vr vm m1 u j e) → nh_J w1 b n ocap base oa L s vr vm m1 u (fun j => j == 1 || f j) e' w' → K (a.put nh_o1.dst v) w')) :
    if Region.wanted nh_o1 (yielded nh_O a.tmps) = true then Oper.wp Tryz.prog nh_o1 a w K Q else K (a.put nh_o1.dst undef) w := by
  unfold nh_o1 at hdep hK ⊢
  obtain ⟨hg, r0, r1, j17, j19⟩ := hJ
  have v1 := (hFr.old 1 (nh_no (by decide))).trans h1
  replace hg := hid hg
  replace r0 := hid r0
  replace r1 := hid r1
  replace j17 := hid j17
  replace j19 := hid j19
  clear hdep hFr hKp h3 h1
  go_simp
  exact hK.out _ e _ rfl (fun _ _ => rfl) ⟨hg.out, r0.out, r1.out, j17.out, j19.out⟩
set_option maxRecDepth 100000 in
set_option maxHeartbeats 2000000 in
theorem nh_s2 (A : Act) (w1 : World) (Q : Exit → Act → World → Prop) (b n ocap base : Nat) (oa : Option Addr) (L : List Value) (s : Sn) (vr vm : Value) (m1 u : Int) 
    (h3 : A.tmps.getD 3 undef = .slice oa n ocap) (h1 : A.tmps.getD 1 undef = .pointer (some ⟨b, 0, none⟩)) (qb : Blk w1 b (snA s vr vm)) (nb : some b ≠ (Value.slice oa n ocap).ownBlock) (own : w1.ownsRow base 3 1 (Value.slice oa n ocap) n L) (hbase : base ≤ w1.heap.size) (hn : n ≤ 100) (hF1 : ∀ W, Calls Tryz.prog 59 #[.agg (snA s vr vm)] W fun r w' => r = .returned (.int .i64 m1) ∧ Below W.heap.size W w') (hF2 : ∀ W, Calls Tryz.prog 60 #[.agg (snA s vr vm)] W fun r w' => r = .returned (.int .i64 u) ∧ Below W.heap.size W w')
    (f : Nat → Bool) (e : Nat × Value) (a : Act) (w : World) (hun : f 2 = false) (hdep : ∀ d ∈ nh_o2.after, Region.binds .any d = true → f d.on = true) (hJ : nh_J w1 b n ocap base oa L s vr vm m1 u f e w) (hFr : Fr nh_O A f (fun j => nh_V b n ocap base oa L s vr vm m1 u j e) a) (hKp : Kept nh_O A f a)
    (K : Act → World → Prop) (hK : Hid (∀ v e' w', v = nh_V b n ocap base oa L s vr vm m1 u 2 e' → (∀ j, f j = true → nh_V b n ocap base oa L s vr vm m1 u j e' = nh_V b n ocap base oa L s vr vm m1 u j e) → nh_J w1 b n ocap base oa L s vr vm m1 u (fun j => j == 2 || f j) e' w' → K (a.put nh_o2.dst v) w')) :
    if Region.wanted nh_o2 (yielded nh_O a.tmps) = true then Oper.wp Tryz.prog nh_o2 a w K Q else K (a.put nh_o2.dst undef) w := by
  unfold nh_o2 at hdep hK ⊢
  obtain ⟨hg, r0, r1, j17, j19⟩ := hJ
  have k1 : f 1 = true := hdep { on := 1, ground := .data } (by simp) rfl
  have v11 : a.tmps.getD 11 undef = .pointer (some ⟨b, 0, none⟩) := hFr.new 1 11 rfl k1
  replace hg := hid hg
  replace r0 := hid r0
  replace r1 := hid r1
  replace j17 := hid j17
  replace j19 := hid j19
  clear hdep hFr hKp h3 h1
  go_simp
  exact hK.out _ e _ rfl (fun _ _ => rfl) ⟨hg.out, r0.out, r1.out, j17.out, j19.out⟩
set_option maxRecDepth 100000 in
set_option maxHeartbeats 2000000 in
theorem nh_s3 (A : Act) (w1 : World) (Q : Exit → Act → World → Prop) (b n ocap base : Nat) (oa : Option Addr) (L : List Value) (s : Sn) (vr vm : Value) (m1 u : Int) 
    (h3 : A.tmps.getD 3 undef = .slice oa n ocap) (h1 : A.tmps.getD 1 undef = .pointer (some ⟨b, 0, none⟩)) (qb : Blk w1 b (snA s vr vm)) (nb : some b ≠ (Value.slice oa n ocap).ownBlock) (own : w1.ownsRow base 3 1 (Value.slice oa n ocap) n L) (hbase : base ≤ w1.heap.size) (hn : n ≤ 100) (hF1 : ∀ W, Calls Tryz.prog 59 #[.agg (snA s vr vm)] W fun r w' => r = .returned (.int .i64 m1) ∧ Below W.heap.size W w') (hF2 : ∀ W, Calls Tryz.prog 60 #[.agg (snA s vr vm)] W fun r w' => r = .returned (.int .i64 u) ∧ Below W.heap.size W w')
    (f : Nat → Bool) (e : Nat × Value) (a : Act) (w : World) (hun : f 3 = false) (hdep : ∀ d ∈ nh_o3.after, Region.binds .any d = true → f d.on = true) (hJ : nh_J w1 b n ocap base oa L s vr vm m1 u f e w) (hFr : Fr nh_O A f (fun j => nh_V b n ocap base oa L s vr vm m1 u j e) a) (hKp : Kept nh_O A f a)
    (K : Act → World → Prop) (hK : Hid (∀ v e' w', v = nh_V b n ocap base oa L s vr vm m1 u 3 e' → (∀ j, f j = true → nh_V b n ocap base oa L s vr vm m1 u j e' = nh_V b n ocap base oa L s vr vm m1 u j e) → nh_J w1 b n ocap base oa L s vr vm m1 u (fun j => j == 3 || f j) e' w' → K (a.put nh_o3.dst v) w')) :
    if Region.wanted nh_o3 (yielded nh_O a.tmps) = true then Oper.wp Tryz.prog nh_o3 a w K Q else K (a.put nh_o3.dst undef) w := by
  unfold nh_o3 at hdep hK ⊢
  obtain ⟨hg, r0, r1, j17, j19⟩ := hJ
  have k2 : f 2 = true := hdep { on := 2, ground := .data } (by simp) rfl
  have v12 : a.tmps.getD 12 undef = .pointer (some ⟨b, 8, none⟩) := hFr.new 2 12 rfl k2
  have y : w.cell? ⟨b, 8, none⟩ = some (.int .i64 s.c.f) := (qb.grown hg nb).cell 8
  replace hg := hid hg
  replace r0 := hid r0
  replace r1 := hid r1
  replace j17 := hid j17
  replace j19 := hid j19
  clear hdep hFr hKp h3 h1
  go_simp
  exact hK.out _ e _ rfl (fun _ _ => rfl) ⟨hg.out, r0.out, r1.out, j17.out, j19.out⟩
set_option maxRecDepth 100000 in
set_option maxHeartbeats 2000000 in
theorem nh_s4 (A : Act) (w1 : World) (Q : Exit → Act → World → Prop) (b n ocap base : Nat) (oa : Option Addr) (L : List Value) (s : Sn) (vr vm : Value) (m1 u : Int) 
    (h3 : A.tmps.getD 3 undef = .slice oa n ocap) (h1 : A.tmps.getD 1 undef = .pointer (some ⟨b, 0, none⟩)) (qb : Blk w1 b (snA s vr vm)) (nb : some b ≠ (Value.slice oa n ocap).ownBlock) (own : w1.ownsRow base 3 1 (Value.slice oa n ocap) n L) (hbase : base ≤ w1.heap.size) (hn : n ≤ 100) (hF1 : ∀ W, Calls Tryz.prog 59 #[.agg (snA s vr vm)] W fun r w' => r = .returned (.int .i64 m1) ∧ Below W.heap.size W w') (hF2 : ∀ W, Calls Tryz.prog 60 #[.agg (snA s vr vm)] W fun r w' => r = .returned (.int .i64 u) ∧ Below W.heap.size W w')
    (f : Nat → Bool) (e : Nat × Value) (a : Act) (w : World) (hun : f 4 = false) (hdep : ∀ d ∈ nh_o4.after, Region.binds .any d = true → f d.on = true) (hJ : nh_J w1 b n ocap base oa L s vr vm m1 u f e w) (hFr : Fr nh_O A f (fun j => nh_V b n ocap base oa L s vr vm m1 u j e) a) (hKp : Kept nh_O A f a)
    (K : Act → World → Prop) (hK : Hid (∀ v e' w', v = nh_V b n ocap base oa L s vr vm m1 u 4 e' → (∀ j, f j = true → nh_V b n ocap base oa L s vr vm m1 u j e' = nh_V b n ocap base oa L s vr vm m1 u j e) → nh_J w1 b n ocap base oa L s vr vm m1 u (fun j => j == 4 || f j) e' w' → K (a.put nh_o4.dst v) w')) :
    if Region.wanted nh_o4 (yielded nh_O a.tmps) = true then Oper.wp Tryz.prog nh_o4 a w K Q else K (a.put nh_o4.dst undef) w := by
  unfold nh_o4 at hdep hK ⊢
  obtain ⟨hg, r0, r1, j17, j19⟩ := hJ
  have v1 := (hFr.old 1 (nh_no (by decide))).trans h1
  replace hg := hid hg
  replace r0 := hid r0
  replace r1 := hid r1
  replace j17 := hid j17
  replace j19 := hid j19
  clear hdep hFr hKp h3 h1
  go_simp
  exact hK.out _ e _ rfl (fun _ _ => rfl) ⟨hg.out, r0.out, r1.out, j17.out, j19.out⟩
set_option maxRecDepth 100000 in
set_option maxHeartbeats 2000000 in
theorem nh_s5 (A : Act) (w1 : World) (Q : Exit → Act → World → Prop) (b n ocap base : Nat) (oa : Option Addr) (L : List Value) (s : Sn) (vr vm : Value) (m1 u : Int) 
    (h3 : A.tmps.getD 3 undef = .slice oa n ocap) (h1 : A.tmps.getD 1 undef = .pointer (some ⟨b, 0, none⟩)) (qb : Blk w1 b (snA s vr vm)) (nb : some b ≠ (Value.slice oa n ocap).ownBlock) (own : w1.ownsRow base 3 1 (Value.slice oa n ocap) n L) (hbase : base ≤ w1.heap.size) (hn : n ≤ 100) (hF1 : ∀ W, Calls Tryz.prog 59 #[.agg (snA s vr vm)] W fun r w' => r = .returned (.int .i64 m1) ∧ Below W.heap.size W w') (hF2 : ∀ W, Calls Tryz.prog 60 #[.agg (snA s vr vm)] W fun r w' => r = .returned (.int .i64 u) ∧ Below W.heap.size W w')
    (f : Nat → Bool) (e : Nat × Value) (a : Act) (w : World) (hun : f 5 = false) (hdep : ∀ d ∈ nh_o5.after, Region.binds .any d = true → f d.on = true) (hJ : nh_J w1 b n ocap base oa L s vr vm m1 u f e w) (hFr : Fr nh_O A f (fun j => nh_V b n ocap base oa L s vr vm m1 u j e) a) (hKp : Kept nh_O A f a)
    (K : Act → World → Prop) (hK : Hid (∀ v e' w', v = nh_V b n ocap base oa L s vr vm m1 u 5 e' → (∀ j, f j = true → nh_V b n ocap base oa L s vr vm m1 u j e' = nh_V b n ocap base oa L s vr vm m1 u j e) → nh_J w1 b n ocap base oa L s vr vm m1 u (fun j => j == 5 || f j) e' w' → K (a.put nh_o5.dst v) w')) :
    if Region.wanted nh_o5 (yielded nh_O a.tmps) = true then Oper.wp Tryz.prog nh_o5 a w K Q else K (a.put nh_o5.dst undef) w := by
  unfold nh_o5 at hdep hK ⊢
  obtain ⟨hg, r0, r1, j17, j19⟩ := hJ
  have k4 : f 4 = true := hdep { on := 4, ground := .data } (by simp) rfl
  have v14 : a.tmps.getD 14 undef = .pointer (some ⟨b, 0, none⟩) := hFr.new 4 14 rfl k4
  replace hg := hid hg
  replace r0 := hid r0
  replace r1 := hid r1
  replace j17 := hid j17
  replace j19 := hid j19
  clear hdep hFr hKp h3 h1
  go_simp
  exact hK.out _ e _ rfl (fun _ _ => rfl) ⟨hg.out, r0.out, r1.out, j17.out, j19.out⟩
set_option maxRecDepth 100000 in
set_option maxHeartbeats 2000000 in
theorem nh_s6 (A : Act) (w1 : World) (Q : Exit → Act → World → Prop) (b n ocap base : Nat) (oa : Option Addr) (L : List Value) (s : Sn) (vr vm : Value) (m1 u : Int) 
    (h3 : A.tmps.getD 3 undef = .slice oa n ocap) (h1 : A.tmps.getD 1 undef = .pointer (some ⟨b, 0, none⟩)) (qb : Blk w1 b (snA s vr vm)) (nb : some b ≠ (Value.slice oa n ocap).ownBlock) (own : w1.ownsRow base 3 1 (Value.slice oa n ocap) n L) (hbase : base ≤ w1.heap.size) (hn : n ≤ 100) (hF1 : ∀ W, Calls Tryz.prog 59 #[.agg (snA s vr vm)] W fun r w' => r = .returned (.int .i64 m1) ∧ Below W.heap.size W w') (hF2 : ∀ W, Calls Tryz.prog 60 #[.agg (snA s vr vm)] W fun r w' => r = .returned (.int .i64 u) ∧ Below W.heap.size W w')
    (f : Nat → Bool) (e : Nat × Value) (a : Act) (w : World) (hun : f 6 = false) (hdep : ∀ d ∈ nh_o6.after, Region.binds .any d = true → f d.on = true) (hJ : nh_J w1 b n ocap base oa L s vr vm m1 u f e w) (hFr : Fr nh_O A f (fun j => nh_V b n ocap base oa L s vr vm m1 u j e) a) (hKp : Kept nh_O A f a)
    (K : Act → World → Prop) (hK : Hid (∀ v e' w', v = nh_V b n ocap base oa L s vr vm m1 u 6 e' → (∀ j, f j = true → nh_V b n ocap base oa L s vr vm m1 u j e' = nh_V b n ocap base oa L s vr vm m1 u j e) → nh_J w1 b n ocap base oa L s vr vm m1 u (fun j => j == 6 || f j) e' w' → K (a.put nh_o6.dst v) w')) :
    if Region.wanted nh_o6 (yielded nh_O a.tmps) = true then Oper.wp Tryz.prog nh_o6 a w K Q else K (a.put nh_o6.dst undef) w := by
  unfold nh_o6 at hdep hK ⊢
  obtain ⟨hg, r0, r1, j17, j19⟩ := hJ
  have k5 : f 5 = true := hdep { on := 5, ground := .data } (by simp) rfl
  have v15 : a.tmps.getD 15 undef = .pointer (some ⟨b, 9, none⟩) := hFr.new 5 15 rfl k5
  have y : w.cell? ⟨b, 9, none⟩ = some (.int .i64 s.c.sp) := (qb.grown hg nb).cell 9
  replace hg := hid hg
  replace r0 := hid r0
  replace r1 := hid r1
  replace j17 := hid j17
  replace j19 := hid j19
  clear hdep hFr hKp h3 h1
  go_simp
  exact hK.out _ e _ rfl (fun _ _ => rfl) ⟨hg.out, r0.out, r1.out, j17.out, j19.out⟩
set_option maxRecDepth 100000 in
set_option maxHeartbeats 2000000 in
theorem nh_s7 (A : Act) (w1 : World) (Q : Exit → Act → World → Prop) (b n ocap base : Nat) (oa : Option Addr) (L : List Value) (s : Sn) (vr vm : Value) (m1 u : Int) 
    (h3 : A.tmps.getD 3 undef = .slice oa n ocap) (h1 : A.tmps.getD 1 undef = .pointer (some ⟨b, 0, none⟩)) (qb : Blk w1 b (snA s vr vm)) (nb : some b ≠ (Value.slice oa n ocap).ownBlock) (own : w1.ownsRow base 3 1 (Value.slice oa n ocap) n L) (hbase : base ≤ w1.heap.size) (hn : n ≤ 100) (hF1 : ∀ W, Calls Tryz.prog 59 #[.agg (snA s vr vm)] W fun r w' => r = .returned (.int .i64 m1) ∧ Below W.heap.size W w') (hF2 : ∀ W, Calls Tryz.prog 60 #[.agg (snA s vr vm)] W fun r w' => r = .returned (.int .i64 u) ∧ Below W.heap.size W w')
    (f : Nat → Bool) (e : Nat × Value) (a : Act) (w : World) (hun : f 7 = false) (hdep : ∀ d ∈ nh_o7.after, Region.binds .any d = true → f d.on = true) (hJ : nh_J w1 b n ocap base oa L s vr vm m1 u f e w) (hFr : Fr nh_O A f (fun j => nh_V b n ocap base oa L s vr vm m1 u j e) a) (hKp : Kept nh_O A f a)
    (K : Act → World → Prop) (hK : Hid (∀ v e' w', v = nh_V b n ocap base oa L s vr vm m1 u 7 e' → (∀ j, f j = true → nh_V b n ocap base oa L s vr vm m1 u j e' = nh_V b n ocap base oa L s vr vm m1 u j e) → nh_J w1 b n ocap base oa L s vr vm m1 u (fun j => j == 7 || f j) e' w' → K (a.put nh_o7.dst v) w')) :
    if Region.wanted nh_o7 (yielded nh_O a.tmps) = true then Oper.wp Tryz.prog nh_o7 a w K Q else K (a.put nh_o7.dst undef) w := by
  unfold nh_o7 at hdep hK ⊢
  obtain ⟨hg, r0, r1, j17, j19⟩ := hJ
  have v1 := (hFr.old 1 (nh_no (by decide))).trans h1
  replace hg := hid hg
  replace r0 := hid r0
  replace r1 := hid r1
  replace j17 := hid j17
  replace j19 := hid j19
  clear hdep hFr hKp h3 h1
  go_simp
  exact hK.out _ e _ rfl (fun _ _ => rfl) ⟨hg.out, r0.out, r1.out, j17.out, j19.out⟩
set_option maxRecDepth 100000 in
set_option maxHeartbeats 2000000 in
theorem nh_s8 (A : Act) (w1 : World) (Q : Exit → Act → World → Prop) (b n ocap base : Nat) (oa : Option Addr) (L : List Value) (s : Sn) (vr vm : Value) (m1 u : Int) 
    (h3 : A.tmps.getD 3 undef = .slice oa n ocap) (h1 : A.tmps.getD 1 undef = .pointer (some ⟨b, 0, none⟩)) (qb : Blk w1 b (snA s vr vm)) (nb : some b ≠ (Value.slice oa n ocap).ownBlock) (own : w1.ownsRow base 3 1 (Value.slice oa n ocap) n L) (hbase : base ≤ w1.heap.size) (hn : n ≤ 100) (hF1 : ∀ W, Calls Tryz.prog 59 #[.agg (snA s vr vm)] W fun r w' => r = .returned (.int .i64 m1) ∧ Below W.heap.size W w') (hF2 : ∀ W, Calls Tryz.prog 60 #[.agg (snA s vr vm)] W fun r w' => r = .returned (.int .i64 u) ∧ Below W.heap.size W w')
    (f : Nat → Bool) (e : Nat × Value) (a : Act) (w : World) (hun : f 8 = false) (hdep : ∀ d ∈ nh_o8.after, Region.binds .any d = true → f d.on = true) (hJ : nh_J w1 b n ocap base oa L s vr vm m1 u f e w) (hFr : Fr nh_O A f (fun j => nh_V b n ocap base oa L s vr vm m1 u j e) a) (hKp : Kept nh_O A f a)
    (K : Act → World → Prop) (hK : Hid (∀ v e' w', v = nh_V b n ocap base oa L s vr vm m1 u 8 e' → (∀ j, f j = true → nh_V b n ocap base oa L s vr vm m1 u j e' = nh_V b n ocap base oa L s vr vm m1 u j e) → nh_J w1 b n ocap base oa L s vr vm m1 u (fun j => j == 8 || f j) e' w' → K (a.put nh_o8.dst v) w')) :
    if Region.wanted nh_o8 (yielded nh_O a.tmps) = true then Oper.wp Tryz.prog nh_o8 a w K Q else K (a.put nh_o8.dst undef) w := by
  unfold nh_o8 at hdep hK ⊢
  obtain ⟨hg, r0, r1, j17, j19⟩ := hJ
  have k7 : f 7 = true := hdep { on := 7, ground := .data } (by simp) rfl
  have v17 : a.tmps.getD 17 undef = .pointer (some ⟨b, 0, none⟩) := hFr.new 7 17 rfl k7
  replace hg := hid hg
  replace r0 := hid r0
  replace r1 := hid r1
  replace j17 := hid j17
  replace j19 := hid j19
  clear hdep hFr hKp h3 h1
  go_simp
  exact hK.out _ e _ rfl (fun _ _ => rfl) ⟨hg.out, r0.out, r1.out, j17.out, j19.out⟩
set_option maxRecDepth 100000 in
set_option maxHeartbeats 2000000 in
theorem nh_s9 (A : Act) (w1 : World) (Q : Exit → Act → World → Prop) (b n ocap base : Nat) (oa : Option Addr) (L : List Value) (s : Sn) (vr vm : Value) (m1 u : Int) 
    (h3 : A.tmps.getD 3 undef = .slice oa n ocap) (h1 : A.tmps.getD 1 undef = .pointer (some ⟨b, 0, none⟩)) (qb : Blk w1 b (snA s vr vm)) (nb : some b ≠ (Value.slice oa n ocap).ownBlock) (own : w1.ownsRow base 3 1 (Value.slice oa n ocap) n L) (hbase : base ≤ w1.heap.size) (hn : n ≤ 100) (hF1 : ∀ W, Calls Tryz.prog 59 #[.agg (snA s vr vm)] W fun r w' => r = .returned (.int .i64 m1) ∧ Below W.heap.size W w') (hF2 : ∀ W, Calls Tryz.prog 60 #[.agg (snA s vr vm)] W fun r w' => r = .returned (.int .i64 u) ∧ Below W.heap.size W w')
    (f : Nat → Bool) (e : Nat × Value) (a : Act) (w : World) (hun : f 9 = false) (hdep : ∀ d ∈ nh_o9.after, Region.binds .any d = true → f d.on = true) (hJ : nh_J w1 b n ocap base oa L s vr vm m1 u f e w) (hFr : Fr nh_O A f (fun j => nh_V b n ocap base oa L s vr vm m1 u j e) a) (hKp : Kept nh_O A f a)
    (K : Act → World → Prop) (hK : Hid (∀ v e' w', v = nh_V b n ocap base oa L s vr vm m1 u 9 e' → (∀ j, f j = true → nh_V b n ocap base oa L s vr vm m1 u j e' = nh_V b n ocap base oa L s vr vm m1 u j e) → nh_J w1 b n ocap base oa L s vr vm m1 u (fun j => j == 9 || f j) e' w' → K (a.put nh_o9.dst v) w')) :
    if Region.wanted nh_o9 (yielded nh_O a.tmps) = true then Oper.wp Tryz.prog nh_o9 a w K Q else K (a.put nh_o9.dst undef) w := by
  unfold nh_o9 at hdep hK ⊢
  obtain ⟨hg, r0, r1, j17, j19⟩ := hJ
  have k8 : f 8 = true := hdep { on := 8, ground := .data } (by simp) rfl
  have v18 : a.tmps.getD 18 undef = .pointer (some ⟨b, 10, none⟩) := hFr.new 8 18 rfl k8
  have y : w.cell? ⟨b, 10, none⟩ = some (.int .i64 s.c.pc) := (qb.grown hg nb).cell 10
  replace hg := hid hg
  replace r0 := hid r0
  replace r1 := hid r1
  replace j17 := hid j17
  replace j19 := hid j19
  clear hdep hFr hKp h3 h1
  go_simp
  exact hK.out _ e _ rfl (fun _ _ => rfl) ⟨hg.out, r0.out, r1.out, j17.out, j19.out⟩
set_option maxRecDepth 100000 in
set_option maxHeartbeats 2000000 in
theorem nh_s10 (A : Act) (w1 : World) (Q : Exit → Act → World → Prop) (b n ocap base : Nat) (oa : Option Addr) (L : List Value) (s : Sn) (vr vm : Value) (m1 u : Int) 
    (h3 : A.tmps.getD 3 undef = .slice oa n ocap) (h1 : A.tmps.getD 1 undef = .pointer (some ⟨b, 0, none⟩)) (qb : Blk w1 b (snA s vr vm)) (nb : some b ≠ (Value.slice oa n ocap).ownBlock) (own : w1.ownsRow base 3 1 (Value.slice oa n ocap) n L) (hbase : base ≤ w1.heap.size) (hn : n ≤ 100) (hF1 : ∀ W, Calls Tryz.prog 59 #[.agg (snA s vr vm)] W fun r w' => r = .returned (.int .i64 m1) ∧ Below W.heap.size W w') (hF2 : ∀ W, Calls Tryz.prog 60 #[.agg (snA s vr vm)] W fun r w' => r = .returned (.int .i64 u) ∧ Below W.heap.size W w')
    (f : Nat → Bool) (e : Nat × Value) (a : Act) (w : World) (hun : f 10 = false) (hdep : ∀ d ∈ nh_o10.after, Region.binds .any d = true → f d.on = true) (hJ : nh_J w1 b n ocap base oa L s vr vm m1 u f e w) (hFr : Fr nh_O A f (fun j => nh_V b n ocap base oa L s vr vm m1 u j e) a) (hKp : Kept nh_O A f a)
    (K : Act → World → Prop) (hK : Hid (∀ v e' w', v = nh_V b n ocap base oa L s vr vm m1 u 10 e' → (∀ j, f j = true → nh_V b n ocap base oa L s vr vm m1 u j e' = nh_V b n ocap base oa L s vr vm m1 u j e) → nh_J w1 b n ocap base oa L s vr vm m1 u (fun j => j == 10 || f j) e' w' → K (a.put nh_o10.dst v) w')) :
    if Region.wanted nh_o10 (yielded nh_O a.tmps) = true then Oper.wp Tryz.prog nh_o10 a w K Q else K (a.put nh_o10.dst undef) w := by
  unfold nh_o10 at hdep hK ⊢
  obtain ⟨hg, r0, r1, j17, j19⟩ := hJ
  have v1 := (hFr.old 1 (nh_no (by decide))).trans h1
  have x0 := sn_all (qb.grown hg nb)
  replace hg := hid hg
  replace r0 := hid r0
  replace r1 := hid r1
  replace j17 := hid j17
  replace j19 := hid j19
  clear hdep hFr hKp h3 h1
  rw [if_pos (show Region.wanted _ _ = true from rfl)]
  refine wp_load_mid 33 _ rfl b 0 v1 (snA s vr vm).toList _ x0 Tryz.underlying33 rfl (szS s vr vm) ?_
  exact hK.out _ e _ rfl (fun _ _ => rfl) ⟨hg.out, r0.out, r1.out, j17.out, j19.out⟩
set_option maxRecDepth 100000 in
set_option maxHeartbeats 2000000 in
theorem nh_s11 (A : Act) (w1 : World) (Q : Exit → Act → World → Prop) (b n ocap base : Nat) (oa : Option Addr) (L : List Value) (s : Sn) (vr vm : Value) (m1 u : Int) 
    (h3 : A.tmps.getD 3 undef = .slice oa n ocap) (h1 : A.tmps.getD 1 undef = .pointer (some ⟨b, 0, none⟩)) (qb : Blk w1 b (snA s vr vm)) (nb : some b ≠ (Value.slice oa n ocap).ownBlock) (own : w1.ownsRow base 3 1 (Value.slice oa n ocap) n L) (hbase : base ≤ w1.heap.size) (hn : n ≤ 100) (hF1 : ∀ W, Calls Tryz.prog 59 #[.agg (snA s vr vm)] W fun r w' => r = .returned (.int .i64 m1) ∧ Below W.heap.size W w') (hF2 : ∀ W, Calls Tryz.prog 60 #[.agg (snA s vr vm)] W fun r w' => r = .returned (.int .i64 u) ∧ Below W.heap.size W w')
    (f : Nat → Bool) (e : Nat × Value) (a : Act) (w : World) (hun : f 11 = false) (hdep : ∀ d ∈ nh_o11.after, Region.binds .any d = true → f d.on = true) (hJ : nh_J w1 b n ocap base oa L s vr vm m1 u f e w) (hFr : Fr nh_O A f (fun j => nh_V b n ocap base oa L s vr vm m1 u j e) a) (hKp : Kept nh_O A f a)
    (K : Act → World → Prop) (hK : Hid (∀ v e' w', v = nh_V b n ocap base oa L s vr vm m1 u 11 e' → (∀ j, f j = true → nh_V b n ocap base oa L s vr vm m1 u j e' = nh_V b n ocap base oa L s vr vm m1 u j e) → nh_J w1 b n ocap base oa L s vr vm m1 u (fun j => j == 11 || f j) e' w' → K (a.put nh_o11.dst v) w')) :
    if Region.wanted nh_o11 (yielded nh_O a.tmps) = true then Oper.wp Tryz.prog nh_o11 a w K Q else K (a.put nh_o11.dst undef) w := by
  unfold nh_o11 at hdep hK ⊢
  obtain ⟨hg, r0, r1, j17, j19⟩ := hJ
  have k10 : f 10 = true := hdep { on := 10, ground := .data } (by simp) rfl
  have v20 : a.tmps.getD 20 undef = .agg (snA s vr vm) := hFr.new 10 20 rfl k10
  replace hg := hid hg
  replace r0 := hid r0
  replace r1 := hid r1
  replace j17 := hid j17
  replace j19 := hid j19
  clear hdep hFr hKp h3 h1
  go_simp
  go_at_call 59
  refine (hF1 _).mono ?_
  rintro r w' ⟨rfl, hb'⟩
  have hb2 := hid hb'
  clear hb'
  go_simp
  exact hK.out _ e _ rfl (fun _ _ => rfl) ⟨gtr13 hg.out ⟨hb2.out.os, hb2.out.tape, hb2.out.output, hb2.out.size, fun k hk _ => hb2.out.block k hk⟩, fun h => own_belowL (r0.out h) hb2.out, fun h => own_belowL (r1.out h) hb2.out, fun h => ⟨(j17.out h).1, (j17.out h).2.below hb2.out (j17.out h).2.lt⟩, j19.out⟩
set_option maxRecDepth 100000 in
set_option maxHeartbeats 2000000 in
theorem nh_s12 (A : Act) (w1 : World) (Q : Exit → Act → World → Prop) (b n ocap base : Nat) (oa : Option Addr) (L : List Value) (s : Sn) (vr vm : Value) (m1 u : Int) 
    (h3 : A.tmps.getD 3 undef = .slice oa n ocap) (h1 : A.tmps.getD 1 undef = .pointer (some ⟨b, 0, none⟩)) (qb : Blk w1 b (snA s vr vm)) (nb : some b ≠ (Value.slice oa n ocap).ownBlock) (own : w1.ownsRow base 3 1 (Value.slice oa n ocap) n L) (hbase : base ≤ w1.heap.size) (hn : n ≤ 100) (hF1 : ∀ W, Calls Tryz.prog 59 #[.agg (snA s vr vm)] W fun r w' => r = .returned (.int .i64 m1) ∧ Below W.heap.size W w') (hF2 : ∀ W, Calls Tryz.prog 60 #[.agg (snA s vr vm)] W fun r w' => r = .returned (.int .i64 u) ∧ Below W.heap.size W w')
    (f : Nat → Bool) (e : Nat × Value) (a : Act) (w : World) (hun : f 12 = false) (hdep : ∀ d ∈ nh_o12.after, Region.binds .any d = true → f d.on = true) (hJ : nh_J w1 b n ocap base oa L s vr vm m1 u f e w) (hFr : Fr nh_O A f (fun j => nh_V b n ocap base oa L s vr vm m1 u j e) a) (hKp : Kept nh_O A f a)
    (K : Act → World → Prop) (hK : Hid (∀ v e' w', v = nh_V b n ocap base oa L s vr vm m1 u 12 e' → (∀ j, f j = true → nh_V b n ocap base oa L s vr vm m1 u j e' = nh_V b n ocap base oa L s vr vm m1 u j e) → nh_J w1 b n ocap base oa L s vr vm m1 u (fun j => j == 12 || f j) e' w' → K (a.put nh_o12.dst v) w')) :
    if Region.wanted nh_o12 (yielded nh_O a.tmps) = true then Oper.wp Tryz.prog nh_o12 a w K Q else K (a.put nh_o12.dst undef) w := by
  unfold nh_o12 at hdep hK ⊢
  obtain ⟨hg, r0, r1, j17, j19⟩ := hJ
  have v1 := (hFr.old 1 (nh_no (by decide))).trans h1
  replace hg := hid hg
  replace r0 := hid r0
  replace r1 := hid r1
  replace j17 := hid j17
  replace j19 := hid j19
  clear hdep hFr hKp h3 h1
  go_simp
  exact hK.out _ e _ rfl (fun _ _ => rfl) ⟨hg.out, r0.out, r1.out, j17.out, j19.out⟩
set_option maxRecDepth 100000 in
set_option maxHeartbeats 2000000 in
theorem nh_s13 (A : Act) (w1 : World) (Q : Exit → Act → World → Prop) (b n ocap base : Nat) (oa : Option Addr) (L : List Value) (s : Sn) (vr vm : Value) (m1 u : Int) 
    (h3 : A.tmps.getD 3 undef = .slice oa n ocap) (h1 : A.tmps.getD 1 undef = .pointer (some ⟨b, 0, none⟩)) (qb : Blk w1 b (snA s vr vm)) (nb : some b ≠ (Value.slice oa n ocap).ownBlock) (own : w1.ownsRow base 3 1 (Value.slice oa n ocap) n L) (hbase : base ≤ w1.heap.size) (hn : n ≤ 100) (hF1 : ∀ W, Calls Tryz.prog 59 #[.agg (snA s vr vm)] W fun r w' => r = .returned (.int .i64 m1) ∧ Below W.heap.size W w') (hF2 : ∀ W, Calls Tryz.prog 60 #[.agg (snA s vr vm)] W fun r w' => r = .returned (.int .i64 u) ∧ Below W.heap.size W w')
    (f : Nat → Bool) (e : Nat × Value) (a : Act) (w : World) (hun : f 13 = false) (hdep : ∀ d ∈ nh_o13.after, Region.binds .any d = true → f d.on = true) (hJ : nh_J w1 b n ocap base oa L s vr vm m1 u f e w) (hFr : Fr nh_O A f (fun j => nh_V b n ocap base oa L s vr vm m1 u j e) a) (hKp : Kept nh_O A f a)
    (K : Act → World → Prop) (hK : Hid (∀ v e' w', v = nh_V b n ocap base oa L s vr vm m1 u 13 e' → (∀ j, f j = true → nh_V b n ocap base oa L s vr vm m1 u j e' = nh_V b n ocap base oa L s vr vm m1 u j e) → nh_J w1 b n ocap base oa L s vr vm m1 u (fun j => j == 13 || f j) e' w' → K (a.put nh_o13.dst v) w')) :
    if Region.wanted nh_o13 (yielded nh_O a.tmps) = true then Oper.wp Tryz.prog nh_o13 a w K Q else K (a.put nh_o13.dst undef) w := by
  unfold nh_o13 at hdep hK ⊢
  obtain ⟨hg, r0, r1, j17, j19⟩ := hJ
  have k12 : f 12 = true := hdep { on := 12, ground := .data } (by simp) rfl
  have v22 : a.tmps.getD 22 undef = .pointer (some ⟨b, 14, none⟩) := hFr.new 12 22 rfl k12
  replace hg := hid hg
  replace r0 := hid r0
  replace r1 := hid r1
  replace j17 := hid j17
  replace j19 := hid j19
  clear hdep hFr hKp h3 h1
  go_simp
  exact hK.out _ e _ rfl (fun _ _ => rfl) ⟨hg.out, r0.out, r1.out, j17.out, j19.out⟩
set_option maxRecDepth 100000 in
set_option maxHeartbeats 2000000 in
theorem nh_s14 (A : Act) (w1 : World) (Q : Exit → Act → World → Prop) (b n ocap base : Nat) (oa : Option Addr) (L : List Value) (s : Sn) (vr vm : Value) (m1 u : Int) 
    (h3 : A.tmps.getD 3 undef = .slice oa n ocap) (h1 : A.tmps.getD 1 undef = .pointer (some ⟨b, 0, none⟩)) (qb : Blk w1 b (snA s vr vm)) (nb : some b ≠ (Value.slice oa n ocap).ownBlock) (own : w1.ownsRow base 3 1 (Value.slice oa n ocap) n L) (hbase : base ≤ w1.heap.size) (hn : n ≤ 100) (hF1 : ∀ W, Calls Tryz.prog 59 #[.agg (snA s vr vm)] W fun r w' => r = .returned (.int .i64 m1) ∧ Below W.heap.size W w') (hF2 : ∀ W, Calls Tryz.prog 60 #[.agg (snA s vr vm)] W fun r w' => r = .returned (.int .i64 u) ∧ Below W.heap.size W w')
    (f : Nat → Bool) (e : Nat × Value) (a : Act) (w : World) (hun : f 14 = false) (hdep : ∀ d ∈ nh_o14.after, Region.binds .any d = true → f d.on = true) (hJ : nh_J w1 b n ocap base oa L s vr vm m1 u f e w) (hFr : Fr nh_O A f (fun j => nh_V b n ocap base oa L s vr vm m1 u j e) a) (hKp : Kept nh_O A f a)
    (K : Act → World → Prop) (hK : Hid (∀ v e' w', v = nh_V b n ocap base oa L s vr vm m1 u 14 e' → (∀ j, f j = true → nh_V b n ocap base oa L s vr vm m1 u j e' = nh_V b n ocap base oa L s vr vm m1 u j e) → nh_J w1 b n ocap base oa L s vr vm m1 u (fun j => j == 14 || f j) e' w' → K (a.put nh_o14.dst v) w')) :
    if Region.wanted nh_o14 (yielded nh_O a.tmps) = true then Oper.wp Tryz.prog nh_o14 a w K Q else K (a.put nh_o14.dst undef) w := by
  unfold nh_o14 at hdep hK ⊢
  obtain ⟨hg, r0, r1, j17, j19⟩ := hJ
  have k13 : f 13 = true := hdep { on := 13, ground := .data } (by simp) rfl
  have v23 : a.tmps.getD 23 undef = .pointer (some ⟨b, 16, none⟩) := hFr.new 13 23 rfl k13
  have y : w.cell? ⟨b, 16, none⟩ = some (.int .i64 s.m.page) := (qb.grown hg nb).cell 16
  replace hg := hid hg
  replace r0 := hid r0
  replace r1 := hid r1
  replace j17 := hid j17
  replace j19 := hid j19
  clear hdep hFr hKp h3 h1
  go_simp
  exact hK.out _ e _ rfl (fun _ _ => rfl) ⟨hg.out, r0.out, r1.out, j17.out, j19.out⟩
set_option maxRecDepth 100000 in
set_option maxHeartbeats 2000000 in
theorem nh_s15 (A : Act) (w1 : World) (Q : Exit → Act → World → Prop) (b n ocap base : Nat) (oa : Option Addr) (L : List Value) (s : Sn) (vr vm : Value) (m1 u : Int) 
    (h3 : A.tmps.getD 3 undef = .slice oa n ocap) (h1 : A.tmps.getD 1 undef = .pointer (some ⟨b, 0, none⟩)) (qb : Blk w1 b (snA s vr vm)) (nb : some b ≠ (Value.slice oa n ocap).ownBlock) (own : w1.ownsRow base 3 1 (Value.slice oa n ocap) n L) (hbase : base ≤ w1.heap.size) (hn : n ≤ 100) (hF1 : ∀ W, Calls Tryz.prog 59 #[.agg (snA s vr vm)] W fun r w' => r = .returned (.int .i64 m1) ∧ Below W.heap.size W w') (hF2 : ∀ W, Calls Tryz.prog 60 #[.agg (snA s vr vm)] W fun r w' => r = .returned (.int .i64 u) ∧ Below W.heap.size W w')
    (f : Nat → Bool) (e : Nat × Value) (a : Act) (w : World) (hun : f 15 = false) (hdep : ∀ d ∈ nh_o15.after, Region.binds .any d = true → f d.on = true) (hJ : nh_J w1 b n ocap base oa L s vr vm m1 u f e w) (hFr : Fr nh_O A f (fun j => nh_V b n ocap base oa L s vr vm m1 u j e) a) (hKp : Kept nh_O A f a)
    (K : Act → World → Prop) (hK : Hid (∀ v e' w', v = nh_V b n ocap base oa L s vr vm m1 u 15 e' → (∀ j, f j = true → nh_V b n ocap base oa L s vr vm m1 u j e' = nh_V b n ocap base oa L s vr vm m1 u j e) → nh_J w1 b n ocap base oa L s vr vm m1 u (fun j => j == 15 || f j) e' w' → K (a.put nh_o15.dst v) w')) :
    if Region.wanted nh_o15 (yielded nh_O a.tmps) = true then Oper.wp Tryz.prog nh_o15 a w K Q else K (a.put nh_o15.dst undef) w := by
  unfold nh_o15 at hdep hK ⊢
  obtain ⟨hg, r0, r1, j17, j19⟩ := hJ
  have v1 := (hFr.old 1 (nh_no (by decide))).trans h1
  have x0 := sn_all (qb.grown hg nb)
  replace hg := hid hg
  replace r0 := hid r0
  replace r1 := hid r1
  replace j17 := hid j17
  replace j19 := hid j19
  clear hdep hFr hKp h3 h1
  rw [if_pos (show Region.wanted _ _ = true from rfl)]
  refine wp_load_mid 33 _ rfl b 0 v1 (snA s vr vm).toList _ x0 Tryz.underlying33 rfl (szS s vr vm) ?_
  exact hK.out _ e _ rfl (fun _ _ => rfl) ⟨hg.out, r0.out, r1.out, j17.out, j19.out⟩
set_option maxRecDepth 100000 in
set_option maxHeartbeats 2000000 in
theorem nh_s16 (A : Act) (w1 : World) (Q : Exit → Act → World → Prop) (b n ocap base : Nat) (oa : Option Addr) (L : List Value) (s : Sn) (vr vm : Value) (m1 u : Int) 
    (h3 : A.tmps.getD 3 undef = .slice oa n ocap) (h1 : A.tmps.getD 1 undef = .pointer (some ⟨b, 0, none⟩)) (qb : Blk w1 b (snA s vr vm)) (nb : some b ≠ (Value.slice oa n ocap).ownBlock) (own : w1.ownsRow base 3 1 (Value.slice oa n ocap) n L) (hbase : base ≤ w1.heap.size) (hn : n ≤ 100) (hF1 : ∀ W, Calls Tryz.prog 59 #[.agg (snA s vr vm)] W fun r w' => r = .returned (.int .i64 m1) ∧ Below W.heap.size W w') (hF2 : ∀ W, Calls Tryz.prog 60 #[.agg (snA s vr vm)] W fun r w' => r = .returned (.int .i64 u) ∧ Below W.heap.size W w')
    (f : Nat → Bool) (e : Nat × Value) (a : Act) (w : World) (hun : f 16 = false) (hdep : ∀ d ∈ nh_o16.after, Region.binds .any d = true → f d.on = true) (hJ : nh_J w1 b n ocap base oa L s vr vm m1 u f e w) (hFr : Fr nh_O A f (fun j => nh_V b n ocap base oa L s vr vm m1 u j e) a) (hKp : Kept nh_O A f a)
    (K : Act → World → Prop) (hK : Hid (∀ v e' w', v = nh_V b n ocap base oa L s vr vm m1 u 16 e' → (∀ j, f j = true → nh_V b n ocap base oa L s vr vm m1 u j e' = nh_V b n ocap base oa L s vr vm m1 u j e) → nh_J w1 b n ocap base oa L s vr vm m1 u (fun j => j == 16 || f j) e' w' → K (a.put nh_o16.dst v) w')) :
    if Region.wanted nh_o16 (yielded nh_O a.tmps) = true then Oper.wp Tryz.prog nh_o16 a w K Q else K (a.put nh_o16.dst undef) w := by
  unfold nh_o16 at hdep hK ⊢
  obtain ⟨hg, r0, r1, j17, j19⟩ := hJ
  have k15 : f 15 = true := hdep { on := 15, ground := .data } (by simp) rfl
  have v25 : a.tmps.getD 25 undef = .agg (snA s vr vm) := hFr.new 15 25 rfl k15
  replace hg := hid hg
  replace r0 := hid r0
  replace r1 := hid r1
  replace j17 := hid j17
  replace j19 := hid j19
  clear hdep hFr hKp h3 h1
  go_simp
  go_at_call 60
  refine (hF2 _).mono ?_
  rintro r w' ⟨rfl, hb'⟩
  have hb2 := hid hb'
  clear hb'
  go_simp
  exact hK.out _ e _ rfl (fun _ _ => rfl) ⟨gtr13 hg.out ⟨hb2.out.os, hb2.out.tape, hb2.out.output, hb2.out.size, fun k hk _ => hb2.out.block k hk⟩, fun h => own_belowL (r0.out h) hb2.out, fun h => own_belowL (r1.out h) hb2.out, fun h => ⟨(j17.out h).1, (j17.out h).2.below hb2.out (j17.out h).2.lt⟩, j19.out⟩
set_option maxRecDepth 100000 in
set_option maxHeartbeats 2000000 in
theorem nh_s17 (A : Act) (w1 : World) (Q : Exit → Act → World → Prop) (b n ocap base : Nat) (oa : Option Addr) (L : List Value) (s : Sn) (vr vm : Value) (m1 u : Int) 
    (h3 : A.tmps.getD 3 undef = .slice oa n ocap) (h1 : A.tmps.getD 1 undef = .pointer (some ⟨b, 0, none⟩)) (qb : Blk w1 b (snA s vr vm)) (nb : some b ≠ (Value.slice oa n ocap).ownBlock) (own : w1.ownsRow base 3 1 (Value.slice oa n ocap) n L) (hbase : base ≤ w1.heap.size) (hn : n ≤ 100) (hF1 : ∀ W, Calls Tryz.prog 59 #[.agg (snA s vr vm)] W fun r w' => r = .returned (.int .i64 m1) ∧ Below W.heap.size W w') (hF2 : ∀ W, Calls Tryz.prog 60 #[.agg (snA s vr vm)] W fun r w' => r = .returned (.int .i64 u) ∧ Below W.heap.size W w')
    (f : Nat → Bool) (e : Nat × Value) (a : Act) (w : World) (hun : f 17 = false) (hdep : ∀ d ∈ nh_o17.after, Region.binds .any d = true → f d.on = true) (hJ : nh_J w1 b n ocap base oa L s vr vm m1 u f e w) (hFr : Fr nh_O A f (fun j => nh_V b n ocap base oa L s vr vm m1 u j e) a) (hKp : Kept nh_O A f a)
    (K : Act → World → Prop) (hK : Hid (∀ v e' w', v = nh_V b n ocap base oa L s vr vm m1 u 17 e' → (∀ j, f j = true → nh_V b n ocap base oa L s vr vm m1 u j e' = nh_V b n ocap base oa L s vr vm m1 u j e) → nh_J w1 b n ocap base oa L s vr vm m1 u (fun j => j == 17 || f j) e' w' → K (a.put nh_o17.dst v) w')) :
    if Region.wanted nh_o17 (yielded nh_O a.tmps) = true then Oper.wp Tryz.prog nh_o17 a w K Q else K (a.put nh_o17.dst undef) w := by
  unfold nh_o17 at hdep hK ⊢
  obtain ⟨hg, r0, r1, j17, j19⟩ := hJ
  have k3 : f 3 = true := hdep { on := 3, ground := .data } (by simp) rfl
  have v13 : a.tmps.getD 13 undef = .int .i64 s.c.f := hFr.new 3 13 rfl k3
  have k6 : f 6 = true := hdep { on := 6, ground := .data } (by simp) rfl
  have v16 : a.tmps.getD 16 undef = .int .i64 s.c.sp := hFr.new 6 16 rfl k6
  have k9 : f 9 = true := hdep { on := 9, ground := .data } (by simp) rfl
  have v19 : a.tmps.getD 19 undef = .int .i64 s.c.pc := hFr.new 9 19 rfl k9
  have k11 : f 11 = true := hdep { on := 11, ground := .data } (by simp) rfl
  have v21 : a.tmps.getD 21 undef = .int .i64 m1 := hFr.new 11 21 rfl k11
  have k14 : f 14 = true := hdep { on := 14, ground := .data } (by simp) rfl
  have v24 : a.tmps.getD 24 undef = .int .i64 s.m.page := hFr.new 14 24 rfl k14
  have k16 : f 16 = true := hdep { on := 16, ground := .data } (by simp) rfl
  have v26 : a.tmps.getD 26 undef = .int .i64 u := hFr.new 16 26 rfl k16
  have v13b : a.tmps[13]?.getD undef = .int .i64 s.c.f := by simpa using v13
  have v16b : a.tmps[16]?.getD undef = .int .i64 s.c.sp := by simpa using v16
  have v19b : a.tmps[19]?.getD undef = .int .i64 s.c.pc := by simpa using v19
  have v21b : a.tmps[21]?.getD undef = .int .i64 m1 := by simpa using v21
  have v24b : a.tmps[24]?.getD undef = .int .i64 s.m.page := by simpa using v24
  have v26b : a.tmps[26]?.getD undef = .int .i64 u := by simpa using v26
  have hal := hid ((Below.refl w.heap.size w).alloc (Nat.le_refl _) (.cells #[.int .i64 s.c.f, .int .i64 s.c.sp, .int .i64 s.c.pc, .int .i64 m1, .int .i64 s.m.page, .int .i64 u] 3))
  have hq := hid (Blk.new w #[.int .i64 s.c.f, .int .i64 s.c.sp, .int .i64 s.c.pc, .int .i64 m1, .int .i64 s.m.page, .int .i64 u] 3)
  have hsz : Hid (w1.heap.size ≤ w.heap.size) := hg.size
  replace hg := hid hg
  replace r0 := hid r0
  replace r1 := hid r1
  replace j17 := hid j17
  replace j19 := hid j19
  clear hdep hFr hKp h3 h1
  go_simp
  exact hK.out _ (w.heap.size, e.2) _ rfl (nh_k17 b n ocap base oa L s vr vm m1 u e w.heap.size hun) ⟨gtr13 hg.out ⟨hal.out.os, hal.out.tape, hal.out.output, hal.out.size, fun k hk _ => hal.out.block k hk⟩, fun h => (r0.out h).alloc _, fun h => (r1.out h).alloc _, fun _ => ⟨hsz.out, hq.out⟩, j19.out⟩
set_option maxRecDepth 100000 in
set_option maxHeartbeats 2000000 in
theorem nh_s18 (A : Act) (w1 : World) (Q : Exit → Act → World → Prop) (b n ocap base : Nat) (oa : Option Addr) (L : List Value) (s : Sn) (vr vm : Value) (m1 u : Int) 
    (h3 : A.tmps.getD 3 undef = .slice oa n ocap) (h1 : A.tmps.getD 1 undef = .pointer (some ⟨b, 0, none⟩)) (qb : Blk w1 b (snA s vr vm)) (nb : some b ≠ (Value.slice oa n ocap).ownBlock) (own : w1.ownsRow base 3 1 (Value.slice oa n ocap) n L) (hbase : base ≤ w1.heap.size) (hn : n ≤ 100) (hF1 : ∀ W, Calls Tryz.prog 59 #[.agg (snA s vr vm)] W fun r w' => r = .returned (.int .i64 m1) ∧ Below W.heap.size W w') (hF2 : ∀ W, Calls Tryz.prog 60 #[.agg (snA s vr vm)] W fun r w' => r = .returned (.int .i64 u) ∧ Below W.heap.size W w')
    (f : Nat → Bool) (e : Nat × Value) (a : Act) (w : World) (hun : f 18 = false) (hdep : ∀ d ∈ nh_o18.after, Region.binds .any d = true → f d.on = true) (hJ : nh_J w1 b n ocap base oa L s vr vm m1 u f e w) (hFr : Fr nh_O A f (fun j => nh_V b n ocap base oa L s vr vm m1 u j e) a) (hKp : Kept nh_O A f a)
    (K : Act → World → Prop) (hK : Hid (∀ v e' w', v = nh_V b n ocap base oa L s vr vm m1 u 18 e' → (∀ j, f j = true → nh_V b n ocap base oa L s vr vm m1 u j e' = nh_V b n ocap base oa L s vr vm m1 u j e) → nh_J w1 b n ocap base oa L s vr vm m1 u (fun j => j == 18 || f j) e' w' → K (a.put nh_o18.dst v) w')) :
    if Region.wanted nh_o18 (yielded nh_O a.tmps) = true then Oper.wp Tryz.prog nh_o18 a w K Q else K (a.put nh_o18.dst undef) w := by
  unfold nh_o18 at hdep hK ⊢
  obtain ⟨hg, r0, r1, j17, j19⟩ := hJ
  have k0 : f 0 = true := hdep { on := 0, ground := .data } (by simp) rfl
  have v10 : a.tmps.getD 10 undef = .slice oa n ocap := hFr.new 0 10 rfl k0
  have k17 : f 17 = true := hdep { on := 17, ground := .data } (by simp) rfl
  have v27 : a.tmps.getD 27 undef = .slice (some ⟨e.1, 0, none⟩) 6 6 := hFr.new 17 27 rfl k17
  obtain ⟨i0, hi0, hz0, hz1, hz2⟩ := info_parts infoIN
  obtain ⟨tt, hbk⟩ := (j17 k17).2
  have hsz := hg.size
  rw [if_pos (show Region.wanted _ _ = true from rfl)]
  refine wp_append_lies w _ _ 26 rfl base 3 i0 _ 1 8 Tryz.underlying26 hi0 hz0 hz1 hz2 rfl (by omega) (Value.slice oa n ocap) n L v10 (r0 hun) ⟨e.1, 0, none⟩ 6 6 [.int .i64 s.c.f, .int .i64 s.c.sp, .int .i64 s.c.pc, .int .i64 m1, .int .i64 s.m.page, .int .i64 u] v27 rfl (World.news_of_block (cs := #[.int .i64 s.c.f, .int .i64 s.c.sp, .int .i64 s.c.pc, .int .i64 m1, .int .i64 s.m.page, .int .i64 u]) (t := tt) (fr := (0, 0)) hbk) (by simp [Value.oneCell']) (by omega) (by unfold maxLen; omega) (by omega) (by omega) _ rfl ?_
  intro gg cap2 w2 ho hgr hat hlt
  exact hK.out _ (e.1, .slice (some ⟨gg, 0, none⟩) (n + 6) cap2) _ rfl (nh_k18 b n ocap base oa L s vr vm m1 u e _ hun (by cases h19 : f 19; rfl; have := (j19 h19).2; rw [hun] at this; cases this)) ⟨gtr13 hg hgr, fun h => (by cases h), fun _ => ho, fun h => ⟨(j17 h).1, (j17 h).2.grown hgr (ne_own own (j17 h).1)⟩, fun h => ⟨k0, rfl⟩⟩
set_option maxRecDepth 100000 in
set_option maxHeartbeats 2000000 in
theorem nh_s19 (A : Act) (w1 : World) (Q : Exit → Act → World → Prop) (b n ocap base : Nat) (oa : Option Addr) (L : List Value) (s : Sn) (vr vm : Value) (m1 u : Int) 
    (h3 : A.tmps.getD 3 undef = .slice oa n ocap) (h1 : A.tmps.getD 1 undef = .pointer (some ⟨b, 0, none⟩)) (qb : Blk w1 b (snA s vr vm)) (nb : some b ≠ (Value.slice oa n ocap).ownBlock) (own : w1.ownsRow base 3 1 (Value.slice oa n ocap) n L) (hbase : base ≤ w1.heap.size) (hn : n ≤ 100) (hF1 : ∀ W, Calls Tryz.prog 59 #[.agg (snA s vr vm)] W fun r w' => r = .returned (.int .i64 m1) ∧ Below W.heap.size W w') (hF2 : ∀ W, Calls Tryz.prog 60 #[.agg (snA s vr vm)] W fun r w' => r = .returned (.int .i64 u) ∧ Below W.heap.size W w')
    (f : Nat → Bool) (e : Nat × Value) (a : Act) (w : World) (hun : f 19 = false) (hdep : ∀ d ∈ nh_o19.after, Region.binds .any d = true → f d.on = true) (hJ : nh_J w1 b n ocap base oa L s vr vm m1 u f e w) (hFr : Fr nh_O A f (fun j => nh_V b n ocap base oa L s vr vm m1 u j e) a) (hKp : Kept nh_O A f a)
    (K : Act → World → Prop) (hK : Hid (∀ v e' w', v = nh_V b n ocap base oa L s vr vm m1 u 19 e' → (∀ j, f j = true → nh_V b n ocap base oa L s vr vm m1 u j e' = nh_V b n ocap base oa L s vr vm m1 u j e) → nh_J w1 b n ocap base oa L s vr vm m1 u (fun j => j == 19 || f j) e' w' → K (a.put nh_o19.dst v) w')) :
    if Region.wanted nh_o19 (yielded nh_O a.tmps) = true then Oper.wp Tryz.prog nh_o19 a w K Q else K (a.put nh_o19.dst undef) w := by
  unfold nh_o19 at hdep hK ⊢
  obtain ⟨hg, r0, r1, j17, j19⟩ := hJ
  have k18 : f 18 = true := hdep { on := 18, ground := .data } (by simp) rfl
  have v28 : a.tmps.getD 28 undef = e.2 := hFr.new 18 28 rfl k18
  have k0 : f 0 = true := hdep { on := 0, ground := .phase } (by simp) rfl
  replace hg := hid hg
  replace r0 := hid r0
  replace r1 := hid r1
  replace j17 := hid j17
  replace j19 := hid j19
  clear hdep hFr hKp h3 h1
  go_simp
  exact hK.out _ e _ rfl (fun _ _ => rfl) ⟨hg.out, r0.out, r1.out, j17.out, fun _ => ⟨k0, k18⟩⟩
set_option maxRecDepth 100000 in
set_option maxHeartbeats 4000000 in
theorem nh_reg (A : Act) (w1 : World) (Q : Exit → Act → World → Prop) (b n ocap base : Nat) (oa : Option Addr) (L : List Value) (s : Sn) (vr vm : Value) (m1 u : Int) 
    (h3 : A.tmps.getD 3 undef = .slice oa n ocap) (h1 : A.tmps.getD 1 undef = .pointer (some ⟨b, 0, none⟩)) (qb : Blk w1 b (snA s vr vm)) (nb : some b ≠ (Value.slice oa n ocap).ownBlock) (own : w1.ownsRow base 3 1 (Value.slice oa n ocap) n L) (hbase : base ≤ w1.heap.size) (hn : n ≤ 100) (hF1 : ∀ W, Calls Tryz.prog 59 #[.agg (snA s vr vm)] W fun r w' => r = .returned (.int .i64 m1) ∧ Below W.heap.size W w') (hF2 : ∀ W, Calls Tryz.prog 60 #[.agg (snA s vr vm)] W fun r w' => r = .returned (.int .i64 u) ∧ Below W.heap.size W w') (hN : 29 ≤ A.tmps.size)
    (h : ∀ (w : World) (e : Nat × Value), w1.grownBy w (Value.slice oa n ocap).ownBlock ∧ w.ownsRow base 3 1 e.2 (n + 6) (L ++ [.int .i64 s.c.f, .int .i64 s.c.sp, .int .i64 s.c.pc, .int .i64 m1, .int .i64 s.m.page, .int .i64 u]) → Q .normal (putsA A [(10, .slice oa n ocap), (11, .pointer (some ⟨b, 0, none⟩)), (12, .pointer (some ⟨b, 8, none⟩)), (13, .int .i64 s.c.f), (14, .pointer (some ⟨b, 0, none⟩)), (15, .pointer (some ⟨b, 9, none⟩)), (16, .int .i64 s.c.sp), (17, .pointer (some ⟨b, 0, none⟩)), (18, .pointer (some ⟨b, 10, none⟩)), (19, .int .i64 s.c.pc), (20, .agg (snA s vr vm)), (21, .int .i64 m1), (22, .pointer (some ⟨b, 14, none⟩)), (23, .pointer (some ⟨b, 16, none⟩)), (24, .int .i64 s.m.page), (25, .agg (snA s vr vm)), (26, .int .i64 u), (27, .slice (some ⟨e.1, 0, none⟩) 6 6), (28, e.2), (3, e.2)]) w) :
    (Code.region 3 #[({ dst := some 10, op := Op.move (Operand.tmp 3), type := 26, pos := "l13_snap.go:51", after := #[], guard := none } : Oper), ({ dst := some 11, op := Op.fieldAddr 33 (Operand.tmp 1) 0, type := 0, pos := "l13_snap.go:51", after := #[], guard := none } : Oper), ({ dst := some 12, op := Op.fieldAddr 25 (Operand.tmp 11) 1, type := 0, pos := "l13_snap.go:51", after := #[{ on := 1, ground := Ground.data }], guard := none } : Oper), ({ dst := some 13, op := Op.load 3 (Operand.tmp 12), type := 3, pos := "l13_snap.go:51", after := #[{ on := 2, ground := Ground.data }], guard := none } : Oper), ({ dst := some 14, op := Op.fieldAddr 33 (Operand.tmp 1) 0, type := 0, pos := "l13_snap.go:51", after := #[], guard := none } : Oper), ({ dst := some 15, op := Op.fieldAddr 25 (Operand.tmp 14) 2, type := 0, pos := "l13_snap.go:51", after := #[{ on := 4, ground := Ground.data }], guard := none } : Oper), ({ dst := some 16, op := Op.load 3 (Operand.tmp 15), type := 3, pos := "l13_snap.go:51", after := #[{ on := 5, ground := Ground.data }], guard := none } : Oper), ({ dst := some 17, op := Op.fieldAddr 33 (Operand.tmp 1) 0, type := 0, pos := "l13_snap.go:51", after := #[], guard := none } : Oper), ({ dst := some 18, op := Op.fieldAddr 25 (Operand.tmp 17) 3, type := 0, pos := "l13_snap.go:51", after := #[{ on := 7, ground := Ground.data }], guard := none } : Oper), ({ dst := some 19, op := Op.load 3 (Operand.tmp 18), type := 3, pos := "l13_snap.go:51", after := #[{ on := 8, ground := Ground.data }], guard := none } : Oper), ({ dst := some 20, op := Op.load 33 (Operand.tmp 1), type := 33, pos := "l13_snap.go:51", after := #[], guard := none } : Oper), ({ dst := some 21, op := Op.call { callee := Callee.value (Operand.func 59), args := #[Operand.tmp 20], argTypes := #[33] }, type := 3, pos := "l13_snap.go:51", after := #[{ on := 10, ground := Ground.data }], guard := none } : Oper), ({ dst := some 22, op := Op.fieldAddr 33 (Operand.tmp 1) 1, type := 0, pos := "l13_snap.go:51", after := #[], guard := none } : Oper), ({ dst := some 23, op := Op.fieldAddr 29 (Operand.tmp 22) 2, type := 0, pos := "l13_snap.go:51", after := #[{ on := 12, ground := Ground.data }], guard := none } : Oper), ({ dst := some 24, op := Op.load 3 (Operand.tmp 23), type := 3, pos := "l13_snap.go:51", after := #[{ on := 13, ground := Ground.data }], guard := none } : Oper), ({ dst := some 25, op := Op.load 33 (Operand.tmp 1), type := 33, pos := "l13_snap.go:51", after := #[], guard := none } : Oper), ({ dst := some 26, op := Op.call { callee := Callee.value (Operand.func 60), args := #[Operand.tmp 25], argTypes := #[33] }, type := 3, pos := "l13_snap.go:51", after := #[{ on := 15, ground := Ground.data }, { on := 11, ground := Ground.chain }], guard := none } : Oper), ({ dst := some 27, op := Op.buildSlice 26 6 #[(0, Operand.tmp 13), (1, Operand.tmp 16), (2, Operand.tmp 19), (3, Operand.tmp 21), (4, Operand.tmp 24), (5, Operand.tmp 26)], type := 26, pos := "l13_snap.go:51", after := #[{ on := 3, ground := Ground.data }, { on := 6, ground := Ground.data }, { on := 9, ground := Ground.data }, { on := 11, ground := Ground.data }, { on := 14, ground := Ground.data }, { on := 16, ground := Ground.data }], guard := none } : Oper), ({ dst := some 28, op := Op.call { callee := Callee.builtin Builtin.append, args := #[Operand.tmp 10, Operand.tmp 27], argTypes := #[26, 26] }, type := 26, pos := "l13_snap.go:51", after := #[{ on := 0, ground := Ground.data }, { on := 17, ground := Ground.data }, { on := 16, ground := Ground.chain }], guard := none } : Oper), ({ dst := some 3, op := Op.assign (Operand.tmp 28), type := 26, pos := "l13_snap.go:51", after := #[{ on := 18, ground := Ground.data }, { on := 18, ground := Ground.chain }, { on := 0, ground := Ground.phase }, { on := 1, ground := Ground.phase }, { on := 2, ground := Ground.phase }, { on := 3, ground := Ground.phase }, { on := 4, ground := Ground.phase }, { on := 5, ground := Ground.phase }, { on := 6, ground := Ground.phase }, { on := 7, ground := Ground.phase }, { on := 8, ground := Ground.phase }, { on := 9, ground := Ground.phase }, { on := 10, ground := Ground.phase }, { on := 11, ground := Ground.phase }, { on := 12, ground := Ground.phase }, { on := 13, ground := Ground.phase }, { on := 14, ground := Ground.phase }, { on := 15, ground := Ground.phase }, { on := 16, ground := Ground.phase }, { on := 17, ground := Ground.phase }, { on := 18, ground := Ground.phase }], guard := none } : Oper)] true).wp Tryz.prog Q A w1 := by
  show (Code.region 3 nh_O true).wp Tryz.prog Q A w1
  refine wp_region_slotsK (E := Nat × Value) (nh_V b n ocap base oa L s vr vm m1 u) (nh_J w1 b n ocap base oa L s vr vm m1 u) (by kernel_rfl) (by kernel_rfl) (by kernel_rfl) (fun i s hi => ?_) ?_ (0, undef) ⟨⟨rfl, rfl, rfl, Nat.le_refl _, fun _ _ _ => rfl⟩, fun _ => own, fun h => (by cases h), fun h => (by cases h), fun h => (by cases h)⟩ ?_
  · cases hc : ([10, 11, 12, 13, 14, 15, 16, 17, 18, 19, 20, 21, 22, 23, 24, 25, 26, 27, 28, 3] : List Nat).contains s
    · exact absurd hi (nh_no hc i)
    · have : s ∈ ([10, 11, 12, 13, 14, 15, 16, 17, 18, 19, 20, 21, 22, 23, 24, 25, 26, 27, 28, 3] : List Nat) := by simpa using hc
      simp only [List.mem_cons, List.not_mem_nil, or_false] at this
      omega
  · intro f e a w i o hi ho hun hdep hJ hFr hKp K hK
    have hi8 : i < 20 := hi
    rcases (by omega : i = 0 ∨ i = 1 ∨ i = 2 ∨ i = 3 ∨ i = 4 ∨ i = 5 ∨ i = 6 ∨ i = 7 ∨ i = 8 ∨ i = 9 ∨ i = 10 ∨ i = 11 ∨ i = 12 ∨ i = 13 ∨ i = 14 ∨ i = 15 ∨ i = 16 ∨ i = 17 ∨ i = 18 ∨ i = 19) with rfl | rfl | rfl | rfl | rfl | rfl | rfl | rfl | rfl | rfl | rfl | rfl | rfl | rfl | rfl | rfl | rfl | rfl | rfl | rfl
    · obtain rfl := Option.some.inj ho
      exact nh_s0 A w1 Q b n ocap base oa L s vr vm m1 u h3 h1 qb nb own hbase hn hF1 hF2 f e a w hun hdep hJ hFr hKp K hK
    · obtain rfl := Option.some.inj ho
      exact nh_s1 A w1 Q b n ocap base oa L s vr vm m1 u h3 h1 qb nb own hbase hn hF1 hF2 f e a w hun hdep hJ hFr hKp K hK
    · obtain rfl := Option.some.inj ho
      exact nh_s2 A w1 Q b n ocap base oa L s vr vm m1 u h3 h1 qb nb own hbase hn hF1 hF2 f e a w hun hdep hJ hFr hKp K hK
    · obtain rfl := Option.some.inj ho
      exact nh_s3 A w1 Q b n ocap base oa L s vr vm m1 u h3 h1 qb nb own hbase hn hF1 hF2 f e a w hun hdep hJ hFr hKp K hK
    · obtain rfl := Option.some.inj ho
      exact nh_s4 A w1 Q b n ocap base oa L s vr vm m1 u h3 h1 qb nb own hbase hn hF1 hF2 f e a w hun hdep hJ hFr hKp K hK
    · obtain rfl := Option.some.inj ho
      exact nh_s5 A w1 Q b n ocap base oa L s vr vm m1 u h3 h1 qb nb own hbase hn hF1 hF2 f e a w hun hdep hJ hFr hKp K hK
    · obtain rfl := Option.some.inj ho
      exact nh_s6 A w1 Q b n ocap base oa L s vr vm m1 u h3 h1 qb nb own hbase hn hF1 hF2 f e a w hun hdep hJ hFr hKp K hK
    · obtain rfl := Option.some.inj ho
      exact nh_s7 A w1 Q b n ocap base oa L s vr vm m1 u h3 h1 qb nb own hbase hn hF1 hF2 f e a w hun hdep hJ hFr hKp K hK
    · obtain rfl := Option.some.inj ho
      exact nh_s8 A w1 Q b n ocap base oa L s vr vm m1 u h3 h1 qb nb own hbase hn hF1 hF2 f e a w hun hdep hJ hFr hKp K hK
    · obtain rfl := Option.some.inj ho
      exact nh_s9 A w1 Q b n ocap base oa L s vr vm m1 u h3 h1 qb nb own hbase hn hF1 hF2 f e a w hun hdep hJ hFr hKp K hK
    · obtain rfl := Option.some.inj ho
      exact nh_s10 A w1 Q b n ocap base oa L s vr vm m1 u h3 h1 qb nb own hbase hn hF1 hF2 f e a w hun hdep hJ hFr hKp K hK
    · obtain rfl := Option.some.inj ho
      exact nh_s11 A w1 Q b n ocap base oa L s vr vm m1 u h3 h1 qb nb own hbase hn hF1 hF2 f e a w hun hdep hJ hFr hKp K hK
    · obtain rfl := Option.some.inj ho
      exact nh_s12 A w1 Q b n ocap base oa L s vr vm m1 u h3 h1 qb nb own hbase hn hF1 hF2 f e a w hun hdep hJ hFr hKp K hK
    · obtain rfl := Option.some.inj ho
      exact nh_s13 A w1 Q b n ocap base oa L s vr vm m1 u h3 h1 qb nb own hbase hn hF1 hF2 f e a w hun hdep hJ hFr hKp K hK
    · obtain rfl := Option.some.inj ho
      exact nh_s14 A w1 Q b n ocap base oa L s vr vm m1 u h3 h1 qb nb own hbase hn hF1 hF2 f e a w hun hdep hJ hFr hKp K hK
    · obtain rfl := Option.some.inj ho
      exact nh_s15 A w1 Q b n ocap base oa L s vr vm m1 u h3 h1 qb nb own hbase hn hF1 hF2 f e a w hun hdep hJ hFr hKp K hK
    · obtain rfl := Option.some.inj ho
      exact nh_s16 A w1 Q b n ocap base oa L s vr vm m1 u h3 h1 qb nb own hbase hn hF1 hF2 f e a w hun hdep hJ hFr hKp K hK
    · obtain rfl := Option.some.inj ho
      exact nh_s17 A w1 Q b n ocap base oa L s vr vm m1 u h3 h1 qb nb own hbase hn hF1 hF2 f e a w hun hdep hJ hFr hKp K hK
    · obtain rfl := Option.some.inj ho
      exact nh_s18 A w1 Q b n ocap base oa L s vr vm m1 u h3 h1 qb nb own hbase hn hF1 hF2 f e a w hun hdep hJ hFr hKp K hK
    · obtain rfl := Option.some.inj ho
      exact nh_s19 A w1 Q b n ocap base oa L s vr vm m1 u h3 h1 qb nb own hbase hn hF1 hF2 f e a w hun hdep hJ hFr hKp K hK
  · intro f e a w hall hJ hFr
    have := h w e ⟨hJ.1, hJ.2.2.1 (hall 18 (by decide))⟩
    rw [hFr.eq [(10, .slice oa n ocap), (11, .pointer (some ⟨b, 0, none⟩)), (12, .pointer (some ⟨b, 8, none⟩)), (13, .int .i64 s.c.f), (14, .pointer (some ⟨b, 0, none⟩)), (15, .pointer (some ⟨b, 9, none⟩)), (16, .int .i64 s.c.sp), (17, .pointer (some ⟨b, 0, none⟩)), (18, .pointer (some ⟨b, 10, none⟩)), (19, .int .i64 s.c.pc), (20, .agg (snA s vr vm)), (21, .int .i64 m1), (22, .pointer (some ⟨b, 14, none⟩)), (23, .pointer (some ⟨b, 16, none⟩)), (24, .int .i64 s.m.page), (25, .agg (snA s vr vm)), (26, .int .i64 u), (27, .slice (some ⟨e.1, 0, none⟩) 6 6), (28, e.2), (3, e.2)] (fun s hs => ?_) (fun i s hi => ?_)]
    · exact this
    · have hne : ∀ k ∈ ([10, 11, 12, 13, 14, 15, 16, 17, 18, 19, 20, 21, 22, 23, 24, 25, 26, 27, 28, 3] : List Nat), k ≠ s := by
        intro k hk e2
        subst e2
        simp only [List.mem_cons, List.not_mem_nil, or_false] at hk
        rcases hk with rfl | rfl | rfl | rfl | rfl | rfl | rfl | rfl | rfl | rfl | rfl | rfl | rfl | rfl | rfl | rfl | rfl | rfl | rfl | rfl
        · exact hs 0 rfl
        · exact hs 1 rfl
        · exact hs 2 rfl
        · exact hs 3 rfl
        · exact hs 4 rfl
        · exact hs 5 rfl
        · exact hs 6 rfl
        · exact hs 7 rfl
        · exact hs 8 rfl
        · exact hs 9 rfl
        · exact hs 10 rfl
        · exact hs 11 rfl
        · exact hs 12 rfl
        · exact hs 13 rfl
        · exact hs 14 rfl
        · exact hs 15 rfl
        · exact hs 16 rfl
        · exact hs 17 rfl
        · exact hs 18 rfl
        · exact hs 19 rfl
      simp only [lookA]
      simp [hne]
    · have hl : i < 20 := by
        rcases Nat.lt_or_ge i 20 with h1 | h1
        · exact h1
        · unfold dstAt at hi
          rw [Array.getElem?_eq_none (by exact h1)] at hi
          cases hi
      refine ⟨hall i hl, ?_⟩
      rcases (by omega : i = 0 ∨ i = 1 ∨ i = 2 ∨ i = 3 ∨ i = 4 ∨ i = 5 ∨ i = 6 ∨ i = 7 ∨ i = 8 ∨ i = 9 ∨ i = 10 ∨ i = 11 ∨ i = 12 ∨ i = 13 ∨ i = 14 ∨ i = 15 ∨ i = 16 ∨ i = 17 ∨ i = 18 ∨ i = 19) with rfl | rfl | rfl | rfl | rfl | rfl | rfl | rfl | rfl | rfl | rfl | rfl | rfl | rfl | rfl | rfl | rfl | rfl | rfl | rfl
      all_goals first
        | (cases hi; rfl)
        | cases hi
end Go.Proofs.YtghcagibdcblnaaGreatDoor
