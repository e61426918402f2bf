/- SameSnap: the program. -/
import Derived.Test.YtghcagibdcblnaaGreatDoorF34
namespace Go.Proofs.YtghcagibdcblnaaGreatDoor
open Go.ChangeShapes Go.WideShapes Go.ChangeAt Go.RowKit
set_option linter.unusedVariables false
set_option linter.unusedSimpArgs false

def ng_V (bA bB : Nat) (s s2 : Sn) (vr vm vr2 vm2 : Value) (oa ob te : Bool) (ta tb : ByteArray) : Nat → Unit → Value := fun i e => match i with
  | 0 => .agg (snA s vr vm)
  | 1 => .bool oa
  | 2 => .bool oa
  | 3 => (if oa = true then .agg (snA s2 vr2 vm2) else undef)
  | 4 => (if oa = true then .bool ob else undef)
  | 5 => .bool (oa && ob)
  | 6 => .bool (oa && ob)
  | 7 => (if (oa && ob) = true then .agg (snA s vr vm) else undef)
  | 8 => (if (oa && ob) = true then .string ta else undef)
  | 9 => (if (oa && ob) = true then .agg (snA s2 vr2 vm2) else undef)
  | 10 => (if (oa && ob) = true then .string tb else undef)
  | 11 => (if (oa && ob) = true then .bool te else undef)
  | 12 => .bool (oa && ob && te)
  | 13 => .bool (oa && ob && te)
  | _ => undef
def ng_J (w1 : World) (bA bB : Nat) (s s2 : Sn) (vr vm vr2 vm2 : Value) (oa ob te : Bool) (ta tb : ByteArray) (f : Nat → Bool) (e : Unit) (w : World) : Prop :=
  Below w1.heap.size w1 w
def ng_o0 : Oper := ({ dst := some 5, op := Op.load 33 (Operand.tmp 2), type := 33, pos := "l13_snap.go:214", after := #[], guard := none } : Oper)
def ng_o1 : Oper := ({ dst := some 6, op := Op.call { callee := Callee.value (Operand.func 15), args := #[Operand.tmp 5], argTypes := #[33] }, type := 4, pos := "l13_snap.go:214", after := #[{ on := 0, ground := Ground.data }], guard := none } : Oper)
def ng_o2 : Oper := ({ dst := some 7, op := Op.move (Operand.tmp 6), type := 4, pos := "l13_snap.go:214", after := #[{ on := 1, ground := Ground.data }, { on := 1, ground := Ground.chain }], guard := none } : Oper)
def ng_o3 : Oper := ({ dst := some 8, op := Op.load 33 (Operand.tmp 3), type := 33, pos := "l13_snap.go:214", after := #[{ on := 2, ground := Ground.guard }], guard := some (2, true) } : Oper)
def ng_o4 : Oper := ({ dst := some 9, op := Op.call { callee := Callee.value (Operand.func 15), args := #[Operand.tmp 8], argTypes := #[33] }, type := 4, pos := "l13_snap.go:214", after := #[{ on := 3, ground := Ground.data }, { on := 2, ground := Ground.chain }, { on := 2, ground := Ground.guard }], guard := some (2, true) } : Oper)
def ng_o5 : Oper := ({ dst := some 10, op := Op.pick (Operand.tmp 7) (Operand.tmp 9) (Operand.const (Value.bool false)), type := 4, pos := "l13_snap.go:214", after := #[{ on := 2, ground := Ground.data }, { on := 4, ground := Ground.data }], guard := none } : Oper)
def ng_o6 : Oper := ({ dst := some 11, op := Op.move (Operand.tmp 10), type := 4, pos := "l13_snap.go:214", after := #[{ on := 5, ground := Ground.data }, { on := 4, ground := Ground.chain }], guard := none } : Oper)
def ng_o7 : Oper := ({ dst := some 12, op := Op.load 33 (Operand.tmp 2), type := 33, pos := "l13_snap.go:214", after := #[{ on := 6, ground := Ground.guard }], guard := some (6, true) } : Oper)
def ng_o8 : Oper := ({ dst := some 13, op := Op.call { callee := Callee.value (Operand.func 16), args := #[Operand.tmp 12], argTypes := #[33] }, type := 9, pos := "l13_snap.go:214", after := #[{ on := 7, ground := Ground.data }, { on := 6, ground := Ground.chain }, { on := 6, ground := Ground.guard }], guard := some (6, true) } : Oper)
def ng_o9 : Oper := ({ dst := some 14, op := Op.load 33 (Operand.tmp 3), type := 33, pos := "l13_snap.go:214", after := #[{ on := 6, ground := Ground.guard }], guard := some (6, true) } : Oper)
def ng_o10 : Oper := ({ dst := some 15, op := Op.call { callee := Callee.value (Operand.func 16), args := #[Operand.tmp 14], argTypes := #[33] }, type := 9, pos := "l13_snap.go:214", after := #[{ on := 9, ground := Ground.data }, { on := 8, ground := Ground.chain }, { on := 6, ground := Ground.guard }], guard := some (6, true) } : Oper)
def ng_o11 : Oper := ({ dst := some 16, op := Op.binOp BinOp.eql 9 (Operand.tmp 13) (Operand.tmp 15) 9, type := 4, pos := "l13_snap.go:214", after := #[{ on := 8, ground := Ground.data }, { on := 10, ground := Ground.data }, { on := 6, ground := Ground.guard }], guard := some (6, true) } : Oper)
def ng_o12 : Oper := ({ dst := some 17, op := Op.pick (Operand.tmp 11) (Operand.tmp 16) (Operand.const (Value.bool false)), type := 4, pos := "l13_snap.go:214", after := #[{ on := 6, ground := Ground.data }, { on := 11, ground := Ground.data }], guard := none } : Oper)
def ng_o13 : Oper := ({ dst := some 4, op := Op.assign (Operand.tmp 17), type := 4, pos := "l13_snap.go:214", after := #[{ on := 12, ground := Ground.data }, { on := 10, ground := Ground.chain }, { on := 0, ground := Ground.phase }, { on := 1, ground := Ground.phase }, { on := 2, ground := Ground.phase }, { on := 3, ground := Ground.phase }, { on := 4, ground := Ground.phase }, { on := 5, ground := Ground.phase }, { on := 6, ground := Ground.phase }, { on := 7, ground := Ground.phase }, { on := 8, ground := Ground.phase }, { on := 9, ground := Ground.phase }, { on := 10, ground := Ground.phase }, { on := 11, ground := Ground.phase }, { on := 12, ground := Ground.phase }], guard := none } : Oper)
def ng_O : Array Oper := #[ng_o0, ng_o1, ng_o2, ng_o3, ng_o4, ng_o5, ng_o6, ng_o7, ng_o8, ng_o9, ng_o10, ng_o11, ng_o12, ng_o13]
theorem ng_no {s : Nat} (h : ([5, 6, 7, 8, 9, 10, 11, 12, 13, 14, 15, 16, 17, 4] : List Nat).contains s = false) : ∀ i, dstAt ng_O i ≠ some s := by
  intro i hi
  have hl : i < 14 := by
    rcases Nat.lt_or_ge i 14 with h1 | h1
    · exact h1
    · unfold dstAt at hi
      rw [Array.getElem?_eq_none (by exact h1)] at hi
      cases hi
  rcases (by omega : i = 0 ∨ i = 1 ∨ i = 2 ∨ i = 3 ∨ i = 4 ∨ i = 5 ∨ i = 6 ∨ i = 7 ∨ i = 8 ∨ i = 9 ∨ i = 10 ∨ i = 11 ∨ i = 12 ∨ i = 13) with rfl | rfl | rfl | rfl | rfl | rfl | rfl | rfl | rfl | rfl | rfl | rfl | rfl | rfl
  all_goals first
    | (cases hi; simp at h)
    | cases hi
set_option maxRecDepth 100000 in
set_option maxHeartbeats 2000000 in
theorem ng_s0 (A : Act) (w1 : World) (Q : Exit → Act → World → Prop) (bA bB : Nat) (s s2 : Sn) (vr vm vr2 vm2 : Value) (oa ob te : Bool) (ta tb : ByteArray) 
    (h2 : A.tmps.getD 2 undef = .pointer (some ⟨bA, 0, none⟩)) (h3 : A.tmps.getD 3 undef = .pointer (some ⟨bB, 0, none⟩)) (qA : Blk w1 bA (snA s vr vm)) (qB : Blk w1 bB (snA s2 vr2 vm2)) (cA : (∀ W, Below w1.heap.size w1 W → Calls Tryz.prog 15 #[.agg (snA s vr vm)] W fun r w' => r = .returned (.bool oa) ∧ Below W.heap.size W w')) (cB : (∀ W, Below w1.heap.size w1 W → Calls Tryz.prog 15 #[.agg (snA s2 vr2 vm2)] W fun r w' => r = .returned (.bool ob) ∧ Below W.heap.size W w')) (tA : oa = true → ob = true → (∀ W, Below w1.heap.size w1 W → Calls Tryz.prog 16 #[.agg (snA s vr vm)] W fun r w' => r = .returned (.string ta) ∧ Below W.heap.size W w')) (tB : oa = true → ob = true → (∀ W, Below w1.heap.size w1 W → Calls Tryz.prog 16 #[.agg (snA s2 vr2 vm2)] W fun r w' => r = .returned (.string tb) ∧ Below W.heap.size W w')) (hte : (ta.toList == tb.toList) = te)
    (f : Nat → Bool) (e : Unit) (a : Act) (w : World) (hun : f 0 = false) (hdep : ∀ d ∈ ng_o0.after, Region.binds .any d = true → f d.on = true) (hJ : ng_J w1 bA bB s s2 vr vm vr2 vm2 oa ob te ta tb f e w) (hFr : Fr ng_O A f (fun j => ng_V bA bB s s2 vr vm vr2 vm2 oa ob te ta tb j e) a)
    (K : Act → World → Prop) (hK : Hid (∀ v e' w', v = ng_V bA bB s s2 vr vm vr2 vm2 oa ob te ta tb 0 e' → (∀ j, f j = true → ng_V bA bB s s2 vr vm vr2 vm2 oa ob te ta tb j e' = ng_V bA bB s s2 vr vm vr2 vm2 oa ob te ta tb j e) → ng_J w1 bA bB s s2 vr vm vr2 vm2 oa ob te ta tb (fun j => j == 0 || f j) e' w' → K (a.put ng_o0.dst v) w')) :
    if Region.wanted ng_o0 (yielded ng_O a.tmps) = true then Oper.wp Tryz.prog ng_o0 a w K Q else K (a.put ng_o0.dst undef) w := by
  unfold ng_o0 at hdep hK ⊢
  have hK9 := hK
  have hB : Below w1.heap.size w1 w := hJ
  have v2 := (hFr.old 2 (ng_no (by decide))).trans h2
  have x0 := sn_all (qA.below hB qA.lt)
  rw [if_pos (show Region.wanted _ _ = true from rfl)]
  refine wp_load_mid 33 _ rfl bA 0 v2 (snA s vr vm).toList _ x0 Tryz.underlying33 rfl (szS s vr vm) ?_
  exact hK9.out _ e _ rfl (fun _ _ => rfl) hB
set_option maxRecDepth 100000 in
set_option maxHeartbeats 2000000 in
theorem ng_s1 (A : Act) (w1 : World) (Q : Exit → Act → World → Prop) (bA bB : Nat) (s s2 : Sn) (vr vm vr2 vm2 : Value) (oa ob te : Bool) (ta tb : ByteArray) 
    (h2 : A.tmps.getD 2 undef = .pointer (some ⟨bA, 0, none⟩)) (h3 : A.tmps.getD 3 undef = .pointer (some ⟨bB, 0, none⟩)) (qA : Blk w1 bA (snA s vr vm)) (qB : Blk w1 bB (snA s2 vr2 vm2)) (cA : (∀ W, Below w1.heap.size w1 W → Calls Tryz.prog 15 #[.agg (snA s vr vm)] W fun r w' => r = .returned (.bool oa) ∧ Below W.heap.size W w')) (cB : (∀ W, Below w1.heap.size w1 W → Calls Tryz.prog 15 #[.agg (snA s2 vr2 vm2)] W fun r w' => r = .returned (.bool ob) ∧ Below W.heap.size W w')) (tA : oa = true → ob = true → (∀ W, Below w1.heap.size w1 W → Calls Tryz.prog 16 #[.agg (snA s vr vm)] W fun r w' => r = .returned (.string ta) ∧ Below W.heap.size W w')) (tB : oa = true → ob = true → (∀ W, Below w1.heap.size w1 W → Calls Tryz.prog 16 #[.agg (snA s2 vr2 vm2)] W fun r w' => r = .returned (.string tb) ∧ Below W.heap.size W w')) (hte : (ta.toList == tb.toList) = te)
    (f : Nat → Bool) (e : Unit) (a : Act) (w : World) (hun : f 1 = false) (hdep : ∀ d ∈ ng_o1.after, Region.binds .any d = true → f d.on = true) (hJ : ng_J w1 bA bB s s2 vr vm vr2 vm2 oa ob te ta tb f e w) (hFr : Fr ng_O A f (fun j => ng_V bA bB s s2 vr vm vr2 vm2 oa ob te ta tb j e) a)
    (K : Act → World → Prop) (hK : Hid (∀ v e' w', v = ng_V bA bB s s2 vr vm vr2 vm2 oa ob te ta tb 1 e' → (∀ j, f j = true → ng_V bA bB s s2 vr vm vr2 vm2 oa ob te ta tb j e' = ng_V bA bB s s2 vr vm vr2 vm2 oa ob te ta tb j e) → ng_J w1 bA bB s s2 vr vm vr2 vm2 oa ob te ta tb (fun j => j == 1 || f j) e' w' → K (a.put ng_o1.dst v) w')) :
    if Region.wanted ng_o1 (yielded ng_O a.tmps) = true then Oper.wp Tryz.prog ng_o1 a w K Q else K (a.put ng_o1.dst undef) w := by
  unfold ng_o1 at hdep hK ⊢
  have hK9 := hK
  have hB : Below w1.heap.size w1 w := hJ
  have k0 : f 0 = true := hdep { on := 0, ground := .data } (by simp) rfl
  have v5 : a.tmps.getD 5 undef = .agg (snA s vr vm) := hFr.new 0 5 rfl k0
  replace hB := hid hB
  replace cA := hid cA
  replace cB := hid cB
  replace tA := hid tA
  replace tB := hid tB
  replace qA := hid qA
  replace qB := hid qB
  clear hdep hFr h2 h3 hJ
  go_simp
  go_at_call 15
  refine (cA.out w hB.out).mono ?_
  rintro r w' ⟨rfl, hb'⟩
  replace hb' := hid hb'
  go_simp
  exact hK9.out _ e _ rfl (fun _ _ => rfl) (new_trans hB.out hb'.out)
set_option maxRecDepth 100000 in
set_option maxHeartbeats 2000000 in
theorem ng_s2 (A : Act) (w1 : World) (Q : Exit → Act → World → Prop) (bA bB : Nat) (s s2 : Sn) (vr vm vr2 vm2 : Value) (oa ob te : Bool) (ta tb : ByteArray) 
    (h2 : A.tmps.getD 2 undef = .pointer (some ⟨bA, 0, none⟩)) (h3 : A.tmps.getD 3 undef = .pointer (some ⟨bB, 0, none⟩)) (qA : Blk w1 bA (snA s vr vm)) (qB : Blk w1 bB (snA s2 vr2 vm2)) (cA : (∀ W, Below w1.heap.size w1 W → Calls Tryz.prog 15 #[.agg (snA s vr vm)] W fun r w' => r = .returned (.bool oa) ∧ Below W.heap.size W w')) (cB : (∀ W, Below w1.heap.size w1 W → Calls Tryz.prog 15 #[.agg (snA s2 vr2 vm2)] W fun r w' => r = .returned (.bool ob) ∧ Below W.heap.size W w')) (tA : oa = true → ob = true → (∀ W, Below w1.heap.size w1 W → Calls Tryz.prog 16 #[.agg (snA s vr vm)] W fun r w' => r = .returned (.string ta) ∧ Below W.heap.size W w')) (tB : oa = true → ob = true → (∀ W, Below w1.heap.size w1 W → Calls Tryz.prog 16 #[.agg (snA s2 vr2 vm2)] W fun r w' => r = .returned (.string tb) ∧ Below W.heap.size W w')) (hte : (ta.toList == tb.toList) = te)
    (f : Nat → Bool) (e : Unit) (a : Act) (w : World) (hun : f 2 = false) (hdep : ∀ d ∈ ng_o2.after, Region.binds .any d = true → f d.on = true) (hJ : ng_J w1 bA bB s s2 vr vm vr2 vm2 oa ob te ta tb f e w) (hFr : Fr ng_O A f (fun j => ng_V bA bB s s2 vr vm vr2 vm2 oa ob te ta tb j e) a)
    (K : Act → World → Prop) (hK : Hid (∀ v e' w', v = ng_V bA bB s s2 vr vm vr2 vm2 oa ob te ta tb 2 e' → (∀ j, f j = true → ng_V bA bB s s2 vr vm vr2 vm2 oa ob te ta tb j e' = ng_V bA bB s s2 vr vm vr2 vm2 oa ob te ta tb j e) → ng_J w1 bA bB s s2 vr vm vr2 vm2 oa ob te ta tb (fun j => j == 2 || f j) e' w' → K (a.put ng_o2.dst v) w')) :
    if Region.wanted ng_o2 (yielded ng_O a.tmps) = true then Oper.wp Tryz.prog ng_o2 a w K Q else K (a.put ng_o2.dst undef) w := by
  unfold ng_o2 at hdep hK ⊢
  have hK9 := hK
  have hB : Below w1.heap.size w1 w := hJ
  have k1 : f 1 = true := hdep { on := 1, ground := .data } (by simp) rfl
  have v6 : a.tmps.getD 6 undef = .bool oa := hFr.new 1 6 rfl k1
  replace hB := hid hB
  replace cA := hid cA
  replace cB := hid cB
  replace tA := hid tA
  replace tB := hid tB
  replace qA := hid qA
  replace qB := hid qB
  clear hdep hFr h2 h3 hJ
  go_simp
  exact hK9.out _ e _ rfl (fun _ _ => rfl) hB.out
set_option maxRecDepth 100000 in
set_option maxHeartbeats 2000000 in
theorem ng_s3 (A : Act) (w1 : World) (Q : Exit → Act → World → Prop) (bA bB : Nat) (s s2 : Sn) (vr vm vr2 vm2 : Value) (oa ob te : Bool) (ta tb : ByteArray) 
    (h2 : A.tmps.getD 2 undef = .pointer (some ⟨bA, 0, none⟩)) (h3 : A.tmps.getD 3 undef = .pointer (some ⟨bB, 0, none⟩)) (qA : Blk w1 bA (snA s vr vm)) (qB : Blk w1 bB (snA s2 vr2 vm2)) (cA : (∀ W, Below w1.heap.size w1 W → Calls Tryz.prog 15 #[.agg (snA s vr vm)] W fun r w' => r = .returned (.bool oa) ∧ Below W.heap.size W w')) (cB : (∀ W, Below w1.heap.size w1 W → Calls Tryz.prog 15 #[.agg (snA s2 vr2 vm2)] W fun r w' => r = .returned (.bool ob) ∧ Below W.heap.size W w')) (tA : oa = true → ob = true → (∀ W, Below w1.heap.size w1 W → Calls Tryz.prog 16 #[.agg (snA s vr vm)] W fun r w' => r = .returned (.string ta) ∧ Below W.heap.size W w')) (tB : oa = true → ob = true → (∀ W, Below w1.heap.size w1 W → Calls Tryz.prog 16 #[.agg (snA s2 vr2 vm2)] W fun r w' => r = .returned (.string tb) ∧ Below W.heap.size W w')) (hte : (ta.toList == tb.toList) = te)
    (f : Nat → Bool) (e : Unit) (a : Act) (w : World) (hun : f 3 = false) (hdep : ∀ d ∈ ng_o3.after, Region.binds .any d = true → f d.on = true) (hJ : ng_J w1 bA bB s s2 vr vm vr2 vm2 oa ob te ta tb f e w) (hFr : Fr ng_O A f (fun j => ng_V bA bB s s2 vr vm vr2 vm2 oa ob te ta tb j e) a)
    (K : Act → World → Prop) (hK : Hid (∀ v e' w', v = ng_V bA bB s s2 vr vm vr2 vm2 oa ob te ta tb 3 e' → (∀ j, f j = true → ng_V bA bB s s2 vr vm vr2 vm2 oa ob te ta tb j e' = ng_V bA bB s s2 vr vm vr2 vm2 oa ob te ta tb j e) → ng_J w1 bA bB s s2 vr vm vr2 vm2 oa ob te ta tb (fun j => j == 3 || f j) e' w' → K (a.put ng_o3.dst v) w')) :
    if Region.wanted ng_o3 (yielded ng_O a.tmps) = true then Oper.wp Tryz.prog ng_o3 a w K Q else K (a.put ng_o3.dst undef) w := by
  unfold ng_o3 at hdep hK ⊢
  have hK9 := hK
  have hB : Below w1.heap.size w1 w := hJ
  have k2 : f 2 = true := hdep { on := 2, ground := .guard } (by simp) rfl
  have v7 : a.tmps.getD 7 undef = .bool oa := hFr.new 2 7 rfl k2
  cases oa
  · rw [if_neg (by rw [want_of (j := 2) (s := 7) (want := true) (b := false) rfl rfl v7]; decide)]
    exact hK9.out _ e _ rfl (fun _ _ => rfl) hB
  · have v3 := (hFr.old 3 (ng_no (by decide))).trans h3
    have x0 := sn_all (qB.below hB qB.lt)
    rw [if_pos (by rw [want_of (j := 2) (s := 7) (want := true) (b := true) rfl rfl v7]; rfl)]
    refine wp_load_mid 33 _ rfl bB 0 v3 (snA s2 vr2 vm2).toList _ x0 Tryz.underlying33 rfl (szS s2 vr2 vm2) ?_
    exact hK9.out _ e _ rfl (fun _ _ => rfl) hB
set_option maxRecDepth 100000 in
set_option maxHeartbeats 2000000 in
theorem ng_s4 (A : Act) (w1 : World) (Q : Exit → Act → World → Prop) (bA bB : Nat) (s s2 : Sn) (vr vm vr2 vm2 : Value) (oa ob te : Bool) (ta tb : ByteArray) 
    (h2 : A.tmps.getD 2 undef = .pointer (some ⟨bA, 0, none⟩)) (h3 : A.tmps.getD 3 undef = .pointer (some ⟨bB, 0, none⟩)) (qA : Blk w1 bA (snA s vr vm)) (qB : Blk w1 bB (snA s2 vr2 vm2)) (cA : (∀ W, Below w1.heap.size w1 W → Calls Tryz.prog 15 #[.agg (snA s vr vm)] W fun r w' => r = .returned (.bool oa) ∧ Below W.heap.size W w')) (cB : (∀ W, Below w1.heap.size w1 W → Calls Tryz.prog 15 #[.agg (snA s2 vr2 vm2)] W fun r w' => r = .returned (.bool ob) ∧ Below W.heap.size W w')) (tA : oa = true → ob = true → (∀ W, Below w1.heap.size w1 W → Calls Tryz.prog 16 #[.agg (snA s vr vm)] W fun r w' => r = .returned (.string ta) ∧ Below W.heap.size W w')) (tB : oa = true → ob = true → (∀ W, Below w1.heap.size w1 W → Calls Tryz.prog 16 #[.agg (snA s2 vr2 vm2)] W fun r w' => r = .returned (.string tb) ∧ Below W.heap.size W w')) (hte : (ta.toList == tb.toList) = te)
    (f : Nat → Bool) (e : Unit) (a : Act) (w : World) (hun : f 4 = false) (hdep : ∀ d ∈ ng_o4.after, Region.binds .any d = true → f d.on = true) (hJ : ng_J w1 bA bB s s2 vr vm vr2 vm2 oa ob te ta tb f e w) (hFr : Fr ng_O A f (fun j => ng_V bA bB s s2 vr vm vr2 vm2 oa ob te ta tb j e) a)
    (K : Act → World → Prop) (hK : Hid (∀ v e' w', v = ng_V bA bB s s2 vr vm vr2 vm2 oa ob te ta tb 4 e' → (∀ j, f j = true → ng_V bA bB s s2 vr vm vr2 vm2 oa ob te ta tb j e' = ng_V bA bB s s2 vr vm vr2 vm2 oa ob te ta tb j e) → ng_J w1 bA bB s s2 vr vm vr2 vm2 oa ob te ta tb (fun j => j == 4 || f j) e' w' → K (a.put ng_o4.dst v) w')) :
    if Region.wanted ng_o4 (yielded ng_O a.tmps) = true then Oper.wp Tryz.prog ng_o4 a w K Q else K (a.put ng_o4.dst undef) w := by
  unfold ng_o4 at hdep hK ⊢
  have hK9 := hK
  have hB : Below w1.heap.size w1 w := hJ
  have k2 : f 2 = true := hdep { on := 2, ground := .guard } (by simp) rfl
  have v7 : a.tmps.getD 7 undef = .bool oa := hFr.new 2 7 rfl k2
  have k3 : f 3 = true := hdep { on := 3, ground := .data } (by simp) rfl
  have v8 : a.tmps.getD 8 undef = (if oa = true then .agg (snA s2 vr2 vm2) else undef) := hFr.new 3 8 rfl k3
  cases oa
  · rw [if_neg (by rw [want_of (j := 2) (s := 7) (want := true) (b := false) rfl rfl v7]; decide)]
    exact hK9.out _ e _ rfl (fun _ _ => rfl) hB
  · rw [if_pos (by rw [want_of (j := 2) (s := 7) (want := true) (b := true) rfl rfl v7]; rfl)]
    replace hB := hid hB
    replace cA := hid cA
    replace cB := hid cB
    replace tA := hid tA
    replace tB := hid tB
    replace qA := hid qA
    replace qB := hid qB
    clear hdep hFr h2 h3 hJ
    go_simp
    go_at_call 15
    refine (cB.out w hB.out).mono ?_
    rintro r w' ⟨rfl, hb'⟩
    replace hb' := hid hb'
    go_simp
    exact hK9.out _ e _ rfl (fun _ _ => rfl) (new_trans hB.out hb'.out)
set_option maxRecDepth 100000 in
set_option maxHeartbeats 2000000 in
theorem ng_s5 (A : Act) (w1 : World) (Q : Exit → Act → World → Prop) (bA bB : Nat) (s s2 : Sn) (vr vm vr2 vm2 : Value) (oa ob te : Bool) (ta tb : ByteArray) 
    (h2 : A.tmps.getD 2 undef = .pointer (some ⟨bA, 0, none⟩)) (h3 : A.tmps.getD 3 undef = .pointer (some ⟨bB, 0, none⟩)) (qA : Blk w1 bA (snA s vr vm)) (qB : Blk w1 bB (snA s2 vr2 vm2)) (cA : (∀ W, Below w1.heap.size w1 W → Calls Tryz.prog 15 #[.agg (snA s vr vm)] W fun r w' => r = .returned (.bool oa) ∧ Below W.heap.size W w')) (cB : (∀ W, Below w1.heap.size w1 W → Calls Tryz.prog 15 #[.agg (snA s2 vr2 vm2)] W fun r w' => r = .returned (.bool ob) ∧ Below W.heap.size W w')) (tA : oa = true → ob = true → (∀ W, Below w1.heap.size w1 W → Calls Tryz.prog 16 #[.agg (snA s vr vm)] W fun r w' => r = .returned (.string ta) ∧ Below W.heap.size W w')) (tB : oa = true → ob = true → (∀ W, Below w1.heap.size w1 W → Calls Tryz.prog 16 #[.agg (snA s2 vr2 vm2)] W fun r w' => r = .returned (.string tb) ∧ Below W.heap.size W w')) (hte : (ta.toList == tb.toList) = te)
    (f : Nat → Bool) (e : Unit) (a : Act) (w : World) (hun : f 5 = false) (hdep : ∀ d ∈ ng_o5.after, Region.binds .any d = true → f d.on = true) (hJ : ng_J w1 bA bB s s2 vr vm vr2 vm2 oa ob te ta tb f e w) (hFr : Fr ng_O A f (fun j => ng_V bA bB s s2 vr vm vr2 vm2 oa ob te ta tb j e) a)
    (K : Act → World → Prop) (hK : Hid (∀ v e' w', v = ng_V bA bB s s2 vr vm vr2 vm2 oa ob te ta tb 5 e' → (∀ j, f j = true → ng_V bA bB s s2 vr vm vr2 vm2 oa ob te ta tb j e' = ng_V bA bB s s2 vr vm vr2 vm2 oa ob te ta tb j e) → ng_J w1 bA bB s s2 vr vm vr2 vm2 oa ob te ta tb (fun j => j == 5 || f j) e' w' → K (a.put ng_o5.dst v) w')) :
    if Region.wanted ng_o5 (yielded ng_O a.tmps) = true then Oper.wp Tryz.prog ng_o5 a w K Q else K (a.put ng_o5.dst undef) w := by
  unfold ng_o5 at hdep hK ⊢
  have hK9 := hK
  have hB : Below w1.heap.size w1 w := hJ
  have k2 : f 2 = true := hdep { on := 2, ground := .data } (by simp) rfl
  have v7 : a.tmps.getD 7 undef = .bool oa := hFr.new 2 7 rfl k2
  have k4 : f 4 = true := hdep { on := 4, ground := .data } (by simp) rfl
  have v9 : a.tmps.getD 9 undef = (if oa = true then .bool ob else undef) := hFr.new 4 9 rfl k4
  replace hB := hid hB
  replace cA := hid cA
  replace cB := hid cB
  replace tA := hid tA
  replace tB := hid tB
  replace qA := hid qA
  replace qB := hid qB
  clear hdep hFr h2 h3 hJ
  cases oa
  · go_simp
    exact hK9.out _ e _ rfl (fun _ _ => rfl) hB.out
  · go_simp
    exact hK9.out _ e _ rfl (fun _ _ => rfl) hB.out
set_option maxRecDepth 100000 in
set_option maxHeartbeats 2000000 in
theorem ng_s6 (A : Act) (w1 : World) (Q : Exit → Act → World → Prop) (bA bB : Nat) (s s2 : Sn) (vr vm vr2 vm2 : Value) (oa ob te : Bool) (ta tb : ByteArray) 
    (h2 : A.tmps.getD 2 undef = .pointer (some ⟨bA, 0, none⟩)) (h3 : A.tmps.getD 3 undef = .pointer (some ⟨bB, 0, none⟩)) (qA : Blk w1 bA (snA s vr vm)) (qB : Blk w1 bB (snA s2 vr2 vm2)) (cA : (∀ W, Below w1.heap.size w1 W → Calls Tryz.prog 15 #[.agg (snA s vr vm)] W fun r w' => r = .returned (.bool oa) ∧ Below W.heap.size W w')) (cB : (∀ W, Below w1.heap.size w1 W → Calls Tryz.prog 15 #[.agg (snA s2 vr2 vm2)] W fun r w' => r = .returned (.bool ob) ∧ Below W.heap.size W w')) (tA : oa = true → ob = true → (∀ W, Below w1.heap.size w1 W → Calls Tryz.prog 16 #[.agg (snA s vr vm)] W fun r w' => r = .returned (.string ta) ∧ Below W.heap.size W w')) (tB : oa = true → ob = true → (∀ W, Below w1.heap.size w1 W → Calls Tryz.prog 16 #[.agg (snA s2 vr2 vm2)] W fun r w' => r = .returned (.string tb) ∧ Below W.heap.size W w')) (hte : (ta.toList == tb.toList) = te)
    (f : Nat → Bool) (e : Unit) (a : Act) (w : World) (hun : f 6 = false) (hdep : ∀ d ∈ ng_o6.after, Region.binds .any d = true → f d.on = true) (hJ : ng_J w1 bA bB s s2 vr vm vr2 vm2 oa ob te ta tb f e w) (hFr : Fr ng_O A f (fun j => ng_V bA bB s s2 vr vm vr2 vm2 oa ob te ta tb j e) a)
    (K : Act → World → Prop) (hK : Hid (∀ v e' w', v = ng_V bA bB s s2 vr vm vr2 vm2 oa ob te ta tb 6 e' → (∀ j, f j = true → ng_V bA bB s s2 vr vm vr2 vm2 oa ob te ta tb j e' = ng_V bA bB s s2 vr vm vr2 vm2 oa ob te ta tb j e) → ng_J w1 bA bB s s2 vr vm vr2 vm2 oa ob te ta tb (fun j => j == 6 || f j) e' w' → K (a.put ng_o6.dst v) w')) :
    if Region.wanted ng_o6 (yielded ng_O a.tmps) = true then Oper.wp Tryz.prog ng_o6 a w K Q else K (a.put ng_o6.dst undef) w := by
  unfold ng_o6 at hdep hK ⊢
  have hK9 := hK
  have hB : Below w1.heap.size w1 w := hJ
  have k5 : f 5 = true := hdep { on := 5, ground := .data } (by simp) rfl
  have v10 : a.tmps.getD 10 undef = .bool (oa && ob) := hFr.new 5 10 rfl k5
  replace hB := hid hB
  replace cA := hid cA
  replace cB := hid cB
  replace tA := hid tA
  replace tB := hid tB
  replace qA := hid qA
  replace qB := hid qB
  clear hdep hFr h2 h3 hJ
  go_simp
  exact hK9.out _ e _ rfl (fun _ _ => rfl) hB.out
set_option maxRecDepth 100000 in
set_option maxHeartbeats 2000000 in
theorem ng_s7 (A : Act) (w1 : World) (Q : Exit → Act → World → Prop) (bA bB : Nat) (s s2 : Sn) (vr vm vr2 vm2 : Value) (oa ob te : Bool) (ta tb : ByteArray) 
    (h2 : A.tmps.getD 2 undef = .pointer (some ⟨bA, 0, none⟩)) (h3 : A.tmps.getD 3 undef = .pointer (some ⟨bB, 0, none⟩)) (qA : Blk w1 bA (snA s vr vm)) (qB : Blk w1 bB (snA s2 vr2 vm2)) (cA : (∀ W, Below w1.heap.size w1 W → Calls Tryz.prog 15 #[.agg (snA s vr vm)] W fun r w' => r = .returned (.bool oa) ∧ Below W.heap.size W w')) (cB : (∀ W, Below w1.heap.size w1 W → Calls Tryz.prog 15 #[.agg (snA s2 vr2 vm2)] W fun r w' => r = .returned (.bool ob) ∧ Below W.heap.size W w')) (tA : oa = true → ob = true → (∀ W, Below w1.heap.size w1 W → Calls Tryz.prog 16 #[.agg (snA s vr vm)] W fun r w' => r = .returned (.string ta) ∧ Below W.heap.size W w')) (tB : oa = true → ob = true → (∀ W, Below w1.heap.size w1 W → Calls Tryz.prog 16 #[.agg (snA s2 vr2 vm2)] W fun r w' => r = .returned (.string tb) ∧ Below W.heap.size W w')) (hte : (ta.toList == tb.toList) = te)
    (f : Nat → Bool) (e : Unit) (a : Act) (w : World) (hun : f 7 = false) (hdep : ∀ d ∈ ng_o7.after, Region.binds .any d = true → f d.on = true) (hJ : ng_J w1 bA bB s s2 vr vm vr2 vm2 oa ob te ta tb f e w) (hFr : Fr ng_O A f (fun j => ng_V bA bB s s2 vr vm vr2 vm2 oa ob te ta tb j e) a)
    (K : Act → World → Prop) (hK : Hid (∀ v e' w', v = ng_V bA bB s s2 vr vm vr2 vm2 oa ob te ta tb 7 e' → (∀ j, f j = true → ng_V bA bB s s2 vr vm vr2 vm2 oa ob te ta tb j e' = ng_V bA bB s s2 vr vm vr2 vm2 oa ob te ta tb j e) → ng_J w1 bA bB s s2 vr vm vr2 vm2 oa ob te ta tb (fun j => j == 7 || f j) e' w' → K (a.put ng_o7.dst v) w')) :
    if Region.wanted ng_o7 (yielded ng_O a.tmps) = true then Oper.wp Tryz.prog ng_o7 a w K Q else K (a.put ng_o7.dst undef) w := by
  unfold ng_o7 at hdep hK ⊢
  have hK9 := hK
  have hB : Below w1.heap.size w1 w := hJ
  have k6 : f 6 = true := hdep { on := 6, ground := .guard } (by simp) rfl
  have v11 : a.tmps.getD 11 undef = .bool (oa && ob) := hFr.new 6 11 rfl k6
  cases oa
  · rw [if_neg (by rw [want_of (j := 6) (s := 11) (want := true) (b := false) rfl rfl v11]; decide)]
    exact hK9.out _ e _ rfl (fun _ _ => rfl) hB
  cases ob
  · rw [if_neg (by rw [want_of (j := 6) (s := 11) (want := true) (b := false) rfl rfl v11]; decide)]
    exact hK9.out _ e _ rfl (fun _ _ => rfl) hB
  · have v2 := (hFr.old 2 (ng_no (by decide))).trans h2
    have x0 := sn_all (qA.below hB qA.lt)
    rw [if_pos (by rw [want_of (j := 6) (s := 11) (want := true) (b := true) rfl rfl v11]; rfl)]
    refine wp_load_mid 33 _ rfl bA 0 v2 (snA s vr vm).toList _ x0 Tryz.underlying33 rfl (szS s vr vm) ?_
    exact hK9.out _ e _ rfl (fun _ _ => rfl) hB
set_option maxRecDepth 100000 in
set_option maxHeartbeats 2000000 in
theorem ng_s8 (A : Act) (w1 : World) (Q : Exit → Act → World → Prop) (bA bB : Nat) (s s2 : Sn) (vr vm vr2 vm2 : Value) (oa ob te : Bool) (ta tb : ByteArray) 
    (h2 : A.tmps.getD 2 undef = .pointer (some ⟨bA, 0, none⟩)) (h3 : A.tmps.getD 3 undef = .pointer (some ⟨bB, 0, none⟩)) (qA : Blk w1 bA (snA s vr vm)) (qB : Blk w1 bB (snA s2 vr2 vm2)) (cA : (∀ W, Below w1.heap.size w1 W → Calls Tryz.prog 15 #[.agg (snA s vr vm)] W fun r w' => r = .returned (.bool oa) ∧ Below W.heap.size W w')) (cB : (∀ W, Below w1.heap.size w1 W → Calls Tryz.prog 15 #[.agg (snA s2 vr2 vm2)] W fun r w' => r = .returned (.bool ob) ∧ Below W.heap.size W w')) (tA : oa = true → ob = true → (∀ W, Below w1.heap.size w1 W → Calls Tryz.prog 16 #[.agg (snA s vr vm)] W fun r w' => r = .returned (.string ta) ∧ Below W.heap.size W w')) (tB : oa = true → ob = true → (∀ W, Below w1.heap.size w1 W → Calls Tryz.prog 16 #[.agg (snA s2 vr2 vm2)] W fun r w' => r = .returned (.string tb) ∧ Below W.heap.size W w')) (hte : (ta.toList == tb.toList) = te)
    (f : Nat → Bool) (e : Unit) (a : Act) (w : World) (hun : f 8 = false) (hdep : ∀ d ∈ ng_o8.after, Region.binds .any d = true → f d.on = true) (hJ : ng_J w1 bA bB s s2 vr vm vr2 vm2 oa ob te ta tb f e w) (hFr : Fr ng_O A f (fun j => ng_V bA bB s s2 vr vm vr2 vm2 oa ob te ta tb j e) a)
    (K : Act → World → Prop) (hK : Hid (∀ v e' w', v = ng_V bA bB s s2 vr vm vr2 vm2 oa ob te ta tb 8 e' → (∀ j, f j = true → ng_V bA bB s s2 vr vm vr2 vm2 oa ob te ta tb j e' = ng_V bA bB s s2 vr vm vr2 vm2 oa ob te ta tb j e) → ng_J w1 bA bB s s2 vr vm vr2 vm2 oa ob te ta tb (fun j => j == 8 || f j) e' w' → K (a.put ng_o8.dst v) w')) :
    if Region.wanted ng_o8 (yielded ng_O a.tmps) = true then Oper.wp Tryz.prog ng_o8 a w K Q else K (a.put ng_o8.dst undef) w := by
  unfold ng_o8 at hdep hK ⊢
  have hK9 := hK
  have hB : Below w1.heap.size w1 w := hJ
  have k6 : f 6 = true := hdep { on := 6, ground := .guard } (by simp) rfl
  have v11 : a.tmps.getD 11 undef = .bool (oa && ob) := hFr.new 6 11 rfl k6
  have k7 : f 7 = true := hdep { on := 7, ground := .data } (by simp) rfl
  have v12 : a.tmps.getD 12 undef = (if (oa && ob) = true then .agg (snA s vr vm) else undef) := hFr.new 7 12 rfl k7
  cases oa
  · rw [if_neg (by rw [want_of (j := 6) (s := 11) (want := true) (b := false) rfl rfl v11]; decide)]
    exact hK9.out _ e _ rfl (fun _ _ => rfl) hB
  cases ob
  · rw [if_neg (by rw [want_of (j := 6) (s := 11) (want := true) (b := false) rfl rfl v11]; decide)]
    exact hK9.out _ e _ rfl (fun _ _ => rfl) hB
  · rw [if_pos (by rw [want_of (j := 6) (s := 11) (want := true) (b := true) rfl rfl v11]; rfl)]
    replace hB := hid hB
    replace cA := hid cA
    replace cB := hid cB
    replace tA := hid tA
    replace tB := hid tB
    replace qA := hid qA
    replace qB := hid qB
    clear hdep hFr h2 h3 hJ
    go_simp
    go_at_call 16
    refine (tA.out rfl rfl w hB.out).mono ?_
    rintro r w' ⟨rfl, hb'⟩
    replace hb' := hid hb'
    go_simp
    exact hK9.out _ e _ rfl (fun _ _ => rfl) (new_trans hB.out hb'.out)
set_option maxRecDepth 100000 in
set_option maxHeartbeats 2000000 in
theorem ng_s9 (A : Act) (w1 : World) (Q : Exit → Act → World → Prop) (bA bB : Nat) (s s2 : Sn) (vr vm vr2 vm2 : Value) (oa ob te : Bool) (ta tb : ByteArray) 
    (h2 : A.tmps.getD 2 undef = .pointer (some ⟨bA, 0, none⟩)) (h3 : A.tmps.getD 3 undef = .pointer (some ⟨bB, 0, none⟩)) (qA : Blk w1 bA (snA s vr vm)) (qB : Blk w1 bB (snA s2 vr2 vm2)) (cA : (∀ W, Below w1.heap.size w1 W → Calls Tryz.prog 15 #[.agg (snA s vr vm)] W fun r w' => r = .returned (.bool oa) ∧ Below W.heap.size W w')) (cB : (∀ W, Below w1.heap.size w1 W → Calls Tryz.prog 15 #[.agg (snA s2 vr2 vm2)] W fun r w' => r = .returned (.bool ob) ∧ Below W.heap.size W w')) (tA : oa = true → ob = true → (∀ W, Below w1.heap.size w1 W → Calls Tryz.prog 16 #[.agg (snA s vr vm)] W fun r w' => r = .returned (.string ta) ∧ Below W.heap.size W w')) (tB : oa = true → ob = true → (∀ W, Below w1.heap.size w1 W → Calls Tryz.prog 16 #[.agg (snA s2 vr2 vm2)] W fun r w' => r = .returned (.string tb) ∧ Below W.heap.size W w')) (hte : (ta.toList == tb.toList) = te)
    (f : Nat → Bool) (e : Unit) (a : Act) (w : World) (hun : f 9 = false) (hdep : ∀ d ∈ ng_o9.after, Region.binds .any d = true → f d.on = true) (hJ : ng_J w1 bA bB s s2 vr vm vr2 vm2 oa ob te ta tb f e w) (hFr : Fr ng_O A f (fun j => ng_V bA bB s s2 vr vm vr2 vm2 oa ob te ta tb j e) a)
    (K : Act → World → Prop) (hK : Hid (∀ v e' w', v = ng_V bA bB s s2 vr vm vr2 vm2 oa ob te ta tb 9 e' → (∀ j, f j = true → ng_V bA bB s s2 vr vm vr2 vm2 oa ob te ta tb j e' = ng_V bA bB s s2 vr vm vr2 vm2 oa ob te ta tb j e) → ng_J w1 bA bB s s2 vr vm vr2 vm2 oa ob te ta tb (fun j => j == 9 || f j) e' w' → K (a.put ng_o9.dst v) w')) :
    if Region.wanted ng_o9 (yielded ng_O a.tmps) = true then Oper.wp Tryz.prog ng_o9 a w K Q else K (a.put ng_o9.dst undef) w := by
  unfold ng_o9 at hdep hK ⊢
  have hK9 := hK
  have hB : Below w1.heap.size w1 w := hJ
  have k6 : f 6 = true := hdep { on := 6, ground := .guard } (by simp) rfl
  have v11 : a.tmps.getD 11 undef = .bool (oa && ob) := hFr.new 6 11 rfl k6
  cases oa
  · rw [if_neg (by rw [want_of (j := 6) (s := 11) (want := true) (b := false) rfl rfl v11]; decide)]
    exact hK9.out _ e _ rfl (fun _ _ => rfl) hB
  cases ob
  · rw [if_neg (by rw [want_of (j := 6) (s := 11) (want := true) (b := false) rfl rfl v11]; decide)]
    exact hK9.out _ e _ rfl (fun _ _ => rfl) hB
  · have v3 := (hFr.old 3 (ng_no (by decide))).trans h3
    have x0 := sn_all (qB.below hB qB.lt)
    rw [if_pos (by rw [want_of (j := 6) (s := 11) (want := true) (b := true) rfl rfl v11]; rfl)]
    refine wp_load_mid 33 _ rfl bB 0 v3 (snA s2 vr2 vm2).toList _ x0 Tryz.underlying33 rfl (szS s2 vr2 vm2) ?_
    exact hK9.out _ e _ rfl (fun _ _ => rfl) hB
set_option maxRecDepth 100000 in
set_option maxHeartbeats 2000000 in
theorem ng_s10 (A : Act) (w1 : World) (Q : Exit → Act → World → Prop) (bA bB : Nat) (s s2 : Sn) (vr vm vr2 vm2 : Value) (oa ob te : Bool) (ta tb : ByteArray) 
    (h2 : A.tmps.getD 2 undef = .pointer (some ⟨bA, 0, none⟩)) (h3 : A.tmps.getD 3 undef = .pointer (some ⟨bB, 0, none⟩)) (qA : Blk w1 bA (snA s vr vm)) (qB : Blk w1 bB (snA s2 vr2 vm2)) (cA : (∀ W, Below w1.heap.size w1 W → Calls Tryz.prog 15 #[.agg (snA s vr vm)] W fun r w' => r = .returned (.bool oa) ∧ Below W.heap.size W w')) (cB : (∀ W, Below w1.heap.size w1 W → Calls Tryz.prog 15 #[.agg (snA s2 vr2 vm2)] W fun r w' => r = .returned (.bool ob) ∧ Below W.heap.size W w')) (tA : oa = true → ob = true → (∀ W, Below w1.heap.size w1 W → Calls Tryz.prog 16 #[.agg (snA s vr vm)] W fun r w' => r = .returned (.string ta) ∧ Below W.heap.size W w')) (tB : oa = true → ob = true → (∀ W, Below w1.heap.size w1 W → Calls Tryz.prog 16 #[.agg (snA s2 vr2 vm2)] W fun r w' => r = .returned (.string tb) ∧ Below W.heap.size W w')) (hte : (ta.toList == tb.toList) = te)
    (f : Nat → Bool) (e : Unit) (a : Act) (w : World) (hun : f 10 = false) (hdep : ∀ d ∈ ng_o10.after, Region.binds .any d = true → f d.on = true) (hJ : ng_J w1 bA bB s s2 vr vm vr2 vm2 oa ob te ta tb f e w) (hFr : Fr ng_O A f (fun j => ng_V bA bB s s2 vr vm vr2 vm2 oa ob te ta tb j e) a)
    (K : Act → World → Prop) (hK : Hid (∀ v e' w', v = ng_V bA bB s s2 vr vm vr2 vm2 oa ob te ta tb 10 e' → (∀ j, f j = true → ng_V bA bB s s2 vr vm vr2 vm2 oa ob te ta tb j e' = ng_V bA bB s s2 vr vm vr2 vm2 oa ob te ta tb j e) → ng_J w1 bA bB s s2 vr vm vr2 vm2 oa ob te ta tb (fun j => j == 10 || f j) e' w' → K (a.put ng_o10.dst v) w')) :
    if Region.wanted ng_o10 (yielded ng_O a.tmps) = true then Oper.wp Tryz.prog ng_o10 a w K Q else K (a.put ng_o10.dst undef) w := by
  unfold ng_o10 at hdep hK ⊢
  have hK9 := hK
  have hB : Below w1.heap.size w1 w := hJ
  have k6 : f 6 = true := hdep { on := 6, ground := .guard } (by simp) rfl
  have v11 : a.tmps.getD 11 undef = .bool (oa && ob) := hFr.new 6 11 rfl k6
  have k9 : f 9 = true := hdep { on := 9, ground := .data } (by simp) rfl
  have v14 : a.tmps.getD 14 undef = (if (oa && ob) = true then .agg (snA s2 vr2 vm2) else undef) := hFr.new 9 14 rfl k9
  cases oa
  · rw [if_neg (by rw [want_of (j := 6) (s := 11) (want := true) (b := false) rfl rfl v11]; decide)]
    exact hK9.out _ e _ rfl (fun _ _ => rfl) hB
  cases ob
  · rw [if_neg (by rw [want_of (j := 6) (s := 11) (want := true) (b := false) rfl rfl v11]; decide)]
    exact hK9.out _ e _ rfl (fun _ _ => rfl) hB
  · rw [if_pos (by rw [want_of (j := 6) (s := 11) (want := true) (b := true) rfl rfl v11]; rfl)]
    replace hB := hid hB
    replace cA := hid cA
    replace cB := hid cB
    replace tA := hid tA
    replace tB := hid tB
    replace qA := hid qA
    replace qB := hid qB
    clear hdep hFr h2 h3 hJ
    go_simp
    go_at_call 16
    refine (tB.out rfl rfl w hB.out).mono ?_
    rintro r w' ⟨rfl, hb'⟩
    replace hb' := hid hb'
    go_simp
    exact hK9.out _ e _ rfl (fun _ _ => rfl) (new_trans hB.out hb'.out)
set_option maxRecDepth 100000 in
set_option maxHeartbeats 2000000 in
theorem ng_s11 (A : Act) (w1 : World) (Q : Exit → Act → World → Prop) (bA bB : Nat) (s s2 : Sn) (vr vm vr2 vm2 : Value) (oa ob te : Bool) (ta tb : ByteArray) 
    (h2 : A.tmps.getD 2 undef = .pointer (some ⟨bA, 0, none⟩)) (h3 : A.tmps.getD 3 undef = .pointer (some ⟨bB, 0, none⟩)) (qA : Blk w1 bA (snA s vr vm)) (qB : Blk w1 bB (snA s2 vr2 vm2)) (cA : (∀ W, Below w1.heap.size w1 W → Calls Tryz.prog 15 #[.agg (snA s vr vm)] W fun r w' => r = .returned (.bool oa) ∧ Below W.heap.size W w')) (cB : (∀ W, Below w1.heap.size w1 W → Calls Tryz.prog 15 #[.agg (snA s2 vr2 vm2)] W fun r w' => r = .returned (.bool ob) ∧ Below W.heap.size W w')) (tA : oa = true → ob = true → (∀ W, Below w1.heap.size w1 W → Calls Tryz.prog 16 #[.agg (snA s vr vm)] W fun r w' => r = .returned (.string ta) ∧ Below W.heap.size W w')) (tB : oa = true → ob = true → (∀ W, Below w1.heap.size w1 W → Calls Tryz.prog 16 #[.agg (snA s2 vr2 vm2)] W fun r w' => r = .returned (.string tb) ∧ Below W.heap.size W w')) (hte : (ta.toList == tb.toList) = te)
    (f : Nat → Bool) (e : Unit) (a : Act) (w : World) (hun : f 11 = false) (hdep : ∀ d ∈ ng_o11.after, Region.binds .any d = true → f d.on = true) (hJ : ng_J w1 bA bB s s2 vr vm vr2 vm2 oa ob te ta tb f e w) (hFr : Fr ng_O A f (fun j => ng_V bA bB s s2 vr vm vr2 vm2 oa ob te ta tb j e) a)
    (K : Act → World → Prop) (hK : Hid (∀ v e' w', v = ng_V bA bB s s2 vr vm vr2 vm2 oa ob te ta tb 11 e' → (∀ j, f j = true → ng_V bA bB s s2 vr vm vr2 vm2 oa ob te ta tb j e' = ng_V bA bB s s2 vr vm vr2 vm2 oa ob te ta tb j e) → ng_J w1 bA bB s s2 vr vm vr2 vm2 oa ob te ta tb (fun j => j == 11 || f j) e' w' → K (a.put ng_o11.dst v) w')) :
    if Region.wanted ng_o11 (yielded ng_O a.tmps) = true then Oper.wp Tryz.prog ng_o11 a w K Q else K (a.put ng_o11.dst undef) w := by
  unfold ng_o11 at hdep hK ⊢
  have hK9 := hK
  have hB : Below w1.heap.size w1 w := hJ
  have k6 : f 6 = true := hdep { on := 6, ground := .guard } (by simp) rfl
  have v11 : a.tmps.getD 11 undef = .bool (oa && ob) := hFr.new 6 11 rfl k6
  have k8 : f 8 = true := hdep { on := 8, ground := .data } (by simp) rfl
  have v13 : a.tmps.getD 13 undef = (if (oa && ob) = true then .string ta else undef) := hFr.new 8 13 rfl k8
  have k10 : f 10 = true := hdep { on := 10, ground := .data } (by simp) rfl
  have v15 : a.tmps.getD 15 undef = (if (oa && ob) = true then .string tb else undef) := hFr.new 10 15 rfl k10
  cases oa
  · rw [if_neg (by rw [want_of (j := 6) (s := 11) (want := true) (b := false) rfl rfl v11]; decide)]
    exact hK9.out _ e _ rfl (fun _ _ => rfl) hB
  cases ob
  · rw [if_neg (by rw [want_of (j := 6) (s := 11) (want := true) (b := false) rfl rfl v11]; decide)]
    exact hK9.out _ e _ rfl (fun _ _ => rfl) hB
  · rw [if_pos (by rw [want_of (j := 6) (s := 11) (want := true) (b := true) rfl rfl v11]; rfl)]
    replace hB := hid hB
    replace cA := hid cA
    replace cB := hid cB
    replace tA := hid tA
    replace tB := hid tB
    replace qA := hid qA
    replace qB := hid qB
    clear hdep hFr h2 h3 hJ
    go_simp
    exact hK9.out _ e _ rfl (fun _ _ => rfl) hB.out
set_option maxRecDepth 100000 in
set_option maxHeartbeats 2000000 in
theorem ng_s12 (A : Act) (w1 : World) (Q : Exit → Act → World → Prop) (bA bB : Nat) (s s2 : Sn) (vr vm vr2 vm2 : Value) (oa ob te : Bool) (ta tb : ByteArray) 
    (h2 : A.tmps.getD 2 undef = .pointer (some ⟨bA, 0, none⟩)) (h3 : A.tmps.getD 3 undef = .pointer (some ⟨bB, 0, none⟩)) (qA : Blk w1 bA (snA s vr vm)) (qB : Blk w1 bB (snA s2 vr2 vm2)) (cA : (∀ W, Below w1.heap.size w1 W → Calls Tryz.prog 15 #[.agg (snA s vr vm)] W fun r w' => r = .returned (.bool oa) ∧ Below W.heap.size W w')) (cB : (∀ W, Below w1.heap.size w1 W → Calls Tryz.prog 15 #[.agg (snA s2 vr2 vm2)] W fun r w' => r = .returned (.bool ob) ∧ Below W.heap.size W w')) (tA : oa = true → ob = true → (∀ W, Below w1.heap.size w1 W → Calls Tryz.prog 16 #[.agg (snA s vr vm)] W fun r w' => r = .returned (.string ta) ∧ Below W.heap.size W w')) (tB : oa = true → ob = true → (∀ W, Below w1.heap.size w1 W → Calls Tryz.prog 16 #[.agg (snA s2 vr2 vm2)] W fun r w' => r = .returned (.string tb) ∧ Below W.heap.size W w')) (hte : (ta.toList == tb.toList) = te)
    (f : Nat → Bool) (e : Unit) (a : Act) (w : World) (hun : f 12 = false) (hdep : ∀ d ∈ ng_o12.after, Region.binds .any d = true → f d.on = true) (hJ : ng_J w1 bA bB s s2 vr vm vr2 vm2 oa ob te ta tb f e w) (hFr : Fr ng_O A f (fun j => ng_V bA bB s s2 vr vm vr2 vm2 oa ob te ta tb j e) a)
    (K : Act → World → Prop) (hK : Hid (∀ v e' w', v = ng_V bA bB s s2 vr vm vr2 vm2 oa ob te ta tb 12 e' → (∀ j, f j = true → ng_V bA bB s s2 vr vm vr2 vm2 oa ob te ta tb j e' = ng_V bA bB s s2 vr vm vr2 vm2 oa ob te ta tb j e) → ng_J w1 bA bB s s2 vr vm vr2 vm2 oa ob te ta tb (fun j => j == 12 || f j) e' w' → K (a.put ng_o12.dst v) w')) :
    if Region.wanted ng_o12 (yielded ng_O a.tmps) = true then Oper.wp Tryz.prog ng_o12 a w K Q else K (a.put ng_o12.dst undef) w := by
  unfold ng_o12 at hdep hK ⊢
  have hK9 := hK
  have hB : Below w1.heap.size w1 w := hJ
  have k6 : f 6 = true := hdep { on := 6, ground := .data } (by simp) rfl
  have v11 : a.tmps.getD 11 undef = .bool (oa && ob) := hFr.new 6 11 rfl k6
  have k11 : f 11 = true := hdep { on := 11, ground := .data } (by simp) rfl
  have v16 : a.tmps.getD 16 undef = (if (oa && ob) = true then .bool te else undef) := hFr.new 11 16 rfl k11
  replace hB := hid hB
  replace cA := hid cA
  replace cB := hid cB
  replace tA := hid tA
  replace tB := hid tB
  replace qA := hid qA
  replace qB := hid qB
  clear hdep hFr h2 h3 hJ
  cases oa
  · go_simp
    exact hK9.out _ e _ rfl (fun _ _ => rfl) hB.out
  cases ob
  · go_simp
    exact hK9.out _ e _ rfl (fun _ _ => rfl) hB.out
  · go_simp
    exact hK9.out _ e _ rfl (fun _ _ => rfl) hB.out
set_option maxRecDepth 100000 in
set_option maxHeartbeats 2000000 in
theorem ng_s13 (A : Act) (w1 : World) (Q : Exit → Act → World → Prop) (bA bB : Nat) (s s2 : Sn) (vr vm vr2 vm2 : Value) (oa ob te : Bool) (ta tb : ByteArray) 
    (h2 : A.tmps.getD 2 undef = .pointer (some ⟨bA, 0, none⟩)) (h3 : A.tmps.getD 3 undef = .pointer (some ⟨bB, 0, none⟩)) (qA : Blk w1 bA (snA s vr vm)) (qB : Blk w1 bB (snA s2 vr2 vm2)) (cA : (∀ W, Below w1.heap.size w1 W → Calls Tryz.prog 15 #[.agg (snA s vr vm)] W fun r w' => r = .returned (.bool oa) ∧ Below W.heap.size W w')) (cB : (∀ W, Below w1.heap.size w1 W → Calls Tryz.prog 15 #[.agg (snA s2 vr2 vm2)] W fun r w' => r = .returned (.bool ob) ∧ Below W.heap.size W w')) (tA : oa = true → ob = true → (∀ W, Below w1.heap.size w1 W → Calls Tryz.prog 16 #[.agg (snA s vr vm)] W fun r w' => r = .returned (.string ta) ∧ Below W.heap.size W w')) (tB : oa = true → ob = true → (∀ W, Below w1.heap.size w1 W → Calls Tryz.prog 16 #[.agg (snA s2 vr2 vm2)] W fun r w' => r = .returned (.string tb) ∧ Below W.heap.size W w')) (hte : (ta.toList == tb.toList) = te)
    (f : Nat → Bool) (e : Unit) (a : Act) (w : World) (hun : f 13 = false) (hdep : ∀ d ∈ ng_o13.after, Region.binds .any d = true → f d.on = true) (hJ : ng_J w1 bA bB s s2 vr vm vr2 vm2 oa ob te ta tb f e w) (hFr : Fr ng_O A f (fun j => ng_V bA bB s s2 vr vm vr2 vm2 oa ob te ta tb j e) a)
    (K : Act → World → Prop) (hK : Hid (∀ v e' w', v = ng_V bA bB s s2 vr vm vr2 vm2 oa ob te ta tb 13 e' → (∀ j, f j = true → ng_V bA bB s s2 vr vm vr2 vm2 oa ob te ta tb j e' = ng_V bA bB s s2 vr vm vr2 vm2 oa ob te ta tb j e) → ng_J w1 bA bB s s2 vr vm vr2 vm2 oa ob te ta tb (fun j => j == 13 || f j) e' w' → K (a.put ng_o13.dst v) w')) :
    if Region.wanted ng_o13 (yielded ng_O a.tmps) = true then Oper.wp Tryz.prog ng_o13 a w K Q else K (a.put ng_o13.dst undef) w := by
  unfold ng_o13 at hdep hK ⊢
  have hK9 := hK
  have hB : Below w1.heap.size w1 w := hJ
  have k12 : f 12 = true := hdep { on := 12, ground := .data } (by simp) rfl
  have v17 : a.tmps.getD 17 undef = .bool (oa && ob && te) := hFr.new 12 17 rfl k12
  replace hB := hid hB
  replace cA := hid cA
  replace cB := hid cB
  replace tA := hid tA
  replace tB := hid tB
  replace qA := hid qA
  replace qB := hid qB
  clear hdep hFr h2 h3 hJ
  go_simp
  exact hK9.out _ e _ rfl (fun _ _ => rfl) hB.out
set_option maxRecDepth 100000 in
set_option maxHeartbeats 4000000 in
theorem ng_reg (A : Act) (w1 : World) (Q : Exit → Act → World → Prop) (bA bB : Nat) (s s2 : Sn) (vr vm vr2 vm2 : Value) (oa ob te : Bool) (ta tb : ByteArray) 
    (h2 : A.tmps.getD 2 undef = .pointer (some ⟨bA, 0, none⟩)) (h3 : A.tmps.getD 3 undef = .pointer (some ⟨bB, 0, none⟩)) (qA : Blk w1 bA (snA s vr vm)) (qB : Blk w1 bB (snA s2 vr2 vm2)) (cA : (∀ W, Below w1.heap.size w1 W → Calls Tryz.prog 15 #[.agg (snA s vr vm)] W fun r w' => r = .returned (.bool oa) ∧ Below W.heap.size W w')) (cB : (∀ W, Below w1.heap.size w1 W → Calls Tryz.prog 15 #[.agg (snA s2 vr2 vm2)] W fun r w' => r = .returned (.bool ob) ∧ Below W.heap.size W w')) (tA : oa = true → ob = true → (∀ W, Below w1.heap.size w1 W → Calls Tryz.prog 16 #[.agg (snA s vr vm)] W fun r w' => r = .returned (.string ta) ∧ Below W.heap.size W w')) (tB : oa = true → ob = true → (∀ W, Below w1.heap.size w1 W → Calls Tryz.prog 16 #[.agg (snA s2 vr2 vm2)] W fun r w' => r = .returned (.string tb) ∧ Below W.heap.size W w')) (hte : (ta.toList == tb.toList) = te) (hN : 18 ≤ A.tmps.size)
    (h : ∀ (w : World) (e : Unit), Below w1.heap.size w1 w → Q .normal (putsA A [(5, .agg (snA s vr vm)), (6, .bool oa), (7, .bool oa), (8, (if oa = true then .agg (snA s2 vr2 vm2) else undef)), (9, (if oa = true then .bool ob else undef)), (10, .bool (oa && ob)), (11, .bool (oa && ob)), (12, (if (oa && ob) = true then .agg (snA s vr vm) else undef)), (13, (if (oa && ob) = true then .string ta else undef)), (14, (if (oa && ob) = true then .agg (snA s2 vr2 vm2) else undef)), (15, (if (oa && ob) = true then .string tb else undef)), (16, (if (oa && ob) = true then .bool te else undef)), (17, .bool (oa && ob && te)), (4, .bool (oa && ob && te))]) w) :
    (Code.region 1 #[({ dst := some 5, op := Op.load 33 (Operand.tmp 2), type := 33, pos := "l13_snap.go:214", after := #[], guard := none } : Oper), ({ dst := some 6, op := Op.call { callee := Callee.value (Operand.func 15), args := #[Operand.tmp 5], argTypes := #[33] }, type := 4, pos := "l13_snap.go:214", after := #[{ on := 0, ground := Ground.data }], guard := none } : Oper), ({ dst := some 7, op := Op.move (Operand.tmp 6), type := 4, pos := "l13_snap.go:214", after := #[{ on := 1, ground := Ground.data }, { on := 1, ground := Ground.chain }], guard := none } : Oper), ({ dst := some 8, op := Op.load 33 (Operand.tmp 3), type := 33, pos := "l13_snap.go:214", after := #[{ on := 2, ground := Ground.guard }], guard := some (2, true) } : Oper), ({ dst := some 9, op := Op.call { callee := Callee.value (Operand.func 15), args := #[Operand.tmp 8], argTypes := #[33] }, type := 4, pos := "l13_snap.go:214", after := #[{ on := 3, ground := Ground.data }, { on := 2, ground := Ground.chain }, { on := 2, ground := Ground.guard }], guard := some (2, true) } : Oper), ({ dst := some 10, op := Op.pick (Operand.tmp 7) (Operand.tmp 9) (Operand.const (Value.bool false)), type := 4, pos := "l13_snap.go:214", after := #[{ on := 2, ground := Ground.data }, { on := 4, ground := Ground.data }], guard := none } : Oper), ({ dst := some 11, op := Op.move (Operand.tmp 10), type := 4, pos := "l13_snap.go:214", after := #[{ on := 5, ground := Ground.data }, { on := 4, ground := Ground.chain }], guard := none } : Oper), ({ dst := some 12, op := Op.load 33 (Operand.tmp 2), type := 33, pos := "l13_snap.go:214", after := #[{ on := 6, ground := Ground.guard }], guard := some (6, true) } : Oper), ({ dst := some 13, op := Op.call { callee := Callee.value (Operand.func 16), args := #[Operand.tmp 12], argTypes := #[33] }, type := 9, pos := "l13_snap.go:214", after := #[{ on := 7, ground := Ground.data }, { on := 6, ground := Ground.chain }, { on := 6, ground := Ground.guard }], guard := some (6, true) } : Oper), ({ dst := some 14, op := Op.load 33 (Operand.tmp 3), type := 33, pos := "l13_snap.go:214", after := #[{ on := 6, ground := Ground.guard }], guard := some (6, true) } : Oper), ({ dst := some 15, op := Op.call { callee := Callee.value (Operand.func 16), args := #[Operand.tmp 14], argTypes := #[33] }, type := 9, pos := "l13_snap.go:214", after := #[{ on := 9, ground := Ground.data }, { on := 8, ground := Ground.chain }, { on := 6, ground := Ground.guard }], guard := some (6, true) } : Oper), ({ dst := some 16, op := Op.binOp BinOp.eql 9 (Operand.tmp 13) (Operand.tmp 15) 9, type := 4, pos := "l13_snap.go:214", after := #[{ on := 8, ground := Ground.data }, { on := 10, ground := Ground.data }, { on := 6, ground := Ground.guard }], guard := some (6, true) } : Oper), ({ dst := some 17, op := Op.pick (Operand.tmp 11) (Operand.tmp 16) (Operand.const (Value.bool false)), type := 4, pos := "l13_snap.go:214", after := #[{ on := 6, ground := Ground.data }, { on := 11, ground := Ground.data }], guard := none } : Oper), ({ dst := some 4, op := Op.assign (Operand.tmp 17), type := 4, pos := "l13_snap.go:214", after := #[{ on := 12, ground := Ground.data }, { on := 10, ground := Ground.chain }, { on := 0, ground := Ground.phase }, { on := 1, ground := Ground.phase }, { on := 2, ground := Ground.phase }, { on := 3, ground := Ground.phase }, { on := 4, ground := Ground.phase }, { on := 5, ground := Ground.phase }, { on := 6, ground := Ground.phase }, { on := 7, ground := Ground.phase }, { on := 8, ground := Ground.phase }, { on := 9, ground := Ground.phase }, { on := 10, ground := Ground.phase }, { on := 11, ground := Ground.phase }, { on := 12, ground := Ground.phase }], guard := none } : Oper)] true).wp Tryz.prog Q A w1 := by
  show (Code.region 1 ng_O true).wp Tryz.prog Q A w1
  refine wp_region_slots (E := Unit) (ng_V bA bB s s2 vr vm vr2 vm2 oa ob te ta tb) (ng_J w1 bA bB s s2 vr vm vr2 vm2 oa ob te ta tb) (by kernel_rfl) (by kernel_rfl) (by kernel_rfl) (fun i s hi => ?_) ?_ () (Below.refl _ _).drew ?_
  · cases hc : ([5, 6, 7, 8, 9, 10, 11, 12, 13, 14, 15, 16, 17, 4] : List Nat).contains s
    · exact absurd hi (ng_no hc i)
    · have : s ∈ ([5, 6, 7, 8, 9, 10, 11, 12, 13, 14, 15, 16, 17, 4] : List Nat) := by simpa using hc
      simp only [List.mem_cons, List.not_mem_nil, or_false] at this
      omega
  · intro f e a w i o hi ho hun hdep hJ hFr K hK
    have hi8 : i < 14 := hi
    rcases (by omega : i = 0 ∨ i = 1 ∨ i = 2 ∨ i = 3 ∨ i = 4 ∨ i = 5 ∨ i = 6 ∨ i = 7 ∨ i = 8 ∨ i = 9 ∨ i = 10 ∨ i = 11 ∨ i = 12 ∨ i = 13) with rfl | rfl | rfl | rfl | rfl | rfl | rfl | rfl | rfl | rfl | rfl | rfl | rfl | rfl
    · obtain rfl := Option.some.inj ho
      exact ng_s0 A w1 Q bA bB s s2 vr vm vr2 vm2 oa ob te ta tb h2 h3 qA qB cA cB tA tB hte f e a w hun hdep hJ hFr K hK
    · obtain rfl := Option.some.inj ho
      exact ng_s1 A w1 Q bA bB s s2 vr vm vr2 vm2 oa ob te ta tb h2 h3 qA qB cA cB tA tB hte f e a w hun hdep hJ hFr K hK
    · obtain rfl := Option.some.inj ho
      exact ng_s2 A w1 Q bA bB s s2 vr vm vr2 vm2 oa ob te ta tb h2 h3 qA qB cA cB tA tB hte f e a w hun hdep hJ hFr K hK
    · obtain rfl := Option.some.inj ho
      exact ng_s3 A w1 Q bA bB s s2 vr vm vr2 vm2 oa ob te ta tb h2 h3 qA qB cA cB tA tB hte f e a w hun hdep hJ hFr K hK
    · obtain rfl := Option.some.inj ho
      exact ng_s4 A w1 Q bA bB s s2 vr vm vr2 vm2 oa ob te ta tb h2 h3 qA qB cA cB tA tB hte f e a w hun hdep hJ hFr K hK
    · obtain rfl := Option.some.inj ho
      exact ng_s5 A w1 Q bA bB s s2 vr vm vr2 vm2 oa ob te ta tb h2 h3 qA qB cA cB tA tB hte f e a w hun hdep hJ hFr K hK
    · obtain rfl := Option.some.inj ho
      exact ng_s6 A w1 Q bA bB s s2 vr vm vr2 vm2 oa ob te ta tb h2 h3 qA qB cA cB tA tB hte f e a w hun hdep hJ hFr K hK
    · obtain rfl := Option.some.inj ho
      exact ng_s7 A w1 Q bA bB s s2 vr vm vr2 vm2 oa ob te ta tb h2 h3 qA qB cA cB tA tB hte f e a w hun hdep hJ hFr K hK
    · obtain rfl := Option.some.inj ho
      exact ng_s8 A w1 Q bA bB s s2 vr vm vr2 vm2 oa ob te ta tb h2 h3 qA qB cA cB tA tB hte f e a w hun hdep hJ hFr K hK
    · obtain rfl := Option.some.inj ho
      exact ng_s9 A w1 Q bA bB s s2 vr vm vr2 vm2 oa ob te ta tb h2 h3 qA qB cA cB tA tB hte f e a w hun hdep hJ hFr K hK
    · obtain rfl := Option.some.inj ho
      exact ng_s10 A w1 Q bA bB s s2 vr vm vr2 vm2 oa ob te ta tb h2 h3 qA qB cA cB tA tB hte f e a w hun hdep hJ hFr K hK
    · obtain rfl := Option.some.inj ho
      exact ng_s11 A w1 Q bA bB s s2 vr vm vr2 vm2 oa ob te ta tb h2 h3 qA qB cA cB tA tB hte f e a w hun hdep hJ hFr K hK
    · obtain rfl := Option.some.inj ho
      exact ng_s12 A w1 Q bA bB s s2 vr vm vr2 vm2 oa ob te ta tb h2 h3 qA qB cA cB tA tB hte f e a w hun hdep hJ hFr K hK
    · obtain rfl := Option.some.inj ho
      exact ng_s13 A w1 Q bA bB s s2 vr vm vr2 vm2 oa ob te ta tb h2 h3 qA qB cA cB tA tB hte f e a w hun hdep hJ hFr K hK
  · intro f e a w hall hJ hFr
    have := h w e hJ
    rw [hFr.eq [(5, .agg (snA s vr vm)), (6, .bool oa), (7, .bool oa), (8, (if oa = true then .agg (snA s2 vr2 vm2) else undef)), (9, (if oa = true then .bool ob else undef)), (10, .bool (oa && ob)), (11, .bool (oa && ob)), (12, (if (oa && ob) = true then .agg (snA s vr vm) else undef)), (13, (if (oa && ob) = true then .string ta else undef)), (14, (if (oa && ob) = true then .agg (snA s2 vr2 vm2) else undef)), (15, (if (oa && ob) = true then .string tb else undef)), (16, (if (oa && ob) = true then .bool te else undef)), (17, .bool (oa && ob && te)), (4, .bool (oa && ob && te))] (fun s hs => ?_) (fun i s hi => ?_)]
    · exact this
    · have hne : ∀ k ∈ ([5, 6, 7, 8, 9, 10, 11, 12, 13, 14, 15, 16, 17, 4] : List Nat), k ≠ s := by
        intro k hk e2
        subst e2
        simp only [List.mem_cons, List.not_mem_nil, or_false] at hk
        rcases hk with rfl | rfl | rfl | rfl | rfl | rfl | rfl | rfl | rfl | rfl | rfl | rfl | rfl | rfl
        · exact hs 0 rfl
        · exact hs 1 rfl
        · exact hs 2 rfl
        · exact hs 3 rfl
        · exact hs 4 rfl
        · exact hs 5 rfl
        · exact hs 6 rfl
        · exact hs 7 rfl
        · exact hs 8 rfl
        · exact hs 9 rfl
        · exact hs 10 rfl
        · exact hs 11 rfl
        · exact hs 12 rfl
        · exact hs 13 rfl
      simp only [lookA]
      simp [hne]
    · have hl : i < 14 := by
        rcases Nat.lt_or_ge i 14 with h1 | h1
        · exact h1
        · unfold dstAt at hi
          rw [Array.getElem?_eq_none (by exact h1)] at hi
          cases hi
      refine ⟨hall i hl, ?_⟩
      rcases (by omega : i = 0 ∨ i = 1 ∨ i = 2 ∨ i = 3 ∨ i = 4 ∨ i = 5 ∨ i = 6 ∨ i = 7 ∨ i = 8 ∨ i = 9 ∨ i = 10 ∨ i = 11 ∨ i = 12 ∨ i = 13) with rfl | rfl | rfl | rfl | rfl | rfl | rfl | rfl | rfl | rfl | rfl | rfl | rfl | rfl
      all_goals first
        | (cases hi; rfl)
        | cases hi
set_option maxRecDepth 100000 in
set_option maxHeartbeats 1000000 in
theorem samesn_impl (v v2 : Value) (s s2 : Sn) (w : World) (h : SnR w v s) (h2 : SnR w v2 s2) (hs : SmallS s) (hs2 : SmallS s2) : Calls Tryz.prog 10 #[v, v2] w fun e w' => e = .returned (.bool (sameSn s s2)) ∧ Below w.heap.size w w' := by
  have hS := h
  have hS2 := h2
  obtain ⟨vr, vm, rfl, hv⟩ := h
  obtain ⟨vr2, vm2, rfl, hv2⟩ := h2
  have hO := hid (fun w1 (hb : Below w.heap.size w w1) => isright_impl (.agg (snA s vr vm)) s w1 (hS.below hb) hs.1 hs.2.1 hs.2.2)
  have hO2 := hid (fun w1 (hb : Below w.heap.size w w1) => isright_impl (.agg (snA s2 vr2 vm2)) s2 w1 (hS2.below hb) hs2.1 hs2.2.1 hs2.2.2)
  have hT := hid (fun w1 (hb : Below w.heap.size w w1) (hk : okSn s = true) => text_impl (.agg (snA s vr vm)) s w1 (hS.below hb) hk)
  have hT2 := hid (fun w1 (hb : Below w.heap.size w w1) (hk : okSn s2 = true) => text_impl (.agg (snA s2 vr2 vm2)) s2 w1 (hS2.below hb) hk)
  have hB1 := (Below.refl w.heap.size w).alloc (Nat.le_refl _) (.cells (snA s vr vm) 33)
  have hB := hid (hB1.alloc hB1.size (.cells (snA s2 vr2 vm2) 33))
  have q := hid ((Blk.new w (snA s vr vm) 33).alloc (.cells (snA s2 vr2 vm2) 33))
  have q2 : Hid (Blk ((w.alloc (.cells (snA s vr vm) 33)).alloc (.cells (snA s2 vr2 vm2) 33)) (w.heap.size + 1) (snA s2 vr2 vm2)) := by
    have := Blk.new (w.alloc (.cells (snA s vr vm) 33)) (snA s2 vr2 vm2) 33
    rwa [World.size_alloc] at this
  unfold sameSn
  generalize hA : okSn s = oa at *
  generalize hA2 : okSn s2 = ob at *
  generalize strOfNums (snapL s.c s.m s.p) = ta at *
  generalize strOfNums (snapL s2.c s2.m s2.p) = tb at *
  generalize hte : (ta.toList == tb.toList) = te
  replace hte := hid hte
  clear hS hS2 hv hv2 hB1 hA hA2 hs hs2
  go_enter Tryz.func10, Tryz.ntmps10
  go_upto_region 1 with fail
  obtain ⟨V, hV⟩ : ∃ V, (w.alloc (.cells (snA s vr vm) 33)).alloc (.cells (snA s2 vr2 vm2) 33) = V := ⟨_, rfl⟩
  rw [hV] at hB q q2 ⊢
  clear hV
  refine ng_reg _ V _ w.heap.size (w.heap.size + 1) s s2 vr vm vr2 vm2 oa ob te ta tb rfl rfl q.out q2.out (fun W hb => hO.out W (hB.out.trans (hb.mono hB.out.size))) (fun W hb => hO2.out W (hB.out.trans (hb.mono hB.out.size))) (fun k _ W hb => hT.out W (hB.out.trans (hb.mono hB.out.size)) k) (fun _ k W hb => hT2.out W (hB.out.trans (hb.mono hB.out.size)) k) hte.out (by simp) ?_
  intro w9 _ hb9
  simp only [putsA, Act.put, List.setIfInBounds_toArray, List.set_cons_zero, List.set_cons_succ]
  have hB9 := hid (hB.out.trans (hb9.mono hB.out.size))
  clear hb9 hB q q2 hO hO2 hT hT2
  cases oa <;> cases ob
  all_goals
    go_wp2
    go_ret
    exact ⟨rfl, hB9.out⟩
end Go.Proofs.YtghcagibdcblnaaGreatDoor
