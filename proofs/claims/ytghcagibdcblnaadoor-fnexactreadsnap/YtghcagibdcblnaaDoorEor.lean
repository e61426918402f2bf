/- A snapshot is read: two drawn statements of the specification. -/
import Derived.Test.YtghcagibdcblnaaDoorEjr
import Derived.Test.YtghcagibdcblnaaDoorMnr
import Derived.Test.YtghcagibdcblnaaDoorR19
import Derived.Test.YtghcagibdcblnaaDoorR10
namespace Go.Proofs.YtghcagibdcblnaaDoor
open Go.ChangeShapes Go.WideShapes Go.ChangeAt Go.RowKit
set_option linter.unusedVariables false
set_option linter.unusedSimpArgs false

abbrev cu3 (F SP PC : Int) : Cu := ⟨0, 0, 0, 0, 0, 0, 0, 0, F, SP, PC, false, false, false⟩
def ep_V (t : ByteArray) (F SP PC : Int) (M : Mem) (vr vm : Value) (MB : Nat) : Nat → Nat → Value := fun i e => match i with
  | 0 => .string t
  | 1 => .int .u8 F
  | 2 => .int .i64 F
  | 3 => .string t
  | 4 => .int .u8 SP
  | 5 => .int .i64 SP
  | 6 => .string t
  | 7 => .int .u8 PC
  | 8 => .int .i64 PC
  | 9 => (cuV (cu3 F SP PC))
  | 10 => (memV vr vm M.page M.screen M.locked)
  | 11 => (poV neP)
  | 12 => (.agg (snA ⟨cu3 F SP PC, M, neP⟩ vr vm))
  | 13 => .pointer (some ⟨e, 0, none⟩)
  | _ => undef
def ep_J (w1 : World) (t : ByteArray) (F SP PC : Int) (M : Mem) (vr vm : Value) (MB : Nat) (f : Nat → Bool) (e : Nat) (w : World) : Prop :=
  Below w1.heap.size w1 w ∧ (f 13 = true → w1.heap.size ≤ e ∧ Blk w e (bif f 14 then snA ⟨cu3 F SP PC, M, neP⟩ vr vm else snA sn0 nl nl)) ∧ (f 13 = false → f 14 = false)
def ep_o0 : Oper := ({ dst := some 33, op := Op.move (Operand.tmp 0), type := 9, pos := "l13_snap.go:53", after := #[], guard := none } : Oper)
def ep_o1 : Oper := ({ dst := some 34, op := Op.index 9 (Operand.tmp 33) (Operand.const (Value.int IntKind.i64 9)), type := 5, pos := "l13_snap.go:53", after := #[{ on := 0, ground := Ground.data }], guard := none } : Oper)
def ep_o2 : Oper := ({ dst := some 35, op := Op.convert 5 3 (Operand.tmp 34), type := 3, pos := "l13_snap.go:53", after := #[{ on := 1, ground := Ground.data }], guard := none } : Oper)
def ep_o3 : Oper := ({ dst := some 36, op := Op.move (Operand.tmp 0), type := 9, pos := "l13_snap.go:53", after := #[], guard := none } : Oper)
def ep_o4 : Oper := ({ dst := some 37, op := Op.index 9 (Operand.tmp 36) (Operand.const (Value.int IntKind.i64 10)), type := 5, pos := "l13_snap.go:53", after := #[{ on := 3, ground := Ground.data }], guard := none } : Oper)
def ep_o5 : Oper := ({ dst := some 38, op := Op.convert 5 3 (Operand.tmp 37), type := 3, pos := "l13_snap.go:53", after := #[{ on := 4, ground := Ground.data }], guard := none } : Oper)
def ep_o6 : Oper := ({ dst := some 39, op := Op.move (Operand.tmp 0), type := 9, pos := "l13_snap.go:53", after := #[], guard := none } : Oper)
def ep_o7 : Oper := ({ dst := some 40, op := Op.index 9 (Operand.tmp 39) (Operand.const (Value.int IntKind.i64 11)), type := 5, pos := "l13_snap.go:53", after := #[{ on := 6, ground := Ground.data }], guard := none } : Oper)
def ep_o8 : Oper := ({ dst := some 41, op := Op.convert 5 3 (Operand.tmp 40), type := 3, pos := "l13_snap.go:53", after := #[{ on := 7, ground := Ground.data }], guard := none } : Oper)
def ep_o9 : Oper := ({ dst := some 42, op := Op.build 24 #[(1, Operand.tmp 35), (2, Operand.tmp 38), (3, Operand.tmp 41)], type := 24, pos := "l13_snap.go:53", after := #[{ on := 2, ground := Ground.data }, { on := 5, ground := Ground.data }, { on := 8, ground := Ground.data }], guard := none } : Oper)
def ep_o10 : Oper := ({ dst := some 43, op := Op.load 28 (Operand.tmp 6), type := 28, pos := "l13_snap.go:53", after := #[], guard := none } : Oper)
def ep_o11 : Oper := ({ dst := some 44, op := Op.call { callee := Callee.value (Operand.func 17), args := #[], argTypes := #[] }, type := 30, pos := "l13_snap.go:53", after := #[], guard := none } : Oper)
def ep_o12 : Oper := ({ dst := some 45, op := Op.build 32 #[(0, Operand.tmp 42), (1, Operand.tmp 43), (2, Operand.tmp 44)], type := 32, pos := "l13_snap.go:53", after := #[{ on := 9, ground := Ground.data }, { on := 10, ground := Ground.data }, { on := 11, ground := Ground.data }], guard := none } : Oper)
def ep_o13 : Oper := ({ dst := some 8, op := Op.alloc 32, type := 0, pos := "l13_snap.go:53", after := #[], guard := none } : Oper)
def ep_o14 : Oper := ({ dst := none, op := Op.store 32 (Operand.tmp 8) (Operand.tmp 45), type := 0, pos := "l13_snap.go:53", after := #[{ on := 13, ground := Ground.data }, { on := 12, ground := Ground.data }, { on := 11, ground := Ground.chain }, { on := 0, ground := Ground.phase }, { on := 1, ground := Ground.phase }, { on := 2, ground := Ground.phase }, { on := 3, ground := Ground.phase }, { on := 4, ground := Ground.phase }, { on := 5, ground := Ground.phase }, { on := 6, ground := Ground.phase }, { on := 7, ground := Ground.phase }, { on := 8, ground := Ground.phase }, { on := 9, ground := Ground.phase }, { on := 10, ground := Ground.phase }, { on := 11, ground := Ground.phase }, { on := 12, ground := Ground.phase }, { on := 13, ground := Ground.phase }], guard := none } : Oper)
def ep_O : Array Oper := #[ep_o0, ep_o1, ep_o2, ep_o3, ep_o4, ep_o5, ep_o6, ep_o7, ep_o8, ep_o9, ep_o10, ep_o11, ep_o12, ep_o13, ep_o14]
theorem ep_no {s : Nat} (h : ([33, 34, 35, 36, 37, 38, 39, 40, 41, 42, 43, 44, 45, 8] : List Nat).contains s = false) : ∀ i, dstAt ep_O i ≠ some s := by
  intro i hi
  have hl : i < 15 := by
    rcases Nat.lt_or_ge i 15 with h1 | h1
    · exact h1
    · unfold dstAt at hi
      rw [Array.getElem?_eq_none (by exact h1)] at hi
      cases hi
  rcases (by omega : i = 0 ∨ i = 1 ∨ i = 2 ∨ i = 3 ∨ i = 4 ∨ i = 5 ∨ i = 6 ∨ i = 7 ∨ i = 8 ∨ i = 9 ∨ i = 10 ∨ i = 11 ∨ i = 12 ∨ i = 13 ∨ i = 14) with rfl | rfl | rfl | rfl | rfl | rfl | rfl | rfl | rfl | rfl | rfl | rfl | rfl | rfl | rfl
  all_goals first
    | (cases hi; simp at h)
    | cases hi
theorem ep_keep (t : ByteArray) (F SP PC : Int) (M : Mem) (vr vm : Value) (MB : Nat) {f : Nat → Bool} (e e' : Nat) (hn : f 13 = false) : ∀ j, f j = true → ep_V t F SP PC M vr vm MB j e' = ep_V t F SP PC M vr vm MB j e := by
  intro j hj
  unfold ep_V
  split
  · rfl
  · rfl
  · rfl
  · rfl
  · rfl
  · rfl
  · rfl
  · rfl
  · rfl
  · rfl
  · rfl
  · rfl
  · rfl
  · rw [hn] at hj; cases hj
  · rfl
set_option maxRecDepth 100000 in
set_option maxHeartbeats 2000000 in
theorem ep_s0 (A : Act) (w1 : World) (Q : Exit → Act → World → Prop) (t : ByteArray) (F SP PC : Int) (M : Mem) (vr vm : Value) (MB : Nat) 
    (h0 : A.tmps.getD 0 undef = .string t) (h6 : A.tmps.getD 6 undef = .pointer (some ⟨MB, 0, none⟩)) (i9 : (∀ w, (Instr.index 9 (.string t) (.int .i64 9)).run Tryd.prog w = .ok (.int .u8 F) w)) (i10 : (∀ w, (Instr.index 9 (.string t) (.int .i64 10)).run Tryd.prog w = .ok (.int .u8 SP) w)) (i11 : (∀ w, (Instr.index 9 (.string t) (.int .i64 11)).run Tryd.prog w = .ok (.int .u8 PC) w)) (bF : 0 ≤ F ∧ F ≤ 255) (bS : 0 ≤ SP ∧ SP ≤ 255) (bP : 0 ≤ PC ∧ PC ≤ 255) (qM : Blk w1 MB (mC vr vm M)) (o1 : vr.oneCell' = true) (o2 : vm.oneCell' = true)
    (f : Nat → Bool) (e : Nat) (a : Act) (w : World) (hun : f 0 = false) (hdep : ∀ d ∈ ep_o0.after, Region.binds .any d = true → f d.on = true) (hJ : ep_J w1 t F SP PC M vr vm MB f e w) (hFr : Fr ep_O A f (fun j => ep_V t F SP PC M vr vm MB j e) a)
    (K : Act → World → Prop) (hK : Hid (∀ v e' w', v = ep_V t F SP PC M vr vm MB 0 e' → (∀ j, f j = true → ep_V t F SP PC M vr vm MB j e' = ep_V t F SP PC M vr vm MB j e) → ep_J w1 t F SP PC M vr vm MB (fun j => j == 0 || f j) e' w' → K (a.put ep_o0.dst v) w')) :
    if Region.wanted ep_o0 (yielded ep_O a.tmps) = true then Oper.wp Tryd.prog ep_o0 a w K Q else K (a.put ep_o0.dst undef) w := by
  unfold ep_o0 at hdep hK ⊢
  have hK9 := hK
  obtain ⟨hB, j1, jd⟩ := hJ
  have v0 := (hFr.old 0 (ep_no (by decide))).trans h0
  replace hB := hid hB
  replace j1 := hid j1
  replace jd := hid jd
  replace qM := hid qM
  clear hdep hFr h0 h6
  go_simp
  exact hK9.out _ e _ rfl (fun _ _ => rfl) ⟨hB.out, j1.out, jd.out⟩
set_option maxRecDepth 100000 in
set_option maxHeartbeats 2000000 in
theorem ep_s1 (A : Act) (w1 : World) (Q : Exit → Act → World → Prop) (t : ByteArray) (F SP PC : Int) (M : Mem) (vr vm : Value) (MB : Nat) 
    (h0 : A.tmps.getD 0 undef = .string t) (h6 : A.tmps.getD 6 undef = .pointer (some ⟨MB, 0, none⟩)) (i9 : (∀ w, (Instr.index 9 (.string t) (.int .i64 9)).run Tryd.prog w = .ok (.int .u8 F) w)) (i10 : (∀ w, (Instr.index 9 (.string t) (.int .i64 10)).run Tryd.prog w = .ok (.int .u8 SP) w)) (i11 : (∀ w, (Instr.index 9 (.string t) (.int .i64 11)).run Tryd.prog w = .ok (.int .u8 PC) w)) (bF : 0 ≤ F ∧ F ≤ 255) (bS : 0 ≤ SP ∧ SP ≤ 255) (bP : 0 ≤ PC ∧ PC ≤ 255) (qM : Blk w1 MB (mC vr vm M)) (o1 : vr.oneCell' = true) (o2 : vm.oneCell' = true)
    (f : Nat → Bool) (e : Nat) (a : Act) (w : World) (hun : f 1 = false) (hdep : ∀ d ∈ ep_o1.after, Region.binds .any d = true → f d.on = true) (hJ : ep_J w1 t F SP PC M vr vm MB f e w) (hFr : Fr ep_O A f (fun j => ep_V t F SP PC M vr vm MB j e) a)
    (K : Act → World → Prop) (hK : Hid (∀ v e' w', v = ep_V t F SP PC M vr vm MB 1 e' → (∀ j, f j = true → ep_V t F SP PC M vr vm MB j e' = ep_V t F SP PC M vr vm MB j e) → ep_J w1 t F SP PC M vr vm MB (fun j => j == 1 || f j) e' w' → K (a.put ep_o1.dst v) w')) :
    if Region.wanted ep_o1 (yielded ep_O a.tmps) = true then Oper.wp Tryd.prog ep_o1 a w K Q else K (a.put ep_o1.dst undef) w := by
  unfold ep_o1 at hdep hK ⊢
  have hK9 := hK
  obtain ⟨hB, j1, jd⟩ := hJ
  have k0 : f 0 = true := hdep { on := 0, ground := .data } (by simp) rfl
  have v33 : a.tmps.getD 33 undef = .string t := hFr.new 0 33 rfl k0
  replace hB := hid hB
  replace j1 := hid j1
  replace jd := hid jd
  replace qM := hid qM
  clear hdep hFr h0 h6
  go_simp
  exact hK9.out _ e _ rfl (fun _ _ => rfl) ⟨hB.out, j1.out, jd.out⟩
set_option maxRecDepth 100000 in
set_option maxHeartbeats 2000000 in
theorem ep_s2 (A : Act) (w1 : World) (Q : Exit → Act → World → Prop) (t : ByteArray) (F SP PC : Int) (M : Mem) (vr vm : Value) (MB : Nat) 
    (h0 : A.tmps.getD 0 undef = .string t) (h6 : A.tmps.getD 6 undef = .pointer (some ⟨MB, 0, none⟩)) (i9 : (∀ w, (Instr.index 9 (.string t) (.int .i64 9)).run Tryd.prog w = .ok (.int .u8 F) w)) (i10 : (∀ w, (Instr.index 9 (.string t) (.int .i64 10)).run Tryd.prog w = .ok (.int .u8 SP) w)) (i11 : (∀ w, (Instr.index 9 (.string t) (.int .i64 11)).run Tryd.prog w = .ok (.int .u8 PC) w)) (bF : 0 ≤ F ∧ F ≤ 255) (bS : 0 ≤ SP ∧ SP ≤ 255) (bP : 0 ≤ PC ∧ PC ≤ 255) (qM : Blk w1 MB (mC vr vm M)) (o1 : vr.oneCell' = true) (o2 : vm.oneCell' = true)
    (f : Nat → Bool) (e : Nat) (a : Act) (w : World) (hun : f 2 = false) (hdep : ∀ d ∈ ep_o2.after, Region.binds .any d = true → f d.on = true) (hJ : ep_J w1 t F SP PC M vr vm MB f e w) (hFr : Fr ep_O A f (fun j => ep_V t F SP PC M vr vm MB j e) a)
    (K : Act → World → Prop) (hK : Hid (∀ v e' w', v = ep_V t F SP PC M vr vm MB 2 e' → (∀ j, f j = true → ep_V t F SP PC M vr vm MB j e' = ep_V t F SP PC M vr vm MB j e) → ep_J w1 t F SP PC M vr vm MB (fun j => j == 2 || f j) e' w' → K (a.put ep_o2.dst v) w')) :
    if Region.wanted ep_o2 (yielded ep_O a.tmps) = true then Oper.wp Tryd.prog ep_o2 a w K Q else K (a.put ep_o2.dst undef) w := by
  unfold ep_o2 at hdep hK ⊢
  have hK9 := hK
  obtain ⟨hB, j1, jd⟩ := hJ
  have k1 : f 1 = true := hdep { on := 1, ground := .data } (by simp) rfl
  have v34 : a.tmps.getD 34 undef = .int .u8 F := hFr.new 1 34 rfl k1
  have hw : IntKind.i64.wrap F = F := by rw [IntKind.wrap_i64]; omega
  replace hB := hid hB
  replace j1 := hid j1
  replace jd := hid jd
  replace qM := hid qM
  clear hdep hFr h0 h6
  go_simp
  exact hK9.out _ e _ rfl (fun _ _ => rfl) ⟨hB.out, j1.out, jd.out⟩
set_option maxRecDepth 100000 in
set_option maxHeartbeats 2000000 in
theorem ep_s3 (A : Act) (w1 : World) (Q : Exit → Act → World → Prop) (t : ByteArray) (F SP PC : Int) (M : Mem) (vr vm : Value) (MB : Nat) 
    (h0 : A.tmps.getD 0 undef = .string t) (h6 : A.tmps.getD 6 undef = .pointer (some ⟨MB, 0, none⟩)) (i9 : (∀ w, (Instr.index 9 (.string t) (.int .i64 9)).run Tryd.prog w = .ok (.int .u8 F) w)) (i10 : (∀ w, (Instr.index 9 (.string t) (.int .i64 10)).run Tryd.prog w = .ok (.int .u8 SP) w)) (i11 : (∀ w, (Instr.index 9 (.string t) (.int .i64 11)).run Tryd.prog w = .ok (.int .u8 PC) w)) (bF : 0 ≤ F ∧ F ≤ 255) (bS : 0 ≤ SP ∧ SP ≤ 255) (bP : 0 ≤ PC ∧ PC ≤ 255) (qM : Blk w1 MB (mC vr vm M)) (o1 : vr.oneCell' = true) (o2 : vm.oneCell' = true)
    (f : Nat → Bool) (e : Nat) (a : Act) (w : World) (hun : f 3 = false) (hdep : ∀ d ∈ ep_o3.after, Region.binds .any d = true → f d.on = true) (hJ : ep_J w1 t F SP PC M vr vm MB f e w) (hFr : Fr ep_O A f (fun j => ep_V t F SP PC M vr vm MB j e) a)
    (K : Act → World → Prop) (hK : Hid (∀ v e' w', v = ep_V t F SP PC M vr vm MB 3 e' → (∀ j, f j = true → ep_V t F SP PC M vr vm MB j e' = ep_V t F SP PC M vr vm MB j e) → ep_J w1 t F SP PC M vr vm MB (fun j => j == 3 || f j) e' w' → K (a.put ep_o3.dst v) w')) :
    if Region.wanted ep_o3 (yielded ep_O a.tmps) = true then Oper.wp Tryd.prog ep_o3 a w K Q else K (a.put ep_o3.dst undef) w := by
  unfold ep_o3 at hdep hK ⊢
  have hK9 := hK
  obtain ⟨hB, j1, jd⟩ := hJ
  have v0 := (hFr.old 0 (ep_no (by decide))).trans h0
  replace hB := hid hB
  replace j1 := hid j1
  replace jd := hid jd
  replace qM := hid qM
  clear hdep hFr h0 h6
  go_simp
  exact hK9.out _ e _ rfl (fun _ _ => rfl) ⟨hB.out, j1.out, jd.out⟩
set_option maxRecDepth 100000 in
set_option maxHeartbeats 2000000 in
theorem ep_s4 (A : Act) (w1 : World) (Q : Exit → Act → World → Prop) (t : ByteArray) (F SP PC : Int) (M : Mem) (vr vm : Value) (MB : Nat) 
    (h0 : A.tmps.getD 0 undef = .string t) (h6 : A.tmps.getD 6 undef = .pointer (some ⟨MB, 0, none⟩)) (i9 : (∀ w, (Instr.index 9 (.string t) (.int .i64 9)).run Tryd.prog w = .ok (.int .u8 F) w)) (i10 : (∀ w, (Instr.index 9 (.string t) (.int .i64 10)).run Tryd.prog w = .ok (.int .u8 SP) w)) (i11 : (∀ w, (Instr.index 9 (.string t) (.int .i64 11)).run Tryd.prog w = .ok (.int .u8 PC) w)) (bF : 0 ≤ F ∧ F ≤ 255) (bS : 0 ≤ SP ∧ SP ≤ 255) (bP : 0 ≤ PC ∧ PC ≤ 255) (qM : Blk w1 MB (mC vr vm M)) (o1 : vr.oneCell' = true) (o2 : vm.oneCell' = true)
    (f : Nat → Bool) (e : Nat) (a : Act) (w : World) (hun : f 4 = false) (hdep : ∀ d ∈ ep_o4.after, Region.binds .any d = true → f d.on = true) (hJ : ep_J w1 t F SP PC M vr vm MB f e w) (hFr : Fr ep_O A f (fun j => ep_V t F SP PC M vr vm MB j e) a)
    (K : Act → World → Prop) (hK : Hid (∀ v e' w', v = ep_V t F SP PC M vr vm MB 4 e' → (∀ j, f j = true → ep_V t F SP PC M vr vm MB j e' = ep_V t F SP PC M vr vm MB j e) → ep_J w1 t F SP PC M vr vm MB (fun j => j == 4 || f j) e' w' → K (a.put ep_o4.dst v) w')) :
    if Region.wanted ep_o4 (yielded ep_O a.tmps) = true then Oper.wp Tryd.prog ep_o4 a w K Q else K (a.put ep_o4.dst undef) w := by
  unfold ep_o4 at hdep hK ⊢
  have hK9 := hK
  obtain ⟨hB, j1, jd⟩ := hJ
  have k3 : f 3 = true := hdep { on := 3, ground := .data } (by simp) rfl
  have v36 : a.tmps.getD 36 undef = .string t := hFr.new 3 36 rfl k3
  replace hB := hid hB
  replace j1 := hid j1
  replace jd := hid jd
  replace qM := hid qM
  clear hdep hFr h0 h6
  go_simp
  exact hK9.out _ e _ rfl (fun _ _ => rfl) ⟨hB.out, j1.out, jd.out⟩
set_option maxRecDepth 100000 in
set_option maxHeartbeats 2000000 in
theorem ep_s5 (A : Act) (w1 : World) (Q : Exit → Act → World → Prop) (t : ByteArray) (F SP PC : Int) (M : Mem) (vr vm : Value) (MB : Nat) 
    (h0 : A.tmps.getD 0 undef = .string t) (h6 : A.tmps.getD 6 undef = .pointer (some ⟨MB, 0, none⟩)) (i9 : (∀ w, (Instr.index 9 (.string t) (.int .i64 9)).run Tryd.prog w = .ok (.int .u8 F) w)) (i10 : (∀ w, (Instr.index 9 (.string t) (.int .i64 10)).run Tryd.prog w = .ok (.int .u8 SP) w)) (i11 : (∀ w, (Instr.index 9 (.string t) (.int .i64 11)).run Tryd.prog w = .ok (.int .u8 PC) w)) (bF : 0 ≤ F ∧ F ≤ 255) (bS : 0 ≤ SP ∧ SP ≤ 255) (bP : 0 ≤ PC ∧ PC ≤ 255) (qM : Blk w1 MB (mC vr vm M)) (o1 : vr.oneCell' = true) (o2 : vm.oneCell' = true)
    (f : Nat → Bool) (e : Nat) (a : Act) (w : World) (hun : f 5 = false) (hdep : ∀ d ∈ ep_o5.after, Region.binds .any d = true → f d.on = true) (hJ : ep_J w1 t F SP PC M vr vm MB f e w) (hFr : Fr ep_O A f (fun j => ep_V t F SP PC M vr vm MB j e) a)
    (K : Act → World → Prop) (hK : Hid (∀ v e' w', v = ep_V t F SP PC M vr vm MB 5 e' → (∀ j, f j = true → ep_V t F SP PC M vr vm MB j e' = ep_V t F SP PC M vr vm MB j e) → ep_J w1 t F SP PC M vr vm MB (fun j => j == 5 || f j) e' w' → K (a.put ep_o5.dst v) w')) :
    if Region.wanted ep_o5 (yielded ep_O a.tmps) = true then Oper.wp Tryd.prog ep_o5 a w K Q else K (a.put ep_o5.dst undef) w := by
  unfold ep_o5 at hdep hK ⊢
  have hK9 := hK
  obtain ⟨hB, j1, jd⟩ := hJ
  have k4 : f 4 = true := hdep { on := 4, ground := .data } (by simp) rfl
  have v37 : a.tmps.getD 37 undef = .int .u8 SP := hFr.new 4 37 rfl k4
  have hw : IntKind.i64.wrap SP = SP := by rw [IntKind.wrap_i64]; omega
  replace hB := hid hB
  replace j1 := hid j1
  replace jd := hid jd
  replace qM := hid qM
  clear hdep hFr h0 h6
  go_simp
  exact hK9.out _ e _ rfl (fun _ _ => rfl) ⟨hB.out, j1.out, jd.out⟩
set_option maxRecDepth 100000 in
set_option maxHeartbeats 2000000 in
theorem ep_s6 (A : Act) (w1 : World) (Q : Exit → Act → World → Prop) (t : ByteArray) (F SP PC : Int) (M : Mem) (vr vm : Value) (MB : Nat) 
    (h0 : A.tmps.getD 0 undef = .string t) (h6 : A.tmps.getD 6 undef = .pointer (some ⟨MB, 0, none⟩)) (i9 : (∀ w, (Instr.index 9 (.string t) (.int .i64 9)).run Tryd.prog w = .ok (.int .u8 F) w)) (i10 : (∀ w, (Instr.index 9 (.string t) (.int .i64 10)).run Tryd.prog w = .ok (.int .u8 SP) w)) (i11 : (∀ w, (Instr.index 9 (.string t) (.int .i64 11)).run Tryd.prog w = .ok (.int .u8 PC) w)) (bF : 0 ≤ F ∧ F ≤ 255) (bS : 0 ≤ SP ∧ SP ≤ 255) (bP : 0 ≤ PC ∧ PC ≤ 255) (qM : Blk w1 MB (mC vr vm M)) (o1 : vr.oneCell' = true) (o2 : vm.oneCell' = true)
    (f : Nat → Bool) (e : Nat) (a : Act) (w : World) (hun : f 6 = false) (hdep : ∀ d ∈ ep_o6.after, Region.binds .any d = true → f d.on = true) (hJ : ep_J w1 t F SP PC M vr vm MB f e w) (hFr : Fr ep_O A f (fun j => ep_V t F SP PC M vr vm MB j e) a)
    (K : Act → World → Prop) (hK : Hid (∀ v e' w', v = ep_V t F SP PC M vr vm MB 6 e' → (∀ j, f j = true → ep_V t F SP PC M vr vm MB j e' = ep_V t F SP PC M vr vm MB j e) → ep_J w1 t F SP PC M vr vm MB (fun j => j == 6 || f j) e' w' → K (a.put ep_o6.dst v) w')) :
    if Region.wanted ep_o6 (yielded ep_O a.tmps) = true then Oper.wp Tryd.prog ep_o6 a w K Q else K (a.put ep_o6.dst undef) w := by
  unfold ep_o6 at hdep hK ⊢
  have hK9 := hK
  obtain ⟨hB, j1, jd⟩ := hJ
  have v0 := (hFr.old 0 (ep_no (by decide))).trans h0
  replace hB := hid hB
  replace j1 := hid j1
  replace jd := hid jd
  replace qM := hid qM
  clear hdep hFr h0 h6
  go_simp
  exact hK9.out _ e _ rfl (fun _ _ => rfl) ⟨hB.out, j1.out, jd.out⟩
set_option maxRecDepth 100000 in
set_option maxHeartbeats 2000000 in
theorem ep_s7 (A : Act) (w1 : World) (Q : Exit → Act → World → Prop) (t : ByteArray) (F SP PC : Int) (M : Mem) (vr vm : Value) (MB : Nat) 
    (h0 : A.tmps.getD 0 undef = .string t) (h6 : A.tmps.getD 6 undef = .pointer (some ⟨MB, 0, none⟩)) (i9 : (∀ w, (Instr.index 9 (.string t) (.int .i64 9)).run Tryd.prog w = .ok (.int .u8 F) w)) (i10 : (∀ w, (Instr.index 9 (.string t) (.int .i64 10)).run Tryd.prog w = .ok (.int .u8 SP) w)) (i11 : (∀ w, (Instr.index 9 (.string t) (.int .i64 11)).run Tryd.prog w = .ok (.int .u8 PC) w)) (bF : 0 ≤ F ∧ F ≤ 255) (bS : 0 ≤ SP ∧ SP ≤ 255) (bP : 0 ≤ PC ∧ PC ≤ 255) (qM : Blk w1 MB (mC vr vm M)) (o1 : vr.oneCell' = true) (o2 : vm.oneCell' = true)
    (f : Nat → Bool) (e : Nat) (a : Act) (w : World) (hun : f 7 = false) (hdep : ∀ d ∈ ep_o7.after, Region.binds .any d = true → f d.on = true) (hJ : ep_J w1 t F SP PC M vr vm MB f e w) (hFr : Fr ep_O A f (fun j => ep_V t F SP PC M vr vm MB j e) a)
    (K : Act → World → Prop) (hK : Hid (∀ v e' w', v = ep_V t F SP PC M vr vm MB 7 e' → (∀ j, f j = true → ep_V t F SP PC M vr vm MB j e' = ep_V t F SP PC M vr vm MB j e) → ep_J w1 t F SP PC M vr vm MB (fun j => j == 7 || f j) e' w' → K (a.put ep_o7.dst v) w')) :
    if Region.wanted ep_o7 (yielded ep_O a.tmps) = true then Oper.wp Tryd.prog ep_o7 a w K Q else K (a.put ep_o7.dst undef) w := by
  unfold ep_o7 at hdep hK ⊢
  have hK9 := hK
  obtain ⟨hB, j1, jd⟩ := hJ
  have k6 : f 6 = true := hdep { on := 6, ground := .data } (by simp) rfl
  have v39 : a.tmps.getD 39 undef = .string t := hFr.new 6 39 rfl k6
  replace hB := hid hB
  replace j1 := hid j1
  replace jd := hid jd
  replace qM := hid qM
  clear hdep hFr h0 h6
  go_simp
  exact hK9.out _ e _ rfl (fun _ _ => rfl) ⟨hB.out, j1.out, jd.out⟩
set_option maxRecDepth 100000 in
set_option maxHeartbeats 2000000 in
theorem ep_s8 (A : Act) (w1 : World) (Q : Exit → Act → World → Prop) (t : ByteArray) (F SP PC : Int) (M : Mem) (vr vm : Value) (MB : Nat) 
    (h0 : A.tmps.getD 0 undef = .string t) (h6 : A.tmps.getD 6 undef = .pointer (some ⟨MB, 0, none⟩)) (i9 : (∀ w, (Instr.index 9 (.string t) (.int .i64 9)).run Tryd.prog w = .ok (.int .u8 F) w)) (i10 : (∀ w, (Instr.index 9 (.string t) (.int .i64 10)).run Tryd.prog w = .ok (.int .u8 SP) w)) (i11 : (∀ w, (Instr.index 9 (.string t) (.int .i64 11)).run Tryd.prog w = .ok (.int .u8 PC) w)) (bF : 0 ≤ F ∧ F ≤ 255) (bS : 0 ≤ SP ∧ SP ≤ 255) (bP : 0 ≤ PC ∧ PC ≤ 255) (qM : Blk w1 MB (mC vr vm M)) (o1 : vr.oneCell' = true) (o2 : vm.oneCell' = true)
    (f : Nat → Bool) (e : Nat) (a : Act) (w : World) (hun : f 8 = false) (hdep : ∀ d ∈ ep_o8.after, Region.binds .any d = true → f d.on = true) (hJ : ep_J w1 t F SP PC M vr vm MB f e w) (hFr : Fr ep_O A f (fun j => ep_V t F SP PC M vr vm MB j e) a)
    (K : Act → World → Prop) (hK : Hid (∀ v e' w', v = ep_V t F SP PC M vr vm MB 8 e' → (∀ j, f j = true → ep_V t F SP PC M vr vm MB j e' = ep_V t F SP PC M vr vm MB j e) → ep_J w1 t F SP PC M vr vm MB (fun j => j == 8 || f j) e' w' → K (a.put ep_o8.dst v) w')) :
    if Region.wanted ep_o8 (yielded ep_O a.tmps) = true then Oper.wp Tryd.prog ep_o8 a w K Q else K (a.put ep_o8.dst undef) w := by
  unfold ep_o8 at hdep hK ⊢
  have hK9 := hK
  obtain ⟨hB, j1, jd⟩ := hJ
  have k7 : f 7 = true := hdep { on := 7, ground := .data } (by simp) rfl
  have v40 : a.tmps.getD 40 undef = .int .u8 PC := hFr.new 7 40 rfl k7
  have hw : IntKind.i64.wrap PC = PC := by rw [IntKind.wrap_i64]; omega
  replace hB := hid hB
  replace j1 := hid j1
  replace jd := hid jd
  replace qM := hid qM
  clear hdep hFr h0 h6
  go_simp
  exact hK9.out _ e _ rfl (fun _ _ => rfl) ⟨hB.out, j1.out, jd.out⟩
set_option maxRecDepth 100000 in
set_option maxHeartbeats 2000000 in
theorem ep_s9 (A : Act) (w1 : World) (Q : Exit → Act → World → Prop) (t : ByteArray) (F SP PC : Int) (M : Mem) (vr vm : Value) (MB : Nat) 
    (h0 : A.tmps.getD 0 undef = .string t) (h6 : A.tmps.getD 6 undef = .pointer (some ⟨MB, 0, none⟩)) (i9 : (∀ w, (Instr.index 9 (.string t) (.int .i64 9)).run Tryd.prog w = .ok (.int .u8 F) w)) (i10 : (∀ w, (Instr.index 9 (.string t) (.int .i64 10)).run Tryd.prog w = .ok (.int .u8 SP) w)) (i11 : (∀ w, (Instr.index 9 (.string t) (.int .i64 11)).run Tryd.prog w = .ok (.int .u8 PC) w)) (bF : 0 ≤ F ∧ F ≤ 255) (bS : 0 ≤ SP ∧ SP ≤ 255) (bP : 0 ≤ PC ∧ PC ≤ 255) (qM : Blk w1 MB (mC vr vm M)) (o1 : vr.oneCell' = true) (o2 : vm.oneCell' = true)
    (f : Nat → Bool) (e : Nat) (a : Act) (w : World) (hun : f 9 = false) (hdep : ∀ d ∈ ep_o9.after, Region.binds .any d = true → f d.on = true) (hJ : ep_J w1 t F SP PC M vr vm MB f e w) (hFr : Fr ep_O A f (fun j => ep_V t F SP PC M vr vm MB j e) a)
    (K : Act → World → Prop) (hK : Hid (∀ v e' w', v = ep_V t F SP PC M vr vm MB 9 e' → (∀ j, f j = true → ep_V t F SP PC M vr vm MB j e' = ep_V t F SP PC M vr vm MB j e) → ep_J w1 t F SP PC M vr vm MB (fun j => j == 9 || f j) e' w' → K (a.put ep_o9.dst v) w')) :
    if Region.wanted ep_o9 (yielded ep_O a.tmps) = true then Oper.wp Tryd.prog ep_o9 a w K Q else K (a.put ep_o9.dst undef) w := by
  unfold ep_o9 at hdep hK ⊢
  have hK9 := hK
  obtain ⟨hB, j1, jd⟩ := hJ
  have k2 : f 2 = true := hdep { on := 2, ground := .data } (by simp) rfl
  have v35 : a.tmps.getD 35 undef = .int .i64 F := hFr.new 2 35 rfl k2
  have k5 : f 5 = true := hdep { on := 5, ground := .data } (by simp) rfl
  have v38 : a.tmps.getD 38 undef = .int .i64 SP := hFr.new 5 38 rfl k5
  have k8 : f 8 = true := hdep { on := 8, ground := .data } (by simp) rfl
  have v41 : a.tmps.getD 41 undef = .int .i64 PC := hFr.new 8 41 rfl k8
  have v35b : a.tmps[35]?.getD undef = .int .i64 F := by simpa using v35
  have v38b : a.tmps[38]?.getD undef = .int .i64 SP := by simpa using v38
  have v41b : a.tmps[41]?.getD undef = .int .i64 PC := by simpa using v41
  replace hB := hid hB
  replace j1 := hid j1
  replace jd := hid jd
  replace qM := hid qM
  clear hdep hFr h0 h6
  go_simp
  exact hK9.out _ e _ rfl (fun _ _ => rfl) ⟨hB.out, j1.out, jd.out⟩
set_option maxRecDepth 100000 in
set_option maxHeartbeats 2000000 in
theorem ep_s10 (A : Act) (w1 : World) (Q : Exit → Act → World → Prop) (t : ByteArray) (F SP PC : Int) (M : Mem) (vr vm : Value) (MB : Nat) 
    (h0 : A.tmps.getD 0 undef = .string t) (h6 : A.tmps.getD 6 undef = .pointer (some ⟨MB, 0, none⟩)) (i9 : (∀ w, (Instr.index 9 (.string t) (.int .i64 9)).run Tryd.prog w = .ok (.int .u8 F) w)) (i10 : (∀ w, (Instr.index 9 (.string t) (.int .i64 10)).run Tryd.prog w = .ok (.int .u8 SP) w)) (i11 : (∀ w, (Instr.index 9 (.string t) (.int .i64 11)).run Tryd.prog w = .ok (.int .u8 PC) w)) (bF : 0 ≤ F ∧ F ≤ 255) (bS : 0 ≤ SP ∧ SP ≤ 255) (bP : 0 ≤ PC ∧ PC ≤ 255) (qM : Blk w1 MB (mC vr vm M)) (o1 : vr.oneCell' = true) (o2 : vm.oneCell' = true)
    (f : Nat → Bool) (e : Nat) (a : Act) (w : World) (hun : f 10 = false) (hdep : ∀ d ∈ ep_o10.after, Region.binds .any d = true → f d.on = true) (hJ : ep_J w1 t F SP PC M vr vm MB f e w) (hFr : Fr ep_O A f (fun j => ep_V t F SP PC M vr vm MB j e) a)
    (K : Act → World → Prop) (hK : Hid (∀ v e' w', v = ep_V t F SP PC M vr vm MB 10 e' → (∀ j, f j = true → ep_V t F SP PC M vr vm MB j e' = ep_V t F SP PC M vr vm MB j e) → ep_J w1 t F SP PC M vr vm MB (fun j => j == 10 || f j) e' w' → K (a.put ep_o10.dst v) w')) :
    if Region.wanted ep_o10 (yielded ep_O a.tmps) = true then Oper.wp Tryd.prog ep_o10 a w K Q else K (a.put ep_o10.dst undef) w := by
  unfold ep_o10 at hdep hK ⊢
  have hK9 := hK
  obtain ⟨hB, j1, jd⟩ := hJ
  have v6 := (hFr.old 6 (ep_no (by decide))).trans h6
  have x0 := (qM.below hB qM.lt).cell
  replace hB := hid hB
  replace j1 := hid j1
  replace jd := hid jd
  replace qM := hid qM
  clear hdep hFr h0 h6
  go_simp
  exact hK9.out _ e _ rfl (fun _ _ => rfl) ⟨hB.out, j1.out, jd.out⟩
set_option maxRecDepth 100000 in
set_option maxHeartbeats 2000000 in
theorem ep_s11 (A : Act) (w1 : World) (Q : Exit → Act → World → Prop) (t : ByteArray) (F SP PC : Int) (M : Mem) (vr vm : Value) (MB : Nat) 
    (h0 : A.tmps.getD 0 undef = .string t) (h6 : A.tmps.getD 6 undef = .pointer (some ⟨MB, 0, none⟩)) (i9 : (∀ w, (Instr.index 9 (.string t) (.int .i64 9)).run Tryd.prog w = .ok (.int .u8 F) w)) (i10 : (∀ w, (Instr.index 9 (.string t) (.int .i64 10)).run Tryd.prog w = .ok (.int .u8 SP) w)) (i11 : (∀ w, (Instr.index 9 (.string t) (.int .i64 11)).run Tryd.prog w = .ok (.int .u8 PC) w)) (bF : 0 ≤ F ∧ F ≤ 255) (bS : 0 ≤ SP ∧ SP ≤ 255) (bP : 0 ≤ PC ∧ PC ≤ 255) (qM : Blk w1 MB (mC vr vm M)) (o1 : vr.oneCell' = true) (o2 : vm.oneCell' = true)
    (f : Nat → Bool) (e : Nat) (a : Act) (w : World) (hun : f 11 = false) (hdep : ∀ d ∈ ep_o11.after, Region.binds .any d = true → f d.on = true) (hJ : ep_J w1 t F SP PC M vr vm MB f e w) (hFr : Fr ep_O A f (fun j => ep_V t F SP PC M vr vm MB j e) a)
    (K : Act → World → Prop) (hK : Hid (∀ v e' w', v = ep_V t F SP PC M vr vm MB 11 e' → (∀ j, f j = true → ep_V t F SP PC M vr vm MB j e' = ep_V t F SP PC M vr vm MB j e) → ep_J w1 t F SP PC M vr vm MB (fun j => j == 11 || f j) e' w' → K (a.put ep_o11.dst v) w')) :
    if Region.wanted ep_o11 (yielded ep_O a.tmps) = true then Oper.wp Tryd.prog ep_o11 a w K Q else K (a.put ep_o11.dst undef) w := by
  unfold ep_o11 at hdep hK ⊢
  have hK9 := hK
  obtain ⟨hB, j1, jd⟩ := hJ
  replace hB := hid hB
  replace j1 := hid j1
  replace jd := hid jd
  replace qM := hid qM
  clear hdep hFr h0 h6
  go_simp
  go_at_call 17
  refine (newpo_spec w).mono ?_
  rintro r w' ⟨rfl, hb'⟩
  replace hb' := hid hb'
  go_simp
  exact hK9.out _ e _ rfl (fun _ _ => rfl) ⟨new_trans hB.out hb'.out, fun h => ⟨(j1.out h).1, (j1.out h).2.below hb'.out (j1.out h).2.lt⟩, jd.out⟩
set_option maxRecDepth 100000 in
set_option maxHeartbeats 2000000 in
theorem ep_s12 (A : Act) (w1 : World) (Q : Exit → Act → World → Prop) (t : ByteArray) (F SP PC : Int) (M : Mem) (vr vm : Value) (MB : Nat) 
    (h0 : A.tmps.getD 0 undef = .string t) (h6 : A.tmps.getD 6 undef = .pointer (some ⟨MB, 0, none⟩)) (i9 : (∀ w, (Instr.index 9 (.string t) (.int .i64 9)).run Tryd.prog w = .ok (.int .u8 F) w)) (i10 : (∀ w, (Instr.index 9 (.string t) (.int .i64 10)).run Tryd.prog w = .ok (.int .u8 SP) w)) (i11 : (∀ w, (Instr.index 9 (.string t) (.int .i64 11)).run Tryd.prog w = .ok (.int .u8 PC) w)) (bF : 0 ≤ F ∧ F ≤ 255) (bS : 0 ≤ SP ∧ SP ≤ 255) (bP : 0 ≤ PC ∧ PC ≤ 255) (qM : Blk w1 MB (mC vr vm M)) (o1 : vr.oneCell' = true) (o2 : vm.oneCell' = true)
    (f : Nat → Bool) (e : Nat) (a : Act) (w : World) (hun : f 12 = false) (hdep : ∀ d ∈ ep_o12.after, Region.binds .any d = true → f d.on = true) (hJ : ep_J w1 t F SP PC M vr vm MB f e w) (hFr : Fr ep_O A f (fun j => ep_V t F SP PC M vr vm MB j e) a)
    (K : Act → World → Prop) (hK : Hid (∀ v e' w', v = ep_V t F SP PC M vr vm MB 12 e' → (∀ j, f j = true → ep_V t F SP PC M vr vm MB j e' = ep_V t F SP PC M vr vm MB j e) → ep_J w1 t F SP PC M vr vm MB (fun j => j == 12 || f j) e' w' → K (a.put ep_o12.dst v) w')) :
    if Region.wanted ep_o12 (yielded ep_O a.tmps) = true then Oper.wp Tryd.prog ep_o12 a w K Q else K (a.put ep_o12.dst undef) w := by
  unfold ep_o12 at hdep hK ⊢
  have hK9 := hK
  obtain ⟨hB, j1, jd⟩ := hJ
  have k9 : f 9 = true := hdep { on := 9, ground := .data } (by simp) rfl
  have v42 : a.tmps.getD 42 undef = (cuV (cu3 F SP PC)) := hFr.new 9 42 rfl k9
  have k10 : f 10 = true := hdep { on := 10, ground := .data } (by simp) rfl
  have v43 : a.tmps.getD 43 undef = (memV vr vm M.page M.screen M.locked) := hFr.new 10 43 rfl k10
  have k11 : f 11 = true := hdep { on := 11, ground := .data } (by simp) rfl
  have v44 : a.tmps.getD 44 undef = (poV neP) := hFr.new 11 44 rfl k11
  have v42b : a.tmps[42]?.getD undef = cuV (cu3 F SP PC) := by simpa using v42
  have v43b : a.tmps[43]?.getD undef = memV vr vm M.page M.screen M.locked := by simpa using v43
  have v44b : a.tmps[44]?.getD undef = poV neP := by simpa using v44
  replace hB := hid hB
  replace j1 := hid j1
  replace jd := hid jd
  replace qM := hid qM
  clear hdep hFr h0 h6
  go_simp
  exact hK9.out _ e _ rfl (fun _ _ => rfl) ⟨hB.out, j1.out, jd.out⟩
set_option maxRecDepth 100000 in
set_option maxHeartbeats 2000000 in
theorem ep_s13 (A : Act) (w1 : World) (Q : Exit → Act → World → Prop) (t : ByteArray) (F SP PC : Int) (M : Mem) (vr vm : Value) (MB : Nat) 
    (h0 : A.tmps.getD 0 undef = .string t) (h6 : A.tmps.getD 6 undef = .pointer (some ⟨MB, 0, none⟩)) (i9 : (∀ w, (Instr.index 9 (.string t) (.int .i64 9)).run Tryd.prog w = .ok (.int .u8 F) w)) (i10 : (∀ w, (Instr.index 9 (.string t) (.int .i64 10)).run Tryd.prog w = .ok (.int .u8 SP) w)) (i11 : (∀ w, (Instr.index 9 (.string t) (.int .i64 11)).run Tryd.prog w = .ok (.int .u8 PC) w)) (bF : 0 ≤ F ∧ F ≤ 255) (bS : 0 ≤ SP ∧ SP ≤ 255) (bP : 0 ≤ PC ∧ PC ≤ 255) (qM : Blk w1 MB (mC vr vm M)) (o1 : vr.oneCell' = true) (o2 : vm.oneCell' = true)
    (f : Nat → Bool) (e : Nat) (a : Act) (w : World) (hun : f 13 = false) (hdep : ∀ d ∈ ep_o13.after, Region.binds .any d = true → f d.on = true) (hJ : ep_J w1 t F SP PC M vr vm MB f e w) (hFr : Fr ep_O A f (fun j => ep_V t F SP PC M vr vm MB j e) a)
    (K : Act → World → Prop) (hK : Hid (∀ v e' w', v = ep_V t F SP PC M vr vm MB 13 e' → (∀ j, f j = true → ep_V t F SP PC M vr vm MB j e' = ep_V t F SP PC M vr vm MB j e) → ep_J w1 t F SP PC M vr vm MB (fun j => j == 13 || f j) e' w' → K (a.put ep_o13.dst v) w')) :
    if Region.wanted ep_o13 (yielded ep_O a.tmps) = true then Oper.wp Tryd.prog ep_o13 a w K Q else K (a.put ep_o13.dst undef) w := by
  unfold ep_o13 at hdep hK ⊢
  have hK9 := hK
  obtain ⟨hB, j1, jd⟩ := hJ
  have hal := hid ((Below.refl w.heap.size w).alloc (Nat.le_refl _) (.cells zS 32))
  have hq := hid (Blk.new w zS 32)
  have h8 := hid (jd hun)
  replace hB := hid hB
  replace j1 := hid j1
  replace jd := hid jd
  replace qM := hid qM
  clear hdep hFr h0 h6
  go_simp
  refine hK9.out _ w.heap.size _ rfl (ep_keep t F SP PC M vr vm MB e w.heap.size hun) ⟨hB.out.trans (hal.out.mono hB.out.size), fun _ => ⟨hB.out.size, ?_⟩, fun h => (by cases h)⟩
  show Blk _ w.heap.size (bif f 14 then _ else snA sn0 nl nl)
  rw [h8.out, cond_false, ← zS_eq]
  exact hq.out
set_option maxRecDepth 100000 in
set_option maxHeartbeats 2000000 in
theorem ep_s14 (A : Act) (w1 : World) (Q : Exit → Act → World → Prop) (t : ByteArray) (F SP PC : Int) (M : Mem) (vr vm : Value) (MB : Nat) 
    (h0 : A.tmps.getD 0 undef = .string t) (h6 : A.tmps.getD 6 undef = .pointer (some ⟨MB, 0, none⟩)) (i9 : (∀ w, (Instr.index 9 (.string t) (.int .i64 9)).run Tryd.prog w = .ok (.int .u8 F) w)) (i10 : (∀ w, (Instr.index 9 (.string t) (.int .i64 10)).run Tryd.prog w = .ok (.int .u8 SP) w)) (i11 : (∀ w, (Instr.index 9 (.string t) (.int .i64 11)).run Tryd.prog w = .ok (.int .u8 PC) w)) (bF : 0 ≤ F ∧ F ≤ 255) (bS : 0 ≤ SP ∧ SP ≤ 255) (bP : 0 ≤ PC ∧ PC ≤ 255) (qM : Blk w1 MB (mC vr vm M)) (o1 : vr.oneCell' = true) (o2 : vm.oneCell' = true)
    (f : Nat → Bool) (e : Nat) (a : Act) (w : World) (hun : f 14 = false) (hdep : ∀ d ∈ ep_o14.after, Region.binds .any d = true → f d.on = true) (hJ : ep_J w1 t F SP PC M vr vm MB f e w) (hFr : Fr ep_O A f (fun j => ep_V t F SP PC M vr vm MB j e) a)
    (K : Act → World → Prop) (hK : Hid (∀ v e' w', v = ep_V t F SP PC M vr vm MB 14 e' → (∀ j, f j = true → ep_V t F SP PC M vr vm MB j e' = ep_V t F SP PC M vr vm MB j e) → ep_J w1 t F SP PC M vr vm MB (fun j => j == 14 || f j) e' w' → K (a.put ep_o14.dst v) w')) :
    if Region.wanted ep_o14 (yielded ep_O a.tmps) = true then Oper.wp Tryd.prog ep_o14 a w K Q else K (a.put ep_o14.dst undef) w := by
  unfold ep_o14 at hdep hK ⊢
  have hK9 := hK
  obtain ⟨hB, j1, jd⟩ := hJ
  have k13 : f 13 = true := hdep { on := 13, ground := .data } (by simp) rfl
  have v8 : a.tmps.getD 8 undef = .pointer (some ⟨e, 0, none⟩) := hFr.new 13 8 rfl k13
  have k12 : f 12 = true := hdep { on := 12, ground := .data } (by simp) rfl
  have v45 : a.tmps.getD 45 undef = (.agg (snA ⟨cu3 F SP PC, M, neP⟩ vr vm)) := hFr.new 12 45 rfl k12
  obtain ⟨b0, b1⟩ := j1 k13
  rw [hun] at b1
  have b1 : Blk w e (snA sn0 nl nl) := b1
  have q8 : Blk (w.setCells e 0 (snA ⟨cu3 F SP PC, M, neP⟩ vr vm).toList) e (snA ⟨cu3 F SP PC, M, neP⟩ vr vm) := by
    have := layE_blk e (snA ⟨cu3 F SP PC, M, neP⟩ vr vm).toList w 0 _ b1
    rw [sn_layA] at this
    exact this
  have ht := blk_there b1 (o := 0) (n := (snA ⟨cu3 F SP PC, M, neP⟩ vr vm).size) (by show 0 + 31 ≤ 31; omega)
  rw [if_pos (show Region.wanted _ _ = true from rfl)]
  refine wp_store_mid 32 _ _ rfl e 0 (snA ⟨cu3 F SP PC, M, neP⟩ vr vm) v8 v45 ht (szS2 _ _ _) (sn_one _ o1 o2) ?_
  exact hK9.out _ e _ rfl (fun _ _ => rfl) ⟨layE_below _ 0 _ b0 hB, fun _ => ⟨b0, q8⟩, fun h => absurd k13 (by rw [show f 13 = false from h]; exact fun h => (by cases h))⟩
set_option maxRecDepth 100000 in
set_option maxHeartbeats 4000000 in
theorem ep_reg (A : Act) (w1 : World) (Q : Exit → Act → World → Prop) (t : ByteArray) (F SP PC : Int) (M : Mem) (vr vm : Value) (MB : Nat) 
    (h0 : A.tmps.getD 0 undef = .string t) (h6 : A.tmps.getD 6 undef = .pointer (some ⟨MB, 0, none⟩)) (i9 : (∀ w, (Instr.index 9 (.string t) (.int .i64 9)).run Tryd.prog w = .ok (.int .u8 F) w)) (i10 : (∀ w, (Instr.index 9 (.string t) (.int .i64 10)).run Tryd.prog w = .ok (.int .u8 SP) w)) (i11 : (∀ w, (Instr.index 9 (.string t) (.int .i64 11)).run Tryd.prog w = .ok (.int .u8 PC) w)) (bF : 0 ≤ F ∧ F ≤ 255) (bS : 0 ≤ SP ∧ SP ≤ 255) (bP : 0 ≤ PC ∧ PC ≤ 255) (qM : Blk w1 MB (mC vr vm M)) (o1 : vr.oneCell' = true) (o2 : vm.oneCell' = true) (hN : 46 ≤ A.tmps.size)
    (h : ∀ (w : World) (e : Nat), Below w1.heap.size w1 w ∧ w1.heap.size ≤ e ∧ Blk w e (snA ⟨cu3 F SP PC, M, neP⟩ vr vm) → Q .normal (putsA A [(33, .string t), (34, .int .u8 F), (35, .int .i64 F), (36, .string t), (37, .int .u8 SP), (38, .int .i64 SP), (39, .string t), (40, .int .u8 PC), (41, .int .i64 PC), (42, (cuV (cu3 F SP PC))), (43, (memV vr vm M.page M.screen M.locked)), (44, (poV neP)), (45, (.agg (snA ⟨cu3 F SP PC, M, neP⟩ vr vm))), (8, .pointer (some ⟨e, 0, none⟩))]) w) :
    (Code.region 6 #[({ dst := some 33, op := Op.move (Operand.tmp 0), type := 9, pos := "l13_snap.go:53", after := #[], guard := none } : Oper), ({ dst := some 34, op := Op.index 9 (Operand.tmp 33) (Operand.const (Value.int IntKind.i64 9)), type := 5, pos := "l13_snap.go:53", after := #[{ on := 0, ground := Ground.data }], guard := none } : Oper), ({ dst := some 35, op := Op.convert 5 3 (Operand.tmp 34), type := 3, pos := "l13_snap.go:53", after := #[{ on := 1, ground := Ground.data }], guard := none } : Oper), ({ dst := some 36, op := Op.move (Operand.tmp 0), type := 9, pos := "l13_snap.go:53", after := #[], guard := none } : Oper), ({ dst := some 37, op := Op.index 9 (Operand.tmp 36) (Operand.const (Value.int IntKind.i64 10)), type := 5, pos := "l13_snap.go:53", after := #[{ on := 3, ground := Ground.data }], guard := none } : Oper), ({ dst := some 38, op := Op.convert 5 3 (Operand.tmp 37), type := 3, pos := "l13_snap.go:53", after := #[{ on := 4, ground := Ground.data }], guard := none } : Oper), ({ dst := some 39, op := Op.move (Operand.tmp 0), type := 9, pos := "l13_snap.go:53", after := #[], guard := none } : Oper), ({ dst := some 40, op := Op.index 9 (Operand.tmp 39) (Operand.const (Value.int IntKind.i64 11)), type := 5, pos := "l13_snap.go:53", after := #[{ on := 6, ground := Ground.data }], guard := none } : Oper), ({ dst := some 41, op := Op.convert 5 3 (Operand.tmp 40), type := 3, pos := "l13_snap.go:53", after := #[{ on := 7, ground := Ground.data }], guard := none } : Oper), ({ dst := some 42, op := Op.build 24 #[(1, Operand.tmp 35), (2, Operand.tmp 38), (3, Operand.tmp 41)], type := 24, pos := "l13_snap.go:53", after := #[{ on := 2, ground := Ground.data }, { on := 5, ground := Ground.data }, { on := 8, ground := Ground.data }], guard := none } : Oper), ({ dst := some 43, op := Op.load 28 (Operand.tmp 6), type := 28, pos := "l13_snap.go:53", after := #[], guard := none } : Oper), ({ dst := some 44, op := Op.call { callee := Callee.value (Operand.func 17), args := #[], argTypes := #[] }, type := 30, pos := "l13_snap.go:53", after := #[], guard := none } : Oper), ({ dst := some 45, op := Op.build 32 #[(0, Operand.tmp 42), (1, Operand.tmp 43), (2, Operand.tmp 44)], type := 32, pos := "l13_snap.go:53", after := #[{ on := 9, ground := Ground.data }, { on := 10, ground := Ground.data }, { on := 11, ground := Ground.data }], guard := none } : Oper), ({ dst := some 8, op := Op.alloc 32, type := 0, pos := "l13_snap.go:53", after := #[], guard := none } : Oper), ({ dst := none, op := Op.store 32 (Operand.tmp 8) (Operand.tmp 45), type := 0, pos := "l13_snap.go:53", after := #[{ on := 13, ground := Ground.data }, { on := 12, ground := Ground.data }, { on := 11, ground := Ground.chain }, { on := 0, ground := Ground.phase }, { on := 1, ground := Ground.phase }, { on := 2, ground := Ground.phase }, { on := 3, ground := Ground.phase }, { on := 4, ground := Ground.phase }, { on := 5, ground := Ground.phase }, { on := 6, ground := Ground.phase }, { on := 7, ground := Ground.phase }, { on := 8, ground := Ground.phase }, { on := 9, ground := Ground.phase }, { on := 10, ground := Ground.phase }, { on := 11, ground := Ground.phase }, { on := 12, ground := Ground.phase }, { on := 13, ground := Ground.phase }], guard := none } : Oper)] true).wp Tryd.prog Q A w1 := by
  show (Code.region 6 ep_O true).wp Tryd.prog Q A w1
  refine wp_region_slots (E := Nat) (ep_V t F SP PC M vr vm MB) (ep_J w1 t F SP PC M vr vm MB) (by kernel_rfl) (by kernel_rfl) (by kernel_rfl) (fun i s hi => ?_) ?_ 0 ⟨(Below.refl _ _).drew, fun h => (by cases h), fun _ => rfl⟩ ?_
  · cases hc : ([33, 34, 35, 36, 37, 38, 39, 40, 41, 42, 43, 44, 45, 8] : List Nat).contains s
    · exact absurd hi (ep_no hc i)
    · have : s ∈ ([33, 34, 35, 36, 37, 38, 39, 40, 41, 42, 43, 44, 45, 8] : List Nat) := by simpa using hc
      simp only [List.mem_cons, List.not_mem_nil, or_false] at this
      omega
  · intro f e a w i o hi ho hun hdep hJ hFr K hK
    have hi8 : i < 15 := hi
    rcases (by omega : i = 0 ∨ i = 1 ∨ i = 2 ∨ i = 3 ∨ i = 4 ∨ i = 5 ∨ i = 6 ∨ i = 7 ∨ i = 8 ∨ i = 9 ∨ i = 10 ∨ i = 11 ∨ i = 12 ∨ i = 13 ∨ i = 14) with rfl | rfl | rfl | rfl | rfl | rfl | rfl | rfl | rfl | rfl | rfl | rfl | rfl | rfl | rfl
    · obtain rfl := Option.some.inj ho
      exact ep_s0 A w1 Q t F SP PC M vr vm MB h0 h6 i9 i10 i11 bF bS bP qM o1 o2 f e a w hun hdep hJ hFr K hK
    · obtain rfl := Option.some.inj ho
      exact ep_s1 A w1 Q t F SP PC M vr vm MB h0 h6 i9 i10 i11 bF bS bP qM o1 o2 f e a w hun hdep hJ hFr K hK
    · obtain rfl := Option.some.inj ho
      exact ep_s2 A w1 Q t F SP PC M vr vm MB h0 h6 i9 i10 i11 bF bS bP qM o1 o2 f e a w hun hdep hJ hFr K hK
    · obtain rfl := Option.some.inj ho
      exact ep_s3 A w1 Q t F SP PC M vr vm MB h0 h6 i9 i10 i11 bF bS bP qM o1 o2 f e a w hun hdep hJ hFr K hK
    · obtain rfl := Option.some.inj ho
      exact ep_s4 A w1 Q t F SP PC M vr vm MB h0 h6 i9 i10 i11 bF bS bP qM o1 o2 f e a w hun hdep hJ hFr K hK
    · obtain rfl := Option.some.inj ho
      exact ep_s5 A w1 Q t F SP PC M vr vm MB h0 h6 i9 i10 i11 bF bS bP qM o1 o2 f e a w hun hdep hJ hFr K hK
    · obtain rfl := Option.some.inj ho
      exact ep_s6 A w1 Q t F SP PC M vr vm MB h0 h6 i9 i10 i11 bF bS bP qM o1 o2 f e a w hun hdep hJ hFr K hK
    · obtain rfl := Option.some.inj ho
      exact ep_s7 A w1 Q t F SP PC M vr vm MB h0 h6 i9 i10 i11 bF bS bP qM o1 o2 f e a w hun hdep hJ hFr K hK
    · obtain rfl := Option.some.inj ho
      exact ep_s8 A w1 Q t F SP PC M vr vm MB h0 h6 i9 i10 i11 bF bS bP qM o1 o2 f e a w hun hdep hJ hFr K hK
    · obtain rfl := Option.some.inj ho
      exact ep_s9 A w1 Q t F SP PC M vr vm MB h0 h6 i9 i10 i11 bF bS bP qM o1 o2 f e a w hun hdep hJ hFr K hK
    · obtain rfl := Option.some.inj ho
      exact ep_s10 A w1 Q t F SP PC M vr vm MB h0 h6 i9 i10 i11 bF bS bP qM o1 o2 f e a w hun hdep hJ hFr K hK
    · obtain rfl := Option.some.inj ho
      exact ep_s11 A w1 Q t F SP PC M vr vm MB h0 h6 i9 i10 i11 bF bS bP qM o1 o2 f e a w hun hdep hJ hFr K hK
    · obtain rfl := Option.some.inj ho
      exact ep_s12 A w1 Q t F SP PC M vr vm MB h0 h6 i9 i10 i11 bF bS bP qM o1 o2 f e a w hun hdep hJ hFr K hK
    · obtain rfl := Option.some.inj ho
      exact ep_s13 A w1 Q t F SP PC M vr vm MB h0 h6 i9 i10 i11 bF bS bP qM o1 o2 f e a w hun hdep hJ hFr K hK
    · obtain rfl := Option.some.inj ho
      exact ep_s14 A w1 Q t F SP PC M vr vm MB h0 h6 i9 i10 i11 bF bS bP qM o1 o2 f e a w hun hdep hJ hFr K hK
  · intro f e a w hall hJ hFr
    have := h w e (by
      obtain ⟨hB, j1, _⟩ := hJ
      obtain ⟨b0, b1⟩ := j1 (hall 13 (by decide))
      rw [hall 14 (by decide)] at b1
      exact ⟨hB, b0, b1⟩)
    rw [hFr.eq [(33, .string t), (34, .int .u8 F), (35, .int .i64 F), (36, .string t), (37, .int .u8 SP), (38, .int .i64 SP), (39, .string t), (40, .int .u8 PC), (41, .int .i64 PC), (42, (cuV (cu3 F SP PC))), (43, (memV vr vm M.page M.screen M.locked)), (44, (poV neP)), (45, (.agg (snA ⟨cu3 F SP PC, M, neP⟩ vr vm))), (8, .pointer (some ⟨e, 0, none⟩))] (fun s hs => ?_) (fun i s hi => ?_)]
    · exact this
    · have hne : ∀ k ∈ ([33, 34, 35, 36, 37, 38, 39, 40, 41, 42, 43, 44, 45, 8] : List Nat), k ≠ s := by
        intro k hk e2
        subst e2
        simp only [List.mem_cons, List.not_mem_nil, or_false] at hk
        rcases hk with rfl | rfl | rfl | rfl | rfl | rfl | rfl | rfl | rfl | rfl | rfl | rfl | rfl | rfl
        · exact hs 0 rfl
        · exact hs 1 rfl
        · exact hs 2 rfl
        · exact hs 3 rfl
        · exact hs 4 rfl
        · exact hs 5 rfl
        · exact hs 6 rfl
        · exact hs 7 rfl
        · exact hs 8 rfl
        · exact hs 9 rfl
        · exact hs 10 rfl
        · exact hs 11 rfl
        · exact hs 12 rfl
        · exact hs 13 rfl
      simp only [lookA]
      simp [hne]
    · have hl : i < 15 := by
        rcases Nat.lt_or_ge i 15 with h1 | h1
        · exact h1
        · unfold dstAt at hi
          rw [Array.getElem?_eq_none (by exact h1)] at hi
          cases hi
      refine ⟨hall i hl, ?_⟩
      rcases (by omega : i = 0 ∨ i = 1 ∨ i = 2 ∨ i = 3 ∨ i = 4 ∨ i = 5 ∨ i = 6 ∨ i = 7 ∨ i = 8 ∨ i = 9 ∨ i = 10 ∨ i = 11 ∨ i = 12 ∨ i = 13 ∨ i = 14) with rfl | rfl | rfl | rfl | rfl | rfl | rfl | rfl | rfl | rfl | rfl | rfl | rfl | rfl | rfl
      all_goals first
        | (cases hi; rfl)
        | cases hi
def eq_V (t : ByteArray) (u : Nat) (s : Sn) (vr vm : Value) (SB : Nat) : Nat → Unit → Value := fun i e => match i with
  | 0 => .pointer (some ⟨SB, 19, none⟩)
  | 1 => (poV s.p)
  | 2 => .string t
  | 3 => .int .u8 (u : Int)
  | 4 => .int .i64 (u : Int)
  | 5 => (poV (s.p.ula u))
  | 6 => .pointer (some ⟨SB, 19, none⟩)
  | _ => undef
def eq_J (w1 : World) (t : ByteArray) (u : Nat) (s : Sn) (vr vm : Value) (SB : Nat) (f : Nat → Bool) (e : Unit) (w : World) : Prop :=
  (f 7 = false → Below w1.heap.size w1 w) ∧ (f 7 = true → (f 1 = true ∧ f 5 = true) ∧ ∃ wa, Below w1.heap.size w1 wa ∧ w = wa.setCells SB 19 (poA (s.p.ula u)).toList)
def eq_o0 : Oper := ({ dst := some 94, op := Op.fieldAddr 32 (Operand.tmp 8) 2, type := 0, pos := "l13_snap.go:64", after := #[], guard := none } : Oper)
def eq_o1 : Oper := ({ dst := some 95, op := Op.load 30 (Operand.tmp 94), type := 30, pos := "l13_snap.go:64", after := #[{ on := 0, ground := Ground.data }], guard := none } : Oper)
def eq_o2 : Oper := ({ dst := some 96, op := Op.move (Operand.tmp 0), type := 9, pos := "l13_snap.go:64", after := #[], guard := none } : Oper)
def eq_o3 : Oper := ({ dst := some 97, op := Op.index 9 (Operand.tmp 96) (Operand.const (Value.int IntKind.i64 14)), type := 5, pos := "l13_snap.go:64", after := #[{ on := 2, ground := Ground.data }], guard := none } : Oper)
def eq_o4 : Oper := ({ dst := some 98, op := Op.convert 5 3 (Operand.tmp 97), type := 3, pos := "l13_snap.go:64", after := #[{ on := 3, ground := Ground.data }], guard := none } : Oper)
def eq_o5 : Oper := ({ dst := some 99, op := Op.call { callee := Callee.value (Operand.func 18), args := #[Operand.tmp 95, Operand.tmp 98], argTypes := #[30, 3] }, type := 30, pos := "l13_snap.go:64", after := #[{ on := 1, ground := Ground.data }, { on := 4, ground := Ground.data }], guard := none } : Oper)
def eq_o6 : Oper := ({ dst := some 100, op := Op.fieldAddr 32 (Operand.tmp 8) 2, type := 0, pos := "l13_snap.go:64", after := #[{ on := 0, ground := Ground.phase }, { on := 1, ground := Ground.phase }, { on := 2, ground := Ground.phase }, { on := 3, ground := Ground.phase }, { on := 4, ground := Ground.phase }, { on := 5, ground := Ground.phase }], guard := none } : Oper)
def eq_o7 : Oper := ({ dst := none, op := Op.store 30 (Operand.tmp 100) (Operand.tmp 99), type := 0, pos := "l13_snap.go:64", after := #[{ on := 6, ground := Ground.data }, { on := 5, ground := Ground.data }, { on := 5, ground := Ground.chain }, { on := 0, ground := Ground.phase }, { on := 1, ground := Ground.phase }, { on := 2, ground := Ground.phase }, { on := 3, ground := Ground.phase }, { on := 4, ground := Ground.phase }, { on := 5, ground := Ground.phase }], guard := none } : Oper)
def eq_O : Array Oper := #[eq_o0, eq_o1, eq_o2, eq_o3, eq_o4, eq_o5, eq_o6, eq_o7]
theorem eq_no {s : Nat} (h : ([94, 95, 96, 97, 98, 99, 100] : List Nat).contains s = false) : ∀ i, dstAt eq_O i ≠ some s := by
  intro i hi
  have hl : i < 8 := by
    rcases Nat.lt_or_ge i 8 with h1 | h1
    · exact h1
    · unfold dstAt at hi
      rw [Array.getElem?_eq_none (by exact h1)] at hi
      cases hi
  rcases (by omega : i = 0 ∨ i = 1 ∨ i = 2 ∨ i = 3 ∨ i = 4 ∨ i = 5 ∨ i = 6 ∨ i = 7) with rfl | rfl | rfl | rfl | rfl | rfl | rfl | rfl
  all_goals first
    | (cases hi; simp at h)
    | cases hi
set_option maxRecDepth 100000 in
set_option maxHeartbeats 2000000 in
theorem eq_s0 (A : Act) (w1 : World) (Q : Exit → Act → World → Prop) (t : ByteArray) (u : Nat) (s : Sn) (vr vm : Value) (SB : Nat) 
    (h0 : A.tmps.getD 0 undef = .string t) (h8 : A.tmps.getD 8 undef = .pointer (some ⟨SB, 0, none⟩)) (i14 : (∀ w, (Instr.index 9 (.string t) (.int .i64 14)).run Tryd.prog w = .ok (.int .u8 (u : Int)) w)) (hu : u ≤ 255) (qS : Blk w1 SB (snA s vr vm))
    (f : Nat → Bool) (e : Unit) (a : Act) (w : World) (hun : f 0 = false) (hdep : ∀ d ∈ eq_o0.after, Region.binds .any d = true → f d.on = true) (hJ : eq_J w1 t u s vr vm SB f e w) (hFr : Fr eq_O A f (fun j => eq_V t u s vr vm SB j e) a)
    (K : Act → World → Prop) (hK : Hid (∀ v e' w', v = eq_V t u s vr vm SB 0 e' → (∀ j, f j = true → eq_V t u s vr vm SB j e' = eq_V t u s vr vm SB j e) → eq_J w1 t u s vr vm SB (fun j => j == 0 || f j) e' w' → K (a.put eq_o0.dst v) w')) :
    if Region.wanted eq_o0 (yielded eq_O a.tmps) = true then Oper.wp Tryd.prog eq_o0 a w K Q else K (a.put eq_o0.dst undef) w := by
  unfold eq_o0 at hdep hK ⊢
  have hK9 := hK
  obtain ⟨j0, j7⟩ := hJ
  have v8 := (hFr.old 8 (eq_no (by decide))).trans h8
  replace j0 := hid j0
  replace j7 := hid j7
  replace qS := hid qS
  clear hdep hFr h0 h8
  go_simp
  exact hK9.out _ e _ rfl (fun _ _ => rfl) ⟨j0.out, j7.out⟩
set_option maxRecDepth 100000 in
set_option maxHeartbeats 2000000 in
theorem eq_s1 (A : Act) (w1 : World) (Q : Exit → Act → World → Prop) (t : ByteArray) (u : Nat) (s : Sn) (vr vm : Value) (SB : Nat) 
    (h0 : A.tmps.getD 0 undef = .string t) (h8 : A.tmps.getD 8 undef = .pointer (some ⟨SB, 0, none⟩)) (i14 : (∀ w, (Instr.index 9 (.string t) (.int .i64 14)).run Tryd.prog w = .ok (.int .u8 (u : Int)) w)) (hu : u ≤ 255) (qS : Blk w1 SB (snA s vr vm))
    (f : Nat → Bool) (e : Unit) (a : Act) (w : World) (hun : f 1 = false) (hdep : ∀ d ∈ eq_o1.after, Region.binds .any d = true → f d.on = true) (hJ : eq_J w1 t u s vr vm SB f e w) (hFr : Fr eq_O A f (fun j => eq_V t u s vr vm SB j e) a)
    (K : Act → World → Prop) (hK : Hid (∀ v e' w', v = eq_V t u s vr vm SB 1 e' → (∀ j, f j = true → eq_V t u s vr vm SB j e' = eq_V t u s vr vm SB j e) → eq_J w1 t u s vr vm SB (fun j => j == 1 || f j) e' w' → K (a.put eq_o1.dst v) w')) :
    if Region.wanted eq_o1 (yielded eq_O a.tmps) = true then Oper.wp Tryd.prog eq_o1 a w K Q else K (a.put eq_o1.dst undef) w := by
  unfold eq_o1 at hdep hK ⊢
  have hK9 := hK
  obtain ⟨j0, j7⟩ := hJ
  have k0 : f 0 = true := hdep { on := 0, ground := .data } (by simp) rfl
  have v94 : a.tmps.getD 94 undef = .pointer (some ⟨SB, 19, none⟩) := hFr.new 0 94 rfl k0
  have f7 : f 7 = false := by
    cases h7 : f 7
    · rfl
    · have := (j7 h7).1.1
      rw [hun] at this
      cases this
  have hB := j0 f7
  have x0 := sn_po (qS.below hB qS.lt)
  rw [if_pos (show Region.wanted _ _ = true from rfl)]
  refine wp_load_mid 30 _ rfl SB 19 v94 (poA s.p).toList _ x0 Tryd.underlying30 rfl (szP s.p) ?_
  exact hK9.out _ e _ rfl (fun _ _ => rfl) ⟨j0, fun h => absurd (show f 7 = true from h) (by rw [f7]; exact fun h => (by cases h))⟩
set_option maxRecDepth 100000 in
set_option maxHeartbeats 2000000 in
theorem eq_s2 (A : Act) (w1 : World) (Q : Exit → Act → World → Prop) (t : ByteArray) (u : Nat) (s : Sn) (vr vm : Value) (SB : Nat) 
    (h0 : A.tmps.getD 0 undef = .string t) (h8 : A.tmps.getD 8 undef = .pointer (some ⟨SB, 0, none⟩)) (i14 : (∀ w, (Instr.index 9 (.string t) (.int .i64 14)).run Tryd.prog w = .ok (.int .u8 (u : Int)) w)) (hu : u ≤ 255) (qS : Blk w1 SB (snA s vr vm))
    (f : Nat → Bool) (e : Unit) (a : Act) (w : World) (hun : f 2 = false) (hdep : ∀ d ∈ eq_o2.after, Region.binds .any d = true → f d.on = true) (hJ : eq_J w1 t u s vr vm SB f e w) (hFr : Fr eq_O A f (fun j => eq_V t u s vr vm SB j e) a)
    (K : Act → World → Prop) (hK : Hid (∀ v e' w', v = eq_V t u s vr vm SB 2 e' → (∀ j, f j = true → eq_V t u s vr vm SB j e' = eq_V t u s vr vm SB j e) → eq_J w1 t u s vr vm SB (fun j => j == 2 || f j) e' w' → K (a.put eq_o2.dst v) w')) :
    if Region.wanted eq_o2 (yielded eq_O a.tmps) = true then Oper.wp Tryd.prog eq_o2 a w K Q else K (a.put eq_o2.dst undef) w := by
  unfold eq_o2 at hdep hK ⊢
  have hK9 := hK
  obtain ⟨j0, j7⟩ := hJ
  have v0 := (hFr.old 0 (eq_no (by decide))).trans h0
  replace j0 := hid j0
  replace j7 := hid j7
  replace qS := hid qS
  clear hdep hFr h0 h8
  go_simp
  exact hK9.out _ e _ rfl (fun _ _ => rfl) ⟨j0.out, j7.out⟩
set_option maxRecDepth 100000 in
set_option maxHeartbeats 2000000 in
theorem eq_s3 (A : Act) (w1 : World) (Q : Exit → Act → World → Prop) (t : ByteArray) (u : Nat) (s : Sn) (vr vm : Value) (SB : Nat) 
    (h0 : A.tmps.getD 0 undef = .string t) (h8 : A.tmps.getD 8 undef = .pointer (some ⟨SB, 0, none⟩)) (i14 : (∀ w, (Instr.index 9 (.string t) (.int .i64 14)).run Tryd.prog w = .ok (.int .u8 (u : Int)) w)) (hu : u ≤ 255) (qS : Blk w1 SB (snA s vr vm))
    (f : Nat → Bool) (e : Unit) (a : Act) (w : World) (hun : f 3 = false) (hdep : ∀ d ∈ eq_o3.after, Region.binds .any d = true → f d.on = true) (hJ : eq_J w1 t u s vr vm SB f e w) (hFr : Fr eq_O A f (fun j => eq_V t u s vr vm SB j e) a)
    (K : Act → World → Prop) (hK : Hid (∀ v e' w', v = eq_V t u s vr vm SB 3 e' → (∀ j, f j = true → eq_V t u s vr vm SB j e' = eq_V t u s vr vm SB j e) → eq_J w1 t u s vr vm SB (fun j => j == 3 || f j) e' w' → K (a.put eq_o3.dst v) w')) :
    if Region.wanted eq_o3 (yielded eq_O a.tmps) = true then Oper.wp Tryd.prog eq_o3 a w K Q else K (a.put eq_o3.dst undef) w := by
  unfold eq_o3 at hdep hK ⊢
  have hK9 := hK
  obtain ⟨j0, j7⟩ := hJ
  have k2 : f 2 = true := hdep { on := 2, ground := .data } (by simp) rfl
  have v96 : a.tmps.getD 96 undef = .string t := hFr.new 2 96 rfl k2
  replace j0 := hid j0
  replace j7 := hid j7
  replace qS := hid qS
  clear hdep hFr h0 h8
  go_simp
  exact hK9.out _ e _ rfl (fun _ _ => rfl) ⟨j0.out, j7.out⟩
set_option maxRecDepth 100000 in
set_option maxHeartbeats 2000000 in
theorem eq_s4 (A : Act) (w1 : World) (Q : Exit → Act → World → Prop) (t : ByteArray) (u : Nat) (s : Sn) (vr vm : Value) (SB : Nat) 
    (h0 : A.tmps.getD 0 undef = .string t) (h8 : A.tmps.getD 8 undef = .pointer (some ⟨SB, 0, none⟩)) (i14 : (∀ w, (Instr.index 9 (.string t) (.int .i64 14)).run Tryd.prog w = .ok (.int .u8 (u : Int)) w)) (hu : u ≤ 255) (qS : Blk w1 SB (snA s vr vm))
    (f : Nat → Bool) (e : Unit) (a : Act) (w : World) (hun : f 4 = false) (hdep : ∀ d ∈ eq_o4.after, Region.binds .any d = true → f d.on = true) (hJ : eq_J w1 t u s vr vm SB f e w) (hFr : Fr eq_O A f (fun j => eq_V t u s vr vm SB j e) a)
    (K : Act → World → Prop) (hK : Hid (∀ v e' w', v = eq_V t u s vr vm SB 4 e' → (∀ j, f j = true → eq_V t u s vr vm SB j e' = eq_V t u s vr vm SB j e) → eq_J w1 t u s vr vm SB (fun j => j == 4 || f j) e' w' → K (a.put eq_o4.dst v) w')) :
    if Region.wanted eq_o4 (yielded eq_O a.tmps) = true then Oper.wp Tryd.prog eq_o4 a w K Q else K (a.put eq_o4.dst undef) w := by
  unfold eq_o4 at hdep hK ⊢
  have hK9 := hK
  obtain ⟨j0, j7⟩ := hJ
  have k3 : f 3 = true := hdep { on := 3, ground := .data } (by simp) rfl
  have v97 : a.tmps.getD 97 undef = .int .u8 (u : Int) := hFr.new 3 97 rfl k3
  have hw : IntKind.i64.wrap (u : Int) = (u : Int) := by rw [IntKind.wrap_i64]; omega
  replace j0 := hid j0
  replace j7 := hid j7
  replace qS := hid qS
  clear hdep hFr h0 h8
  go_simp
  exact hK9.out _ e _ rfl (fun _ _ => rfl) ⟨j0.out, j7.out⟩
set_option maxRecDepth 100000 in
set_option maxHeartbeats 2000000 in
theorem eq_s5 (A : Act) (w1 : World) (Q : Exit → Act → World → Prop) (t : ByteArray) (u : Nat) (s : Sn) (vr vm : Value) (SB : Nat) 
    (h0 : A.tmps.getD 0 undef = .string t) (h8 : A.tmps.getD 8 undef = .pointer (some ⟨SB, 0, none⟩)) (i14 : (∀ w, (Instr.index 9 (.string t) (.int .i64 14)).run Tryd.prog w = .ok (.int .u8 (u : Int)) w)) (hu : u ≤ 255) (qS : Blk w1 SB (snA s vr vm))
    (f : Nat → Bool) (e : Unit) (a : Act) (w : World) (hun : f 5 = false) (hdep : ∀ d ∈ eq_o5.after, Region.binds .any d = true → f d.on = true) (hJ : eq_J w1 t u s vr vm SB f e w) (hFr : Fr eq_O A f (fun j => eq_V t u s vr vm SB j e) a)
    (K : Act → World → Prop) (hK : Hid (∀ v e' w', v = eq_V t u s vr vm SB 5 e' → (∀ j, f j = true → eq_V t u s vr vm SB j e' = eq_V t u s vr vm SB j e) → eq_J w1 t u s vr vm SB (fun j => j == 5 || f j) e' w' → K (a.put eq_o5.dst v) w')) :
    if Region.wanted eq_o5 (yielded eq_O a.tmps) = true then Oper.wp Tryd.prog eq_o5 a w K Q else K (a.put eq_o5.dst undef) w := by
  unfold eq_o5 at hdep hK ⊢
  have hK9 := hK
  obtain ⟨j0, j7⟩ := hJ
  have k1 : f 1 = true := hdep { on := 1, ground := .data } (by simp) rfl
  have v95 : a.tmps.getD 95 undef = (poV s.p) := hFr.new 1 95 rfl k1
  have k4 : f 4 = true := hdep { on := 4, ground := .data } (by simp) rfl
  have v98 : a.tmps.getD 98 undef = .int .i64 (u : Int) := hFr.new 4 98 rfl k4
  have f7 : f 7 = false := by
    cases h7 : f 7
    · rfl
    · have := (j7 h7).1.2
      rw [hun] at this
      cases this
  have hB := j0 f7
  replace hB := hid hB
  replace f7 := hid f7
  replace j0 := hid j0
  replace j7 := hid j7
  replace qS := hid qS
  clear hdep hFr h0 h8
  go_simp
  go_at_call 18
  refine (ulaw_spec s.p u w (by omega)).mono ?_
  rintro r w' ⟨rfl, hb'⟩
  replace hb' := hid hb'
  go_simp
  exact hK9.out _ e _ rfl (fun _ _ => rfl) ⟨fun _ => new_trans hB.out hb'.out, fun h => absurd (show f 7 = true from h) (by rw [f7.out]; exact fun h => (by cases h))⟩
set_option maxRecDepth 100000 in
set_option maxHeartbeats 2000000 in
theorem eq_s6 (A : Act) (w1 : World) (Q : Exit → Act → World → Prop) (t : ByteArray) (u : Nat) (s : Sn) (vr vm : Value) (SB : Nat) 
    (h0 : A.tmps.getD 0 undef = .string t) (h8 : A.tmps.getD 8 undef = .pointer (some ⟨SB, 0, none⟩)) (i14 : (∀ w, (Instr.index 9 (.string t) (.int .i64 14)).run Tryd.prog w = .ok (.int .u8 (u : Int)) w)) (hu : u ≤ 255) (qS : Blk w1 SB (snA s vr vm))
    (f : Nat → Bool) (e : Unit) (a : Act) (w : World) (hun : f 6 = false) (hdep : ∀ d ∈ eq_o6.after, Region.binds .any d = true → f d.on = true) (hJ : eq_J w1 t u s vr vm SB f e w) (hFr : Fr eq_O A f (fun j => eq_V t u s vr vm SB j e) a)
    (K : Act → World → Prop) (hK : Hid (∀ v e' w', v = eq_V t u s vr vm SB 6 e' → (∀ j, f j = true → eq_V t u s vr vm SB j e' = eq_V t u s vr vm SB j e) → eq_J w1 t u s vr vm SB (fun j => j == 6 || f j) e' w' → K (a.put eq_o6.dst v) w')) :
    if Region.wanted eq_o6 (yielded eq_O a.tmps) = true then Oper.wp Tryd.prog eq_o6 a w K Q else K (a.put eq_o6.dst undef) w := by
  unfold eq_o6 at hdep hK ⊢
  have hK9 := hK
  obtain ⟨j0, j7⟩ := hJ
  have v8 := (hFr.old 8 (eq_no (by decide))).trans h8
  replace j0 := hid j0
  replace j7 := hid j7
  replace qS := hid qS
  clear hdep hFr h0 h8
  go_simp
  exact hK9.out _ e _ rfl (fun _ _ => rfl) ⟨j0.out, j7.out⟩
set_option maxRecDepth 100000 in
set_option maxHeartbeats 2000000 in
theorem eq_s7 (A : Act) (w1 : World) (Q : Exit → Act → World → Prop) (t : ByteArray) (u : Nat) (s : Sn) (vr vm : Value) (SB : Nat) 
    (h0 : A.tmps.getD 0 undef = .string t) (h8 : A.tmps.getD 8 undef = .pointer (some ⟨SB, 0, none⟩)) (i14 : (∀ w, (Instr.index 9 (.string t) (.int .i64 14)).run Tryd.prog w = .ok (.int .u8 (u : Int)) w)) (hu : u ≤ 255) (qS : Blk w1 SB (snA s vr vm))
    (f : Nat → Bool) (e : Unit) (a : Act) (w : World) (hun : f 7 = false) (hdep : ∀ d ∈ eq_o7.after, Region.binds .any d = true → f d.on = true) (hJ : eq_J w1 t u s vr vm SB f e w) (hFr : Fr eq_O A f (fun j => eq_V t u s vr vm SB j e) a)
    (K : Act → World → Prop) (hK : Hid (∀ v e' w', v = eq_V t u s vr vm SB 7 e' → (∀ j, f j = true → eq_V t u s vr vm SB j e' = eq_V t u s vr vm SB j e) → eq_J w1 t u s vr vm SB (fun j => j == 7 || f j) e' w' → K (a.put eq_o7.dst v) w')) :
    if Region.wanted eq_o7 (yielded eq_O a.tmps) = true then Oper.wp Tryd.prog eq_o7 a w K Q else K (a.put eq_o7.dst undef) w := by
  unfold eq_o7 at hdep hK ⊢
  have hK9 := hK
  obtain ⟨j0, j7⟩ := hJ
  have k6 : f 6 = true := hdep { on := 6, ground := .data } (by simp) rfl
  have v100 : a.tmps.getD 100 undef = .pointer (some ⟨SB, 19, none⟩) := hFr.new 6 100 rfl k6
  have k5 : f 5 = true := hdep { on := 5, ground := .data } (by simp) rfl
  have v99 : a.tmps.getD 99 undef = (poV (s.p.ula u)) := hFr.new 5 99 rfl k5
  have k1 : f 1 = true := hdep { on := 1, ground := .phase } (by simp) rfl
  have hB := j0 hun
  have ht := blk_there (qS.below hB qS.lt) (o := 19) (n := (poA (s.p.ula u)).size) (by show 19 + 12 ≤ 31; omega)
  rw [if_pos (show Region.wanted _ _ = true from rfl)]
  refine wp_store_mid 30 _ _ rfl SB 19 (poA (s.p.ula u)) v100 v99 ht (szP2 _) (po_one _) ?_
  exact hK9.out _ e _ rfl (fun _ _ => rfl) ⟨fun h => (by cases h), fun _ => ⟨⟨k1, k5⟩, w, hB, rfl⟩⟩
set_option maxRecDepth 100000 in
set_option maxHeartbeats 4000000 in
theorem eq_reg (A : Act) (w1 : World) (Q : Exit → Act → World → Prop) (t : ByteArray) (u : Nat) (s : Sn) (vr vm : Value) (SB : Nat) 
    (h0 : A.tmps.getD 0 undef = .string t) (h8 : A.tmps.getD 8 undef = .pointer (some ⟨SB, 0, none⟩)) (i14 : (∀ w, (Instr.index 9 (.string t) (.int .i64 14)).run Tryd.prog w = .ok (.int .u8 (u : Int)) w)) (hu : u ≤ 255) (qS : Blk w1 SB (snA s vr vm)) (hN : 101 ≤ A.tmps.size)
    (h : ∀ (w : World) (e : Unit), (∃ wa, Below w1.heap.size w1 wa ∧ w = wa.setCells SB 19 (poA (s.p.ula u)).toList) → Q .normal (putsA A [(94, .pointer (some ⟨SB, 19, none⟩)), (95, (poV s.p)), (96, .string t), (97, .int .u8 (u : Int)), (98, .int .i64 (u : Int)), (99, (poV (s.p.ula u))), (100, .pointer (some ⟨SB, 19, none⟩))]) w) :
    (Code.region 18 #[({ dst := some 94, op := Op.fieldAddr 32 (Operand.tmp 8) 2, type := 0, pos := "l13_snap.go:64", after := #[], guard := none } : Oper), ({ dst := some 95, op := Op.load 30 (Operand.tmp 94), type := 30, pos := "l13_snap.go:64", after := #[{ on := 0, ground := Ground.data }], guard := none } : Oper), ({ dst := some 96, op := Op.move (Operand.tmp 0), type := 9, pos := "l13_snap.go:64", after := #[], guard := none } : Oper), ({ dst := some 97, op := Op.index 9 (Operand.tmp 96) (Operand.const (Value.int IntKind.i64 14)), type := 5, pos := "l13_snap.go:64", after := #[{ on := 2, ground := Ground.data }], guard := none } : Oper), ({ dst := some 98, op := Op.convert 5 3 (Operand.tmp 97), type := 3, pos := "l13_snap.go:64", after := #[{ on := 3, ground := Ground.data }], guard := none } : Oper), ({ dst := some 99, op := Op.call { callee := Callee.value (Operand.func 18), args := #[Operand.tmp 95, Operand.tmp 98], argTypes := #[30, 3] }, type := 30, pos := "l13_snap.go:64", after := #[{ on := 1, ground := Ground.data }, { on := 4, ground := Ground.data }], guard := none } : Oper), ({ dst := some 100, op := Op.fieldAddr 32 (Operand.tmp 8) 2, type := 0, pos := "l13_snap.go:64", after := #[{ on := 0, ground := Ground.phase }, { on := 1, ground := Ground.phase }, { on := 2, ground := Ground.phase }, { on := 3, ground := Ground.phase }, { on := 4, ground := Ground.phase }, { on := 5, ground := Ground.phase }], guard := none } : Oper), ({ dst := none, op := Op.store 30 (Operand.tmp 100) (Operand.tmp 99), type := 0, pos := "l13_snap.go:64", after := #[{ on := 6, ground := Ground.data }, { on := 5, ground := Ground.data }, { on := 5, ground := Ground.chain }, { on := 0, ground := Ground.phase }, { on := 1, ground := Ground.phase }, { on := 2, ground := Ground.phase }, { on := 3, ground := Ground.phase }, { on := 4, ground := Ground.phase }, { on := 5, ground := Ground.phase }], guard := none } : Oper)] true).wp Tryd.prog Q A w1 := by
  show (Code.region 18 eq_O true).wp Tryd.prog Q A w1
  refine wp_region_slots (E := Unit) (eq_V t u s vr vm SB) (eq_J w1 t u s vr vm SB) (by kernel_rfl) (by kernel_rfl) (by kernel_rfl) (fun i s hi => ?_) ?_ () ⟨fun _ => (Below.refl _ _).drew, fun h => (by cases h)⟩ ?_
  · cases hc : ([94, 95, 96, 97, 98, 99, 100] : List Nat).contains s
    · exact absurd hi (eq_no hc i)
    · have : s ∈ ([94, 95, 96, 97, 98, 99, 100] : List Nat) := by simpa using hc
      simp only [List.mem_cons, List.not_mem_nil, or_false] at this
      omega
  · intro f e a w i o hi ho hun hdep hJ hFr K hK
    have hi8 : i < 8 := hi
    rcases (by omega : i = 0 ∨ i = 1 ∨ i = 2 ∨ i = 3 ∨ i = 4 ∨ i = 5 ∨ i = 6 ∨ i = 7) with rfl | rfl | rfl | rfl | rfl | rfl | rfl | rfl
    · obtain rfl := Option.some.inj ho
      exact eq_s0 A w1 Q t u s vr vm SB h0 h8 i14 hu qS f e a w hun hdep hJ hFr K hK
    · obtain rfl := Option.some.inj ho
      exact eq_s1 A w1 Q t u s vr vm SB h0 h8 i14 hu qS f e a w hun hdep hJ hFr K hK
    · obtain rfl := Option.some.inj ho
      exact eq_s2 A w1 Q t u s vr vm SB h0 h8 i14 hu qS f e a w hun hdep hJ hFr K hK
    · obtain rfl := Option.some.inj ho
      exact eq_s3 A w1 Q t u s vr vm SB h0 h8 i14 hu qS f e a w hun hdep hJ hFr K hK
    · obtain rfl := Option.some.inj ho
      exact eq_s4 A w1 Q t u s vr vm SB h0 h8 i14 hu qS f e a w hun hdep hJ hFr K hK
    · obtain rfl := Option.some.inj ho
      exact eq_s5 A w1 Q t u s vr vm SB h0 h8 i14 hu qS f e a w hun hdep hJ hFr K hK
    · obtain rfl := Option.some.inj ho
      exact eq_s6 A w1 Q t u s vr vm SB h0 h8 i14 hu qS f e a w hun hdep hJ hFr K hK
    · obtain rfl := Option.some.inj ho
      exact eq_s7 A w1 Q t u s vr vm SB h0 h8 i14 hu qS f e a w hun hdep hJ hFr K hK
  · intro f e a w hall hJ hFr
    have := h w e (hJ.2 (hall 7 (by decide))).2
    rw [hFr.eq [(94, .pointer (some ⟨SB, 19, none⟩)), (95, (poV s.p)), (96, .string t), (97, .int .u8 (u : Int)), (98, .int .i64 (u : Int)), (99, (poV (s.p.ula u))), (100, .pointer (some ⟨SB, 19, none⟩))] (fun s hs => ?_) (fun i s hi => ?_)]
    · exact this
    · have hne : ∀ k ∈ ([94, 95, 96, 97, 98, 99, 100] : List Nat), k ≠ s := by
        intro k hk e2
        subst e2
        simp only [List.mem_cons, List.not_mem_nil, or_false] at hk
        rcases hk with rfl | rfl | rfl | rfl | rfl | rfl | rfl
        · exact hs 0 rfl
        · exact hs 1 rfl
        · exact hs 2 rfl
        · exact hs 3 rfl
        · exact hs 4 rfl
        · exact hs 5 rfl
        · exact hs 6 rfl
      simp only [lookA]
      simp [hne]
    · have hl : i < 8 := by
        rcases Nat.lt_or_ge i 8 with h1 | h1
        · exact h1
        · unfold dstAt at hi
          rw [Array.getElem?_eq_none (by exact h1)] at hi
          cases hi
      refine ⟨hall i hl, ?_⟩
      rcases (by omega : i = 0 ∨ i = 1 ∨ i = 2 ∨ i = 3 ∨ i = 4 ∨ i = 5 ∨ i = 6 ∨ i = 7) with rfl | rfl | rfl | rfl | rfl | rfl | rfl | rfl
      all_goals first
        | (cases hi; rfl)
        | cases hi
end Go.Proofs.YtghcagibdcblnaaDoor
