/- The drawn statement of takeBlock: the word, and what is taken behind it, whatever the order. -/
import Derived.Test.YtakdhmlegickmaaDoorZbw
import Derived.Test.YtakdhmlegickmaaDoorUew
import Derived.Test.YtakdhmlegickmaaDoorIww
namespace Go.Proofs.YtakdhmlegickmaaDoor
open Go.ChangeShapes Go.WideShapes Go.ChangeAt Go.RowKit
set_option linter.unusedVariables false
set_option linter.unusedSimpArgs false

def tr_V (S T S2 T2 : ByteArray) (A2 AA n : Int) (R : Value) : Nat → Nat → Value := fun i e => match i with
  | 0 => cur S AA
  | 1 => .string T
  | 2 => .int .i64 n
  | 3 => .tuple #[cur S2 A2, .string T2, R]
  | 4 => .tuple #[cur S2 A2, .string T2, R]
  | 5 => cur S2 A2
  | 6 => .string T2
  | 7 => R
  | 8 => .pointer (some ⟨e, 0, none⟩)
  | 10 => .string T2
  | 11 => R
  | _ => undef
def tr_J (w1 : World) (S T S2 T2 : ByteArray) (A2 AA n : Int) (R : Value) (f : Nat → Bool) (e : Nat) (w : World) : Prop :=
  Below w1.heap.size w1 w ∧ (f 8 = true → Blk w e (bif f 9 then curA S2 A2 else curA eS 0) ∧ w1.heap.size ≤ e) ∧ (f 9 = true → f 8 = true)
def tr_o0 : Oper := ({ dst := some 23, op := Op.load 39 (Operand.tmp 5), type := 39, pos := "l09_tap.go:65", after := #[], guard := none } : Oper)
def tr_o1 : Oper := ({ dst := some 24, op := Op.move (Operand.tmp 6), type := 9, pos := "l09_tap.go:65", after := #[], guard := none } : Oper)
def tr_o2 : Oper := ({ dst := some 25, op := Op.call { callee := Callee.value (Operand.func 64), args := #[Operand.tmp 24], argTypes := #[9] }, type := 3, pos := "l09_tap.go:65", after := #[{ on := 1, ground := Ground.data }], guard := none } : Oper)
def tr_o3 : Oper := ({ dst := some 26, op := Op.call { callee := Callee.value (Operand.func 63), args := #[Operand.tmp 23, Operand.tmp 25], argTypes := #[39, 3] }, type := 94, pos := "l09_tap.go:65", after := #[{ on := 0, ground := Ground.data }, { on := 2, ground := Ground.data }, { on := 2, ground := Ground.chain }], guard := none } : Oper)
def tr_o4 : Oper := ({ dst := some 22, op := Op.move (Operand.tmp 26), type := 94, pos := "l09_tap.go:65", after := #[{ on := 3, ground := Ground.data }], guard := none } : Oper)
def tr_o5 : Oper := ({ dst := some 27, op := Op.extract (Operand.tmp 22) 0, type := 39, pos := "l09_tap.go:65", after := #[{ on := 4, ground := Ground.data }], guard := none } : Oper)
def tr_o6 : Oper := ({ dst := some 28, op := Op.extract (Operand.tmp 22) 1, type := 9, pos := "l09_tap.go:65", after := #[{ on := 4, ground := Ground.data }, { on := 9, ground := Ground.gcOnly Departure.lateStores }], guard := none } : Oper)
def tr_o7 : Oper := ({ dst := some 29, op := Op.extract (Operand.tmp 22) 2, type := 60, pos := "l09_tap.go:65", after := #[{ on := 4, ground := Ground.data }, { on := 10, ground := Ground.gcOnly Departure.lateStores }], guard := none } : Oper)
def tr_o8 : Oper := ({ dst := some 8, op := Op.alloc 39, type := 0, pos := "l09_tap.go:65", after := #[], guard := none } : Oper)
def tr_o9 : Oper := ({ dst := none, op := Op.store 39 (Operand.tmp 8) (Operand.tmp 27), type := 0, pos := "l09_tap.go:65", after := #[{ on := 8, ground := Ground.data }, { on := 5, ground := Ground.data }, { on := 3, ground := Ground.chain }, { on := 0, ground := Ground.phase }, { on := 1, ground := Ground.phase }, { on := 2, ground := Ground.phase }, { on := 3, ground := Ground.phase }, { on := 4, ground := Ground.phase }, { on := 5, ground := Ground.phase }, { on := 6, ground := Ground.textOnly Departure.lateStores }, { on := 7, ground := Ground.textOnly Departure.lateStores }, { on := 8, ground := Ground.phase }], guard := none } : Oper)
def tr_o10 : Oper := ({ dst := some 9, op := Op.assign (Operand.tmp 28), type := 9, pos := "l09_tap.go:65", after := #[{ on := 6, ground := Ground.data }, { on := 9, ground := Ground.chain }, { on := 0, ground := Ground.phase }, { on := 1, ground := Ground.phase }, { on := 2, ground := Ground.phase }, { on := 3, ground := Ground.phase }, { on := 4, ground := Ground.phase }, { on := 5, ground := Ground.phase }, { on := 6, ground := Ground.phase }, { on := 7, ground := Ground.textOnly Departure.lateStores }, { on := 8, ground := Ground.phase }, { on := 9, ground := Ground.phase }], guard := none } : Oper)
def tr_o11 : Oper := ({ dst := some 7, op := Op.assign (Operand.tmp 29), type := 60, pos := "l09_tap.go:65", after := #[{ on := 7, ground := Ground.data }, { on := 10, ground := Ground.chain }, { on := 0, ground := Ground.phase }, { on := 1, ground := Ground.phase }, { on := 2, ground := Ground.phase }, { on := 3, ground := Ground.phase }, { on := 4, ground := Ground.phase }, { on := 5, ground := Ground.phase }, { on := 6, ground := Ground.phase }, { on := 7, ground := Ground.phase }, { on := 8, ground := Ground.phase }, { on := 9, ground := Ground.phase }, { on := 10, ground := Ground.phase }], guard := none } : Oper)
def tr_O : Array Oper := #[tr_o0, tr_o1, tr_o2, tr_o3, tr_o4, tr_o5, tr_o6, tr_o7, tr_o8, tr_o9, tr_o10, tr_o11]
theorem tr_no {s : Nat} (h : ([23, 24, 25, 26, 22, 27, 28, 29, 8, 9, 7] : List Nat).contains s = false) : ∀ i, dstAt tr_O i ≠ some s := by
  intro i hi
  have hl : i < 12 := by
    rcases Nat.lt_or_ge i 12 with h1 | h1
    · exact h1
    · unfold dstAt at hi
      rw [Array.getElem?_eq_none (by exact h1)] at hi
      cases hi
  rcases (by omega : i = 0 ∨ i = 1 ∨ i = 2 ∨ i = 3 ∨ i = 4 ∨ i = 5 ∨ i = 6 ∨ i = 7 ∨ i = 8 ∨ i = 9 ∨ i = 10 ∨ i = 11) with rfl | rfl | rfl | rfl | rfl | rfl | rfl | rfl | rfl | rfl | rfl | rfl
  all_goals first
    | (cases hi; simp at h)
    | cases hi
theorem tr_keep (S T S2 T2 : ByteArray) (A2 AA n : Int) (R : Value) {f : Nat → Bool} (e e' : Nat) (hn : f 8 = false) : ∀ j, f j = true → tr_V S T S2 T2 A2 AA n R j e' = tr_V S T S2 T2 A2 AA n R j e := by
  intro j hj
  unfold tr_V
  split
  · rfl
  · rfl
  · rfl
  · rfl
  · rfl
  · rfl
  · rfl
  · rfl
  · rw [hn] at hj; cases hj
  · rfl
  · rfl
  · rfl
set_option maxRecDepth 100000 in
set_option maxHeartbeats 2000000 in
theorem tr_s0 (A : Act) (w1 : World) (Q : Exit → Act → World → Prop) (S T S2 T2 : ByteArray) (A2 AA n : Int) (R : Value) 
    (b : Nat) (e0 e1 e2 e3 e4 e5 : Addr) (hb : A.tmps.getD 5 undef = .pointer (some ⟨b, 0, none⟩)) (ht : A.tmps.getD 6 undef = .string T) (qb : Blk w1 b (curA S AA)) (hE : Err6 w1 e0 e1 e2 e3 e4 e5) (hW : ∀ W, Calls Tryd.prog 64 #[.string T] W fun e w' => e = .returned (.int .i64 n) ∧ w' = W.drew) (hTk : ∀ W, Err6 W e0 e1 e2 e3 e4 e5 → Calls Tryd.prog 63 #[cur S AA, .int .i64 n] W fun e w' => e = .returned (.tuple #[cur S2 A2, .string T2, R]) ∧ Below W.heap.size W w')
    (f : Nat → Bool) (e : Nat) (a : Act) (w : World) (hun : f 0 = false) (hdep : ∀ d ∈ tr_o0.after, Region.binds .any d = true → f d.on = true) (hJ : tr_J w1 S T S2 T2 A2 AA n R f e w) (hFr : Fr tr_O A f (fun j => tr_V S T S2 T2 A2 AA n R j e) a)
    (K : Act → World → Prop) (hK : Hid (∀ v e' w', v = tr_V S T S2 T2 A2 AA n R 0 e' → (∀ j, f j = true → tr_V S T S2 T2 A2 AA n R j e' = tr_V S T S2 T2 A2 AA n R j e) → tr_J w1 S T S2 T2 A2 AA n R (fun j => j == 0 || f j) e' w' → K (a.put tr_o0.dst v) w')) :
    if Region.wanted tr_o0 (yielded tr_O a.tmps) = true then Oper.wp Tryd.prog tr_o0 a w K Q else K (a.put tr_o0.dst undef) w := by
  unfold tr_o0 at hdep hK ⊢
  obtain ⟨hB, h8, h98⟩ := hJ
  have v5 := (hFr.old 5 (tr_no (by decide))).trans hb
  have y := (qb.below hB qb.lt).cell
  replace hB := hid hB
  replace h8 := hid h8
  replace h98 := hid h98
  clear hdep hFr hb ht
  go_simp
  exact hK.out _ e _ rfl (fun _ _ => rfl) ⟨hB.out, h8.out, h98.out⟩
set_option maxRecDepth 100000 in
set_option maxHeartbeats 2000000 in
theorem tr_s1 (A : Act) (w1 : World) (Q : Exit → Act → World → Prop) (S T S2 T2 : ByteArray) (A2 AA n : Int) (R : Value) 
    (b : Nat) (e0 e1 e2 e3 e4 e5 : Addr) (hb : A.tmps.getD 5 undef = .pointer (some ⟨b, 0, none⟩)) (ht : A.tmps.getD 6 undef = .string T) (qb : Blk w1 b (curA S AA)) (hE : Err6 w1 e0 e1 e2 e3 e4 e5) (hW : ∀ W, Calls Tryd.prog 64 #[.string T] W fun e w' => e = .returned (.int .i64 n) ∧ w' = W.drew) (hTk : ∀ W, Err6 W e0 e1 e2 e3 e4 e5 → Calls Tryd.prog 63 #[cur S AA, .int .i64 n] W fun e w' => e = .returned (.tuple #[cur S2 A2, .string T2, R]) ∧ Below W.heap.size W w')
    (f : Nat → Bool) (e : Nat) (a : Act) (w : World) (hun : f 1 = false) (hdep : ∀ d ∈ tr_o1.after, Region.binds .any d = true → f d.on = true) (hJ : tr_J w1 S T S2 T2 A2 AA n R f e w) (hFr : Fr tr_O A f (fun j => tr_V S T S2 T2 A2 AA n R j e) a)
    (K : Act → World → Prop) (hK : Hid (∀ v e' w', v = tr_V S T S2 T2 A2 AA n R 1 e' → (∀ j, f j = true → tr_V S T S2 T2 A2 AA n R j e' = tr_V S T S2 T2 A2 AA n R j e) → tr_J w1 S T S2 T2 A2 AA n R (fun j => j == 1 || f j) e' w' → K (a.put tr_o1.dst v) w')) :
    if Region.wanted tr_o1 (yielded tr_O a.tmps) = true then Oper.wp Tryd.prog tr_o1 a w K Q else K (a.put tr_o1.dst undef) w := by
  unfold tr_o1 at hdep hK ⊢
  obtain ⟨hB, h8, h98⟩ := hJ
  have v6 := (hFr.old 6 (tr_no (by decide))).trans ht
  replace hB := hid hB
  replace h8 := hid h8
  replace h98 := hid h98
  clear hdep hFr hb ht
  go_simp
  exact hK.out _ e _ rfl (fun _ _ => rfl) ⟨hB.out, h8.out, h98.out⟩
set_option maxRecDepth 100000 in
set_option maxHeartbeats 2000000 in
theorem tr_s2 (A : Act) (w1 : World) (Q : Exit → Act → World → Prop) (S T S2 T2 : ByteArray) (A2 AA n : Int) (R : Value) 
    (b : Nat) (e0 e1 e2 e3 e4 e5 : Addr) (hb : A.tmps.getD 5 undef = .pointer (some ⟨b, 0, none⟩)) (ht : A.tmps.getD 6 undef = .string T) (qb : Blk w1 b (curA S AA)) (hE : Err6 w1 e0 e1 e2 e3 e4 e5) (hW : ∀ W, Calls Tryd.prog 64 #[.string T] W fun e w' => e = .returned (.int .i64 n) ∧ w' = W.drew) (hTk : ∀ W, Err6 W e0 e1 e2 e3 e4 e5 → Calls Tryd.prog 63 #[cur S AA, .int .i64 n] W fun e w' => e = .returned (.tuple #[cur S2 A2, .string T2, R]) ∧ Below W.heap.size W w')
    (f : Nat → Bool) (e : Nat) (a : Act) (w : World) (hun : f 2 = false) (hdep : ∀ d ∈ tr_o2.after, Region.binds .any d = true → f d.on = true) (hJ : tr_J w1 S T S2 T2 A2 AA n R f e w) (hFr : Fr tr_O A f (fun j => tr_V S T S2 T2 A2 AA n R j e) a)
    (K : Act → World → Prop) (hK : Hid (∀ v e' w', v = tr_V S T S2 T2 A2 AA n R 2 e' → (∀ j, f j = true → tr_V S T S2 T2 A2 AA n R j e' = tr_V S T S2 T2 A2 AA n R j e) → tr_J w1 S T S2 T2 A2 AA n R (fun j => j == 2 || f j) e' w' → K (a.put tr_o2.dst v) w')) :
    if Region.wanted tr_o2 (yielded tr_O a.tmps) = true then Oper.wp Tryd.prog tr_o2 a w K Q else K (a.put tr_o2.dst undef) w := by
  unfold tr_o2 at hdep hK ⊢
  obtain ⟨hB, h8, h98⟩ := hJ
  have k1 : f 1 = true := hdep { on := 1, ground := .data } (by simp) rfl
  have v24 : a.tmps.getD 24 undef = .string T := hFr.new 1 24 rfl k1
  replace hB := hid hB
  replace h8 := hid h8
  replace h98 := hid h98
  clear hdep hFr hb ht
  go_simp
  go_at_call 64
  refine (hW _).mono ?_
  rintro r w' ⟨rfl, rfl⟩
  go_simp
  exact hK.out _ e _ rfl (fun _ _ => rfl) ⟨hB.out.drew, h8.out, h98.out⟩
set_option maxRecDepth 100000 in
set_option maxHeartbeats 2000000 in
theorem tr_s3 (A : Act) (w1 : World) (Q : Exit → Act → World → Prop) (S T S2 T2 : ByteArray) (A2 AA n : Int) (R : Value) 
    (b : Nat) (e0 e1 e2 e3 e4 e5 : Addr) (hb : A.tmps.getD 5 undef = .pointer (some ⟨b, 0, none⟩)) (ht : A.tmps.getD 6 undef = .string T) (qb : Blk w1 b (curA S AA)) (hE : Err6 w1 e0 e1 e2 e3 e4 e5) (hW : ∀ W, Calls Tryd.prog 64 #[.string T] W fun e w' => e = .returned (.int .i64 n) ∧ w' = W.drew) (hTk : ∀ W, Err6 W e0 e1 e2 e3 e4 e5 → Calls Tryd.prog 63 #[cur S AA, .int .i64 n] W fun e w' => e = .returned (.tuple #[cur S2 A2, .string T2, R]) ∧ Below W.heap.size W w')
    (f : Nat → Bool) (e : Nat) (a : Act) (w : World) (hun : f 3 = false) (hdep : ∀ d ∈ tr_o3.after, Region.binds .any d = true → f d.on = true) (hJ : tr_J w1 S T S2 T2 A2 AA n R f e w) (hFr : Fr tr_O A f (fun j => tr_V S T S2 T2 A2 AA n R j e) a)
    (K : Act → World → Prop) (hK : Hid (∀ v e' w', v = tr_V S T S2 T2 A2 AA n R 3 e' → (∀ j, f j = true → tr_V S T S2 T2 A2 AA n R j e' = tr_V S T S2 T2 A2 AA n R j e) → tr_J w1 S T S2 T2 A2 AA n R (fun j => j == 3 || f j) e' w' → K (a.put tr_o3.dst v) w')) :
    if Region.wanted tr_o3 (yielded tr_O a.tmps) = true then Oper.wp Tryd.prog tr_o3 a w K Q else K (a.put tr_o3.dst undef) w := by
  unfold tr_o3 at hdep hK ⊢
  obtain ⟨hB, h8, h98⟩ := hJ
  have k0 : f 0 = true := hdep { on := 0, ground := .data } (by simp) rfl
  have k2 : f 2 = true := hdep { on := 2, ground := .data } (by simp) rfl
  have v23 : a.tmps.getD 23 undef = cur S AA := hFr.new 0 23 rfl k0
  have v25 : a.tmps.getD 25 undef = .int .i64 n := hFr.new 2 25 rfl k2
  replace hB := hid hB
  replace h8 := hid h8
  replace h98 := hid h98
  clear hdep hFr hb ht
  go_simp
  go_at_call 63
  refine (hTk _ (hE.below hB.out)).mono ?_
  rintro r w' ⟨rfl, hb'⟩
  replace hb' := hid hb'
  go_simp
  exact hK.out _ e _ rfl (fun _ _ => rfl) ⟨new_trans hB.out hb'.out, fun h => ⟨(h8.out h).1.below hb'.out (h8.out h).1.lt, (h8.out h).2⟩, h98.out⟩
set_option maxRecDepth 100000 in
set_option maxHeartbeats 2000000 in
theorem tr_s4 (A : Act) (w1 : World) (Q : Exit → Act → World → Prop) (S T S2 T2 : ByteArray) (A2 AA n : Int) (R : Value) 
    (b : Nat) (e0 e1 e2 e3 e4 e5 : Addr) (hb : A.tmps.getD 5 undef = .pointer (some ⟨b, 0, none⟩)) (ht : A.tmps.getD 6 undef = .string T) (qb : Blk w1 b (curA S AA)) (hE : Err6 w1 e0 e1 e2 e3 e4 e5) (hW : ∀ W, Calls Tryd.prog 64 #[.string T] W fun e w' => e = .returned (.int .i64 n) ∧ w' = W.drew) (hTk : ∀ W, Err6 W e0 e1 e2 e3 e4 e5 → Calls Tryd.prog 63 #[cur S AA, .int .i64 n] W fun e w' => e = .returned (.tuple #[cur S2 A2, .string T2, R]) ∧ Below W.heap.size W w')
    (f : Nat → Bool) (e : Nat) (a : Act) (w : World) (hun : f 4 = false) (hdep : ∀ d ∈ tr_o4.after, Region.binds .any d = true → f d.on = true) (hJ : tr_J w1 S T S2 T2 A2 AA n R f e w) (hFr : Fr tr_O A f (fun j => tr_V S T S2 T2 A2 AA n R j e) a)
    (K : Act → World → Prop) (hK : Hid (∀ v e' w', v = tr_V S T S2 T2 A2 AA n R 4 e' → (∀ j, f j = true → tr_V S T S2 T2 A2 AA n R j e' = tr_V S T S2 T2 A2 AA n R j e) → tr_J w1 S T S2 T2 A2 AA n R (fun j => j == 4 || f j) e' w' → K (a.put tr_o4.dst v) w')) :
    if Region.wanted tr_o4 (yielded tr_O a.tmps) = true then Oper.wp Tryd.prog tr_o4 a w K Q else K (a.put tr_o4.dst undef) w := by
  unfold tr_o4 at hdep hK ⊢
  obtain ⟨hB, h8, h98⟩ := hJ
  have k3 : f 3 = true := hdep { on := 3, ground := .data } (by simp) rfl
  have v26 : a.tmps.getD 26 undef = .tuple #[cur S2 A2, .string T2, R] := hFr.new 3 26 rfl k3
  replace hB := hid hB
  replace h8 := hid h8
  replace h98 := hid h98
  clear hdep hFr hb ht
  go_simp
  exact hK.out _ e _ rfl (fun _ _ => rfl) ⟨hB.out, h8.out, h98.out⟩
set_option maxRecDepth 100000 in
set_option maxHeartbeats 2000000 in
theorem tr_s5 (A : Act) (w1 : World) (Q : Exit → Act → World → Prop) (S T S2 T2 : ByteArray) (A2 AA n : Int) (R : Value) 
    (b : Nat) (e0 e1 e2 e3 e4 e5 : Addr) (hb : A.tmps.getD 5 undef = .pointer (some ⟨b, 0, none⟩)) (ht : A.tmps.getD 6 undef = .string T) (qb : Blk w1 b (curA S AA)) (hE : Err6 w1 e0 e1 e2 e3 e4 e5) (hW : ∀ W, Calls Tryd.prog 64 #[.string T] W fun e w' => e = .returned (.int .i64 n) ∧ w' = W.drew) (hTk : ∀ W, Err6 W e0 e1 e2 e3 e4 e5 → Calls Tryd.prog 63 #[cur S AA, .int .i64 n] W fun e w' => e = .returned (.tuple #[cur S2 A2, .string T2, R]) ∧ Below W.heap.size W w')
    (f : Nat → Bool) (e : Nat) (a : Act) (w : World) (hun : f 5 = false) (hdep : ∀ d ∈ tr_o5.after, Region.binds .any d = true → f d.on = true) (hJ : tr_J w1 S T S2 T2 A2 AA n R f e w) (hFr : Fr tr_O A f (fun j => tr_V S T S2 T2 A2 AA n R j e) a)
    (K : Act → World → Prop) (hK : Hid (∀ v e' w', v = tr_V S T S2 T2 A2 AA n R 5 e' → (∀ j, f j = true → tr_V S T S2 T2 A2 AA n R j e' = tr_V S T S2 T2 A2 AA n R j e) → tr_J w1 S T S2 T2 A2 AA n R (fun j => j == 5 || f j) e' w' → K (a.put tr_o5.dst v) w')) :
    if Region.wanted tr_o5 (yielded tr_O a.tmps) = true then Oper.wp Tryd.prog tr_o5 a w K Q else K (a.put tr_o5.dst undef) w := by
  unfold tr_o5 at hdep hK ⊢
  obtain ⟨hB, h8, h98⟩ := hJ
  have k4 : f 4 = true := hdep { on := 4, ground := .data } (by simp) rfl
  have v22 : a.tmps.getD 22 undef = .tuple #[cur S2 A2, .string T2, R] := hFr.new 4 22 rfl k4
  replace hB := hid hB
  replace h8 := hid h8
  replace h98 := hid h98
  clear hdep hFr hb ht
  go_simp
  exact hK.out _ e _ rfl (fun _ _ => rfl) ⟨hB.out, h8.out, h98.out⟩
set_option maxRecDepth 100000 in
set_option maxHeartbeats 2000000 in
theorem tr_s6 (A : Act) (w1 : World) (Q : Exit → Act → World → Prop) (S T S2 T2 : ByteArray) (A2 AA n : Int) (R : Value) 
    (b : Nat) (e0 e1 e2 e3 e4 e5 : Addr) (hb : A.tmps.getD 5 undef = .pointer (some ⟨b, 0, none⟩)) (ht : A.tmps.getD 6 undef = .string T) (qb : Blk w1 b (curA S AA)) (hE : Err6 w1 e0 e1 e2 e3 e4 e5) (hW : ∀ W, Calls Tryd.prog 64 #[.string T] W fun e w' => e = .returned (.int .i64 n) ∧ w' = W.drew) (hTk : ∀ W, Err6 W e0 e1 e2 e3 e4 e5 → Calls Tryd.prog 63 #[cur S AA, .int .i64 n] W fun e w' => e = .returned (.tuple #[cur S2 A2, .string T2, R]) ∧ Below W.heap.size W w')
    (f : Nat → Bool) (e : Nat) (a : Act) (w : World) (hun : f 6 = false) (hdep : ∀ d ∈ tr_o6.after, Region.binds .any d = true → f d.on = true) (hJ : tr_J w1 S T S2 T2 A2 AA n R f e w) (hFr : Fr tr_O A f (fun j => tr_V S T S2 T2 A2 AA n R j e) a)
    (K : Act → World → Prop) (hK : Hid (∀ v e' w', v = tr_V S T S2 T2 A2 AA n R 6 e' → (∀ j, f j = true → tr_V S T S2 T2 A2 AA n R j e' = tr_V S T S2 T2 A2 AA n R j e) → tr_J w1 S T S2 T2 A2 AA n R (fun j => j == 6 || f j) e' w' → K (a.put tr_o6.dst v) w')) :
    if Region.wanted tr_o6 (yielded tr_O a.tmps) = true then Oper.wp Tryd.prog tr_o6 a w K Q else K (a.put tr_o6.dst undef) w := by
  unfold tr_o6 at hdep hK ⊢
  obtain ⟨hB, h8, h98⟩ := hJ
  have k4 : f 4 = true := hdep { on := 4, ground := .data } (by simp) rfl
  have v22 : a.tmps.getD 22 undef = .tuple #[cur S2 A2, .string T2, R] := hFr.new 4 22 rfl k4
  replace hB := hid hB
  replace h8 := hid h8
  replace h98 := hid h98
  clear hdep hFr hb ht
  go_simp
  exact hK.out _ e _ rfl (fun _ _ => rfl) ⟨hB.out, h8.out, h98.out⟩
set_option maxRecDepth 100000 in
set_option maxHeartbeats 2000000 in
theorem tr_s7 (A : Act) (w1 : World) (Q : Exit → Act → World → Prop) (S T S2 T2 : ByteArray) (A2 AA n : Int) (R : Value) 
    (b : Nat) (e0 e1 e2 e3 e4 e5 : Addr) (hb : A.tmps.getD 5 undef = .pointer (some ⟨b, 0, none⟩)) (ht : A.tmps.getD 6 undef = .string T) (qb : Blk w1 b (curA S AA)) (hE : Err6 w1 e0 e1 e2 e3 e4 e5) (hW : ∀ W, Calls Tryd.prog 64 #[.string T] W fun e w' => e = .returned (.int .i64 n) ∧ w' = W.drew) (hTk : ∀ W, Err6 W e0 e1 e2 e3 e4 e5 → Calls Tryd.prog 63 #[cur S AA, .int .i64 n] W fun e w' => e = .returned (.tuple #[cur S2 A2, .string T2, R]) ∧ Below W.heap.size W w')
    (f : Nat → Bool) (e : Nat) (a : Act) (w : World) (hun : f 7 = false) (hdep : ∀ d ∈ tr_o7.after, Region.binds .any d = true → f d.on = true) (hJ : tr_J w1 S T S2 T2 A2 AA n R f e w) (hFr : Fr tr_O A f (fun j => tr_V S T S2 T2 A2 AA n R j e) a)
    (K : Act → World → Prop) (hK : Hid (∀ v e' w', v = tr_V S T S2 T2 A2 AA n R 7 e' → (∀ j, f j = true → tr_V S T S2 T2 A2 AA n R j e' = tr_V S T S2 T2 A2 AA n R j e) → tr_J w1 S T S2 T2 A2 AA n R (fun j => j == 7 || f j) e' w' → K (a.put tr_o7.dst v) w')) :
    if Region.wanted tr_o7 (yielded tr_O a.tmps) = true then Oper.wp Tryd.prog tr_o7 a w K Q else K (a.put tr_o7.dst undef) w := by
  unfold tr_o7 at hdep hK ⊢
  obtain ⟨hB, h8, h98⟩ := hJ
  have k4 : f 4 = true := hdep { on := 4, ground := .data } (by simp) rfl
  have v22 : a.tmps.getD 22 undef = .tuple #[cur S2 A2, .string T2, R] := hFr.new 4 22 rfl k4
  replace hB := hid hB
  replace h8 := hid h8
  replace h98 := hid h98
  clear hdep hFr hb ht
  go_simp
  exact hK.out _ e _ rfl (fun _ _ => rfl) ⟨hB.out, h8.out, h98.out⟩
set_option maxRecDepth 100000 in
set_option maxHeartbeats 2000000 in
theorem tr_s8 (A : Act) (w1 : World) (Q : Exit → Act → World → Prop) (S T S2 T2 : ByteArray) (A2 AA n : Int) (R : Value) 
    (b : Nat) (e0 e1 e2 e3 e4 e5 : Addr) (hb : A.tmps.getD 5 undef = .pointer (some ⟨b, 0, none⟩)) (ht : A.tmps.getD 6 undef = .string T) (qb : Blk w1 b (curA S AA)) (hE : Err6 w1 e0 e1 e2 e3 e4 e5) (hW : ∀ W, Calls Tryd.prog 64 #[.string T] W fun e w' => e = .returned (.int .i64 n) ∧ w' = W.drew) (hTk : ∀ W, Err6 W e0 e1 e2 e3 e4 e5 → Calls Tryd.prog 63 #[cur S AA, .int .i64 n] W fun e w' => e = .returned (.tuple #[cur S2 A2, .string T2, R]) ∧ Below W.heap.size W w')
    (f : Nat → Bool) (e : Nat) (a : Act) (w : World) (hun : f 8 = false) (hdep : ∀ d ∈ tr_o8.after, Region.binds .any d = true → f d.on = true) (hJ : tr_J w1 S T S2 T2 A2 AA n R f e w) (hFr : Fr tr_O A f (fun j => tr_V S T S2 T2 A2 AA n R j e) a)
    (K : Act → World → Prop) (hK : Hid (∀ v e' w', v = tr_V S T S2 T2 A2 AA n R 8 e' → (∀ j, f j = true → tr_V S T S2 T2 A2 AA n R j e' = tr_V S T S2 T2 A2 AA n R j e) → tr_J w1 S T S2 T2 A2 AA n R (fun j => j == 8 || f j) e' w' → K (a.put tr_o8.dst v) w')) :
    if Region.wanted tr_o8 (yielded tr_O a.tmps) = true then Oper.wp Tryd.prog tr_o8 a w K Q else K (a.put tr_o8.dst undef) w := by
  unfold tr_o8 at hdep hK ⊢
  obtain ⟨hB, h8, h98⟩ := hJ
  have z9 : f 9 = false := by
    cases h : f 9
    · rfl
    · have := h98 h
      rw [hun] at this
      cases this
  have hn := hid (Blk.new w (curA eS 0) 39)
  have hsz := hid hB.size
  replace hB := hid hB
  replace h8 := hid h8
  replace h98 := hid h98
  clear hdep hFr hb ht
  go_simp
  exact hK.out _ w.heap.size _ rfl (tr_keep S T S2 T2 A2 AA n R e w.heap.size hun) ⟨hB.out.alloc hsz.out _, fun _ => ⟨(by show Blk _ _ (bif f 9 then _ else curA eS 0); rw [z9]; exact hn.out), hsz.out⟩, fun _ => rfl⟩
set_option maxRecDepth 100000 in
set_option maxHeartbeats 2000000 in
theorem tr_s9 (A : Act) (w1 : World) (Q : Exit → Act → World → Prop) (S T S2 T2 : ByteArray) (A2 AA n : Int) (R : Value) 
    (b : Nat) (e0 e1 e2 e3 e4 e5 : Addr) (hb : A.tmps.getD 5 undef = .pointer (some ⟨b, 0, none⟩)) (ht : A.tmps.getD 6 undef = .string T) (qb : Blk w1 b (curA S AA)) (hE : Err6 w1 e0 e1 e2 e3 e4 e5) (hW : ∀ W, Calls Tryd.prog 64 #[.string T] W fun e w' => e = .returned (.int .i64 n) ∧ w' = W.drew) (hTk : ∀ W, Err6 W e0 e1 e2 e3 e4 e5 → Calls Tryd.prog 63 #[cur S AA, .int .i64 n] W fun e w' => e = .returned (.tuple #[cur S2 A2, .string T2, R]) ∧ Below W.heap.size W w')
    (f : Nat → Bool) (e : Nat) (a : Act) (w : World) (hun : f 9 = false) (hdep : ∀ d ∈ tr_o9.after, Region.binds .any d = true → f d.on = true) (hJ : tr_J w1 S T S2 T2 A2 AA n R f e w) (hFr : Fr tr_O A f (fun j => tr_V S T S2 T2 A2 AA n R j e) a)
    (K : Act → World → Prop) (hK : Hid (∀ v e' w', v = tr_V S T S2 T2 A2 AA n R 9 e' → (∀ j, f j = true → tr_V S T S2 T2 A2 AA n R j e' = tr_V S T S2 T2 A2 AA n R j e) → tr_J w1 S T S2 T2 A2 AA n R (fun j => j == 9 || f j) e' w' → K (a.put tr_o9.dst v) w')) :
    if Region.wanted tr_o9 (yielded tr_O a.tmps) = true then Oper.wp Tryd.prog tr_o9 a w K Q else K (a.put tr_o9.dst undef) w := by
  unfold tr_o9 at hdep hK ⊢
  obtain ⟨hB, h8, h98⟩ := hJ
  have k8 : f 8 = true := hdep { on := 8, ground := .data } (by simp) rfl
  have k5 : f 5 = true := hdep { on := 5, ground := .data } (by simp) rfl
  have v8 : a.tmps.getD 8 undef = .pointer (some ⟨e, 0, none⟩) := hFr.new 8 8 rfl k8
  have v27 : a.tmps.getD 27 undef = cur S2 A2 := hFr.new 5 27 rfl k5
  have h9 := h8 k8
  rw [hun] at h9
  have h10 : Blk w e (curA eS 0) := h9.1
  have y := h10.cell
  have yf := h10.frozen
  have yl := h10.lt
  have hfin := hid (show Blk ((w.setCell ⟨e, 0, none⟩ (.string S2)).setCell ⟨e, 1, none⟩ (.int .i64 A2)) e (curA S2 A2) from (h10.set 0 (.string S2)).set 1 (.int .i64 A2))
  have hle := h9.2
  replace h9 := hid h9
  replace h10 := hid h10
  replace hB := hid hB
  replace h8 := hid h8
  replace h98 := hid h98
  clear hdep hFr hb ht
  go_simp
  exact hK.out (tr_V S T S2 T2 A2 AA n R 9 e) e _ rfl (fun _ _ => rfl) ⟨(hB.out.setCell (p := ⟨e, 0, none⟩) hle _).setCell (p := ⟨e, 1, none⟩) hle _, fun _ => ⟨hfin.out, hle⟩, fun _ => k8⟩
set_option maxRecDepth 100000 in
set_option maxHeartbeats 2000000 in
theorem tr_s10 (A : Act) (w1 : World) (Q : Exit → Act → World → Prop) (S T S2 T2 : ByteArray) (A2 AA n : Int) (R : Value) 
    (b : Nat) (e0 e1 e2 e3 e4 e5 : Addr) (hb : A.tmps.getD 5 undef = .pointer (some ⟨b, 0, none⟩)) (ht : A.tmps.getD 6 undef = .string T) (qb : Blk w1 b (curA S AA)) (hE : Err6 w1 e0 e1 e2 e3 e4 e5) (hW : ∀ W, Calls Tryd.prog 64 #[.string T] W fun e w' => e = .returned (.int .i64 n) ∧ w' = W.drew) (hTk : ∀ W, Err6 W e0 e1 e2 e3 e4 e5 → Calls Tryd.prog 63 #[cur S AA, .int .i64 n] W fun e w' => e = .returned (.tuple #[cur S2 A2, .string T2, R]) ∧ Below W.heap.size W w')
    (f : Nat → Bool) (e : Nat) (a : Act) (w : World) (hun : f 10 = false) (hdep : ∀ d ∈ tr_o10.after, Region.binds .any d = true → f d.on = true) (hJ : tr_J w1 S T S2 T2 A2 AA n R f e w) (hFr : Fr tr_O A f (fun j => tr_V S T S2 T2 A2 AA n R j e) a)
    (K : Act → World → Prop) (hK : Hid (∀ v e' w', v = tr_V S T S2 T2 A2 AA n R 10 e' → (∀ j, f j = true → tr_V S T S2 T2 A2 AA n R j e' = tr_V S T S2 T2 A2 AA n R j e) → tr_J w1 S T S2 T2 A2 AA n R (fun j => j == 10 || f j) e' w' → K (a.put tr_o10.dst v) w')) :
    if Region.wanted tr_o10 (yielded tr_O a.tmps) = true then Oper.wp Tryd.prog tr_o10 a w K Q else K (a.put tr_o10.dst undef) w := by
  unfold tr_o10 at hdep hK ⊢
  obtain ⟨hB, h8, h98⟩ := hJ
  have k6 : f 6 = true := hdep { on := 6, ground := .data } (by simp) rfl
  have v28 : a.tmps.getD 28 undef = .string T2 := hFr.new 6 28 rfl k6
  replace hB := hid hB
  replace h8 := hid h8
  replace h98 := hid h98
  clear hdep hFr hb ht
  go_simp
  exact hK.out _ e _ rfl (fun _ _ => rfl) ⟨hB.out, h8.out, h98.out⟩
set_option maxRecDepth 100000 in
set_option maxHeartbeats 2000000 in
theorem tr_s11 (A : Act) (w1 : World) (Q : Exit → Act → World → Prop) (S T S2 T2 : ByteArray) (A2 AA n : Int) (R : Value) 
    (b : Nat) (e0 e1 e2 e3 e4 e5 : Addr) (hb : A.tmps.getD 5 undef = .pointer (some ⟨b, 0, none⟩)) (ht : A.tmps.getD 6 undef = .string T) (qb : Blk w1 b (curA S AA)) (hE : Err6 w1 e0 e1 e2 e3 e4 e5) (hW : ∀ W, Calls Tryd.prog 64 #[.string T] W fun e w' => e = .returned (.int .i64 n) ∧ w' = W.drew) (hTk : ∀ W, Err6 W e0 e1 e2 e3 e4 e5 → Calls Tryd.prog 63 #[cur S AA, .int .i64 n] W fun e w' => e = .returned (.tuple #[cur S2 A2, .string T2, R]) ∧ Below W.heap.size W w')
    (f : Nat → Bool) (e : Nat) (a : Act) (w : World) (hun : f 11 = false) (hdep : ∀ d ∈ tr_o11.after, Region.binds .any d = true → f d.on = true) (hJ : tr_J w1 S T S2 T2 A2 AA n R f e w) (hFr : Fr tr_O A f (fun j => tr_V S T S2 T2 A2 AA n R j e) a)
    (K : Act → World → Prop) (hK : Hid (∀ v e' w', v = tr_V S T S2 T2 A2 AA n R 11 e' → (∀ j, f j = true → tr_V S T S2 T2 A2 AA n R j e' = tr_V S T S2 T2 A2 AA n R j e) → tr_J w1 S T S2 T2 A2 AA n R (fun j => j == 11 || f j) e' w' → K (a.put tr_o11.dst v) w')) :
    if Region.wanted tr_o11 (yielded tr_O a.tmps) = true then Oper.wp Tryd.prog tr_o11 a w K Q else K (a.put tr_o11.dst undef) w := by
  unfold tr_o11 at hdep hK ⊢
  obtain ⟨hB, h8, h98⟩ := hJ
  have k7 : f 7 = true := hdep { on := 7, ground := .data } (by simp) rfl
  have v29 : a.tmps.getD 29 undef = R := hFr.new 7 29 rfl k7
  replace hB := hid hB
  replace h8 := hid h8
  replace h98 := hid h98
  clear hdep hFr hb ht
  go_simp
  exact hK.out _ e _ rfl (fun _ _ => rfl) ⟨hB.out, h8.out, h98.out⟩
set_option maxRecDepth 100000 in
set_option maxHeartbeats 4000000 in
theorem tr_reg (A : Act) (w1 : World) (Q : Exit → Act → World → Prop) (S T S2 T2 : ByteArray) (A2 AA n : Int) (R : Value) 
    (b : Nat) (e0 e1 e2 e3 e4 e5 : Addr) (hb : A.tmps.getD 5 undef = .pointer (some ⟨b, 0, none⟩)) (ht : A.tmps.getD 6 undef = .string T) (qb : Blk w1 b (curA S AA)) (hE : Err6 w1 e0 e1 e2 e3 e4 e5) (hW : ∀ W, Calls Tryd.prog 64 #[.string T] W fun e w' => e = .returned (.int .i64 n) ∧ w' = W.drew) (hTk : ∀ W, Err6 W e0 e1 e2 e3 e4 e5 → Calls Tryd.prog 63 #[cur S AA, .int .i64 n] W fun e w' => e = .returned (.tuple #[cur S2 A2, .string T2, R]) ∧ Below W.heap.size W w') (hN : 30 ≤ A.tmps.size)
    (h : ∀ (w : World) (e : Nat), Below w1.heap.size w1 w ∧ Blk w e (curA S2 A2) ∧ w1.heap.size ≤ e → Q .normal (putsA A [(23, cur S AA), (24, .string T), (25, .int .i64 n), (26, .tuple #[cur S2 A2, .string T2, R]), (22, .tuple #[cur S2 A2, .string T2, R]), (27, cur S2 A2), (28, .string T2), (29, R), (8, .pointer (some ⟨e, 0, none⟩)), (9, .string T2), (7, R)]) w) :
    (Code.region 4 #[({ dst := some 23, op := Op.load 39 (Operand.tmp 5), type := 39, pos := "l09_tap.go:65", after := #[], guard := none } : Oper), ({ dst := some 24, op := Op.move (Operand.tmp 6), type := 9, pos := "l09_tap.go:65", after := #[], guard := none } : Oper), ({ dst := some 25, op := Op.call { callee := Callee.value (Operand.func 64), args := #[Operand.tmp 24], argTypes := #[9] }, type := 3, pos := "l09_tap.go:65", after := #[{ on := 1, ground := Ground.data }], guard := none } : Oper), ({ dst := some 26, op := Op.call { callee := Callee.value (Operand.func 63), args := #[Operand.tmp 23, Operand.tmp 25], argTypes := #[39, 3] }, type := 94, pos := "l09_tap.go:65", after := #[{ on := 0, ground := Ground.data }, { on := 2, ground := Ground.data }, { on := 2, ground := Ground.chain }], guard := none } : Oper), ({ dst := some 22, op := Op.move (Operand.tmp 26), type := 94, pos := "l09_tap.go:65", after := #[{ on := 3, ground := Ground.data }], guard := none } : Oper), ({ dst := some 27, op := Op.extract (Operand.tmp 22) 0, type := 39, pos := "l09_tap.go:65", after := #[{ on := 4, ground := Ground.data }], guard := none } : Oper), ({ dst := some 28, op := Op.extract (Operand.tmp 22) 1, type := 9, pos := "l09_tap.go:65", after := #[{ on := 4, ground := Ground.data }, { on := 9, ground := Ground.gcOnly Departure.lateStores }], guard := none } : Oper), ({ dst := some 29, op := Op.extract (Operand.tmp 22) 2, type := 60, pos := "l09_tap.go:65", after := #[{ on := 4, ground := Ground.data }, { on := 10, ground := Ground.gcOnly Departure.lateStores }], guard := none } : Oper), ({ dst := some 8, op := Op.alloc 39, type := 0, pos := "l09_tap.go:65", after := #[], guard := none } : Oper), ({ dst := none, op := Op.store 39 (Operand.tmp 8) (Operand.tmp 27), type := 0, pos := "l09_tap.go:65", after := #[{ on := 8, ground := Ground.data }, { on := 5, ground := Ground.data }, { on := 3, ground := Ground.chain }, { on := 0, ground := Ground.phase }, { on := 1, ground := Ground.phase }, { on := 2, ground := Ground.phase }, { on := 3, ground := Ground.phase }, { on := 4, ground := Ground.phase }, { on := 5, ground := Ground.phase }, { on := 6, ground := Ground.textOnly Departure.lateStores }, { on := 7, ground := Ground.textOnly Departure.lateStores }, { on := 8, ground := Ground.phase }], guard := none } : Oper), ({ dst := some 9, op := Op.assign (Operand.tmp 28), type := 9, pos := "l09_tap.go:65", after := #[{ on := 6, ground := Ground.data }, { on := 9, ground := Ground.chain }, { on := 0, ground := Ground.phase }, { on := 1, ground := Ground.phase }, { on := 2, ground := Ground.phase }, { on := 3, ground := Ground.phase }, { on := 4, ground := Ground.phase }, { on := 5, ground := Ground.phase }, { on := 6, ground := Ground.phase }, { on := 7, ground := Ground.textOnly Departure.lateStores }, { on := 8, ground := Ground.phase }, { on := 9, ground := Ground.phase }], guard := none } : Oper), ({ dst := some 7, op := Op.assign (Operand.tmp 29), type := 60, pos := "l09_tap.go:65", after := #[{ on := 7, ground := Ground.data }, { on := 10, ground := Ground.chain }, { on := 0, ground := Ground.phase }, { on := 1, ground := Ground.phase }, { on := 2, ground := Ground.phase }, { on := 3, ground := Ground.phase }, { on := 4, ground := Ground.phase }, { on := 5, ground := Ground.phase }, { on := 6, ground := Ground.phase }, { on := 7, ground := Ground.phase }, { on := 8, ground := Ground.phase }, { on := 9, ground := Ground.phase }, { on := 10, ground := Ground.phase }], guard := none } : Oper)] true).wp Tryd.prog Q A w1 := by
  show (Code.region 4 tr_O true).wp Tryd.prog Q A w1
  refine wp_region_slots (E := Nat) (tr_V S T S2 T2 A2 AA n R) (tr_J w1 S T S2 T2 A2 AA n R) (by kernel_rfl) (by kernel_rfl) (by kernel_rfl) (fun i s hi => ?_) ?_ 0 ⟨(Below.refl _ _).drew, fun h => (by cases h), fun h => (by cases h)⟩ ?_
  · cases hc : ([23, 24, 25, 26, 22, 27, 28, 29, 8, 9, 7] : List Nat).contains s
    · exact absurd hi (tr_no hc i)
    · have : s ∈ ([23, 24, 25, 26, 22, 27, 28, 29, 8, 9, 7] : List Nat) := by simpa using hc
      simp only [List.mem_cons, List.not_mem_nil, or_false] at this
      omega
  · intro f e a w i o hi ho hun hdep hJ hFr K hK
    have hi8 : i < 12 := hi
    rcases (by omega : i = 0 ∨ i = 1 ∨ i = 2 ∨ i = 3 ∨ i = 4 ∨ i = 5 ∨ i = 6 ∨ i = 7 ∨ i = 8 ∨ i = 9 ∨ i = 10 ∨ i = 11) with rfl | rfl | rfl | rfl | rfl | rfl | rfl | rfl | rfl | rfl | rfl | rfl
    · obtain rfl := Option.some.inj ho
      exact tr_s0 A w1 Q S T S2 T2 A2 AA n R b e0 e1 e2 e3 e4 e5 hb ht qb hE hW hTk f e a w hun hdep hJ hFr K hK
    · obtain rfl := Option.some.inj ho
      exact tr_s1 A w1 Q S T S2 T2 A2 AA n R b e0 e1 e2 e3 e4 e5 hb ht qb hE hW hTk f e a w hun hdep hJ hFr K hK
    · obtain rfl := Option.some.inj ho
      exact tr_s2 A w1 Q S T S2 T2 A2 AA n R b e0 e1 e2 e3 e4 e5 hb ht qb hE hW hTk f e a w hun hdep hJ hFr K hK
    · obtain rfl := Option.some.inj ho
      exact tr_s3 A w1 Q S T S2 T2 A2 AA n R b e0 e1 e2 e3 e4 e5 hb ht qb hE hW hTk f e a w hun hdep hJ hFr K hK
    · obtain rfl := Option.some.inj ho
      exact tr_s4 A w1 Q S T S2 T2 A2 AA n R b e0 e1 e2 e3 e4 e5 hb ht qb hE hW hTk f e a w hun hdep hJ hFr K hK
    · obtain rfl := Option.some.inj ho
      exact tr_s5 A w1 Q S T S2 T2 A2 AA n R b e0 e1 e2 e3 e4 e5 hb ht qb hE hW hTk f e a w hun hdep hJ hFr K hK
    · obtain rfl := Option.some.inj ho
      exact tr_s6 A w1 Q S T S2 T2 A2 AA n R b e0 e1 e2 e3 e4 e5 hb ht qb hE hW hTk f e a w hun hdep hJ hFr K hK
    · obtain rfl := Option.some.inj ho
      exact tr_s7 A w1 Q S T S2 T2 A2 AA n R b e0 e1 e2 e3 e4 e5 hb ht qb hE hW hTk f e a w hun hdep hJ hFr K hK
    · obtain rfl := Option.some.inj ho
      exact tr_s8 A w1 Q S T S2 T2 A2 AA n R b e0 e1 e2 e3 e4 e5 hb ht qb hE hW hTk f e a w hun hdep hJ hFr K hK
    · obtain rfl := Option.some.inj ho
      exact tr_s9 A w1 Q S T S2 T2 A2 AA n R b e0 e1 e2 e3 e4 e5 hb ht qb hE hW hTk f e a w hun hdep hJ hFr K hK
    · obtain rfl := Option.some.inj ho
      exact tr_s10 A w1 Q S T S2 T2 A2 AA n R b e0 e1 e2 e3 e4 e5 hb ht qb hE hW hTk f e a w hun hdep hJ hFr K hK
    · obtain rfl := Option.some.inj ho
      exact tr_s11 A w1 Q S T S2 T2 A2 AA n R b e0 e1 e2 e3 e4 e5 hb ht qb hE hW hTk f e a w hun hdep hJ hFr K hK
  · intro f e a w hall hJ hFr
    have := h w e ⟨hJ.1, (by have := (hJ.2.1 (hall 8 (by decide))).1; rw [hall 9 (by decide)] at this; exact this), (hJ.2.1 (hall 8 (by decide))).2⟩
    rw [hFr.eq [(23, cur S AA), (24, .string T), (25, .int .i64 n), (26, .tuple #[cur S2 A2, .string T2, R]), (22, .tuple #[cur S2 A2, .string T2, R]), (27, cur S2 A2), (28, .string T2), (29, R), (8, .pointer (some ⟨e, 0, none⟩)), (9, .string T2), (7, R)] (fun s hs => ?_) (fun i s hi => ?_)]
    · exact this
    · have hne : ∀ k ∈ ([23, 24, 25, 26, 22, 27, 28, 29, 8, 9, 7] : List Nat), k ≠ s := by
        intro k hk e2
        subst e2
        simp only [List.mem_cons, List.not_mem_nil, or_false] at hk
        rcases hk with rfl | rfl | rfl | rfl | rfl | rfl | rfl | rfl | rfl | rfl | rfl
        · exact hs 0 rfl
        · exact hs 1 rfl
        · exact hs 2 rfl
        · exact hs 3 rfl
        · exact hs 4 rfl
        · exact hs 5 rfl
        · exact hs 6 rfl
        · exact hs 7 rfl
        · exact hs 8 rfl
        · exact hs 10 rfl
        · exact hs 11 rfl
      simp only [lookA]
      simp [hne]
    · have hl : i < 12 := by
        rcases Nat.lt_or_ge i 12 with h1 | h1
        · exact h1
        · unfold dstAt at hi
          rw [Array.getElem?_eq_none (by exact h1)] at hi
          cases hi
      refine ⟨hall i hl, ?_⟩
      rcases (by omega : i = 0 ∨ i = 1 ∨ i = 2 ∨ i = 3 ∨ i = 4 ∨ i = 5 ∨ i = 6 ∨ i = 7 ∨ i = 8 ∨ i = 9 ∨ i = 10 ∨ i = 11) with rfl | rfl | rfl | rfl | rfl | rfl | rfl | rfl | rfl | rfl | rfl | rfl
      all_goals first
        | (cases hi; rfl)
        | cases hi
end Go.Proofs.YtakdhmlegickmaaDoor
