/- An event's text: the specification. -/
import Derived.Test.YtneagomkohoceabDoorTxe
import Derived.Test.YtneagomkohoceabDoorIw
namespace Go.Proofs.YtneagomkohoceabDoor
open Go.ChangeShapes Go.WideShapes Go.ChangeAt Go.RowKit
set_option linter.unusedVariables false
set_option linter.unusedSimpArgs false

def evwA : Array Value := #[.string ⟨#[]⟩, .string ⟨#[98, 111, 114, 100, 101, 114]⟩, .string ⟨#[98, 101, 101, 112]⟩, .string ⟨#[112, 115, 103]⟩, .string ⟨#[105, 110]⟩, .string ⟨#[105, 110, 116]⟩]
theorem evwA_at : ∀ k, k < 6 → evwA[k]? = some (.string (evW k)) := fun k hk => match k, hk with
  | 0, _ => rfl
  | 1, _ => rfl
  | 2, _ => rfl
  | 3, _ => rfl
  | 4, _ => rfl
  | 5, _ => rfl
  | k + 6, h => by omega
def ex_V (b T kk V : Nat) (DT WK DV : ByteArray) : Nat → Nat → Value := fun i e => match i with
  | 0 => .pointer (some ⟨b, 0, none⟩)
  | 1 => .int .i64 (T : Int)
  | 2 => .string (DT)
  | 3 => .string (DT ++ ⟨#[32]⟩)
  | 4 => .slice (some ⟨e, 0, none⟩) 6 6
  | 5 => .pointer (some ⟨b, 1, none⟩)
  | 6 => .int .i64 (kk : Int)
  | 7 => .pointer (some ⟨e, kk, none⟩)
  | 8 => .string (WK)
  | 9 => .string (DT ++ ⟨#[32]⟩ ++ WK)
  | 10 => .string (DT ++ ⟨#[32]⟩ ++ WK ++ ⟨#[32]⟩)
  | 11 => .pointer (some ⟨b, 2, none⟩)
  | 12 => .int .i64 (V : Int)
  | 13 => .string (DV)
  | 14 => .string (DT ++ ⟨#[32]⟩ ++ WK ++ ⟨#[32]⟩ ++ DV)
  | 15 => .string (DT ++ ⟨#[32]⟩ ++ WK ++ ⟨#[32]⟩ ++ DV)
  | _ => undef
def ex_J (w1 : World) (b T kk V : Nat) (DT WK DV : ByteArray) (f : Nat → Bool) (e : Nat) (w : World) : Prop :=
  Below w1.heap.size w1 w ∧ (f 4 = true → w1.heap.size ≤ e ∧ Blk w e evwA) ∧ (f 7 = true → f 4 = true)
def ex_o0 : Oper := ({ dst := some 3, op := Op.fieldAddr 26 (Operand.tmp 1) 0, type := 0, pos := "l15_text.go:53", after := #[], guard := none } : Oper)
def ex_o1 : Oper := ({ dst := some 4, op := Op.load 3 (Operand.tmp 3), type := 3, pos := "l15_text.go:53", after := #[{ on := 0, ground := Ground.data }], guard := none } : Oper)
def ex_o2 : Oper := ({ dst := some 5, op := Op.call { callee := Callee.value (Operand.func 78), args := #[Operand.tmp 4], argTypes := #[3] }, type := 9, pos := "l15_text.go:53", after := #[{ on := 1, ground := Ground.data }], guard := none } : Oper)
def ex_o3 : Oper := ({ dst := some 6, op := Op.binOp BinOp.add 9 (Operand.tmp 5) (Operand.const (Value.string { data := #[32] })) 9, type := 9, pos := "l15_text.go:53", after := #[{ on := 2, ground := Ground.data }], guard := none } : Oper)
def ex_o4 : Oper := ({ dst := some 7, op := Op.buildSlice 48 6 #[(0, Operand.const (Value.string { data := #[] })), (1, Operand.const (Value.string { data := #[98, 111, 114, 100, 101, 114] })), (2, Operand.const (Value.string { data := #[98, 101, 101, 112] })), (3, Operand.const (Value.string { data := #[112, 115, 103] })), (4, Operand.const (Value.string { data := #[105, 110] })), (5, Operand.const (Value.string { data := #[105, 110, 116] }))], type := 48, pos := "l15_text.go:53", after := #[], guard := none } : Oper)
def ex_o5 : Oper := ({ dst := some 8, op := Op.fieldAddr 26 (Operand.tmp 1) 1, type := 0, pos := "l15_text.go:53", after := #[], guard := none } : Oper)
def ex_o6 : Oper := ({ dst := some 9, op := Op.load 3 (Operand.tmp 8), type := 3, pos := "l15_text.go:53", after := #[{ on := 5, ground := Ground.data }], guard := none } : Oper)
def ex_o7 : Oper := ({ dst := some 10, op := Op.indexAddr 48 (Operand.tmp 7) (Operand.tmp 9), type := 0, pos := "l15_text.go:53", after := #[{ on := 4, ground := Ground.data }, { on := 6, ground := Ground.data }], guard := none } : Oper)
def ex_o8 : Oper := ({ dst := some 11, op := Op.load 9 (Operand.tmp 10), type := 9, pos := "l15_text.go:53", after := #[{ on := 7, ground := Ground.data }], guard := none } : Oper)
def ex_o9 : Oper := ({ dst := some 12, op := Op.binOp BinOp.add 9 (Operand.tmp 6) (Operand.tmp 11) 9, type := 9, pos := "l15_text.go:53", after := #[{ on := 3, ground := Ground.data }, { on := 8, ground := Ground.data }], guard := none } : Oper)
def ex_o10 : Oper := ({ dst := some 13, op := Op.binOp BinOp.add 9 (Operand.tmp 12) (Operand.const (Value.string { data := #[32] })) 9, type := 9, pos := "l15_text.go:53", after := #[{ on := 9, ground := Ground.data }], guard := none } : Oper)
def ex_o11 : Oper := ({ dst := some 14, op := Op.fieldAddr 26 (Operand.tmp 1) 2, type := 0, pos := "l15_text.go:53", after := #[], guard := none } : Oper)
def ex_o12 : Oper := ({ dst := some 15, op := Op.load 3 (Operand.tmp 14), type := 3, pos := "l15_text.go:53", after := #[{ on := 11, ground := Ground.data }], guard := none } : Oper)
def ex_o13 : Oper := ({ dst := some 16, op := Op.call { callee := Callee.value (Operand.func 78), args := #[Operand.tmp 15], argTypes := #[3] }, type := 9, pos := "l15_text.go:53", after := #[{ on := 12, ground := Ground.data }, { on := 2, ground := Ground.chain }], guard := none } : Oper)
def ex_o14 : Oper := ({ dst := some 17, op := Op.binOp BinOp.add 9 (Operand.tmp 13) (Operand.tmp 16) 9, type := 9, pos := "l15_text.go:53", after := #[{ on := 10, ground := Ground.data }, { on := 13, ground := Ground.data }], guard := none } : Oper)
def ex_o15 : Oper := ({ dst := some 2, op := Op.assign (Operand.tmp 17), type := 9, pos := "l15_text.go:53", after := #[{ on := 14, ground := Ground.data }, { on := 13, ground := Ground.chain }, { on := 0, ground := Ground.phase }, { on := 1, ground := Ground.phase }, { on := 2, ground := Ground.phase }, { on := 3, ground := Ground.phase }, { on := 4, ground := Ground.phase }, { on := 5, ground := Ground.phase }, { on := 6, ground := Ground.phase }, { on := 7, ground := Ground.phase }, { on := 8, ground := Ground.phase }, { on := 9, ground := Ground.phase }, { on := 10, ground := Ground.phase }, { on := 11, ground := Ground.phase }, { on := 12, ground := Ground.phase }, { on := 13, ground := Ground.phase }, { on := 14, ground := Ground.phase }], guard := none } : Oper)
def ex_O : Array Oper := #[ex_o0, ex_o1, ex_o2, ex_o3, ex_o4, ex_o5, ex_o6, ex_o7, ex_o8, ex_o9, ex_o10, ex_o11, ex_o12, ex_o13, ex_o14, ex_o15]
theorem ex_no {s : Nat} (h : ([3, 4, 5, 6, 7, 8, 9, 10, 11, 12, 13, 14, 15, 16, 17, 2] : List Nat).contains s = false) : ∀ i, dstAt ex_O i ≠ some s := by
  intro i hi
  have hl : i < 16 := by
    rcases Nat.lt_or_ge i 16 with h1 | h1
    · exact h1
    · unfold dstAt at hi
      rw [Array.getElem?_eq_none (by exact h1)] at hi
      cases hi
  rcases (by omega : i = 0 ∨ i = 1 ∨ i = 2 ∨ i = 3 ∨ i = 4 ∨ i = 5 ∨ i = 6 ∨ i = 7 ∨ i = 8 ∨ i = 9 ∨ i = 10 ∨ i = 11 ∨ i = 12 ∨ i = 13 ∨ i = 14 ∨ i = 15) with rfl | rfl | rfl | rfl | rfl | rfl | rfl | rfl | rfl | rfl | rfl | rfl | rfl | rfl | rfl | rfl
  all_goals first
    | (cases hi; simp at h)
    | cases hi
theorem ex_k4 (b T kk V : Nat) (DT WK DV : ByteArray) {f : Nat → Bool} (e x : Nat) (hn : f 4 = false) (hu : f 7 = false) : ∀ j, f j = true → ex_V b T kk V DT WK DV j x = ex_V b T kk V DT WK DV j e := by
  intro j hj
  unfold ex_V
  split
  · rfl
  · rfl
  · rfl
  · rfl
  · rw [hn] at hj; cases hj
  · rfl
  · rfl
  · rw [hu] at hj; cases hj
  · rfl
  · rfl
  · rfl
  · rfl
  · rfl
  · rfl
  · rfl
  · rfl
  · rfl
set_option maxRecDepth 100000 in
set_option maxHeartbeats 2000000 in
theorem ex_s0 (A : Act) (w1 : World) (Q : Exit → Act → World → Prop) (b T kk V : Nat) (DT WK DV : ByteArray) 
    (h1 : A.tmps.getD 1 undef = .pointer (some ⟨b, 0, none⟩)) (qb : Blk w1 b (evtA T kk V)) (hK6 : kk < 6) (hW : evwA[kk]? = some (.string WK)) (hs : DT.size ≤ 100 ∧ WK.size ≤ 100 ∧ DV.size ≤ 100)
    (hIT : Hid (∀ W, Calls Tryd.prog 78 #[.int .i64 (T : Int)] W fun e w' => e = .returned (.string DT) ∧ Below W.heap.size W w')) (hIV : Hid (∀ W, Calls Tryd.prog 78 #[.int .i64 (V : Int)] W fun e w' => e = .returned (.string DV) ∧ Below W.heap.size W w'))
    (f : Nat → Bool) (e : Nat) (a : Act) (w : World) (hun : f 0 = false) (hdep : ∀ d ∈ ex_o0.after, Region.binds .any d = true → f d.on = true) (hJ : ex_J w1 b T kk V DT WK DV f e w) (hFr : Fr ex_O A f (fun j => ex_V b T kk V DT WK DV j e) a)
    (K : Act → World → Prop) (hK : Hid (∀ v e' w', v = ex_V b T kk V DT WK DV 0 e' → (∀ j, f j = true → ex_V b T kk V DT WK DV j e' = ex_V b T kk V DT WK DV j e) → ex_J w1 b T kk V DT WK DV (fun j => j == 0 || f j) e' w' → K (a.put ex_o0.dst v) w')) :
    if Region.wanted ex_o0 (yielded ex_O a.tmps) = true then Oper.wp Tryd.prog ex_o0 a w K Q else K (a.put ex_o0.dst undef) w := by
  unfold ex_o0 at hdep hK ⊢
  obtain ⟨hg, j4, jd⟩ := hJ
  have v1 := (hFr.old 1 (ex_no (by decide))).trans h1
  replace hg := hid hg
  replace j4 := hid j4
  replace jd := hid jd
  clear hdep hFr h1
  go_simp
  exact hK.out _ e _ rfl (fun _ _ => rfl) ⟨hg.out, j4.out, jd.out⟩
set_option maxRecDepth 100000 in
set_option maxHeartbeats 2000000 in
theorem ex_s1 (A : Act) (w1 : World) (Q : Exit → Act → World → Prop) (b T kk V : Nat) (DT WK DV : ByteArray) 
    (h1 : A.tmps.getD 1 undef = .pointer (some ⟨b, 0, none⟩)) (qb : Blk w1 b (evtA T kk V)) (hK6 : kk < 6) (hW : evwA[kk]? = some (.string WK)) (hs : DT.size ≤ 100 ∧ WK.size ≤ 100 ∧ DV.size ≤ 100)
    (hIT : Hid (∀ W, Calls Tryd.prog 78 #[.int .i64 (T : Int)] W fun e w' => e = .returned (.string DT) ∧ Below W.heap.size W w')) (hIV : Hid (∀ W, Calls Tryd.prog 78 #[.int .i64 (V : Int)] W fun e w' => e = .returned (.string DV) ∧ Below W.heap.size W w'))
    (f : Nat → Bool) (e : Nat) (a : Act) (w : World) (hun : f 1 = false) (hdep : ∀ d ∈ ex_o1.after, Region.binds .any d = true → f d.on = true) (hJ : ex_J w1 b T kk V DT WK DV f e w) (hFr : Fr ex_O A f (fun j => ex_V b T kk V DT WK DV j e) a)
    (K : Act → World → Prop) (hK : Hid (∀ v e' w', v = ex_V b T kk V DT WK DV 1 e' → (∀ j, f j = true → ex_V b T kk V DT WK DV j e' = ex_V b T kk V DT WK DV j e) → ex_J w1 b T kk V DT WK DV (fun j => j == 1 || f j) e' w' → K (a.put ex_o1.dst v) w')) :
    if Region.wanted ex_o1 (yielded ex_O a.tmps) = true then Oper.wp Tryd.prog ex_o1 a w K Q else K (a.put ex_o1.dst undef) w := by
  unfold ex_o1 at hdep hK ⊢
  obtain ⟨hg, j4, jd⟩ := hJ
  have k0 : f 0 = true := hdep { on := 0, ground := .data } (by simp) rfl
  have v3 : a.tmps.getD 3 undef = .pointer (some ⟨b, 0, none⟩) := hFr.new 0 3 rfl k0
  have y : w.cell? ⟨b, 0, none⟩ = some (.int .i64 (T : Int)) := (qb.below hg qb.lt).cell 0
  replace hg := hid hg
  replace j4 := hid j4
  replace jd := hid jd
  clear hdep hFr h1
  go_simp
  exact hK.out _ e _ rfl (fun _ _ => rfl) ⟨hg.out, j4.out, jd.out⟩
set_option maxRecDepth 100000 in
set_option maxHeartbeats 2000000 in
theorem ex_s2 (A : Act) (w1 : World) (Q : Exit → Act → World → Prop) (b T kk V : Nat) (DT WK DV : ByteArray) 
    (h1 : A.tmps.getD 1 undef = .pointer (some ⟨b, 0, none⟩)) (qb : Blk w1 b (evtA T kk V)) (hK6 : kk < 6) (hW : evwA[kk]? = some (.string WK)) (hs : DT.size ≤ 100 ∧ WK.size ≤ 100 ∧ DV.size ≤ 100)
    (hIT : Hid (∀ W, Calls Tryd.prog 78 #[.int .i64 (T : Int)] W fun e w' => e = .returned (.string DT) ∧ Below W.heap.size W w')) (hIV : Hid (∀ W, Calls Tryd.prog 78 #[.int .i64 (V : Int)] W fun e w' => e = .returned (.string DV) ∧ Below W.heap.size W w'))
    (f : Nat → Bool) (e : Nat) (a : Act) (w : World) (hun : f 2 = false) (hdep : ∀ d ∈ ex_o2.after, Region.binds .any d = true → f d.on = true) (hJ : ex_J w1 b T kk V DT WK DV f e w) (hFr : Fr ex_O A f (fun j => ex_V b T kk V DT WK DV j e) a)
    (K : Act → World → Prop) (hK : Hid (∀ v e' w', v = ex_V b T kk V DT WK DV 2 e' → (∀ j, f j = true → ex_V b T kk V DT WK DV j e' = ex_V b T kk V DT WK DV j e) → ex_J w1 b T kk V DT WK DV (fun j => j == 2 || f j) e' w' → K (a.put ex_o2.dst v) w')) :
    if Region.wanted ex_o2 (yielded ex_O a.tmps) = true then Oper.wp Tryd.prog ex_o2 a w K Q else K (a.put ex_o2.dst undef) w := by
  unfold ex_o2 at hdep hK ⊢
  obtain ⟨hg, j4, jd⟩ := hJ
  have k1 : f 1 = true := hdep { on := 1, ground := .data } (by simp) rfl
  have v4 : a.tmps.getD 4 undef = .int .i64 (T : Int) := hFr.new 1 4 rfl k1
  replace hg := hid hg
  replace j4 := hid j4
  replace jd := hid jd
  clear hdep hFr h1
  go_simp
  go_at_call 78
  refine (hIT.out w).mono ?_
  rintro r w' ⟨rfl, hb'⟩
  have hb2 := hid (new_trans hg.out hb')
  have j4b : Hid (f 4 = true → w1.heap.size ≤ e ∧ Blk w' e evwA) := fun h => ⟨(j4.out h).1, (j4.out h).2.below hb' (j4.out h).2.lt⟩
  clear hb'
  go_simp
  exact hK.out _ e _ rfl (fun _ _ => rfl) ⟨hb2.out, j4b.out, jd.out⟩
set_option maxRecDepth 100000 in
set_option maxHeartbeats 2000000 in
theorem ex_s3 (A : Act) (w1 : World) (Q : Exit → Act → World → Prop) (b T kk V : Nat) (DT WK DV : ByteArray) 
    (h1 : A.tmps.getD 1 undef = .pointer (some ⟨b, 0, none⟩)) (qb : Blk w1 b (evtA T kk V)) (hK6 : kk < 6) (hW : evwA[kk]? = some (.string WK)) (hs : DT.size ≤ 100 ∧ WK.size ≤ 100 ∧ DV.size ≤ 100)
    (hIT : Hid (∀ W, Calls Tryd.prog 78 #[.int .i64 (T : Int)] W fun e w' => e = .returned (.string DT) ∧ Below W.heap.size W w')) (hIV : Hid (∀ W, Calls Tryd.prog 78 #[.int .i64 (V : Int)] W fun e w' => e = .returned (.string DV) ∧ Below W.heap.size W w'))
    (f : Nat → Bool) (e : Nat) (a : Act) (w : World) (hun : f 3 = false) (hdep : ∀ d ∈ ex_o3.after, Region.binds .any d = true → f d.on = true) (hJ : ex_J w1 b T kk V DT WK DV f e w) (hFr : Fr ex_O A f (fun j => ex_V b T kk V DT WK DV j e) a)
    (K : Act → World → Prop) (hK : Hid (∀ v e' w', v = ex_V b T kk V DT WK DV 3 e' → (∀ j, f j = true → ex_V b T kk V DT WK DV j e' = ex_V b T kk V DT WK DV j e) → ex_J w1 b T kk V DT WK DV (fun j => j == 3 || f j) e' w' → K (a.put ex_o3.dst v) w')) :
    if Region.wanted ex_o3 (yielded ex_O a.tmps) = true then Oper.wp Tryd.prog ex_o3 a w K Q else K (a.put ex_o3.dst undef) w := by
  unfold ex_o3 at hdep hK ⊢
  obtain ⟨hg, j4, jd⟩ := hJ
  have k2 : f 2 = true := hdep { on := 2, ground := .data } (by simp) rfl
  have v5 : a.tmps.getD 5 undef = .string (DT) := hFr.new 2 5 rfl k2
  obtain ⟨hs1, hs2, hs3⟩ := hs
  have z1 : ¬ 9223372036854775807 < DT.size + 1 := by omega
  have z2 : ¬ 9223372036854775807 < DT.size + 1 + WK.size := by omega
  have z3 : ¬ 9223372036854775807 < DT.size + 1 + WK.size + 1 := by omega
  have z4 : ¬ 9223372036854775807 < DT.size + 1 + WK.size + 1 + DV.size := by omega
  replace hg := hid hg
  replace j4 := hid j4
  replace jd := hid jd
  clear hdep hFr h1
  go_simp
  exact hK.out _ e _ rfl (fun _ _ => rfl) ⟨hg.out, j4.out, jd.out⟩
set_option maxRecDepth 100000 in
set_option maxHeartbeats 2000000 in
theorem ex_s4 (A : Act) (w1 : World) (Q : Exit → Act → World → Prop) (b T kk V : Nat) (DT WK DV : ByteArray) 
    (h1 : A.tmps.getD 1 undef = .pointer (some ⟨b, 0, none⟩)) (qb : Blk w1 b (evtA T kk V)) (hK6 : kk < 6) (hW : evwA[kk]? = some (.string WK)) (hs : DT.size ≤ 100 ∧ WK.size ≤ 100 ∧ DV.size ≤ 100)
    (hIT : Hid (∀ W, Calls Tryd.prog 78 #[.int .i64 (T : Int)] W fun e w' => e = .returned (.string DT) ∧ Below W.heap.size W w')) (hIV : Hid (∀ W, Calls Tryd.prog 78 #[.int .i64 (V : Int)] W fun e w' => e = .returned (.string DV) ∧ Below W.heap.size W w'))
    (f : Nat → Bool) (e : Nat) (a : Act) (w : World) (hun : f 4 = false) (hdep : ∀ d ∈ ex_o4.after, Region.binds .any d = true → f d.on = true) (hJ : ex_J w1 b T kk V DT WK DV f e w) (hFr : Fr ex_O A f (fun j => ex_V b T kk V DT WK DV j e) a)
    (K : Act → World → Prop) (hK : Hid (∀ v e' w', v = ex_V b T kk V DT WK DV 4 e' → (∀ j, f j = true → ex_V b T kk V DT WK DV j e' = ex_V b T kk V DT WK DV j e) → ex_J w1 b T kk V DT WK DV (fun j => j == 4 || f j) e' w' → K (a.put ex_o4.dst v) w')) :
    if Region.wanted ex_o4 (yielded ex_O a.tmps) = true then Oper.wp Tryd.prog ex_o4 a w K Q else K (a.put ex_o4.dst undef) w := by
  unfold ex_o4 at hdep hK ⊢
  obtain ⟨hg, j4, jd⟩ := hJ
  have fi : f 7 = false := by
    cases hx : f 7
    · rfl
    · rw [jd hx] at hun; cases hun
  have hal := hid ((Below.refl w.heap.size w).alloc (Nat.le_refl _) (.cells evwA 9))
  have hq := hid (Blk.new w evwA 9)
  have hsz : Hid (w1.heap.size ≤ w.heap.size) := hg.size
  replace hg := hid hg
  replace j4 := hid j4
  replace jd := hid jd
  clear hdep hFr h1
  go_simp
  exact hK.out _ w.heap.size _ rfl (ex_k4 b T kk V DT WK DV e w.heap.size hun fi) ⟨new_trans hg.out hal.out, fun _ => ⟨hsz.out, hq.out⟩, fun _ => rfl⟩
set_option maxRecDepth 100000 in
set_option maxHeartbeats 2000000 in
theorem ex_s5 (A : Act) (w1 : World) (Q : Exit → Act → World → Prop) (b T kk V : Nat) (DT WK DV : ByteArray) 
    (h1 : A.tmps.getD 1 undef = .pointer (some ⟨b, 0, none⟩)) (qb : Blk w1 b (evtA T kk V)) (hK6 : kk < 6) (hW : evwA[kk]? = some (.string WK)) (hs : DT.size ≤ 100 ∧ WK.size ≤ 100 ∧ DV.size ≤ 100)
    (hIT : Hid (∀ W, Calls Tryd.prog 78 #[.int .i64 (T : Int)] W fun e w' => e = .returned (.string DT) ∧ Below W.heap.size W w')) (hIV : Hid (∀ W, Calls Tryd.prog 78 #[.int .i64 (V : Int)] W fun e w' => e = .returned (.string DV) ∧ Below W.heap.size W w'))
    (f : Nat → Bool) (e : Nat) (a : Act) (w : World) (hun : f 5 = false) (hdep : ∀ d ∈ ex_o5.after, Region.binds .any d = true → f d.on = true) (hJ : ex_J w1 b T kk V DT WK DV f e w) (hFr : Fr ex_O A f (fun j => ex_V b T kk V DT WK DV j e) a)
    (K : Act → World → Prop) (hK : Hid (∀ v e' w', v = ex_V b T kk V DT WK DV 5 e' → (∀ j, f j = true → ex_V b T kk V DT WK DV j e' = ex_V b T kk V DT WK DV j e) → ex_J w1 b T kk V DT WK DV (fun j => j == 5 || f j) e' w' → K (a.put ex_o5.dst v) w')) :
    if Region.wanted ex_o5 (yielded ex_O a.tmps) = true then Oper.wp Tryd.prog ex_o5 a w K Q else K (a.put ex_o5.dst undef) w := by
  unfold ex_o5 at hdep hK ⊢
  obtain ⟨hg, j4, jd⟩ := hJ
  have v1 := (hFr.old 1 (ex_no (by decide))).trans h1
  replace hg := hid hg
  replace j4 := hid j4
  replace jd := hid jd
  clear hdep hFr h1
  go_simp
  exact hK.out _ e _ rfl (fun _ _ => rfl) ⟨hg.out, j4.out, jd.out⟩
set_option maxRecDepth 100000 in
set_option maxHeartbeats 2000000 in
theorem ex_s6 (A : Act) (w1 : World) (Q : Exit → Act → World → Prop) (b T kk V : Nat) (DT WK DV : ByteArray) 
    (h1 : A.tmps.getD 1 undef = .pointer (some ⟨b, 0, none⟩)) (qb : Blk w1 b (evtA T kk V)) (hK6 : kk < 6) (hW : evwA[kk]? = some (.string WK)) (hs : DT.size ≤ 100 ∧ WK.size ≤ 100 ∧ DV.size ≤ 100)
    (hIT : Hid (∀ W, Calls Tryd.prog 78 #[.int .i64 (T : Int)] W fun e w' => e = .returned (.string DT) ∧ Below W.heap.size W w')) (hIV : Hid (∀ W, Calls Tryd.prog 78 #[.int .i64 (V : Int)] W fun e w' => e = .returned (.string DV) ∧ Below W.heap.size W w'))
    (f : Nat → Bool) (e : Nat) (a : Act) (w : World) (hun : f 6 = false) (hdep : ∀ d ∈ ex_o6.after, Region.binds .any d = true → f d.on = true) (hJ : ex_J w1 b T kk V DT WK DV f e w) (hFr : Fr ex_O A f (fun j => ex_V b T kk V DT WK DV j e) a)
    (K : Act → World → Prop) (hK : Hid (∀ v e' w', v = ex_V b T kk V DT WK DV 6 e' → (∀ j, f j = true → ex_V b T kk V DT WK DV j e' = ex_V b T kk V DT WK DV j e) → ex_J w1 b T kk V DT WK DV (fun j => j == 6 || f j) e' w' → K (a.put ex_o6.dst v) w')) :
    if Region.wanted ex_o6 (yielded ex_O a.tmps) = true then Oper.wp Tryd.prog ex_o6 a w K Q else K (a.put ex_o6.dst undef) w := by
  unfold ex_o6 at hdep hK ⊢
  obtain ⟨hg, j4, jd⟩ := hJ
  have k5 : f 5 = true := hdep { on := 5, ground := .data } (by simp) rfl
  have v8 : a.tmps.getD 8 undef = .pointer (some ⟨b, 1, none⟩) := hFr.new 5 8 rfl k5
  have y : w.cell? ⟨b, 1, none⟩ = some (.int .i64 (kk : Int)) := (qb.below hg qb.lt).cell 1
  replace hg := hid hg
  replace j4 := hid j4
  replace jd := hid jd
  clear hdep hFr h1
  go_simp
  exact hK.out _ e _ rfl (fun _ _ => rfl) ⟨hg.out, j4.out, jd.out⟩
set_option maxRecDepth 100000 in
set_option maxHeartbeats 2000000 in
theorem ex_s7 (A : Act) (w1 : World) (Q : Exit → Act → World → Prop) (b T kk V : Nat) (DT WK DV : ByteArray) 
    (h1 : A.tmps.getD 1 undef = .pointer (some ⟨b, 0, none⟩)) (qb : Blk w1 b (evtA T kk V)) (hK6 : kk < 6) (hW : evwA[kk]? = some (.string WK)) (hs : DT.size ≤ 100 ∧ WK.size ≤ 100 ∧ DV.size ≤ 100)
    (hIT : Hid (∀ W, Calls Tryd.prog 78 #[.int .i64 (T : Int)] W fun e w' => e = .returned (.string DT) ∧ Below W.heap.size W w')) (hIV : Hid (∀ W, Calls Tryd.prog 78 #[.int .i64 (V : Int)] W fun e w' => e = .returned (.string DV) ∧ Below W.heap.size W w'))
    (f : Nat → Bool) (e : Nat) (a : Act) (w : World) (hun : f 7 = false) (hdep : ∀ d ∈ ex_o7.after, Region.binds .any d = true → f d.on = true) (hJ : ex_J w1 b T kk V DT WK DV f e w) (hFr : Fr ex_O A f (fun j => ex_V b T kk V DT WK DV j e) a)
    (K : Act → World → Prop) (hK : Hid (∀ v e' w', v = ex_V b T kk V DT WK DV 7 e' → (∀ j, f j = true → ex_V b T kk V DT WK DV j e' = ex_V b T kk V DT WK DV j e) → ex_J w1 b T kk V DT WK DV (fun j => j == 7 || f j) e' w' → K (a.put ex_o7.dst v) w')) :
    if Region.wanted ex_o7 (yielded ex_O a.tmps) = true then Oper.wp Tryd.prog ex_o7 a w K Q else K (a.put ex_o7.dst undef) w := by
  unfold ex_o7 at hdep hK ⊢
  obtain ⟨hg, j4, jd⟩ := hJ
  have k4 : f 4 = true := hdep { on := 4, ground := .data } (by simp) rfl
  have v7 : a.tmps.getD 7 undef = .slice (some ⟨e, 0, none⟩) 6 6 := hFr.new 4 7 rfl k4
  have k6 : f 6 = true := hdep { on := 6, ground := .data } (by simp) rfl
  have v9 : a.tmps.getD 9 undef = .int .i64 (kk : Int) := hFr.new 6 9 rfl k6
  have j4x := j4 k4
  have hk0 : (0 : Int) ≤ (kk : Int) := by omega
  have hk1 : (kk : Int) < 6 := by omega
  replace hg := hid hg
  replace j4 := hid j4
  replace jd := hid jd
  clear hdep hFr h1
  go_simp
  exact hK.out _ e _ rfl (fun _ _ => rfl) ⟨hg.out, j4.out, fun _ => k4⟩
set_option maxRecDepth 100000 in
set_option maxHeartbeats 2000000 in
theorem ex_s8 (A : Act) (w1 : World) (Q : Exit → Act → World → Prop) (b T kk V : Nat) (DT WK DV : ByteArray) 
    (h1 : A.tmps.getD 1 undef = .pointer (some ⟨b, 0, none⟩)) (qb : Blk w1 b (evtA T kk V)) (hK6 : kk < 6) (hW : evwA[kk]? = some (.string WK)) (hs : DT.size ≤ 100 ∧ WK.size ≤ 100 ∧ DV.size ≤ 100)
    (hIT : Hid (∀ W, Calls Tryd.prog 78 #[.int .i64 (T : Int)] W fun e w' => e = .returned (.string DT) ∧ Below W.heap.size W w')) (hIV : Hid (∀ W, Calls Tryd.prog 78 #[.int .i64 (V : Int)] W fun e w' => e = .returned (.string DV) ∧ Below W.heap.size W w'))
    (f : Nat → Bool) (e : Nat) (a : Act) (w : World) (hun : f 8 = false) (hdep : ∀ d ∈ ex_o8.after, Region.binds .any d = true → f d.on = true) (hJ : ex_J w1 b T kk V DT WK DV f e w) (hFr : Fr ex_O A f (fun j => ex_V b T kk V DT WK DV j e) a)
    (K : Act → World → Prop) (hK : Hid (∀ v e' w', v = ex_V b T kk V DT WK DV 8 e' → (∀ j, f j = true → ex_V b T kk V DT WK DV j e' = ex_V b T kk V DT WK DV j e) → ex_J w1 b T kk V DT WK DV (fun j => j == 8 || f j) e' w' → K (a.put ex_o8.dst v) w')) :
    if Region.wanted ex_o8 (yielded ex_O a.tmps) = true then Oper.wp Tryd.prog ex_o8 a w K Q else K (a.put ex_o8.dst undef) w := by
  unfold ex_o8 at hdep hK ⊢
  obtain ⟨hg, j4, jd⟩ := hJ
  have k7 : f 7 = true := hdep { on := 7, ground := .data } (by simp) rfl
  have v10 : a.tmps.getD 10 undef = .pointer (some ⟨e, kk, none⟩) := hFr.new 7 10 rfl k7
  have kal := jd k7
  have y : w.cell? ⟨e, kk, none⟩ = some (.string (WK)) := (((j4 kal).2).cell kk).trans hW
  replace hg := hid hg
  replace j4 := hid j4
  replace jd := hid jd
  clear hdep hFr h1
  go_simp
  exact hK.out _ e _ rfl (fun _ _ => rfl) ⟨hg.out, j4.out, jd.out⟩
set_option maxRecDepth 100000 in
set_option maxHeartbeats 2000000 in
theorem ex_s9 (A : Act) (w1 : World) (Q : Exit → Act → World → Prop) (b T kk V : Nat) (DT WK DV : ByteArray) 
    (h1 : A.tmps.getD 1 undef = .pointer (some ⟨b, 0, none⟩)) (qb : Blk w1 b (evtA T kk V)) (hK6 : kk < 6) (hW : evwA[kk]? = some (.string WK)) (hs : DT.size ≤ 100 ∧ WK.size ≤ 100 ∧ DV.size ≤ 100)
    (hIT : Hid (∀ W, Calls Tryd.prog 78 #[.int .i64 (T : Int)] W fun e w' => e = .returned (.string DT) ∧ Below W.heap.size W w')) (hIV : Hid (∀ W, Calls Tryd.prog 78 #[.int .i64 (V : Int)] W fun e w' => e = .returned (.string DV) ∧ Below W.heap.size W w'))
    (f : Nat → Bool) (e : Nat) (a : Act) (w : World) (hun : f 9 = false) (hdep : ∀ d ∈ ex_o9.after, Region.binds .any d = true → f d.on = true) (hJ : ex_J w1 b T kk V DT WK DV f e w) (hFr : Fr ex_O A f (fun j => ex_V b T kk V DT WK DV j e) a)
    (K : Act → World → Prop) (hK : Hid (∀ v e' w', v = ex_V b T kk V DT WK DV 9 e' → (∀ j, f j = true → ex_V b T kk V DT WK DV j e' = ex_V b T kk V DT WK DV j e) → ex_J w1 b T kk V DT WK DV (fun j => j == 9 || f j) e' w' → K (a.put ex_o9.dst v) w')) :
    if Region.wanted ex_o9 (yielded ex_O a.tmps) = true then Oper.wp Tryd.prog ex_o9 a w K Q else K (a.put ex_o9.dst undef) w := by
  unfold ex_o9 at hdep hK ⊢
  obtain ⟨hg, j4, jd⟩ := hJ
  have k3 : f 3 = true := hdep { on := 3, ground := .data } (by simp) rfl
  have v6 : a.tmps.getD 6 undef = .string (DT ++ ⟨#[32]⟩) := hFr.new 3 6 rfl k3
  have k8 : f 8 = true := hdep { on := 8, ground := .data } (by simp) rfl
  have v11 : a.tmps.getD 11 undef = .string (WK) := hFr.new 8 11 rfl k8
  obtain ⟨hs1, hs2, hs3⟩ := hs
  have z1 : ¬ 9223372036854775807 < DT.size + 1 := by omega
  have z2 : ¬ 9223372036854775807 < DT.size + 1 + WK.size := by omega
  have z3 : ¬ 9223372036854775807 < DT.size + 1 + WK.size + 1 := by omega
  have z4 : ¬ 9223372036854775807 < DT.size + 1 + WK.size + 1 + DV.size := by omega
  replace hg := hid hg
  replace j4 := hid j4
  replace jd := hid jd
  clear hdep hFr h1
  go_simp
  exact hK.out _ e _ rfl (fun _ _ => rfl) ⟨hg.out, j4.out, jd.out⟩
set_option maxRecDepth 100000 in
set_option maxHeartbeats 2000000 in
theorem ex_s10 (A : Act) (w1 : World) (Q : Exit → Act → World → Prop) (b T kk V : Nat) (DT WK DV : ByteArray) 
    (h1 : A.tmps.getD 1 undef = .pointer (some ⟨b, 0, none⟩)) (qb : Blk w1 b (evtA T kk V)) (hK6 : kk < 6) (hW : evwA[kk]? = some (.string WK)) (hs : DT.size ≤ 100 ∧ WK.size ≤ 100 ∧ DV.size ≤ 100)
    (hIT : Hid (∀ W, Calls Tryd.prog 78 #[.int .i64 (T : Int)] W fun e w' => e = .returned (.string DT) ∧ Below W.heap.size W w')) (hIV : Hid (∀ W, Calls Tryd.prog 78 #[.int .i64 (V : Int)] W fun e w' => e = .returned (.string DV) ∧ Below W.heap.size W w'))
    (f : Nat → Bool) (e : Nat) (a : Act) (w : World) (hun : f 10 = false) (hdep : ∀ d ∈ ex_o10.after, Region.binds .any d = true → f d.on = true) (hJ : ex_J w1 b T kk V DT WK DV f e w) (hFr : Fr ex_O A f (fun j => ex_V b T kk V DT WK DV j e) a)
    (K : Act → World → Prop) (hK : Hid (∀ v e' w', v = ex_V b T kk V DT WK DV 10 e' → (∀ j, f j = true → ex_V b T kk V DT WK DV j e' = ex_V b T kk V DT WK DV j e) → ex_J w1 b T kk V DT WK DV (fun j => j == 10 || f j) e' w' → K (a.put ex_o10.dst v) w')) :
    if Region.wanted ex_o10 (yielded ex_O a.tmps) = true then Oper.wp Tryd.prog ex_o10 a w K Q else K (a.put ex_o10.dst undef) w := by
  unfold ex_o10 at hdep hK ⊢
  obtain ⟨hg, j4, jd⟩ := hJ
  have k9 : f 9 = true := hdep { on := 9, ground := .data } (by simp) rfl
  have v12 : a.tmps.getD 12 undef = .string (DT ++ ⟨#[32]⟩ ++ WK) := hFr.new 9 12 rfl k9
  obtain ⟨hs1, hs2, hs3⟩ := hs
  have z1 : ¬ 9223372036854775807 < DT.size + 1 := by omega
  have z2 : ¬ 9223372036854775807 < DT.size + 1 + WK.size := by omega
  have z3 : ¬ 9223372036854775807 < DT.size + 1 + WK.size + 1 := by omega
  have z4 : ¬ 9223372036854775807 < DT.size + 1 + WK.size + 1 + DV.size := by omega
  replace hg := hid hg
  replace j4 := hid j4
  replace jd := hid jd
  clear hdep hFr h1
  go_simp
  exact hK.out _ e _ rfl (fun _ _ => rfl) ⟨hg.out, j4.out, jd.out⟩
set_option maxRecDepth 100000 in
set_option maxHeartbeats 2000000 in
theorem ex_s11 (A : Act) (w1 : World) (Q : Exit → Act → World → Prop) (b T kk V : Nat) (DT WK DV : ByteArray) 
    (h1 : A.tmps.getD 1 undef = .pointer (some ⟨b, 0, none⟩)) (qb : Blk w1 b (evtA T kk V)) (hK6 : kk < 6) (hW : evwA[kk]? = some (.string WK)) (hs : DT.size ≤ 100 ∧ WK.size ≤ 100 ∧ DV.size ≤ 100)
    (hIT : Hid (∀ W, Calls Tryd.prog 78 #[.int .i64 (T : Int)] W fun e w' => e = .returned (.string DT) ∧ Below W.heap.size W w')) (hIV : Hid (∀ W, Calls Tryd.prog 78 #[.int .i64 (V : Int)] W fun e w' => e = .returned (.string DV) ∧ Below W.heap.size W w'))
    (f : Nat → Bool) (e : Nat) (a : Act) (w : World) (hun : f 11 = false) (hdep : ∀ d ∈ ex_o11.after, Region.binds .any d = true → f d.on = true) (hJ : ex_J w1 b T kk V DT WK DV f e w) (hFr : Fr ex_O A f (fun j => ex_V b T kk V DT WK DV j e) a)
    (K : Act → World → Prop) (hK : Hid (∀ v e' w', v = ex_V b T kk V DT WK DV 11 e' → (∀ j, f j = true → ex_V b T kk V DT WK DV j e' = ex_V b T kk V DT WK DV j e) → ex_J w1 b T kk V DT WK DV (fun j => j == 11 || f j) e' w' → K (a.put ex_o11.dst v) w')) :
    if Region.wanted ex_o11 (yielded ex_O a.tmps) = true then Oper.wp Tryd.prog ex_o11 a w K Q else K (a.put ex_o11.dst undef) w := by
  unfold ex_o11 at hdep hK ⊢
  obtain ⟨hg, j4, jd⟩ := hJ
  have v1 := (hFr.old 1 (ex_no (by decide))).trans h1
  replace hg := hid hg
  replace j4 := hid j4
  replace jd := hid jd
  clear hdep hFr h1
  go_simp
  exact hK.out _ e _ rfl (fun _ _ => rfl) ⟨hg.out, j4.out, jd.out⟩
set_option maxRecDepth 100000 in
set_option maxHeartbeats 2000000 in
theorem ex_s12 (A : Act) (w1 : World) (Q : Exit → Act → World → Prop) (b T kk V : Nat) (DT WK DV : ByteArray) 
    (h1 : A.tmps.getD 1 undef = .pointer (some ⟨b, 0, none⟩)) (qb : Blk w1 b (evtA T kk V)) (hK6 : kk < 6) (hW : evwA[kk]? = some (.string WK)) (hs : DT.size ≤ 100 ∧ WK.size ≤ 100 ∧ DV.size ≤ 100)
    (hIT : Hid (∀ W, Calls Tryd.prog 78 #[.int .i64 (T : Int)] W fun e w' => e = .returned (.string DT) ∧ Below W.heap.size W w')) (hIV : Hid (∀ W, Calls Tryd.prog 78 #[.int .i64 (V : Int)] W fun e w' => e = .returned (.string DV) ∧ Below W.heap.size W w'))
    (f : Nat → Bool) (e : Nat) (a : Act) (w : World) (hun : f 12 = false) (hdep : ∀ d ∈ ex_o12.after, Region.binds .any d = true → f d.on = true) (hJ : ex_J w1 b T kk V DT WK DV f e w) (hFr : Fr ex_O A f (fun j => ex_V b T kk V DT WK DV j e) a)
    (K : Act → World → Prop) (hK : Hid (∀ v e' w', v = ex_V b T kk V DT WK DV 12 e' → (∀ j, f j = true → ex_V b T kk V DT WK DV j e' = ex_V b T kk V DT WK DV j e) → ex_J w1 b T kk V DT WK DV (fun j => j == 12 || f j) e' w' → K (a.put ex_o12.dst v) w')) :
    if Region.wanted ex_o12 (yielded ex_O a.tmps) = true then Oper.wp Tryd.prog ex_o12 a w K Q else K (a.put ex_o12.dst undef) w := by
  unfold ex_o12 at hdep hK ⊢
  obtain ⟨hg, j4, jd⟩ := hJ
  have k11 : f 11 = true := hdep { on := 11, ground := .data } (by simp) rfl
  have v14 : a.tmps.getD 14 undef = .pointer (some ⟨b, 2, none⟩) := hFr.new 11 14 rfl k11
  have y : w.cell? ⟨b, 2, none⟩ = some (.int .i64 (V : Int)) := (qb.below hg qb.lt).cell 2
  replace hg := hid hg
  replace j4 := hid j4
  replace jd := hid jd
  clear hdep hFr h1
  go_simp
  exact hK.out _ e _ rfl (fun _ _ => rfl) ⟨hg.out, j4.out, jd.out⟩
set_option maxRecDepth 100000 in
set_option maxHeartbeats 2000000 in
theorem ex_s13 (A : Act) (w1 : World) (Q : Exit → Act → World → Prop) (b T kk V : Nat) (DT WK DV : ByteArray) 
    (h1 : A.tmps.getD 1 undef = .pointer (some ⟨b, 0, none⟩)) (qb : Blk w1 b (evtA T kk V)) (hK6 : kk < 6) (hW : evwA[kk]? = some (.string WK)) (hs : DT.size ≤ 100 ∧ WK.size ≤ 100 ∧ DV.size ≤ 100)
    (hIT : Hid (∀ W, Calls Tryd.prog 78 #[.int .i64 (T : Int)] W fun e w' => e = .returned (.string DT) ∧ Below W.heap.size W w')) (hIV : Hid (∀ W, Calls Tryd.prog 78 #[.int .i64 (V : Int)] W fun e w' => e = .returned (.string DV) ∧ Below W.heap.size W w'))
    (f : Nat → Bool) (e : Nat) (a : Act) (w : World) (hun : f 13 = false) (hdep : ∀ d ∈ ex_o13.after, Region.binds .any d = true → f d.on = true) (hJ : ex_J w1 b T kk V DT WK DV f e w) (hFr : Fr ex_O A f (fun j => ex_V b T kk V DT WK DV j e) a)
    (K : Act → World → Prop) (hK : Hid (∀ v e' w', v = ex_V b T kk V DT WK DV 13 e' → (∀ j, f j = true → ex_V b T kk V DT WK DV j e' = ex_V b T kk V DT WK DV j e) → ex_J w1 b T kk V DT WK DV (fun j => j == 13 || f j) e' w' → K (a.put ex_o13.dst v) w')) :
    if Region.wanted ex_o13 (yielded ex_O a.tmps) = true then Oper.wp Tryd.prog ex_o13 a w K Q else K (a.put ex_o13.dst undef) w := by
  unfold ex_o13 at hdep hK ⊢
  obtain ⟨hg, j4, jd⟩ := hJ
  have k12 : f 12 = true := hdep { on := 12, ground := .data } (by simp) rfl
  have v15 : a.tmps.getD 15 undef = .int .i64 (V : Int) := hFr.new 12 15 rfl k12
  replace hg := hid hg
  replace j4 := hid j4
  replace jd := hid jd
  clear hdep hFr h1
  go_simp
  go_at_call 78
  refine (hIV.out w).mono ?_
  rintro r w' ⟨rfl, hb'⟩
  have hb2 := hid (new_trans hg.out hb')
  have j4b : Hid (f 4 = true → w1.heap.size ≤ e ∧ Blk w' e evwA) := fun h => ⟨(j4.out h).1, (j4.out h).2.below hb' (j4.out h).2.lt⟩
  clear hb'
  go_simp
  exact hK.out _ e _ rfl (fun _ _ => rfl) ⟨hb2.out, j4b.out, jd.out⟩
set_option maxRecDepth 100000 in
set_option maxHeartbeats 2000000 in
theorem ex_s14 (A : Act) (w1 : World) (Q : Exit → Act → World → Prop) (b T kk V : Nat) (DT WK DV : ByteArray) 
    (h1 : A.tmps.getD 1 undef = .pointer (some ⟨b, 0, none⟩)) (qb : Blk w1 b (evtA T kk V)) (hK6 : kk < 6) (hW : evwA[kk]? = some (.string WK)) (hs : DT.size ≤ 100 ∧ WK.size ≤ 100 ∧ DV.size ≤ 100)
    (hIT : Hid (∀ W, Calls Tryd.prog 78 #[.int .i64 (T : Int)] W fun e w' => e = .returned (.string DT) ∧ Below W.heap.size W w')) (hIV : Hid (∀ W, Calls Tryd.prog 78 #[.int .i64 (V : Int)] W fun e w' => e = .returned (.string DV) ∧ Below W.heap.size W w'))
    (f : Nat → Bool) (e : Nat) (a : Act) (w : World) (hun : f 14 = false) (hdep : ∀ d ∈ ex_o14.after, Region.binds .any d = true → f d.on = true) (hJ : ex_J w1 b T kk V DT WK DV f e w) (hFr : Fr ex_O A f (fun j => ex_V b T kk V DT WK DV j e) a)
    (K : Act → World → Prop) (hK : Hid (∀ v e' w', v = ex_V b T kk V DT WK DV 14 e' → (∀ j, f j = true → ex_V b T kk V DT WK DV j e' = ex_V b T kk V DT WK DV j e) → ex_J w1 b T kk V DT WK DV (fun j => j == 14 || f j) e' w' → K (a.put ex_o14.dst v) w')) :
    if Region.wanted ex_o14 (yielded ex_O a.tmps) = true then Oper.wp Tryd.prog ex_o14 a w K Q else K (a.put ex_o14.dst undef) w := by
  unfold ex_o14 at hdep hK ⊢
  obtain ⟨hg, j4, jd⟩ := hJ
  have k10 : f 10 = true := hdep { on := 10, ground := .data } (by simp) rfl
  have v13 : a.tmps.getD 13 undef = .string (DT ++ ⟨#[32]⟩ ++ WK ++ ⟨#[32]⟩) := hFr.new 10 13 rfl k10
  have k13 : f 13 = true := hdep { on := 13, ground := .data } (by simp) rfl
  have v16 : a.tmps.getD 16 undef = .string (DV) := hFr.new 13 16 rfl k13
  obtain ⟨hs1, hs2, hs3⟩ := hs
  have z1 : ¬ 9223372036854775807 < DT.size + 1 := by omega
  have z2 : ¬ 9223372036854775807 < DT.size + 1 + WK.size := by omega
  have z3 : ¬ 9223372036854775807 < DT.size + 1 + WK.size + 1 := by omega
  have z4 : ¬ 9223372036854775807 < DT.size + 1 + WK.size + 1 + DV.size := by omega
  replace hg := hid hg
  replace j4 := hid j4
  replace jd := hid jd
  clear hdep hFr h1
  go_simp
  exact hK.out _ e _ rfl (fun _ _ => rfl) ⟨hg.out, j4.out, jd.out⟩
set_option maxRecDepth 100000 in
set_option maxHeartbeats 2000000 in
theorem ex_s15 (A : Act) (w1 : World) (Q : Exit → Act → World → Prop) (b T kk V : Nat) (DT WK DV : ByteArray) 
    (h1 : A.tmps.getD 1 undef = .pointer (some ⟨b, 0, none⟩)) (qb : Blk w1 b (evtA T kk V)) (hK6 : kk < 6) (hW : evwA[kk]? = some (.string WK)) (hs : DT.size ≤ 100 ∧ WK.size ≤ 100 ∧ DV.size ≤ 100)
    (hIT : Hid (∀ W, Calls Tryd.prog 78 #[.int .i64 (T : Int)] W fun e w' => e = .returned (.string DT) ∧ Below W.heap.size W w')) (hIV : Hid (∀ W, Calls Tryd.prog 78 #[.int .i64 (V : Int)] W fun e w' => e = .returned (.string DV) ∧ Below W.heap.size W w'))
    (f : Nat → Bool) (e : Nat) (a : Act) (w : World) (hun : f 15 = false) (hdep : ∀ d ∈ ex_o15.after, Region.binds .any d = true → f d.on = true) (hJ : ex_J w1 b T kk V DT WK DV f e w) (hFr : Fr ex_O A f (fun j => ex_V b T kk V DT WK DV j e) a)
    (K : Act → World → Prop) (hK : Hid (∀ v e' w', v = ex_V b T kk V DT WK DV 15 e' → (∀ j, f j = true → ex_V b T kk V DT WK DV j e' = ex_V b T kk V DT WK DV j e) → ex_J w1 b T kk V DT WK DV (fun j => j == 15 || f j) e' w' → K (a.put ex_o15.dst v) w')) :
    if Region.wanted ex_o15 (yielded ex_O a.tmps) = true then Oper.wp Tryd.prog ex_o15 a w K Q else K (a.put ex_o15.dst undef) w := by
  unfold ex_o15 at hdep hK ⊢
  obtain ⟨hg, j4, jd⟩ := hJ
  have k14 : f 14 = true := hdep { on := 14, ground := .data } (by simp) rfl
  have v17 : a.tmps.getD 17 undef = .string (DT ++ ⟨#[32]⟩ ++ WK ++ ⟨#[32]⟩ ++ DV) := hFr.new 14 17 rfl k14
  replace hg := hid hg
  replace j4 := hid j4
  replace jd := hid jd
  clear hdep hFr h1
  go_simp
  exact hK.out _ e _ rfl (fun _ _ => rfl) ⟨hg.out, j4.out, jd.out⟩
set_option maxRecDepth 100000 in
set_option maxHeartbeats 4000000 in
theorem ex_reg (A : Act) (w1 : World) (Q : Exit → Act → World → Prop) (b T kk V : Nat) (DT WK DV : ByteArray) 
    (h1 : A.tmps.getD 1 undef = .pointer (some ⟨b, 0, none⟩)) (qb : Blk w1 b (evtA T kk V)) (hK6 : kk < 6) (hW : evwA[kk]? = some (.string WK)) (hs : DT.size ≤ 100 ∧ WK.size ≤ 100 ∧ DV.size ≤ 100)
    (hIT : Hid (∀ W, Calls Tryd.prog 78 #[.int .i64 (T : Int)] W fun e w' => e = .returned (.string DT) ∧ Below W.heap.size W w')) (hIV : Hid (∀ W, Calls Tryd.prog 78 #[.int .i64 (V : Int)] W fun e w' => e = .returned (.string DV) ∧ Below W.heap.size W w')) (hN : 18 ≤ A.tmps.size)
    (h : ∀ (w : World) (e : Nat), Below w1.heap.size w1 w → Q .normal (putsA A [(3, .pointer (some ⟨b, 0, none⟩)), (4, .int .i64 (T : Int)), (5, .string (DT)), (6, .string (DT ++ ⟨#[32]⟩)), (7, .slice (some ⟨e, 0, none⟩) 6 6), (8, .pointer (some ⟨b, 1, none⟩)), (9, .int .i64 (kk : Int)), (10, .pointer (some ⟨e, kk, none⟩)), (11, .string (WK)), (12, .string (DT ++ ⟨#[32]⟩ ++ WK)), (13, .string (DT ++ ⟨#[32]⟩ ++ WK ++ ⟨#[32]⟩)), (14, .pointer (some ⟨b, 2, none⟩)), (15, .int .i64 (V : Int)), (16, .string (DV)), (17, .string (DT ++ ⟨#[32]⟩ ++ WK ++ ⟨#[32]⟩ ++ DV)), (2, .string (DT ++ ⟨#[32]⟩ ++ WK ++ ⟨#[32]⟩ ++ DV))]) w) :
    (Code.region 1 #[({ dst := some 3, op := Op.fieldAddr 26 (Operand.tmp 1) 0, type := 0, pos := "l15_text.go:53", after := #[], guard := none } : Oper), ({ dst := some 4, op := Op.load 3 (Operand.tmp 3), type := 3, pos := "l15_text.go:53", after := #[{ on := 0, ground := Ground.data }], guard := none } : Oper), ({ dst := some 5, op := Op.call { callee := Callee.value (Operand.func 78), args := #[Operand.tmp 4], argTypes := #[3] }, type := 9, pos := "l15_text.go:53", after := #[{ on := 1, ground := Ground.data }], guard := none } : Oper), ({ dst := some 6, op := Op.binOp BinOp.add 9 (Operand.tmp 5) (Operand.const (Value.string { data := #[32] })) 9, type := 9, pos := "l15_text.go:53", after := #[{ on := 2, ground := Ground.data }], guard := none } : Oper), ({ dst := some 7, op := Op.buildSlice 48 6 #[(0, Operand.const (Value.string { data := #[] })), (1, Operand.const (Value.string { data := #[98, 111, 114, 100, 101, 114] })), (2, Operand.const (Value.string { data := #[98, 101, 101, 112] })), (3, Operand.const (Value.string { data := #[112, 115, 103] })), (4, Operand.const (Value.string { data := #[105, 110] })), (5, Operand.const (Value.string { data := #[105, 110, 116] }))], type := 48, pos := "l15_text.go:53", after := #[], guard := none } : Oper), ({ dst := some 8, op := Op.fieldAddr 26 (Operand.tmp 1) 1, type := 0, pos := "l15_text.go:53", after := #[], guard := none } : Oper), ({ dst := some 9, op := Op.load 3 (Operand.tmp 8), type := 3, pos := "l15_text.go:53", after := #[{ on := 5, ground := Ground.data }], guard := none } : Oper), ({ dst := some 10, op := Op.indexAddr 48 (Operand.tmp 7) (Operand.tmp 9), type := 0, pos := "l15_text.go:53", after := #[{ on := 4, ground := Ground.data }, { on := 6, ground := Ground.data }], guard := none } : Oper), ({ dst := some 11, op := Op.load 9 (Operand.tmp 10), type := 9, pos := "l15_text.go:53", after := #[{ on := 7, ground := Ground.data }], guard := none } : Oper), ({ dst := some 12, op := Op.binOp BinOp.add 9 (Operand.tmp 6) (Operand.tmp 11) 9, type := 9, pos := "l15_text.go:53", after := #[{ on := 3, ground := Ground.data }, { on := 8, ground := Ground.data }], guard := none } : Oper), ({ dst := some 13, op := Op.binOp BinOp.add 9 (Operand.tmp 12) (Operand.const (Value.string { data := #[32] })) 9, type := 9, pos := "l15_text.go:53", after := #[{ on := 9, ground := Ground.data }], guard := none } : Oper), ({ dst := some 14, op := Op.fieldAddr 26 (Operand.tmp 1) 2, type := 0, pos := "l15_text.go:53", after := #[], guard := none } : Oper), ({ dst := some 15, op := Op.load 3 (Operand.tmp 14), type := 3, pos := "l15_text.go:53", after := #[{ on := 11, ground := Ground.data }], guard := none } : Oper), ({ dst := some 16, op := Op.call { callee := Callee.value (Operand.func 78), args := #[Operand.tmp 15], argTypes := #[3] }, type := 9, pos := "l15_text.go:53", after := #[{ on := 12, ground := Ground.data }, { on := 2, ground := Ground.chain }], guard := none } : Oper), ({ dst := some 17, op := Op.binOp BinOp.add 9 (Operand.tmp 13) (Operand.tmp 16) 9, type := 9, pos := "l15_text.go:53", after := #[{ on := 10, ground := Ground.data }, { on := 13, ground := Ground.data }], guard := none } : Oper), ({ dst := some 2, op := Op.assign (Operand.tmp 17), type := 9, pos := "l15_text.go:53", after := #[{ on := 14, ground := Ground.data }, { on := 13, ground := Ground.chain }, { on := 0, ground := Ground.phase }, { on := 1, ground := Ground.phase }, { on := 2, ground := Ground.phase }, { on := 3, ground := Ground.phase }, { on := 4, ground := Ground.phase }, { on := 5, ground := Ground.phase }, { on := 6, ground := Ground.phase }, { on := 7, ground := Ground.phase }, { on := 8, ground := Ground.phase }, { on := 9, ground := Ground.phase }, { on := 10, ground := Ground.phase }, { on := 11, ground := Ground.phase }, { on := 12, ground := Ground.phase }, { on := 13, ground := Ground.phase }, { on := 14, ground := Ground.phase }], guard := none } : Oper)] true).wp Tryd.prog Q A w1 := by
  show (Code.region 1 ex_O true).wp Tryd.prog Q A w1
  refine wp_region_slots (E := Nat) (ex_V b T kk V DT WK DV) (ex_J w1 b T kk V DT WK DV) (by kernel_rfl) (by kernel_rfl) (by kernel_rfl) (fun i s hi => ?_) ?_ 0 ⟨(Below.refl _ _).drew, fun h => (by cases h), fun h => (by cases h)⟩ ?_
  · cases hc : ([3, 4, 5, 6, 7, 8, 9, 10, 11, 12, 13, 14, 15, 16, 17, 2] : List Nat).contains s
    · exact absurd hi (ex_no hc i)
    · have : s ∈ ([3, 4, 5, 6, 7, 8, 9, 10, 11, 12, 13, 14, 15, 16, 17, 2] : List Nat) := by simpa using hc
      simp only [List.mem_cons, List.not_mem_nil, or_false] at this
      omega
  · intro f e a w i o hi ho hun hdep hJ hFr K hK
    have hi8 : i < 16 := hi
    rcases (by omega : i = 0 ∨ i = 1 ∨ i = 2 ∨ i = 3 ∨ i = 4 ∨ i = 5 ∨ i = 6 ∨ i = 7 ∨ i = 8 ∨ i = 9 ∨ i = 10 ∨ i = 11 ∨ i = 12 ∨ i = 13 ∨ i = 14 ∨ i = 15) with rfl | rfl | rfl | rfl | rfl | rfl | rfl | rfl | rfl | rfl | rfl | rfl | rfl | rfl | rfl | rfl
    · obtain rfl := Option.some.inj ho
      exact ex_s0 A w1 Q b T kk V DT WK DV h1 qb hK6 hW hs hIT hIV f e a w hun hdep hJ hFr K hK
    · obtain rfl := Option.some.inj ho
      exact ex_s1 A w1 Q b T kk V DT WK DV h1 qb hK6 hW hs hIT hIV f e a w hun hdep hJ hFr K hK
    · obtain rfl := Option.some.inj ho
      exact ex_s2 A w1 Q b T kk V DT WK DV h1 qb hK6 hW hs hIT hIV f e a w hun hdep hJ hFr K hK
    · obtain rfl := Option.some.inj ho
      exact ex_s3 A w1 Q b T kk V DT WK DV h1 qb hK6 hW hs hIT hIV f e a w hun hdep hJ hFr K hK
    · obtain rfl := Option.some.inj ho
      exact ex_s4 A w1 Q b T kk V DT WK DV h1 qb hK6 hW hs hIT hIV f e a w hun hdep hJ hFr K hK
    · obtain rfl := Option.some.inj ho
      exact ex_s5 A w1 Q b T kk V DT WK DV h1 qb hK6 hW hs hIT hIV f e a w hun hdep hJ hFr K hK
    · obtain rfl := Option.some.inj ho
      exact ex_s6 A w1 Q b T kk V DT WK DV h1 qb hK6 hW hs hIT hIV f e a w hun hdep hJ hFr K hK
    · obtain rfl := Option.some.inj ho
      exact ex_s7 A w1 Q b T kk V DT WK DV h1 qb hK6 hW hs hIT hIV f e a w hun hdep hJ hFr K hK
    · obtain rfl := Option.some.inj ho
      exact ex_s8 A w1 Q b T kk V DT WK DV h1 qb hK6 hW hs hIT hIV f e a w hun hdep hJ hFr K hK
    · obtain rfl := Option.some.inj ho
      exact ex_s9 A w1 Q b T kk V DT WK DV h1 qb hK6 hW hs hIT hIV f e a w hun hdep hJ hFr K hK
    · obtain rfl := Option.some.inj ho
      exact ex_s10 A w1 Q b T kk V DT WK DV h1 qb hK6 hW hs hIT hIV f e a w hun hdep hJ hFr K hK
    · obtain rfl := Option.some.inj ho
      exact ex_s11 A w1 Q b T kk V DT WK DV h1 qb hK6 hW hs hIT hIV f e a w hun hdep hJ hFr K hK
    · obtain rfl := Option.some.inj ho
      exact ex_s12 A w1 Q b T kk V DT WK DV h1 qb hK6 hW hs hIT hIV f e a w hun hdep hJ hFr K hK
    · obtain rfl := Option.some.inj ho
      exact ex_s13 A w1 Q b T kk V DT WK DV h1 qb hK6 hW hs hIT hIV f e a w hun hdep hJ hFr K hK
    · obtain rfl := Option.some.inj ho
      exact ex_s14 A w1 Q b T kk V DT WK DV h1 qb hK6 hW hs hIT hIV f e a w hun hdep hJ hFr K hK
    · obtain rfl := Option.some.inj ho
      exact ex_s15 A w1 Q b T kk V DT WK DV h1 qb hK6 hW hs hIT hIV f e a w hun hdep hJ hFr K hK
  · intro f e a w hall hJ hFr
    have := h w e hJ.1
    rw [hFr.eq [(3, .pointer (some ⟨b, 0, none⟩)), (4, .int .i64 (T : Int)), (5, .string (DT)), (6, .string (DT ++ ⟨#[32]⟩)), (7, .slice (some ⟨e, 0, none⟩) 6 6), (8, .pointer (some ⟨b, 1, none⟩)), (9, .int .i64 (kk : Int)), (10, .pointer (some ⟨e, kk, none⟩)), (11, .string (WK)), (12, .string (DT ++ ⟨#[32]⟩ ++ WK)), (13, .string (DT ++ ⟨#[32]⟩ ++ WK ++ ⟨#[32]⟩)), (14, .pointer (some ⟨b, 2, none⟩)), (15, .int .i64 (V : Int)), (16, .string (DV)), (17, .string (DT ++ ⟨#[32]⟩ ++ WK ++ ⟨#[32]⟩ ++ DV)), (2, .string (DT ++ ⟨#[32]⟩ ++ WK ++ ⟨#[32]⟩ ++ DV))] (fun s hs => ?_) (fun i s hi => ?_)]
    · exact this
    · have hne : ∀ k ∈ ([3, 4, 5, 6, 7, 8, 9, 10, 11, 12, 13, 14, 15, 16, 17, 2] : List Nat), k ≠ s := by
        intro k hk e2
        subst e2
        simp only [List.mem_cons, List.not_mem_nil, or_false] at hk
        rcases hk with rfl | rfl | rfl | rfl | rfl | rfl | rfl | rfl | rfl | rfl | rfl | rfl | rfl | rfl | rfl | rfl
        · exact hs 0 rfl
        · exact hs 1 rfl
        · exact hs 2 rfl
        · exact hs 3 rfl
        · exact hs 4 rfl
        · exact hs 5 rfl
        · exact hs 6 rfl
        · exact hs 7 rfl
        · exact hs 8 rfl
        · exact hs 9 rfl
        · exact hs 10 rfl
        · exact hs 11 rfl
        · exact hs 12 rfl
        · exact hs 13 rfl
        · exact hs 14 rfl
        · exact hs 15 rfl
      simp only [lookA]
      simp [hne]
    · have hl : i < 16 := by
        rcases Nat.lt_or_ge i 16 with h1 | h1
        · exact h1
        · unfold dstAt at hi
          rw [Array.getElem?_eq_none (by exact h1)] at hi
          cases hi
      refine ⟨hall i hl, ?_⟩
      rcases (by omega : i = 0 ∨ i = 1 ∨ i = 2 ∨ i = 3 ∨ i = 4 ∨ i = 5 ∨ i = 6 ∨ i = 7 ∨ i = 8 ∨ i = 9 ∨ i = 10 ∨ i = 11 ∨ i = 12 ∨ i = 13 ∨ i = 14 ∨ i = 15) with rfl | rfl | rfl | rfl | rfl | rfl | rfl | rfl | rfl | rfl | rfl | rfl | rfl | rfl | rfl | rfl
      all_goals first
        | (cases hi; rfl)
        | cases hi
set_option maxRecDepth 100000 in
theorem evt0_spec (T K V : Nat) (w : World) (hT : T < 1000) (hK : K < 6) (hV : V < 1000) : Calls Tryd.prog 32 #[evtV T K V] w fun e w' => e = .returned (.string (evtB T K V)) ∧ Below w.heap.size w w' := by
  have hb0 := hid ((Below.refl w.heap.size w).alloc (Nat.le_refl _) (.cells (evtA T K V) 26))
  have hq0 := hid (Blk.new w (evtA T K V) 26)
  have hsT := digB_size T (Nat.lt_of_lt_of_le hT (by decide))
  have hsV := digB_size V (Nat.lt_of_lt_of_le hV (by decide))
  have hsW : (evW K).size ≤ 6 := by
    have : ∀ k, k < 6 → (evW k).size ≤ 6 := by decide +kernel
    exact this K hK
  have hIT := hid (fun W => digits_spec T W (by omega))
  have hIV := hid (fun W => digits_spec V W (by omega))
  have hW := evwA_at K hK
  have hE : Hid (digB T ++ ⟨#[32]⟩ ++ evW K ++ ⟨#[32]⟩ ++ digB V = evtB T K V) := rfl
  generalize evtB T K V = R at *
  generalize digB T = DT at *
  generalize digB V = DV at *
  generalize evW K = WK at *
  go_enter Tryd.func32, Tryd.ntmps32
  go_upto_region 1 with fail
  refine ex_reg _ _ _ w.heap.size T K V DT WK DV rfl hq0.out hK hW ⟨by omega, by omega, by omega⟩ hIT hIV (by simp) ?_
  intro W e hb
  have hb1 := hid (new_trans hb0.out hb)
  clear hb hb0 hq0 hIT hIV hW
  simp only [putsA, Act.put, List.setIfInBounds_toArray, List.set_cons_zero, List.set_cons_succ]
  rw [hE.out]
  go_wp2
  go_ret
  exact ⟨rfl, hb1.out⟩
set_option maxRecDepth 100000 in
theorem evt_spec (t k v : Int) (w : World) : Calls Tryd.prog 8 #[evtV t k v] w fun e w' => e = .returned (evt2 t k v) ∧ Below w.heap.size w w' := by
  have hb0 := hid ((Below.refl w.heap.size w).alloc (Nat.le_refl _) (.cells (evtA t k v) 26))
  have hq0 := hid (Blk.new w (evtA t k v) 26)
  cases hok : okEv t k v
  · have e : evt2 t k v = .tuple #[.string ⟨#[]⟩, .int .i64 1] := by unfold evt2; rw [hok]; rfl
    rw [e]
    clear e
    go_enter Tryd.func8, Tryd.ntmps8
    go_wp2_with fail
    refine (eventX_spec _ _ _ _).mono ?_
    rintro e w1 ⟨rfl, hb⟩
    rw [hok]
    have hb1 := hid (new_trans hb0.out hb)
    clear hb hb0 hq0
    go_wp2
    go_ret2
    exact ⟨rfl, hb1.out⟩
  obtain ⟨b0, b1, b2, b3, b4, b5⟩ := okEv_bd hok
  obtain ⟨T, rfl⟩ : ∃ X : Nat, t = (X : Int) := ⟨t.toNat, by omega⟩
  obtain ⟨K, rfl⟩ : ∃ X : Nat, k = (X : Int) := ⟨k.toNat, by omega⟩
  obtain ⟨V, rfl⟩ : ∃ X : Nat, v = (X : Int) := ⟨v.toNat, by omega⟩
  have e : evt2 T K V = .tuple #[.string (evtB T K V), .int .i64 0] := by unfold evt2; rw [hok, if_pos rfl]; rfl
  rw [e]
  clear e
  go_enter Tryd.func8, Tryd.ntmps8
  go_wp2_with fail
  refine (eventX_spec _ _ _ _).mono ?_
  rintro e w1 ⟨rfl, hb⟩
  rw [hok]
  have hb1 := hid (new_trans hb0.out hb)
  have hq1 := hid (hq0.out.below hb hq0.out.lt)
  clear hb hb0 hq0
  have x1 := hq1.out.cell
  go_wp2_with fail
  refine (evt0_spec T K V _ (by omega) (by omega) (by omega)).mono ?_
  rintro e w2 ⟨rfl, hb⟩
  have hb2 := hid (new_trans hb1.out hb)
  clear hb hb1 hq1 x1
  go_wp2
  go_ret2
  exact ⟨rfl, hb2.out⟩
end Go.Proofs.YtneagomkohoceabDoor
