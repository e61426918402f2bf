/- The bytes of a block, and its text: the specification. -/
import Derived.Test.YtifcdojaocndhaaDoorM09
import Derived.Test.YtifcdojaocndhaaDoorM10
import Derived.Test.YtifcdojaocndhaaDoorM03
namespace Go.Proofs.YtifcdojaocndhaaDoor
open Go.ChangeShapes Go.WideShapes Go.ChangeAt Go.RowKit
set_option linter.unusedVariables false
set_option linter.unusedSimpArgs false

theorem conv1 {W : World} {g : Nat} {x : Int} (h : Blk W g #[.int .u8 x]) : (convert 119 9 (.slice (some ⟨g, 0, none⟩) 1 1)).run Tryd.prog W = .ok (.string (strOfNums [x])) W :=
  run_convert_bytes_arg _ 119 5 Tryd.underlying119 Tryd.underlying5 g 0 1 1 [x] rfl (fun i hi => by
    match i, hi with
    | 0, _ => exact h.cell 0) 9 Tryd.underlying9
def lb_V (b : Nat) (fl : Int) (s : ByteArray) (m : Int) : Nat → Nat × Nat → Value := fun i e => match i with
  | 0 => .pointer (some ⟨b, 0, none⟩)
  | 1 => .int .i64 fl
  | 2 => .int .u8 fl
  | 3 => .slice (some ⟨e.1, 0, none⟩) 1 1
  | 4 => .string (strOfNums [fl])
  | 5 => .pointer (some ⟨b, 1, none⟩)
  | 6 => .string s
  | 7 => .string (strOfNums [fl] ++ s)
  | 8 => bkV fl s
  | 9 => .int .i64 m
  | 10 => .int .u8 m
  | 11 => .slice (some ⟨e.2, 0, none⟩) 1 1
  | 12 => .string (strOfNums [m])
  | 13 => .string (strOfNums [fl] ++ s ++ strOfNums [m])
  | 14 => .string (strOfNums [fl] ++ s ++ strOfNums [m])
  | _ => undef
def lb_J (w1 : World) (b : Nat) (fl : Int) (s : ByteArray) (m : Int) (f : Nat → Bool) (e : Nat × Nat) (w : World) : Prop :=
  Below w1.heap.size w1 w ∧ (f 3 = true → Blk w e.1 #[.int .u8 fl]) ∧ (f 11 = true → Blk w e.2 #[.int .u8 m])
def lb_o0 : Oper := ({ dst := some 3, op := Op.fieldAddr 75 (Operand.tmp 1) 0, type := 0, pos := "l09_tap.go:21", after := #[], guard := none } : Oper)
def lb_o1 : Oper := ({ dst := some 4, op := Op.load 3 (Operand.tmp 3), type := 3, pos := "l09_tap.go:21", after := #[{ on := 0, ground := Ground.data }], guard := none } : Oper)
def lb_o2 : Oper := ({ dst := some 5, op := Op.convert 3 5 (Operand.tmp 4), type := 5, pos := "l09_tap.go:21", after := #[{ on := 1, ground := Ground.data }], guard := none } : Oper)
def lb_o3 : Oper := ({ dst := some 6, op := Op.buildSlice 119 1 #[(0, Operand.tmp 5)], type := 119, pos := "l09_tap.go:21", after := #[{ on := 2, ground := Ground.data }], guard := none } : Oper)
def lb_o4 : Oper := ({ dst := some 7, op := Op.convert 119 9 (Operand.tmp 6), type := 9, pos := "l09_tap.go:21", after := #[{ on := 3, ground := Ground.data }], guard := none } : Oper)
def lb_o5 : Oper := ({ dst := some 8, op := Op.fieldAddr 75 (Operand.tmp 1) 1, type := 0, pos := "l09_tap.go:21", after := #[], guard := none } : Oper)
def lb_o6 : Oper := ({ dst := some 9, op := Op.load 9 (Operand.tmp 8), type := 9, pos := "l09_tap.go:21", after := #[{ on := 5, ground := Ground.data }], guard := none } : Oper)
def lb_o7 : Oper := ({ dst := some 10, op := Op.binOp BinOp.add 9 (Operand.tmp 7) (Operand.tmp 9) 9, type := 9, pos := "l09_tap.go:21", after := #[{ on := 4, ground := Ground.data }, { on := 6, ground := Ground.data }], guard := none } : Oper)
def lb_o8 : Oper := ({ dst := some 11, op := Op.load 75 (Operand.tmp 1), type := 75, pos := "l09_tap.go:21", after := #[], guard := none } : Oper)
def lb_o9 : Oper := ({ dst := some 12, op := Op.call { callee := Callee.value (Operand.func 182), args := #[Operand.tmp 11], argTypes := #[75] }, type := 3, pos := "l09_tap.go:21", after := #[{ on := 8, ground := Ground.data }], guard := none } : Oper)
def lb_o10 : Oper := ({ dst := some 13, op := Op.convert 3 5 (Operand.tmp 12), type := 5, pos := "l09_tap.go:21", after := #[{ on := 9, ground := Ground.data }], guard := none } : Oper)
def lb_o11 : Oper := ({ dst := some 14, op := Op.buildSlice 119 1 #[(0, Operand.tmp 13)], type := 119, pos := "l09_tap.go:21", after := #[{ on := 10, ground := Ground.data }], guard := none } : Oper)
def lb_o12 : Oper := ({ dst := some 15, op := Op.convert 119 9 (Operand.tmp 14), type := 9, pos := "l09_tap.go:21", after := #[{ on := 11, ground := Ground.data }], guard := none } : Oper)
def lb_o13 : Oper := ({ dst := some 16, op := Op.binOp BinOp.add 9 (Operand.tmp 10) (Operand.tmp 15) 9, type := 9, pos := "l09_tap.go:21", after := #[{ on := 7, ground := Ground.data }, { on := 12, ground := Ground.data }], guard := none } : Oper)
def lb_o14 : Oper := ({ dst := some 2, op := Op.assign (Operand.tmp 16), type := 9, pos := "l09_tap.go:21", after := #[{ on := 13, ground := Ground.data }, { on := 9, ground := Ground.chain }, { on := 0, ground := Ground.phase }, { on := 1, ground := Ground.phase }, { on := 2, ground := Ground.phase }, { on := 3, ground := Ground.phase }, { on := 4, ground := Ground.phase }, { on := 5, ground := Ground.phase }, { on := 6, ground := Ground.phase }, { on := 7, ground := Ground.phase }, { on := 8, ground := Ground.phase }, { on := 9, ground := Ground.phase }, { on := 10, ground := Ground.phase }, { on := 11, ground := Ground.phase }, { on := 12, ground := Ground.phase }, { on := 13, ground := Ground.phase }], guard := none } : Oper)
def lb_O : Array Oper := #[lb_o0, lb_o1, lb_o2, lb_o3, lb_o4, lb_o5, lb_o6, lb_o7, lb_o8, lb_o9, lb_o10, lb_o11, lb_o12, lb_o13, lb_o14]
theorem lb_no {s : Nat} (h : ([3, 4, 5, 6, 7, 8, 9, 10, 11, 12, 13, 14, 15, 16, 2] : List Nat).contains s = false) : ∀ i, dstAt lb_O i ≠ some s := by
  intro i hi
  have hl : i < 15 := by
    rcases Nat.lt_or_ge i 15 with h1 | h1
    · exact h1
    · unfold dstAt at hi
      rw [Array.getElem?_eq_none (by exact h1)] at hi
      cases hi
  rcases (by omega : i = 0 ∨ i = 1 ∨ i = 2 ∨ i = 3 ∨ i = 4 ∨ i = 5 ∨ i = 6 ∨ i = 7 ∨ i = 8 ∨ i = 9 ∨ i = 10 ∨ i = 11 ∨ i = 12 ∨ i = 13 ∨ i = 14) with rfl | rfl | rfl | rfl | rfl | rfl | rfl | rfl | rfl | rfl | rfl | rfl | rfl | rfl | rfl
  all_goals first
    | (cases hi; simp at h)
    | cases hi
theorem lb_k1 (b : Nat) (fl : Int) (s : ByteArray) (m : Int) {f : Nat → Bool} (e e' : Nat × Nat) (he : e'.2 = e.2) (hn : f 3 = false) : ∀ j, f j = true → lb_V b fl s m j e' = lb_V b fl s m j e := by
  intro j hj
  unfold lb_V
  split
  · rfl
  · rfl
  · rfl
  · rw [hn] at hj; cases hj
  · rfl
  · rfl
  · rfl
  · rfl
  · rfl
  · rfl
  · rfl
  · rw [he]
  · rfl
  · rfl
  · rfl
  · rfl
theorem lb_k2 (b : Nat) (fl : Int) (s : ByteArray) (m : Int) {f : Nat → Bool} (e e' : Nat × Nat) (he : e'.1 = e.1) (hn : f 11 = false) : ∀ j, f j = true → lb_V b fl s m j e' = lb_V b fl s m j e := by
  intro j hj
  unfold lb_V
  split
  · rfl
  · rfl
  · rfl
  · rw [he]
  · rfl
  · rfl
  · rfl
  · rfl
  · rfl
  · rfl
  · rfl
  · rw [hn] at hj; cases hj
  · rfl
  · rfl
  · rfl
  · rfl
set_option maxRecDepth 100000 in
set_option maxHeartbeats 2000000 in
theorem lb_s0 (A : Act) (w1 : World) (Q : Exit → Act → World → Prop) (b : Nat) (fl : Int) (s : ByteArray) (m : Int) 
    (hb : A.tmps.getD 1 undef = .pointer (some ⟨b, 0, none⟩)) (qb : Blk w1 b (bkA fl s)) (hf : 0 ≤ fl ∧ fl ≤ 255) (hm : 0 ≤ m ∧ m ≤ 255) (hs : s.size ≤ 40) (hF : ∀ W, Calls Tryd.prog 182 #[bkV fl s] W fun r w' => r = .returned (.int .i64 m) ∧ Below W.heap.size W w')
    (f : Nat → Bool) (e : Nat × Nat) (a : Act) (w : World) (hun : f 0 = false) (hdep : ∀ d ∈ lb_o0.after, Region.binds .any d = true → f d.on = true) (hJ : lb_J w1 b fl s m f e w) (hFr : Fr lb_O A f (fun j => lb_V b fl s m j e) a)
    (K : Act → World → Prop) (hK : Hid (∀ v e' w', v = lb_V b fl s m 0 e' → (∀ j, f j = true → lb_V b fl s m j e' = lb_V b fl s m j e) → lb_J w1 b fl s m (fun j => j == 0 || f j) e' w' → K (a.put lb_o0.dst v) w')) :
    if Region.wanted lb_o0 (yielded lb_O a.tmps) = true then Oper.wp Tryd.prog lb_o0 a w K Q else K (a.put lb_o0.dst undef) w := by
  unfold lb_o0 at hdep hK ⊢
  obtain ⟨hB, h3, h11⟩ := hJ
  have v1 := (hFr.old 1 (lb_no (by decide))).trans hb
  replace hB := hid hB
  replace h3 := hid h3
  replace h11 := hid h11
  clear hdep hFr hb
  go_simp
  exact hK.out _ e _ rfl (fun _ _ => rfl) ⟨hB.out, h3.out, h11.out⟩
set_option maxRecDepth 100000 in
set_option maxHeartbeats 2000000 in
theorem lb_s1 (A : Act) (w1 : World) (Q : Exit → Act → World → Prop) (b : Nat) (fl : Int) (s : ByteArray) (m : Int) 
    (hb : A.tmps.getD 1 undef = .pointer (some ⟨b, 0, none⟩)) (qb : Blk w1 b (bkA fl s)) (hf : 0 ≤ fl ∧ fl ≤ 255) (hm : 0 ≤ m ∧ m ≤ 255) (hs : s.size ≤ 40) (hF : ∀ W, Calls Tryd.prog 182 #[bkV fl s] W fun r w' => r = .returned (.int .i64 m) ∧ Below W.heap.size W w')
    (f : Nat → Bool) (e : Nat × Nat) (a : Act) (w : World) (hun : f 1 = false) (hdep : ∀ d ∈ lb_o1.after, Region.binds .any d = true → f d.on = true) (hJ : lb_J w1 b fl s m f e w) (hFr : Fr lb_O A f (fun j => lb_V b fl s m j e) a)
    (K : Act → World → Prop) (hK : Hid (∀ v e' w', v = lb_V b fl s m 1 e' → (∀ j, f j = true → lb_V b fl s m j e' = lb_V b fl s m j e) → lb_J w1 b fl s m (fun j => j == 1 || f j) e' w' → K (a.put lb_o1.dst v) w')) :
    if Region.wanted lb_o1 (yielded lb_O a.tmps) = true then Oper.wp Tryd.prog lb_o1 a w K Q else K (a.put lb_o1.dst undef) w := by
  unfold lb_o1 at hdep hK ⊢
  obtain ⟨hB, h3, h11⟩ := hJ
  have k0 : f 0 = true := hdep { on := 0, ground := .data } (by simp) rfl
  have v3 : a.tmps.getD 3 undef = .pointer (some ⟨b, 0, none⟩) := hFr.new 0 3 rfl k0
  have y := (qb.below hB qb.lt).cell 0
  replace hB := hid hB
  replace h3 := hid h3
  replace h11 := hid h11
  clear hdep hFr hb
  go_simp
  exact hK.out _ e _ rfl (fun _ _ => rfl) ⟨hB.out, h3.out, h11.out⟩
set_option maxRecDepth 100000 in
set_option maxHeartbeats 2000000 in
theorem lb_s2 (A : Act) (w1 : World) (Q : Exit → Act → World → Prop) (b : Nat) (fl : Int) (s : ByteArray) (m : Int) 
    (hb : A.tmps.getD 1 undef = .pointer (some ⟨b, 0, none⟩)) (qb : Blk w1 b (bkA fl s)) (hf : 0 ≤ fl ∧ fl ≤ 255) (hm : 0 ≤ m ∧ m ≤ 255) (hs : s.size ≤ 40) (hF : ∀ W, Calls Tryd.prog 182 #[bkV fl s] W fun r w' => r = .returned (.int .i64 m) ∧ Below W.heap.size W w')
    (f : Nat → Bool) (e : Nat × Nat) (a : Act) (w : World) (hun : f 2 = false) (hdep : ∀ d ∈ lb_o2.after, Region.binds .any d = true → f d.on = true) (hJ : lb_J w1 b fl s m f e w) (hFr : Fr lb_O A f (fun j => lb_V b fl s m j e) a)
    (K : Act → World → Prop) (hK : Hid (∀ v e' w', v = lb_V b fl s m 2 e' → (∀ j, f j = true → lb_V b fl s m j e' = lb_V b fl s m j e) → lb_J w1 b fl s m (fun j => j == 2 || f j) e' w' → K (a.put lb_o2.dst v) w')) :
    if Region.wanted lb_o2 (yielded lb_O a.tmps) = true then Oper.wp Tryd.prog lb_o2 a w K Q else K (a.put lb_o2.dst undef) w := by
  unfold lb_o2 at hdep hK ⊢
  obtain ⟨hB, h3, h11⟩ := hJ
  have k1 : f 1 = true := hdep { on := 1, ground := .data } (by simp) rfl
  have v4 : a.tmps.getD 4 undef = .int .i64 fl := hFr.new 1 4 rfl k1
  have hw : IntKind.u8.wrap fl = fl := by simp [IntKind.wrap, IntKind.signed, IntKind.bits]; omega
  have hw2 : fl % 256 = fl := by omega
  replace hB := hid hB
  replace h3 := hid h3
  replace h11 := hid h11
  clear hdep hFr hb
  go_simp
  exact hK.out _ e _ rfl (fun _ _ => rfl) ⟨hB.out, h3.out, h11.out⟩
set_option maxRecDepth 100000 in
set_option maxHeartbeats 2000000 in
theorem lb_s3 (A : Act) (w1 : World) (Q : Exit → Act → World → Prop) (b : Nat) (fl : Int) (s : ByteArray) (m : Int) 
    (hb : A.tmps.getD 1 undef = .pointer (some ⟨b, 0, none⟩)) (qb : Blk w1 b (bkA fl s)) (hf : 0 ≤ fl ∧ fl ≤ 255) (hm : 0 ≤ m ∧ m ≤ 255) (hs : s.size ≤ 40) (hF : ∀ W, Calls Tryd.prog 182 #[bkV fl s] W fun r w' => r = .returned (.int .i64 m) ∧ Below W.heap.size W w')
    (f : Nat → Bool) (e : Nat × Nat) (a : Act) (w : World) (hun : f 3 = false) (hdep : ∀ d ∈ lb_o3.after, Region.binds .any d = true → f d.on = true) (hJ : lb_J w1 b fl s m f e w) (hFr : Fr lb_O A f (fun j => lb_V b fl s m j e) a)
    (K : Act → World → Prop) (hK : Hid (∀ v e' w', v = lb_V b fl s m 3 e' → (∀ j, f j = true → lb_V b fl s m j e' = lb_V b fl s m j e) → lb_J w1 b fl s m (fun j => j == 3 || f j) e' w' → K (a.put lb_o3.dst v) w')) :
    if Region.wanted lb_o3 (yielded lb_O a.tmps) = true then Oper.wp Tryd.prog lb_o3 a w K Q else K (a.put lb_o3.dst undef) w := by
  unfold lb_o3 at hdep hK ⊢
  obtain ⟨hB, h3, h11⟩ := hJ
  have k2 : f 2 = true := hdep { on := 2, ground := .data } (by simp) rfl
  have v5 : a.tmps.getD 5 undef = .int .u8 fl := hFr.new 2 5 rfl k2
  have v5b : a.tmps[5]?.getD undef = .int .u8 fl := by simpa using v5
  have hal := hid ((Below.refl w.heap.size w).alloc (Nat.le_refl _) (.cells #[.int .u8 fl] 5))
  have hn := hid (Blk.new w #[.int .u8 fl] 5)
  replace hB := hid hB
  replace h3 := hid h3
  replace h11 := hid h11
  clear hdep hFr hb
  go_simp
  exact hK.out _ ⟨w.heap.size, e.2⟩ _ rfl (lb_k1 b fl s m e ⟨w.heap.size, e.2⟩ rfl hun) ⟨new_trans hB.out hal.out, fun _ => hn.out, fun h => (h11.out h).below hal.out (h11.out h).lt⟩
set_option maxRecDepth 100000 in
set_option maxHeartbeats 2000000 in
theorem lb_s4 (A : Act) (w1 : World) (Q : Exit → Act → World → Prop) (b : Nat) (fl : Int) (s : ByteArray) (m : Int) 
    (hb : A.tmps.getD 1 undef = .pointer (some ⟨b, 0, none⟩)) (qb : Blk w1 b (bkA fl s)) (hf : 0 ≤ fl ∧ fl ≤ 255) (hm : 0 ≤ m ∧ m ≤ 255) (hs : s.size ≤ 40) (hF : ∀ W, Calls Tryd.prog 182 #[bkV fl s] W fun r w' => r = .returned (.int .i64 m) ∧ Below W.heap.size W w')
    (f : Nat → Bool) (e : Nat × Nat) (a : Act) (w : World) (hun : f 4 = false) (hdep : ∀ d ∈ lb_o4.after, Region.binds .any d = true → f d.on = true) (hJ : lb_J w1 b fl s m f e w) (hFr : Fr lb_O A f (fun j => lb_V b fl s m j e) a)
    (K : Act → World → Prop) (hK : Hid (∀ v e' w', v = lb_V b fl s m 4 e' → (∀ j, f j = true → lb_V b fl s m j e' = lb_V b fl s m j e) → lb_J w1 b fl s m (fun j => j == 4 || f j) e' w' → K (a.put lb_o4.dst v) w')) :
    if Region.wanted lb_o4 (yielded lb_O a.tmps) = true then Oper.wp Tryd.prog lb_o4 a w K Q else K (a.put lb_o4.dst undef) w := by
  unfold lb_o4 at hdep hK ⊢
  obtain ⟨hB, h3, h11⟩ := hJ
  have k3 : f 3 = true := hdep { on := 3, ground := .data } (by simp) rfl
  have v6 : a.tmps.getD 6 undef = .slice (some ⟨e.1, 0, none⟩) 1 1 := hFr.new 3 6 rfl k3
  have y := conv1 (h3 k3)
  replace hB := hid hB
  replace h3 := hid h3
  replace h11 := hid h11
  clear hdep hFr hb
  go_simp
  exact hK.out _ e _ rfl (fun _ _ => rfl) ⟨hB.out, h3.out, h11.out⟩
set_option maxRecDepth 100000 in
set_option maxHeartbeats 2000000 in
theorem lb_s5 (A : Act) (w1 : World) (Q : Exit → Act → World → Prop) (b : Nat) (fl : Int) (s : ByteArray) (m : Int) 
    (hb : A.tmps.getD 1 undef = .pointer (some ⟨b, 0, none⟩)) (qb : Blk w1 b (bkA fl s)) (hf : 0 ≤ fl ∧ fl ≤ 255) (hm : 0 ≤ m ∧ m ≤ 255) (hs : s.size ≤ 40) (hF : ∀ W, Calls Tryd.prog 182 #[bkV fl s] W fun r w' => r = .returned (.int .i64 m) ∧ Below W.heap.size W w')
    (f : Nat → Bool) (e : Nat × Nat) (a : Act) (w : World) (hun : f 5 = false) (hdep : ∀ d ∈ lb_o5.after, Region.binds .any d = true → f d.on = true) (hJ : lb_J w1 b fl s m f e w) (hFr : Fr lb_O A f (fun j => lb_V b fl s m j e) a)
    (K : Act → World → Prop) (hK : Hid (∀ v e' w', v = lb_V b fl s m 5 e' → (∀ j, f j = true → lb_V b fl s m j e' = lb_V b fl s m j e) → lb_J w1 b fl s m (fun j => j == 5 || f j) e' w' → K (a.put lb_o5.dst v) w')) :
    if Region.wanted lb_o5 (yielded lb_O a.tmps) = true then Oper.wp Tryd.prog lb_o5 a w K Q else K (a.put lb_o5.dst undef) w := by
  unfold lb_o5 at hdep hK ⊢
  obtain ⟨hB, h3, h11⟩ := hJ
  have v1 := (hFr.old 1 (lb_no (by decide))).trans hb
  replace hB := hid hB
  replace h3 := hid h3
  replace h11 := hid h11
  clear hdep hFr hb
  go_simp
  exact hK.out _ e _ rfl (fun _ _ => rfl) ⟨hB.out, h3.out, h11.out⟩
set_option maxRecDepth 100000 in
set_option maxHeartbeats 2000000 in
theorem lb_s6 (A : Act) (w1 : World) (Q : Exit → Act → World → Prop) (b : Nat) (fl : Int) (s : ByteArray) (m : Int) 
    (hb : A.tmps.getD 1 undef = .pointer (some ⟨b, 0, none⟩)) (qb : Blk w1 b (bkA fl s)) (hf : 0 ≤ fl ∧ fl ≤ 255) (hm : 0 ≤ m ∧ m ≤ 255) (hs : s.size ≤ 40) (hF : ∀ W, Calls Tryd.prog 182 #[bkV fl s] W fun r w' => r = .returned (.int .i64 m) ∧ Below W.heap.size W w')
    (f : Nat → Bool) (e : Nat × Nat) (a : Act) (w : World) (hun : f 6 = false) (hdep : ∀ d ∈ lb_o6.after, Region.binds .any d = true → f d.on = true) (hJ : lb_J w1 b fl s m f e w) (hFr : Fr lb_O A f (fun j => lb_V b fl s m j e) a)
    (K : Act → World → Prop) (hK : Hid (∀ v e' w', v = lb_V b fl s m 6 e' → (∀ j, f j = true → lb_V b fl s m j e' = lb_V b fl s m j e) → lb_J w1 b fl s m (fun j => j == 6 || f j) e' w' → K (a.put lb_o6.dst v) w')) :
    if Region.wanted lb_o6 (yielded lb_O a.tmps) = true then Oper.wp Tryd.prog lb_o6 a w K Q else K (a.put lb_o6.dst undef) w := by
  unfold lb_o6 at hdep hK ⊢
  obtain ⟨hB, h3, h11⟩ := hJ
  have k5 : f 5 = true := hdep { on := 5, ground := .data } (by simp) rfl
  have v8 : a.tmps.getD 8 undef = .pointer (some ⟨b, 1, none⟩) := hFr.new 5 8 rfl k5
  have y := (qb.below hB qb.lt).cell 1
  replace hB := hid hB
  replace h3 := hid h3
  replace h11 := hid h11
  clear hdep hFr hb
  go_simp
  exact hK.out _ e _ rfl (fun _ _ => rfl) ⟨hB.out, h3.out, h11.out⟩
set_option maxRecDepth 100000 in
set_option maxHeartbeats 2000000 in
theorem lb_s7 (A : Act) (w1 : World) (Q : Exit → Act → World → Prop) (b : Nat) (fl : Int) (s : ByteArray) (m : Int) 
    (hb : A.tmps.getD 1 undef = .pointer (some ⟨b, 0, none⟩)) (qb : Blk w1 b (bkA fl s)) (hf : 0 ≤ fl ∧ fl ≤ 255) (hm : 0 ≤ m ∧ m ≤ 255) (hs : s.size ≤ 40) (hF : ∀ W, Calls Tryd.prog 182 #[bkV fl s] W fun r w' => r = .returned (.int .i64 m) ∧ Below W.heap.size W w')
    (f : Nat → Bool) (e : Nat × Nat) (a : Act) (w : World) (hun : f 7 = false) (hdep : ∀ d ∈ lb_o7.after, Region.binds .any d = true → f d.on = true) (hJ : lb_J w1 b fl s m f e w) (hFr : Fr lb_O A f (fun j => lb_V b fl s m j e) a)
    (K : Act → World → Prop) (hK : Hid (∀ v e' w', v = lb_V b fl s m 7 e' → (∀ j, f j = true → lb_V b fl s m j e' = lb_V b fl s m j e) → lb_J w1 b fl s m (fun j => j == 7 || f j) e' w' → K (a.put lb_o7.dst v) w')) :
    if Region.wanted lb_o7 (yielded lb_O a.tmps) = true then Oper.wp Tryd.prog lb_o7 a w K Q else K (a.put lb_o7.dst undef) w := by
  unfold lb_o7 at hdep hK ⊢
  obtain ⟨hB, h3, h11⟩ := hJ
  have k4 : f 4 = true := hdep { on := 4, ground := .data } (by simp) rfl
  have v7 : a.tmps.getD 7 undef = .string (strOfNums [fl]) := hFr.new 4 7 rfl k4
  have k6 : f 6 = true := hdep { on := 6, ground := .data } (by simp) rfl
  have v9 : a.tmps.getD 9 undef = .string s := hFr.new 6 9 rfl k6
  have z1 : (strOfNums [fl]).size = 1 := strOfNums_size _
  have z2 : (strOfNums [m]).size = 1 := strOfNums_size _
  have z3 : (strOfNums [fl] ++ s).size = 1 + s.size := by rw [ByteArray.size_append, z1]
  have z4 : ¬ 9223372036854775807 < 1 + s.size := by omega
  have z5 : ¬ 9223372036854775807 < 1 + s.size + 1 := by omega
  replace hB := hid hB
  replace h3 := hid h3
  replace h11 := hid h11
  clear hdep hFr hb
  go_simp
  exact hK.out _ e _ rfl (fun _ _ => rfl) ⟨hB.out, h3.out, h11.out⟩
set_option maxRecDepth 100000 in
set_option maxHeartbeats 2000000 in
theorem lb_s8 (A : Act) (w1 : World) (Q : Exit → Act → World → Prop) (b : Nat) (fl : Int) (s : ByteArray) (m : Int) 
    (hb : A.tmps.getD 1 undef = .pointer (some ⟨b, 0, none⟩)) (qb : Blk w1 b (bkA fl s)) (hf : 0 ≤ fl ∧ fl ≤ 255) (hm : 0 ≤ m ∧ m ≤ 255) (hs : s.size ≤ 40) (hF : ∀ W, Calls Tryd.prog 182 #[bkV fl s] W fun r w' => r = .returned (.int .i64 m) ∧ Below W.heap.size W w')
    (f : Nat → Bool) (e : Nat × Nat) (a : Act) (w : World) (hun : f 8 = false) (hdep : ∀ d ∈ lb_o8.after, Region.binds .any d = true → f d.on = true) (hJ : lb_J w1 b fl s m f e w) (hFr : Fr lb_O A f (fun j => lb_V b fl s m j e) a)
    (K : Act → World → Prop) (hK : Hid (∀ v e' w', v = lb_V b fl s m 8 e' → (∀ j, f j = true → lb_V b fl s m j e' = lb_V b fl s m j e) → lb_J w1 b fl s m (fun j => j == 8 || f j) e' w' → K (a.put lb_o8.dst v) w')) :
    if Region.wanted lb_o8 (yielded lb_O a.tmps) = true then Oper.wp Tryd.prog lb_o8 a w K Q else K (a.put lb_o8.dst undef) w := by
  unfold lb_o8 at hdep hK ⊢
  obtain ⟨hB, h3, h11⟩ := hJ
  have v1 := (hFr.old 1 (lb_no (by decide))).trans hb
  have y := (qb.below hB qb.lt).cell
  replace hB := hid hB
  replace h3 := hid h3
  replace h11 := hid h11
  clear hdep hFr hb
  go_simp
  exact hK.out _ e _ rfl (fun _ _ => rfl) ⟨hB.out, h3.out, h11.out⟩
set_option maxRecDepth 100000 in
set_option maxHeartbeats 2000000 in
theorem lb_s9 (A : Act) (w1 : World) (Q : Exit → Act → World → Prop) (b : Nat) (fl : Int) (s : ByteArray) (m : Int) 
    (hb : A.tmps.getD 1 undef = .pointer (some ⟨b, 0, none⟩)) (qb : Blk w1 b (bkA fl s)) (hf : 0 ≤ fl ∧ fl ≤ 255) (hm : 0 ≤ m ∧ m ≤ 255) (hs : s.size ≤ 40) (hF : ∀ W, Calls Tryd.prog 182 #[bkV fl s] W fun r w' => r = .returned (.int .i64 m) ∧ Below W.heap.size W w')
    (f : Nat → Bool) (e : Nat × Nat) (a : Act) (w : World) (hun : f 9 = false) (hdep : ∀ d ∈ lb_o9.after, Region.binds .any d = true → f d.on = true) (hJ : lb_J w1 b fl s m f e w) (hFr : Fr lb_O A f (fun j => lb_V b fl s m j e) a)
    (K : Act → World → Prop) (hK : Hid (∀ v e' w', v = lb_V b fl s m 9 e' → (∀ j, f j = true → lb_V b fl s m j e' = lb_V b fl s m j e) → lb_J w1 b fl s m (fun j => j == 9 || f j) e' w' → K (a.put lb_o9.dst v) w')) :
    if Region.wanted lb_o9 (yielded lb_O a.tmps) = true then Oper.wp Tryd.prog lb_o9 a w K Q else K (a.put lb_o9.dst undef) w := by
  unfold lb_o9 at hdep hK ⊢
  obtain ⟨hB, h3, h11⟩ := hJ
  have k8 : f 8 = true := hdep { on := 8, ground := .data } (by simp) rfl
  have v11 : a.tmps.getD 11 undef = bkV fl s := hFr.new 8 11 rfl k8
  replace hB := hid hB
  replace h3 := hid h3
  replace h11 := hid h11
  clear hdep hFr hb
  go_simp
  go_at_call 182
  refine (hF _).mono ?_
  rintro r w' ⟨rfl, hb'⟩
  replace hb' := hid hb'
  go_simp
  exact hK.out _ e _ rfl (fun _ _ => rfl) ⟨new_trans hB.out hb'.out, fun h => (h3.out h).below hb'.out (h3.out h).lt, fun h => (h11.out h).below hb'.out (h11.out h).lt⟩
set_option maxRecDepth 100000 in
set_option maxHeartbeats 2000000 in
theorem lb_s10 (A : Act) (w1 : World) (Q : Exit → Act → World → Prop) (b : Nat) (fl : Int) (s : ByteArray) (m : Int) 
    (hb : A.tmps.getD 1 undef = .pointer (some ⟨b, 0, none⟩)) (qb : Blk w1 b (bkA fl s)) (hf : 0 ≤ fl ∧ fl ≤ 255) (hm : 0 ≤ m ∧ m ≤ 255) (hs : s.size ≤ 40) (hF : ∀ W, Calls Tryd.prog 182 #[bkV fl s] W fun r w' => r = .returned (.int .i64 m) ∧ Below W.heap.size W w')
    (f : Nat → Bool) (e : Nat × Nat) (a : Act) (w : World) (hun : f 10 = false) (hdep : ∀ d ∈ lb_o10.after, Region.binds .any d = true → f d.on = true) (hJ : lb_J w1 b fl s m f e w) (hFr : Fr lb_O A f (fun j => lb_V b fl s m j e) a)
    (K : Act → World → Prop) (hK : Hid (∀ v e' w', v = lb_V b fl s m 10 e' → (∀ j, f j = true → lb_V b fl s m j e' = lb_V b fl s m j e) → lb_J w1 b fl s m (fun j => j == 10 || f j) e' w' → K (a.put lb_o10.dst v) w')) :
    if Region.wanted lb_o10 (yielded lb_O a.tmps) = true then Oper.wp Tryd.prog lb_o10 a w K Q else K (a.put lb_o10.dst undef) w := by
  unfold lb_o10 at hdep hK ⊢
  obtain ⟨hB, h3, h11⟩ := hJ
  have k9 : f 9 = true := hdep { on := 9, ground := .data } (by simp) rfl
  have v12 : a.tmps.getD 12 undef = .int .i64 m := hFr.new 9 12 rfl k9
  have hw : IntKind.u8.wrap m = m := by simp [IntKind.wrap, IntKind.signed, IntKind.bits]; omega
  have hw2 : m % 256 = m := by omega
  replace hB := hid hB
  replace h3 := hid h3
  replace h11 := hid h11
  clear hdep hFr hb
  go_simp
  exact hK.out _ e _ rfl (fun _ _ => rfl) ⟨hB.out, h3.out, h11.out⟩
set_option maxRecDepth 100000 in
set_option maxHeartbeats 2000000 in
theorem lb_s11 (A : Act) (w1 : World) (Q : Exit → Act → World → Prop) (b : Nat) (fl : Int) (s : ByteArray) (m : Int) 
    (hb : A.tmps.getD 1 undef = .pointer (some ⟨b, 0, none⟩)) (qb : Blk w1 b (bkA fl s)) (hf : 0 ≤ fl ∧ fl ≤ 255) (hm : 0 ≤ m ∧ m ≤ 255) (hs : s.size ≤ 40) (hF : ∀ W, Calls Tryd.prog 182 #[bkV fl s] W fun r w' => r = .returned (.int .i64 m) ∧ Below W.heap.size W w')
    (f : Nat → Bool) (e : Nat × Nat) (a : Act) (w : World) (hun : f 11 = false) (hdep : ∀ d ∈ lb_o11.after, Region.binds .any d = true → f d.on = true) (hJ : lb_J w1 b fl s m f e w) (hFr : Fr lb_O A f (fun j => lb_V b fl s m j e) a)
    (K : Act → World → Prop) (hK : Hid (∀ v e' w', v = lb_V b fl s m 11 e' → (∀ j, f j = true → lb_V b fl s m j e' = lb_V b fl s m j e) → lb_J w1 b fl s m (fun j => j == 11 || f j) e' w' → K (a.put lb_o11.dst v) w')) :
    if Region.wanted lb_o11 (yielded lb_O a.tmps) = true then Oper.wp Tryd.prog lb_o11 a w K Q else K (a.put lb_o11.dst undef) w := by
  unfold lb_o11 at hdep hK ⊢
  obtain ⟨hB, h3, h11⟩ := hJ
  have k10 : f 10 = true := hdep { on := 10, ground := .data } (by simp) rfl
  have v13 : a.tmps.getD 13 undef = .int .u8 m := hFr.new 10 13 rfl k10
  have v13b : a.tmps[13]?.getD undef = .int .u8 m := by simpa using v13
  have hal := hid ((Below.refl w.heap.size w).alloc (Nat.le_refl _) (.cells #[.int .u8 m] 5))
  have hn := hid (Blk.new w #[.int .u8 m] 5)
  replace hB := hid hB
  replace h3 := hid h3
  replace h11 := hid h11
  clear hdep hFr hb
  go_simp
  exact hK.out _ ⟨e.1, w.heap.size⟩ _ rfl (lb_k2 b fl s m e ⟨e.1, w.heap.size⟩ rfl hun) ⟨new_trans hB.out hal.out, fun h => (h3.out h).below hal.out (h3.out h).lt, fun _ => hn.out⟩
set_option maxRecDepth 100000 in
set_option maxHeartbeats 2000000 in
theorem lb_s12 (A : Act) (w1 : World) (Q : Exit → Act → World → Prop) (b : Nat) (fl : Int) (s : ByteArray) (m : Int) 
    (hb : A.tmps.getD 1 undef = .pointer (some ⟨b, 0, none⟩)) (qb : Blk w1 b (bkA fl s)) (hf : 0 ≤ fl ∧ fl ≤ 255) (hm : 0 ≤ m ∧ m ≤ 255) (hs : s.size ≤ 40) (hF : ∀ W, Calls Tryd.prog 182 #[bkV fl s] W fun r w' => r = .returned (.int .i64 m) ∧ Below W.heap.size W w')
    (f : Nat → Bool) (e : Nat × Nat) (a : Act) (w : World) (hun : f 12 = false) (hdep : ∀ d ∈ lb_o12.after, Region.binds .any d = true → f d.on = true) (hJ : lb_J w1 b fl s m f e w) (hFr : Fr lb_O A f (fun j => lb_V b fl s m j e) a)
    (K : Act → World → Prop) (hK : Hid (∀ v e' w', v = lb_V b fl s m 12 e' → (∀ j, f j = true → lb_V b fl s m j e' = lb_V b fl s m j e) → lb_J w1 b fl s m (fun j => j == 12 || f j) e' w' → K (a.put lb_o12.dst v) w')) :
    if Region.wanted lb_o12 (yielded lb_O a.tmps) = true then Oper.wp Tryd.prog lb_o12 a w K Q else K (a.put lb_o12.dst undef) w := by
  unfold lb_o12 at hdep hK ⊢
  obtain ⟨hB, h3, h11⟩ := hJ
  have k11 : f 11 = true := hdep { on := 11, ground := .data } (by simp) rfl
  have v14 : a.tmps.getD 14 undef = .slice (some ⟨e.2, 0, none⟩) 1 1 := hFr.new 11 14 rfl k11
  have y := conv1 (h11 k11)
  replace hB := hid hB
  replace h3 := hid h3
  replace h11 := hid h11
  clear hdep hFr hb
  go_simp
  exact hK.out _ e _ rfl (fun _ _ => rfl) ⟨hB.out, h3.out, h11.out⟩
set_option maxRecDepth 100000 in
set_option maxHeartbeats 2000000 in
theorem lb_s13 (A : Act) (w1 : World) (Q : Exit → Act → World → Prop) (b : Nat) (fl : Int) (s : ByteArray) (m : Int) 
    (hb : A.tmps.getD 1 undef = .pointer (some ⟨b, 0, none⟩)) (qb : Blk w1 b (bkA fl s)) (hf : 0 ≤ fl ∧ fl ≤ 255) (hm : 0 ≤ m ∧ m ≤ 255) (hs : s.size ≤ 40) (hF : ∀ W, Calls Tryd.prog 182 #[bkV fl s] W fun r w' => r = .returned (.int .i64 m) ∧ Below W.heap.size W w')
    (f : Nat → Bool) (e : Nat × Nat) (a : Act) (w : World) (hun : f 13 = false) (hdep : ∀ d ∈ lb_o13.after, Region.binds .any d = true → f d.on = true) (hJ : lb_J w1 b fl s m f e w) (hFr : Fr lb_O A f (fun j => lb_V b fl s m j e) a)
    (K : Act → World → Prop) (hK : Hid (∀ v e' w', v = lb_V b fl s m 13 e' → (∀ j, f j = true → lb_V b fl s m j e' = lb_V b fl s m j e) → lb_J w1 b fl s m (fun j => j == 13 || f j) e' w' → K (a.put lb_o13.dst v) w')) :
    if Region.wanted lb_o13 (yielded lb_O a.tmps) = true then Oper.wp Tryd.prog lb_o13 a w K Q else K (a.put lb_o13.dst undef) w := by
  unfold lb_o13 at hdep hK ⊢
  obtain ⟨hB, h3, h11⟩ := hJ
  have k7 : f 7 = true := hdep { on := 7, ground := .data } (by simp) rfl
  have v10 : a.tmps.getD 10 undef = .string (strOfNums [fl] ++ s) := hFr.new 7 10 rfl k7
  have k12 : f 12 = true := hdep { on := 12, ground := .data } (by simp) rfl
  have v15 : a.tmps.getD 15 undef = .string (strOfNums [m]) := hFr.new 12 15 rfl k12
  have z1 : (strOfNums [fl]).size = 1 := strOfNums_size _
  have z2 : (strOfNums [m]).size = 1 := strOfNums_size _
  have z3 : (strOfNums [fl] ++ s).size = 1 + s.size := by rw [ByteArray.size_append, z1]
  have z4 : ¬ 9223372036854775807 < 1 + s.size := by omega
  have z5 : ¬ 9223372036854775807 < 1 + s.size + 1 := by omega
  replace hB := hid hB
  replace h3 := hid h3
  replace h11 := hid h11
  clear hdep hFr hb
  go_simp
  exact hK.out _ e _ rfl (fun _ _ => rfl) ⟨hB.out, h3.out, h11.out⟩
set_option maxRecDepth 100000 in
set_option maxHeartbeats 2000000 in
theorem lb_s14 (A : Act) (w1 : World) (Q : Exit → Act → World → Prop) (b : Nat) (fl : Int) (s : ByteArray) (m : Int) 
    (hb : A.tmps.getD 1 undef = .pointer (some ⟨b, 0, none⟩)) (qb : Blk w1 b (bkA fl s)) (hf : 0 ≤ fl ∧ fl ≤ 255) (hm : 0 ≤ m ∧ m ≤ 255) (hs : s.size ≤ 40) (hF : ∀ W, Calls Tryd.prog 182 #[bkV fl s] W fun r w' => r = .returned (.int .i64 m) ∧ Below W.heap.size W w')
    (f : Nat → Bool) (e : Nat × Nat) (a : Act) (w : World) (hun : f 14 = false) (hdep : ∀ d ∈ lb_o14.after, Region.binds .any d = true → f d.on = true) (hJ : lb_J w1 b fl s m f e w) (hFr : Fr lb_O A f (fun j => lb_V b fl s m j e) a)
    (K : Act → World → Prop) (hK : Hid (∀ v e' w', v = lb_V b fl s m 14 e' → (∀ j, f j = true → lb_V b fl s m j e' = lb_V b fl s m j e) → lb_J w1 b fl s m (fun j => j == 14 || f j) e' w' → K (a.put lb_o14.dst v) w')) :
    if Region.wanted lb_o14 (yielded lb_O a.tmps) = true then Oper.wp Tryd.prog lb_o14 a w K Q else K (a.put lb_o14.dst undef) w := by
  unfold lb_o14 at hdep hK ⊢
  obtain ⟨hB, h3, h11⟩ := hJ
  have k13 : f 13 = true := hdep { on := 13, ground := .data } (by simp) rfl
  have v16 : a.tmps.getD 16 undef = .string (strOfNums [fl] ++ s ++ strOfNums [m]) := hFr.new 13 16 rfl k13
  replace hB := hid hB
  replace h3 := hid h3
  replace h11 := hid h11
  clear hdep hFr hb
  go_simp
  exact hK.out _ e _ rfl (fun _ _ => rfl) ⟨hB.out, h3.out, h11.out⟩
set_option maxRecDepth 100000 in
set_option maxHeartbeats 4000000 in
theorem lb_reg (A : Act) (w1 : World) (Q : Exit → Act → World → Prop) (b : Nat) (fl : Int) (s : ByteArray) (m : Int) 
    (hb : A.tmps.getD 1 undef = .pointer (some ⟨b, 0, none⟩)) (qb : Blk w1 b (bkA fl s)) (hf : 0 ≤ fl ∧ fl ≤ 255) (hm : 0 ≤ m ∧ m ≤ 255) (hs : s.size ≤ 40) (hF : ∀ W, Calls Tryd.prog 182 #[bkV fl s] W fun r w' => r = .returned (.int .i64 m) ∧ Below W.heap.size W w') (hN : 17 ≤ A.tmps.size)
    (h : ∀ (w : World) (e : Nat × Nat), Below w1.heap.size w1 w → Q .normal (putsA A [(3, .pointer (some ⟨b, 0, none⟩)), (4, .int .i64 fl), (5, .int .u8 fl), (6, .slice (some ⟨e.1, 0, none⟩) 1 1), (7, .string (strOfNums [fl])), (8, .pointer (some ⟨b, 1, none⟩)), (9, .string s), (10, .string (strOfNums [fl] ++ s)), (11, bkV fl s), (12, .int .i64 m), (13, .int .u8 m), (14, .slice (some ⟨e.2, 0, none⟩) 1 1), (15, .string (strOfNums [m])), (16, .string (strOfNums [fl] ++ s ++ strOfNums [m])), (2, .string (strOfNums [fl] ++ s ++ strOfNums [m]))]) w) :
    (Code.region 1 #[({ dst := some 3, op := Op.fieldAddr 75 (Operand.tmp 1) 0, type := 0, pos := "l09_tap.go:21", after := #[], guard := none } : Oper), ({ dst := some 4, op := Op.load 3 (Operand.tmp 3), type := 3, pos := "l09_tap.go:21", after := #[{ on := 0, ground := Ground.data }], guard := none } : Oper), ({ dst := some 5, op := Op.convert 3 5 (Operand.tmp 4), type := 5, pos := "l09_tap.go:21", after := #[{ on := 1, ground := Ground.data }], guard := none } : Oper), ({ dst := some 6, op := Op.buildSlice 119 1 #[(0, Operand.tmp 5)], type := 119, pos := "l09_tap.go:21", after := #[{ on := 2, ground := Ground.data }], guard := none } : Oper), ({ dst := some 7, op := Op.convert 119 9 (Operand.tmp 6), type := 9, pos := "l09_tap.go:21", after := #[{ on := 3, ground := Ground.data }], guard := none } : Oper), ({ dst := some 8, op := Op.fieldAddr 75 (Operand.tmp 1) 1, type := 0, pos := "l09_tap.go:21", after := #[], guard := none } : Oper), ({ dst := some 9, op := Op.load 9 (Operand.tmp 8), type := 9, pos := "l09_tap.go:21", after := #[{ on := 5, ground := Ground.data }], guard := none } : Oper), ({ dst := some 10, op := Op.binOp BinOp.add 9 (Operand.tmp 7) (Operand.tmp 9) 9, type := 9, pos := "l09_tap.go:21", after := #[{ on := 4, ground := Ground.data }, { on := 6, ground := Ground.data }], guard := none } : Oper), ({ dst := some 11, op := Op.load 75 (Operand.tmp 1), type := 75, pos := "l09_tap.go:21", after := #[], guard := none } : Oper), ({ dst := some 12, op := Op.call { callee := Callee.value (Operand.func 182), args := #[Operand.tmp 11], argTypes := #[75] }, type := 3, pos := "l09_tap.go:21", after := #[{ on := 8, ground := Ground.data }], guard := none } : Oper), ({ dst := some 13, op := Op.convert 3 5 (Operand.tmp 12), type := 5, pos := "l09_tap.go:21", after := #[{ on := 9, ground := Ground.data }], guard := none } : Oper), ({ dst := some 14, op := Op.buildSlice 119 1 #[(0, Operand.tmp 13)], type := 119, pos := "l09_tap.go:21", after := #[{ on := 10, ground := Ground.data }], guard := none } : Oper), ({ dst := some 15, op := Op.convert 119 9 (Operand.tmp 14), type := 9, pos := "l09_tap.go:21", after := #[{ on := 11, ground := Ground.data }], guard := none } : Oper), ({ dst := some 16, op := Op.binOp BinOp.add 9 (Operand.tmp 10) (Operand.tmp 15) 9, type := 9, pos := "l09_tap.go:21", after := #[{ on := 7, ground := Ground.data }, { on := 12, ground := Ground.data }], guard := none } : Oper), ({ dst := some 2, op := Op.assign (Operand.tmp 16), type := 9, pos := "l09_tap.go:21", after := #[{ on := 13, ground := Ground.data }, { on := 9, ground := Ground.chain }, { on := 0, ground := Ground.phase }, { on := 1, ground := Ground.phase }, { on := 2, ground := Ground.phase }, { on := 3, ground := Ground.phase }, { on := 4, ground := Ground.phase }, { on := 5, ground := Ground.phase }, { on := 6, ground := Ground.phase }, { on := 7, ground := Ground.phase }, { on := 8, ground := Ground.phase }, { on := 9, ground := Ground.phase }, { on := 10, ground := Ground.phase }, { on := 11, ground := Ground.phase }, { on := 12, ground := Ground.phase }, { on := 13, ground := Ground.phase }], guard := none } : Oper)] true).wp Tryd.prog Q A w1 := by
  show (Code.region 1 lb_O true).wp Tryd.prog Q A w1
  refine wp_region_slots (E := Nat × Nat) (lb_V b fl s m) (lb_J w1 b fl s m) (by kernel_rfl) (by kernel_rfl) (by kernel_rfl) (fun i s hi => ?_) ?_ (0, 0) ⟨(Below.refl _ _).drew, fun h => (by cases h), fun h => (by cases h)⟩ ?_
  · cases hc : ([3, 4, 5, 6, 7, 8, 9, 10, 11, 12, 13, 14, 15, 16, 2] : List Nat).contains s
    · exact absurd hi (lb_no hc i)
    · have : s ∈ ([3, 4, 5, 6, 7, 8, 9, 10, 11, 12, 13, 14, 15, 16, 2] : List Nat) := by simpa using hc
      simp only [List.mem_cons, List.not_mem_nil, or_false] at this
      omega
  · intro f e a w i o hi ho hun hdep hJ hFr K hK
    have hi8 : i < 15 := hi
    rcases (by omega : i = 0 ∨ i = 1 ∨ i = 2 ∨ i = 3 ∨ i = 4 ∨ i = 5 ∨ i = 6 ∨ i = 7 ∨ i = 8 ∨ i = 9 ∨ i = 10 ∨ i = 11 ∨ i = 12 ∨ i = 13 ∨ i = 14) with rfl | rfl | rfl | rfl | rfl | rfl | rfl | rfl | rfl | rfl | rfl | rfl | rfl | rfl | rfl
    · obtain rfl := Option.some.inj ho
      exact lb_s0 A w1 Q b fl s m hb qb hf hm hs hF f e a w hun hdep hJ hFr K hK
    · obtain rfl := Option.some.inj ho
      exact lb_s1 A w1 Q b fl s m hb qb hf hm hs hF f e a w hun hdep hJ hFr K hK
    · obtain rfl := Option.some.inj ho
      exact lb_s2 A w1 Q b fl s m hb qb hf hm hs hF f e a w hun hdep hJ hFr K hK
    · obtain rfl := Option.some.inj ho
      exact lb_s3 A w1 Q b fl s m hb qb hf hm hs hF f e a w hun hdep hJ hFr K hK
    · obtain rfl := Option.some.inj ho
      exact lb_s4 A w1 Q b fl s m hb qb hf hm hs hF f e a w hun hdep hJ hFr K hK
    · obtain rfl := Option.some.inj ho
      exact lb_s5 A w1 Q b fl s m hb qb hf hm hs hF f e a w hun hdep hJ hFr K hK
    · obtain rfl := Option.some.inj ho
      exact lb_s6 A w1 Q b fl s m hb qb hf hm hs hF f e a w hun hdep hJ hFr K hK
    · obtain rfl := Option.some.inj ho
      exact lb_s7 A w1 Q b fl s m hb qb hf hm hs hF f e a w hun hdep hJ hFr K hK
    · obtain rfl := Option.some.inj ho
      exact lb_s8 A w1 Q b fl s m hb qb hf hm hs hF f e a w hun hdep hJ hFr K hK
    · obtain rfl := Option.some.inj ho
      exact lb_s9 A w1 Q b fl s m hb qb hf hm hs hF f e a w hun hdep hJ hFr K hK
    · obtain rfl := Option.some.inj ho
      exact lb_s10 A w1 Q b fl s m hb qb hf hm hs hF f e a w hun hdep hJ hFr K hK
    · obtain rfl := Option.some.inj ho
      exact lb_s11 A w1 Q b fl s m hb qb hf hm hs hF f e a w hun hdep hJ hFr K hK
    · obtain rfl := Option.some.inj ho
      exact lb_s12 A w1 Q b fl s m hb qb hf hm hs hF f e a w hun hdep hJ hFr K hK
    · obtain rfl := Option.some.inj ho
      exact lb_s13 A w1 Q b fl s m hb qb hf hm hs hF f e a w hun hdep hJ hFr K hK
    · obtain rfl := Option.some.inj ho
      exact lb_s14 A w1 Q b fl s m hb qb hf hm hs hF f e a w hun hdep hJ hFr K hK
  · intro f e a w hall hJ hFr
    have := h w e hJ.1
    rw [hFr.eq [(3, .pointer (some ⟨b, 0, none⟩)), (4, .int .i64 fl), (5, .int .u8 fl), (6, .slice (some ⟨e.1, 0, none⟩) 1 1), (7, .string (strOfNums [fl])), (8, .pointer (some ⟨b, 1, none⟩)), (9, .string s), (10, .string (strOfNums [fl] ++ s)), (11, bkV fl s), (12, .int .i64 m), (13, .int .u8 m), (14, .slice (some ⟨e.2, 0, none⟩) 1 1), (15, .string (strOfNums [m])), (16, .string (strOfNums [fl] ++ s ++ strOfNums [m])), (2, .string (strOfNums [fl] ++ s ++ strOfNums [m]))] (fun s hs => ?_) (fun i s hi => ?_)]
    · exact this
    · have hne : ∀ k ∈ ([3, 4, 5, 6, 7, 8, 9, 10, 11, 12, 13, 14, 15, 16, 2] : List Nat), k ≠ s := by
        intro k hk e2
        subst e2
        simp only [List.mem_cons, List.not_mem_nil, or_false] at hk
        rcases hk with rfl | rfl | rfl | rfl | rfl | rfl | rfl | rfl | rfl | rfl | rfl | rfl | rfl | rfl | rfl
        · exact hs 0 rfl
        · exact hs 1 rfl
        · exact hs 2 rfl
        · exact hs 3 rfl
        · exact hs 4 rfl
        · exact hs 5 rfl
        · exact hs 6 rfl
        · exact hs 7 rfl
        · exact hs 8 rfl
        · exact hs 9 rfl
        · exact hs 10 rfl
        · exact hs 11 rfl
        · exact hs 12 rfl
        · exact hs 13 rfl
        · exact hs 14 rfl
      simp only [lookA]
      simp [hne]
    · have hl : i < 15 := by
        rcases Nat.lt_or_ge i 15 with h1 | h1
        · exact h1
        · unfold dstAt at hi
          rw [Array.getElem?_eq_none (by exact h1)] at hi
          cases hi
      refine ⟨hall i hl, ?_⟩
      rcases (by omega : i = 0 ∨ i = 1 ∨ i = 2 ∨ i = 3 ∨ i = 4 ∨ i = 5 ∨ i = 6 ∨ i = 7 ∨ i = 8 ∨ i = 9 ∨ i = 10 ∨ i = 11 ∨ i = 12 ∨ i = 13 ∨ i = 14) with rfl | rfl | rfl | rfl | rfl | rfl | rfl | rfl | rfl | rfl | rfl | rfl | rfl | rfl | rfl
      all_goals first
        | (cases hi; rfl)
        | cases hi
set_option maxRecDepth 100000 in
theorem bkbytes_spec (f : Int) (s : ByteArray) (w : World) (hok : okB f s = true) : Calls Tryd.prog 180 #[bkV f s] w fun e w' => e = .returned (.string (bytB f s)) ∧ Below w.heap.size w w' := by
  obtain ⟨hf, hs⟩ := (okB_iff f s).1 hok
  have hm : 0 ≤ sumB f s ∧ sumB f s ≤ 255 := by
    obtain ⟨n, rfl⟩ : ∃ n : Nat, f = n := ⟨f.toNat, by omega⟩
    obtain ⟨x, hx, hl⟩ := sumB_nat n s (by omega)
    rw [hx]
    omega
  have hF := hid (fun W => bksum_spec f s W (by unfold maxLen; omega))
  have hB := hid ((Below.refl w.heap.size w).alloc (Nat.le_refl _) (.cells (bkA f s) 75))
  have q := hid (Blk.new w (bkA f s) 75)
  have e : bytB f s = strOfNums [f] ++ s ++ strOfNums [sumB f s] := rfl
  rw [e]
  clear e
  generalize sumB f s = m at *
  go_enter Tryd.func180, Tryd.ntmps180
  go_upto_region 1 with fail
  obtain ⟨V, hV⟩ : ∃ V, w.alloc (.cells (bkA f s) 75) = V := ⟨_, rfl⟩
  rw [hV] at hB q ⊢
  clear hV
  refine lb_reg _ V _ w.heap.size f s m rfl q.out hf hm hs hF.out (Nat.le_of_ble_eq_true rfl) ?_
  intro W2 e hb
  simp only [putsA, Act.put, List.setIfInBounds_toArray, List.set_cons_zero, List.set_cons_succ]
  have hB2 := hid (new_trans hB.out hb)
  clear hb hB q hF
  go_wp2_with fail
  go_ret
  exact ⟨rfl, hB2.out⟩
def txtB2 (f : Int) (s : ByteArray) : ByteArray × Int := if okB f s = true then (txtB f s, 0) else (ByteArray.empty, 1)
end Go.Proofs.YtifcdojaocndhaaDoor
