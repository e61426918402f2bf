/- The runs of a text, one by one to whoever asks for them: a run is found. -/
import Derived.Test.YtghcagibdcblnaaGreatDoorF22
import Derived.Test.YtghcagibdcblnaaGreatDoorF26
import Derived.Test.YtghcagibdcblnaaGreatDoorF07
namespace Go.Proofs.YtghcagibdcblnaaGreatDoor
open Go.ChangeShapes Go.WideShapes Go.ChangeAt Go.RowKit
set_option linter.unusedVariables false
set_option linter.unusedSimpArgs false

abbrev rnZ : Array Value := #[.int .u8 0, .int .i64 0]
def lj_V (B o c len mo m : Nat) (b : Int) (n : Nat) : Nat → Nat → Value := fun i e => match i with
  | 0 => .slice (some ⟨B, o, none⟩) len c
  | 1 => .pointer (some ⟨B, o, none⟩)
  | 2 => .int .u8 b
  | 3 => .slice (some ⟨B, o, none⟩) len c
  | 4 => .int .i64 (mo : Int)
  | 5 => .slice (some ⟨B, o, none⟩) len c
  | 6 => .int .i64 (len : Int)
  | 7 => .int .i64 (m : Int)
  | 8 => .slice (some ⟨B, o, none⟩) m c
  | 9 => .int .i64 (n : Int)
  | 10 => rnV b n
  | 11 => .pointer (some ⟨e, 0, none⟩)
  | _ => undef
def lj_J (w1 : World) (B o c len mo m : Nat) (b : Int) (n : Nat) (f : Nat → Bool) (e : Nat) (w : World) : Prop :=
  Below w1.heap.size w1 w ∧ (f 11 = true → w1.heap.size ≤ e ∧ Blk w e (bif f 12 then rnA b n else rnZ)) ∧ (f 11 = false → f 12 = false)
def lj_o0 : Oper := ({ dst := some 11, op := Op.move (Operand.tmp 4), type := 22, pos := "l12_rle.go:67", after := #[], guard := none } : Oper)
def lj_o1 : Oper := ({ dst := some 12, op := Op.indexAddr 22 (Operand.tmp 11) (Operand.const (Value.int IntKind.i64 0)), type := 0, pos := "l12_rle.go:67", after := #[{ on := 0, ground := Ground.data }], guard := none } : Oper)
def lj_o2 : Oper := ({ dst := some 13, op := Op.load 5 (Operand.tmp 12), type := 5, pos := "l12_rle.go:67", after := #[{ on := 1, ground := Ground.data }], guard := none } : Oper)
def lj_o3 : Oper := ({ dst := some 14, op := Op.move (Operand.tmp 4), type := 22, pos := "l12_rle.go:67", after := #[], guard := none } : Oper)
def lj_o4 : Oper := ({ dst := some 15, op := Op.move (Operand.tmp 3), type := 3, pos := "l12_rle.go:67", after := #[], guard := none } : Oper)
def lj_o5 : Oper := ({ dst := some 16, op := Op.move (Operand.tmp 4), type := 22, pos := "l12_rle.go:67", after := #[], guard := none } : Oper)
def lj_o6 : Oper := ({ dst := some 17, op := Op.call { callee := Callee.builtin Builtin.len, args := #[Operand.tmp 16], argTypes := #[22] }, type := 3, pos := "l12_rle.go:67", after := #[{ on := 5, ground := Ground.data }], guard := none } : Oper)
def lj_o7 : Oper := ({ dst := some 18, op := Op.call { callee := Callee.builtin Builtin.min, args := #[Operand.tmp 15, Operand.tmp 17], argTypes := #[3, 3] }, type := 3, pos := "l12_rle.go:67", after := #[{ on := 4, ground := Ground.data }, { on := 6, ground := Ground.data }], guard := none } : Oper)
def lj_o8 : Oper := ({ dst := some 19, op := Op.slice 22 (Operand.tmp 14) none (some (Operand.tmp 18)) none, type := 22, pos := "l12_rle.go:67", after := #[{ on := 3, ground := Ground.data }, { on := 7, ground := Ground.data }], guard := none } : Oper)
def lj_o9 : Oper := ({ dst := some 20, op := Op.call { callee := Callee.value (Operand.func 95), args := #[Operand.tmp 19], argTypes := #[22] }, type := 3, pos := "l12_rle.go:67", after := #[{ on := 8, ground := Ground.data }], guard := none } : Oper)
def lj_o10 : Oper := ({ dst := some 21, op := Op.build 126 #[(0, Operand.tmp 13), (1, Operand.tmp 20)], type := 126, pos := "l12_rle.go:67", after := #[{ on := 2, ground := Ground.data }, { on := 9, ground := Ground.data }], guard := none } : Oper)
def lj_o11 : Oper := ({ dst := some 5, op := Op.alloc 126, type := 0, pos := "l12_rle.go:67", after := #[], guard := none } : Oper)
def lj_o12 : Oper := ({ dst := none, op := Op.store 126 (Operand.tmp 5) (Operand.tmp 21), type := 0, pos := "l12_rle.go:67", after := #[{ on := 11, ground := Ground.data }, { on := 10, ground := Ground.data }, { on := 9, ground := Ground.chain }, { on := 0, ground := Ground.phase }, { on := 1, ground := Ground.phase }, { on := 2, ground := Ground.phase }, { on := 3, ground := Ground.phase }, { on := 4, ground := Ground.phase }, { on := 5, ground := Ground.phase }, { on := 6, ground := Ground.phase }, { on := 7, ground := Ground.phase }, { on := 8, ground := Ground.phase }, { on := 9, ground := Ground.phase }, { on := 10, ground := Ground.phase }, { on := 11, ground := Ground.phase }], guard := none } : Oper)
def lj_O : Array Oper := #[lj_o0, lj_o1, lj_o2, lj_o3, lj_o4, lj_o5, lj_o6, lj_o7, lj_o8, lj_o9, lj_o10, lj_o11, lj_o12]
theorem lj_no {s : Nat} (h : ([11, 12, 13, 14, 15, 16, 17, 18, 19, 20, 21, 5] : List Nat).contains s = false) : ∀ i, dstAt lj_O i ≠ some s := by
  intro i hi
  have hl : i < 13 := by
    rcases Nat.lt_or_ge i 13 with h1 | h1
    · exact h1
    · unfold dstAt at hi
      rw [Array.getElem?_eq_none (by exact h1)] at hi
      cases hi
  rcases (by omega : i = 0 ∨ i = 1 ∨ i = 2 ∨ i = 3 ∨ i = 4 ∨ i = 5 ∨ i = 6 ∨ i = 7 ∨ i = 8 ∨ i = 9 ∨ i = 10 ∨ i = 11 ∨ i = 12) with rfl | rfl | rfl | rfl | rfl | rfl | rfl | rfl | rfl | rfl | rfl | rfl | rfl
  all_goals first
    | (cases hi; simp at h)
    | cases hi
theorem lj_keep (B o c len mo m : Nat) (b : Int) (n : Nat) {f : Nat → Bool} (e e' : Nat) (hn : f 11 = false) : ∀ j, f j = true → lj_V B o c len mo m b n j e' = lj_V B o c len mo m b n j e := by
  intro j hj
  unfold lj_V
  split
  · rfl
  · rfl
  · rfl
  · rfl
  · rfl
  · rfl
  · rfl
  · rfl
  · rfl
  · rfl
  · rfl
  · rw [hn] at hj; cases hj
  · rfl
set_option maxRecDepth 100000 in
set_option maxHeartbeats 2000000 in
theorem lj_s0 (A : Act) (w1 : World) (Q : Exit → Act → World → Prop) (B o c len mo m : Nat) (b : Int) (n : Nat) 
    (h3 : A.tmps.getD 3 undef = .int .i64 (mo : Int)) (h4 : A.tmps.getD 4 undef = .slice (some ⟨B, o, none⟩) len c) (hx : ∀ W, Below w1.heap.size w1 W → W.cell? ⟨B, o, none⟩ = some (.int .u8 b)) (hcl : ∀ W, Below w1.heap.size w1 W → Calls Tryz.prog 95 #[.slice (some ⟨B, o, none⟩) m c] W fun r w' => r = .returned (.int .i64 (n : Int)) ∧ ∃ k, w' = W.drewN k) (hl1 : 1 ≤ len) (hlc : len ≤ c) (hlb : len ≤ 1048576) (hmn : min (mo : Int) (len : Int) = (m : Int)) (hml : m ≤ len)
    (f : Nat → Bool) (e : Nat) (a : Act) (w : World) (hun : f 0 = false) (hdep : ∀ d ∈ lj_o0.after, Region.binds .any d = true → f d.on = true) (hJ : lj_J w1 B o c len mo m b n f e w) (hFr : Fr lj_O A f (fun j => lj_V B o c len mo m b n j e) a)
    (K : Act → World → Prop) (hK : Hid (∀ v e' w', v = lj_V B o c len mo m b n 0 e' → (∀ j, f j = true → lj_V B o c len mo m b n j e' = lj_V B o c len mo m b n j e) → lj_J w1 B o c len mo m b n (fun j => j == 0 || f j) e' w' → K (a.put lj_o0.dst v) w')) :
    if Region.wanted lj_o0 (yielded lj_O a.tmps) = true then Oper.wp Tryz.prog lj_o0 a w K Q else K (a.put lj_o0.dst undef) w := by
  unfold lj_o0 at hdep hK ⊢
  have hK9 := hK
  obtain ⟨hB, j1, jd⟩ := hJ
  have v4 := (hFr.old 4 (lj_no (by decide))).trans h4
  replace hB := hid hB
  replace j1 := hid j1
  replace jd := hid jd
  replace hx := hid hx
  replace hcl := hid hcl
  clear hdep hFr h3 h4
  go_simp
  exact hK9.out _ e _ rfl (fun _ _ => rfl) ⟨hB.out, j1.out, jd.out⟩
set_option maxRecDepth 100000 in
set_option maxHeartbeats 2000000 in
theorem lj_s1 (A : Act) (w1 : World) (Q : Exit → Act → World → Prop) (B o c len mo m : Nat) (b : Int) (n : Nat) 
    (h3 : A.tmps.getD 3 undef = .int .i64 (mo : Int)) (h4 : A.tmps.getD 4 undef = .slice (some ⟨B, o, none⟩) len c) (hx : ∀ W, Below w1.heap.size w1 W → W.cell? ⟨B, o, none⟩ = some (.int .u8 b)) (hcl : ∀ W, Below w1.heap.size w1 W → Calls Tryz.prog 95 #[.slice (some ⟨B, o, none⟩) m c] W fun r w' => r = .returned (.int .i64 (n : Int)) ∧ ∃ k, w' = W.drewN k) (hl1 : 1 ≤ len) (hlc : len ≤ c) (hlb : len ≤ 1048576) (hmn : min (mo : Int) (len : Int) = (m : Int)) (hml : m ≤ len)
    (f : Nat → Bool) (e : Nat) (a : Act) (w : World) (hun : f 1 = false) (hdep : ∀ d ∈ lj_o1.after, Region.binds .any d = true → f d.on = true) (hJ : lj_J w1 B o c len mo m b n f e w) (hFr : Fr lj_O A f (fun j => lj_V B o c len mo m b n j e) a)
    (K : Act → World → Prop) (hK : Hid (∀ v e' w', v = lj_V B o c len mo m b n 1 e' → (∀ j, f j = true → lj_V B o c len mo m b n j e' = lj_V B o c len mo m b n j e) → lj_J w1 B o c len mo m b n (fun j => j == 1 || f j) e' w' → K (a.put lj_o1.dst v) w')) :
    if Region.wanted lj_o1 (yielded lj_O a.tmps) = true then Oper.wp Tryz.prog lj_o1 a w K Q else K (a.put lj_o1.dst undef) w := by
  unfold lj_o1 at hdep hK ⊢
  have hK9 := hK
  obtain ⟨hB, j1, jd⟩ := hJ
  have k0 : f 0 = true := hdep { on := 0, ground := .data } (by simp) rfl
  have v11 : a.tmps.getD 11 undef = .slice (some ⟨B, o, none⟩) len c := hFr.new 0 11 rfl k0
  have c1 : 0 < len := by omega
  replace hB := hid hB
  replace j1 := hid j1
  replace jd := hid jd
  replace hx := hid hx
  replace hcl := hid hcl
  clear hdep hFr h3 h4
  go_simp
  exact hK9.out _ e _ rfl (fun _ _ => rfl) ⟨hB.out, j1.out, jd.out⟩
set_option maxRecDepth 100000 in
set_option maxHeartbeats 2000000 in
theorem lj_s2 (A : Act) (w1 : World) (Q : Exit → Act → World → Prop) (B o c len mo m : Nat) (b : Int) (n : Nat) 
    (h3 : A.tmps.getD 3 undef = .int .i64 (mo : Int)) (h4 : A.tmps.getD 4 undef = .slice (some ⟨B, o, none⟩) len c) (hx : ∀ W, Below w1.heap.size w1 W → W.cell? ⟨B, o, none⟩ = some (.int .u8 b)) (hcl : ∀ W, Below w1.heap.size w1 W → Calls Tryz.prog 95 #[.slice (some ⟨B, o, none⟩) m c] W fun r w' => r = .returned (.int .i64 (n : Int)) ∧ ∃ k, w' = W.drewN k) (hl1 : 1 ≤ len) (hlc : len ≤ c) (hlb : len ≤ 1048576) (hmn : min (mo : Int) (len : Int) = (m : Int)) (hml : m ≤ len)
    (f : Nat → Bool) (e : Nat) (a : Act) (w : World) (hun : f 2 = false) (hdep : ∀ d ∈ lj_o2.after, Region.binds .any d = true → f d.on = true) (hJ : lj_J w1 B o c len mo m b n f e w) (hFr : Fr lj_O A f (fun j => lj_V B o c len mo m b n j e) a)
    (K : Act → World → Prop) (hK : Hid (∀ v e' w', v = lj_V B o c len mo m b n 2 e' → (∀ j, f j = true → lj_V B o c len mo m b n j e' = lj_V B o c len mo m b n j e) → lj_J w1 B o c len mo m b n (fun j => j == 2 || f j) e' w' → K (a.put lj_o2.dst v) w')) :
    if Region.wanted lj_o2 (yielded lj_O a.tmps) = true then Oper.wp Tryz.prog lj_o2 a w K Q else K (a.put lj_o2.dst undef) w := by
  unfold lj_o2 at hdep hK ⊢
  have hK9 := hK
  obtain ⟨hB, j1, jd⟩ := hJ
  have k1 : f 1 = true := hdep { on := 1, ground := .data } (by simp) rfl
  have v12 : a.tmps.getD 12 undef = .pointer (some ⟨B, o, none⟩) := hFr.new 1 12 rfl k1
  have x2 := hx w hB
  replace hB := hid hB
  replace j1 := hid j1
  replace jd := hid jd
  replace hx := hid hx
  replace hcl := hid hcl
  clear hdep hFr h3 h4
  go_simp
  exact hK9.out _ e _ rfl (fun _ _ => rfl) ⟨hB.out, j1.out, jd.out⟩
set_option maxRecDepth 100000 in
set_option maxHeartbeats 2000000 in
theorem lj_s3 (A : Act) (w1 : World) (Q : Exit → Act → World → Prop) (B o c len mo m : Nat) (b : Int) (n : Nat) 
    (h3 : A.tmps.getD 3 undef = .int .i64 (mo : Int)) (h4 : A.tmps.getD 4 undef = .slice (some ⟨B, o, none⟩) len c) (hx : ∀ W, Below w1.heap.size w1 W → W.cell? ⟨B, o, none⟩ = some (.int .u8 b)) (hcl : ∀ W, Below w1.heap.size w1 W → Calls Tryz.prog 95 #[.slice (some ⟨B, o, none⟩) m c] W fun r w' => r = .returned (.int .i64 (n : Int)) ∧ ∃ k, w' = W.drewN k) (hl1 : 1 ≤ len) (hlc : len ≤ c) (hlb : len ≤ 1048576) (hmn : min (mo : Int) (len : Int) = (m : Int)) (hml : m ≤ len)
    (f : Nat → Bool) (e : Nat) (a : Act) (w : World) (hun : f 3 = false) (hdep : ∀ d ∈ lj_o3.after, Region.binds .any d = true → f d.on = true) (hJ : lj_J w1 B o c len mo m b n f e w) (hFr : Fr lj_O A f (fun j => lj_V B o c len mo m b n j e) a)
    (K : Act → World → Prop) (hK : Hid (∀ v e' w', v = lj_V B o c len mo m b n 3 e' → (∀ j, f j = true → lj_V B o c len mo m b n j e' = lj_V B o c len mo m b n j e) → lj_J w1 B o c len mo m b n (fun j => j == 3 || f j) e' w' → K (a.put lj_o3.dst v) w')) :
    if Region.wanted lj_o3 (yielded lj_O a.tmps) = true then Oper.wp Tryz.prog lj_o3 a w K Q else K (a.put lj_o3.dst undef) w := by
  unfold lj_o3 at hdep hK ⊢
  have hK9 := hK
  obtain ⟨hB, j1, jd⟩ := hJ
  have v4 := (hFr.old 4 (lj_no (by decide))).trans h4
  replace hB := hid hB
  replace j1 := hid j1
  replace jd := hid jd
  replace hx := hid hx
  replace hcl := hid hcl
  clear hdep hFr h3 h4
  go_simp
  exact hK9.out _ e _ rfl (fun _ _ => rfl) ⟨hB.out, j1.out, jd.out⟩
set_option maxRecDepth 100000 in
set_option maxHeartbeats 2000000 in
theorem lj_s4 (A : Act) (w1 : World) (Q : Exit → Act → World → Prop) (B o c len mo m : Nat) (b : Int) (n : Nat) 
    (h3 : A.tmps.getD 3 undef = .int .i64 (mo : Int)) (h4 : A.tmps.getD 4 undef = .slice (some ⟨B, o, none⟩) len c) (hx : ∀ W, Below w1.heap.size w1 W → W.cell? ⟨B, o, none⟩ = some (.int .u8 b)) (hcl : ∀ W, Below w1.heap.size w1 W → Calls Tryz.prog 95 #[.slice (some ⟨B, o, none⟩) m c] W fun r w' => r = .returned (.int .i64 (n : Int)) ∧ ∃ k, w' = W.drewN k) (hl1 : 1 ≤ len) (hlc : len ≤ c) (hlb : len ≤ 1048576) (hmn : min (mo : Int) (len : Int) = (m : Int)) (hml : m ≤ len)
    (f : Nat → Bool) (e : Nat) (a : Act) (w : World) (hun : f 4 = false) (hdep : ∀ d ∈ lj_o4.after, Region.binds .any d = true → f d.on = true) (hJ : lj_J w1 B o c len mo m b n f e w) (hFr : Fr lj_O A f (fun j => lj_V B o c len mo m b n j e) a)
    (K : Act → World → Prop) (hK : Hid (∀ v e' w', v = lj_V B o c len mo m b n 4 e' → (∀ j, f j = true → lj_V B o c len mo m b n j e' = lj_V B o c len mo m b n j e) → lj_J w1 B o c len mo m b n (fun j => j == 4 || f j) e' w' → K (a.put lj_o4.dst v) w')) :
    if Region.wanted lj_o4 (yielded lj_O a.tmps) = true then Oper.wp Tryz.prog lj_o4 a w K Q else K (a.put lj_o4.dst undef) w := by
  unfold lj_o4 at hdep hK ⊢
  have hK9 := hK
  obtain ⟨hB, j1, jd⟩ := hJ
  have v3 := (hFr.old 3 (lj_no (by decide))).trans h3
  replace hB := hid hB
  replace j1 := hid j1
  replace jd := hid jd
  replace hx := hid hx
  replace hcl := hid hcl
  clear hdep hFr h3 h4
  go_simp
  exact hK9.out _ e _ rfl (fun _ _ => rfl) ⟨hB.out, j1.out, jd.out⟩
set_option maxRecDepth 100000 in
set_option maxHeartbeats 2000000 in
theorem lj_s5 (A : Act) (w1 : World) (Q : Exit → Act → World → Prop) (B o c len mo m : Nat) (b : Int) (n : Nat) 
    (h3 : A.tmps.getD 3 undef = .int .i64 (mo : Int)) (h4 : A.tmps.getD 4 undef = .slice (some ⟨B, o, none⟩) len c) (hx : ∀ W, Below w1.heap.size w1 W → W.cell? ⟨B, o, none⟩ = some (.int .u8 b)) (hcl : ∀ W, Below w1.heap.size w1 W → Calls Tryz.prog 95 #[.slice (some ⟨B, o, none⟩) m c] W fun r w' => r = .returned (.int .i64 (n : Int)) ∧ ∃ k, w' = W.drewN k) (hl1 : 1 ≤ len) (hlc : len ≤ c) (hlb : len ≤ 1048576) (hmn : min (mo : Int) (len : Int) = (m : Int)) (hml : m ≤ len)
    (f : Nat → Bool) (e : Nat) (a : Act) (w : World) (hun : f 5 = false) (hdep : ∀ d ∈ lj_o5.after, Region.binds .any d = true → f d.on = true) (hJ : lj_J w1 B o c len mo m b n f e w) (hFr : Fr lj_O A f (fun j => lj_V B o c len mo m b n j e) a)
    (K : Act → World → Prop) (hK : Hid (∀ v e' w', v = lj_V B o c len mo m b n 5 e' → (∀ j, f j = true → lj_V B o c len mo m b n j e' = lj_V B o c len mo m b n j e) → lj_J w1 B o c len mo m b n (fun j => j == 5 || f j) e' w' → K (a.put lj_o5.dst v) w')) :
    if Region.wanted lj_o5 (yielded lj_O a.tmps) = true then Oper.wp Tryz.prog lj_o5 a w K Q else K (a.put lj_o5.dst undef) w := by
  unfold lj_o5 at hdep hK ⊢
  have hK9 := hK
  obtain ⟨hB, j1, jd⟩ := hJ
  have v4 := (hFr.old 4 (lj_no (by decide))).trans h4
  replace hB := hid hB
  replace j1 := hid j1
  replace jd := hid jd
  replace hx := hid hx
  replace hcl := hid hcl
  clear hdep hFr h3 h4
  go_simp
  exact hK9.out _ e _ rfl (fun _ _ => rfl) ⟨hB.out, j1.out, jd.out⟩
set_option maxRecDepth 100000 in
set_option maxHeartbeats 2000000 in
theorem lj_s6 (A : Act) (w1 : World) (Q : Exit → Act → World → Prop) (B o c len mo m : Nat) (b : Int) (n : Nat) 
    (h3 : A.tmps.getD 3 undef = .int .i64 (mo : Int)) (h4 : A.tmps.getD 4 undef = .slice (some ⟨B, o, none⟩) len c) (hx : ∀ W, Below w1.heap.size w1 W → W.cell? ⟨B, o, none⟩ = some (.int .u8 b)) (hcl : ∀ W, Below w1.heap.size w1 W → Calls Tryz.prog 95 #[.slice (some ⟨B, o, none⟩) m c] W fun r w' => r = .returned (.int .i64 (n : Int)) ∧ ∃ k, w' = W.drewN k) (hl1 : 1 ≤ len) (hlc : len ≤ c) (hlb : len ≤ 1048576) (hmn : min (mo : Int) (len : Int) = (m : Int)) (hml : m ≤ len)
    (f : Nat → Bool) (e : Nat) (a : Act) (w : World) (hun : f 6 = false) (hdep : ∀ d ∈ lj_o6.after, Region.binds .any d = true → f d.on = true) (hJ : lj_J w1 B o c len mo m b n f e w) (hFr : Fr lj_O A f (fun j => lj_V B o c len mo m b n j e) a)
    (K : Act → World → Prop) (hK : Hid (∀ v e' w', v = lj_V B o c len mo m b n 6 e' → (∀ j, f j = true → lj_V B o c len mo m b n j e' = lj_V B o c len mo m b n j e) → lj_J w1 B o c len mo m b n (fun j => j == 6 || f j) e' w' → K (a.put lj_o6.dst v) w')) :
    if Region.wanted lj_o6 (yielded lj_O a.tmps) = true then Oper.wp Tryz.prog lj_o6 a w K Q else K (a.put lj_o6.dst undef) w := by
  unfold lj_o6 at hdep hK ⊢
  have hK9 := hK
  obtain ⟨hB, j1, jd⟩ := hJ
  have k5 : f 5 = true := hdep { on := 5, ground := .data } (by simp) rfl
  have v16 : a.tmps.getD 16 undef = .slice (some ⟨B, o, none⟩) len c := hFr.new 5 16 rfl k5
  replace hB := hid hB
  replace j1 := hid j1
  replace jd := hid jd
  replace hx := hid hx
  replace hcl := hid hcl
  clear hdep hFr h3 h4
  go_simp
  exact hK9.out _ e _ rfl (fun _ _ => rfl) ⟨hB.out, j1.out, jd.out⟩
set_option maxRecDepth 100000 in
set_option maxHeartbeats 2000000 in
theorem lj_s7 (A : Act) (w1 : World) (Q : Exit → Act → World → Prop) (B o c len mo m : Nat) (b : Int) (n : Nat) 
    (h3 : A.tmps.getD 3 undef = .int .i64 (mo : Int)) (h4 : A.tmps.getD 4 undef = .slice (some ⟨B, o, none⟩) len c) (hx : ∀ W, Below w1.heap.size w1 W → W.cell? ⟨B, o, none⟩ = some (.int .u8 b)) (hcl : ∀ W, Below w1.heap.size w1 W → Calls Tryz.prog 95 #[.slice (some ⟨B, o, none⟩) m c] W fun r w' => r = .returned (.int .i64 (n : Int)) ∧ ∃ k, w' = W.drewN k) (hl1 : 1 ≤ len) (hlc : len ≤ c) (hlb : len ≤ 1048576) (hmn : min (mo : Int) (len : Int) = (m : Int)) (hml : m ≤ len)
    (f : Nat → Bool) (e : Nat) (a : Act) (w : World) (hun : f 7 = false) (hdep : ∀ d ∈ lj_o7.after, Region.binds .any d = true → f d.on = true) (hJ : lj_J w1 B o c len mo m b n f e w) (hFr : Fr lj_O A f (fun j => lj_V B o c len mo m b n j e) a)
    (K : Act → World → Prop) (hK : Hid (∀ v e' w', v = lj_V B o c len mo m b n 7 e' → (∀ j, f j = true → lj_V B o c len mo m b n j e' = lj_V B o c len mo m b n j e) → lj_J w1 B o c len mo m b n (fun j => j == 7 || f j) e' w' → K (a.put lj_o7.dst v) w')) :
    if Region.wanted lj_o7 (yielded lj_O a.tmps) = true then Oper.wp Tryz.prog lj_o7 a w K Q else K (a.put lj_o7.dst undef) w := by
  unfold lj_o7 at hdep hK ⊢
  have hK9 := hK
  obtain ⟨hB, j1, jd⟩ := hJ
  have k4 : f 4 = true := hdep { on := 4, ground := .data } (by simp) rfl
  have v15 : a.tmps.getD 15 undef = .int .i64 (mo : Int) := hFr.new 4 15 rfl k4
  have k6 : f 6 = true := hdep { on := 6, ground := .data } (by simp) rfl
  have v17 : a.tmps.getD 17 undef = .int .i64 (len : Int) := hFr.new 6 17 rfl k6
  replace hB := hid hB
  replace j1 := hid j1
  replace jd := hid jd
  replace hx := hid hx
  replace hcl := hid hcl
  clear hdep hFr h3 h4
  go_simp
  exact hK9.out _ e _ rfl (fun _ _ => rfl) ⟨hB.out, j1.out, jd.out⟩
set_option maxRecDepth 100000 in
set_option maxHeartbeats 2000000 in
theorem lj_s8 (A : Act) (w1 : World) (Q : Exit → Act → World → Prop) (B o c len mo m : Nat) (b : Int) (n : Nat) 
    (h3 : A.tmps.getD 3 undef = .int .i64 (mo : Int)) (h4 : A.tmps.getD 4 undef = .slice (some ⟨B, o, none⟩) len c) (hx : ∀ W, Below w1.heap.size w1 W → W.cell? ⟨B, o, none⟩ = some (.int .u8 b)) (hcl : ∀ W, Below w1.heap.size w1 W → Calls Tryz.prog 95 #[.slice (some ⟨B, o, none⟩) m c] W fun r w' => r = .returned (.int .i64 (n : Int)) ∧ ∃ k, w' = W.drewN k) (hl1 : 1 ≤ len) (hlc : len ≤ c) (hlb : len ≤ 1048576) (hmn : min (mo : Int) (len : Int) = (m : Int)) (hml : m ≤ len)
    (f : Nat → Bool) (e : Nat) (a : Act) (w : World) (hun : f 8 = false) (hdep : ∀ d ∈ lj_o8.after, Region.binds .any d = true → f d.on = true) (hJ : lj_J w1 B o c len mo m b n f e w) (hFr : Fr lj_O A f (fun j => lj_V B o c len mo m b n j e) a)
    (K : Act → World → Prop) (hK : Hid (∀ v e' w', v = lj_V B o c len mo m b n 8 e' → (∀ j, f j = true → lj_V B o c len mo m b n j e' = lj_V B o c len mo m b n j e) → lj_J w1 B o c len mo m b n (fun j => j == 8 || f j) e' w' → K (a.put lj_o8.dst v) w')) :
    if Region.wanted lj_o8 (yielded lj_O a.tmps) = true then Oper.wp Tryz.prog lj_o8 a w K Q else K (a.put lj_o8.dst undef) w := by
  unfold lj_o8 at hdep hK ⊢
  have hK9 := hK
  obtain ⟨hB, j1, jd⟩ := hJ
  have k3 : f 3 = true := hdep { on := 3, ground := .data } (by simp) rfl
  have v14 : a.tmps.getD 14 undef = .slice (some ⟨B, o, none⟩) len c := hFr.new 3 14 rfl k3
  have k7 : f 7 = true := hdep { on := 7, ground := .data } (by simp) rfl
  have v18 : a.tmps.getD 18 undef = .int .i64 (m : Int) := hFr.new 7 18 rfl k7
  have c1 : (0 : Int) ≤ (m : Int) := by omega
  have c2 : (m : Int) ≤ (c : Int) := by omega
  replace hB := hid hB
  replace j1 := hid j1
  replace jd := hid jd
  replace hx := hid hx
  replace hcl := hid hcl
  clear hdep hFr h3 h4
  go_simp
  exact hK9.out _ e _ rfl (fun _ _ => rfl) ⟨hB.out, j1.out, jd.out⟩
set_option maxRecDepth 100000 in
set_option maxHeartbeats 2000000 in
theorem lj_s9 (A : Act) (w1 : World) (Q : Exit → Act → World → Prop) (B o c len mo m : Nat) (b : Int) (n : Nat) 
    (h3 : A.tmps.getD 3 undef = .int .i64 (mo : Int)) (h4 : A.tmps.getD 4 undef = .slice (some ⟨B, o, none⟩) len c) (hx : ∀ W, Below w1.heap.size w1 W → W.cell? ⟨B, o, none⟩ = some (.int .u8 b)) (hcl : ∀ W, Below w1.heap.size w1 W → Calls Tryz.prog 95 #[.slice (some ⟨B, o, none⟩) m c] W fun r w' => r = .returned (.int .i64 (n : Int)) ∧ ∃ k, w' = W.drewN k) (hl1 : 1 ≤ len) (hlc : len ≤ c) (hlb : len ≤ 1048576) (hmn : min (mo : Int) (len : Int) = (m : Int)) (hml : m ≤ len)
    (f : Nat → Bool) (e : Nat) (a : Act) (w : World) (hun : f 9 = false) (hdep : ∀ d ∈ lj_o9.after, Region.binds .any d = true → f d.on = true) (hJ : lj_J w1 B o c len mo m b n f e w) (hFr : Fr lj_O A f (fun j => lj_V B o c len mo m b n j e) a)
    (K : Act → World → Prop) (hK : Hid (∀ v e' w', v = lj_V B o c len mo m b n 9 e' → (∀ j, f j = true → lj_V B o c len mo m b n j e' = lj_V B o c len mo m b n j e) → lj_J w1 B o c len mo m b n (fun j => j == 9 || f j) e' w' → K (a.put lj_o9.dst v) w')) :
    if Region.wanted lj_o9 (yielded lj_O a.tmps) = true then Oper.wp Tryz.prog lj_o9 a w K Q else K (a.put lj_o9.dst undef) w := by
  unfold lj_o9 at hdep hK ⊢
  have hK9 := hK
  obtain ⟨hB, j1, jd⟩ := hJ
  have k8 : f 8 = true := hdep { on := 8, ground := .data } (by simp) rfl
  have v19 : a.tmps.getD 19 undef = .slice (some ⟨B, o, none⟩) m c := hFr.new 8 19 rfl k8
  replace hB := hid hB
  replace j1 := hid j1
  replace jd := hid jd
  replace hx := hid hx
  replace hcl := hid hcl
  clear hdep hFr h3 h4
  go_simp
  go_at_call 95
  refine (hcl.out w hB.out).mono ?_
  rintro r w' ⟨rfl, k, rfl⟩
  go_simp
  exact hK9.out _ e _ rfl (fun _ _ => rfl) ⟨hB.out.trans ⟨rfl, rfl, rfl, Nat.le_refl _, fun _ _ => rfl⟩, fun h => ⟨(j1.out h).1, (j1.out h).2⟩, jd.out⟩
set_option maxRecDepth 100000 in
set_option maxHeartbeats 2000000 in
theorem lj_s10 (A : Act) (w1 : World) (Q : Exit → Act → World → Prop) (B o c len mo m : Nat) (b : Int) (n : Nat) 
    (h3 : A.tmps.getD 3 undef = .int .i64 (mo : Int)) (h4 : A.tmps.getD 4 undef = .slice (some ⟨B, o, none⟩) len c) (hx : ∀ W, Below w1.heap.size w1 W → W.cell? ⟨B, o, none⟩ = some (.int .u8 b)) (hcl : ∀ W, Below w1.heap.size w1 W → Calls Tryz.prog 95 #[.slice (some ⟨B, o, none⟩) m c] W fun r w' => r = .returned (.int .i64 (n : Int)) ∧ ∃ k, w' = W.drewN k) (hl1 : 1 ≤ len) (hlc : len ≤ c) (hlb : len ≤ 1048576) (hmn : min (mo : Int) (len : Int) = (m : Int)) (hml : m ≤ len)
    (f : Nat → Bool) (e : Nat) (a : Act) (w : World) (hun : f 10 = false) (hdep : ∀ d ∈ lj_o10.after, Region.binds .any d = true → f d.on = true) (hJ : lj_J w1 B o c len mo m b n f e w) (hFr : Fr lj_O A f (fun j => lj_V B o c len mo m b n j e) a)
    (K : Act → World → Prop) (hK : Hid (∀ v e' w', v = lj_V B o c len mo m b n 10 e' → (∀ j, f j = true → lj_V B o c len mo m b n j e' = lj_V B o c len mo m b n j e) → lj_J w1 B o c len mo m b n (fun j => j == 10 || f j) e' w' → K (a.put lj_o10.dst v) w')) :
    if Region.wanted lj_o10 (yielded lj_O a.tmps) = true then Oper.wp Tryz.prog lj_o10 a w K Q else K (a.put lj_o10.dst undef) w := by
  unfold lj_o10 at hdep hK ⊢
  have hK9 := hK
  obtain ⟨hB, j1, jd⟩ := hJ
  have k2 : f 2 = true := hdep { on := 2, ground := .data } (by simp) rfl
  have v13 : a.tmps.getD 13 undef = .int .u8 b := hFr.new 2 13 rfl k2
  have k9 : f 9 = true := hdep { on := 9, ground := .data } (by simp) rfl
  have v20 : a.tmps.getD 20 undef = .int .i64 (n : Int) := hFr.new 9 20 rfl k9
  have v13b : a.tmps[13]?.getD undef = .int .u8 b := by simpa using v13
  have v20b : a.tmps[20]?.getD undef = .int .i64 (n : Int) := by simpa using v20
  replace hB := hid hB
  replace j1 := hid j1
  replace jd := hid jd
  replace hx := hid hx
  replace hcl := hid hcl
  clear hdep hFr h3 h4
  go_simp
  exact hK9.out _ e _ rfl (fun _ _ => rfl) ⟨hB.out, j1.out, jd.out⟩
set_option maxRecDepth 100000 in
set_option maxHeartbeats 2000000 in
theorem lj_s11 (A : Act) (w1 : World) (Q : Exit → Act → World → Prop) (B o c len mo m : Nat) (b : Int) (n : Nat) 
    (h3 : A.tmps.getD 3 undef = .int .i64 (mo : Int)) (h4 : A.tmps.getD 4 undef = .slice (some ⟨B, o, none⟩) len c) (hx : ∀ W, Below w1.heap.size w1 W → W.cell? ⟨B, o, none⟩ = some (.int .u8 b)) (hcl : ∀ W, Below w1.heap.size w1 W → Calls Tryz.prog 95 #[.slice (some ⟨B, o, none⟩) m c] W fun r w' => r = .returned (.int .i64 (n : Int)) ∧ ∃ k, w' = W.drewN k) (hl1 : 1 ≤ len) (hlc : len ≤ c) (hlb : len ≤ 1048576) (hmn : min (mo : Int) (len : Int) = (m : Int)) (hml : m ≤ len)
    (f : Nat → Bool) (e : Nat) (a : Act) (w : World) (hun : f 11 = false) (hdep : ∀ d ∈ lj_o11.after, Region.binds .any d = true → f d.on = true) (hJ : lj_J w1 B o c len mo m b n f e w) (hFr : Fr lj_O A f (fun j => lj_V B o c len mo m b n j e) a)
    (K : Act → World → Prop) (hK : Hid (∀ v e' w', v = lj_V B o c len mo m b n 11 e' → (∀ j, f j = true → lj_V B o c len mo m b n j e' = lj_V B o c len mo m b n j e) → lj_J w1 B o c len mo m b n (fun j => j == 11 || f j) e' w' → K (a.put lj_o11.dst v) w')) :
    if Region.wanted lj_o11 (yielded lj_O a.tmps) = true then Oper.wp Tryz.prog lj_o11 a w K Q else K (a.put lj_o11.dst undef) w := by
  unfold lj_o11 at hdep hK ⊢
  have hK9 := hK
  obtain ⟨hB, j1, jd⟩ := hJ
  have hal := hid ((Below.refl w.heap.size w).alloc (Nat.le_refl _) (.cells rnZ 126))
  have hq := hid (Blk.new w rnZ 126)
  have h8 := hid (jd hun)
  replace hB := hid hB
  replace j1 := hid j1
  replace jd := hid jd
  replace hx := hid hx
  replace hcl := hid hcl
  clear hdep hFr h3 h4
  go_simp
  refine hK9.out _ w.heap.size _ rfl (lj_keep B o c len mo m b n e w.heap.size hun) ⟨hB.out.trans (hal.out.mono hB.out.size), fun _ => ⟨hB.out.size, ?_⟩, fun h => (by cases h)⟩
  show Blk _ w.heap.size (bif f 12 then _ else rnZ)
  rw [h8.out]
  exact hq.out
set_option maxRecDepth 100000 in
set_option maxHeartbeats 2000000 in
theorem lj_s12 (A : Act) (w1 : World) (Q : Exit → Act → World → Prop) (B o c len mo m : Nat) (b : Int) (n : Nat) 
    (h3 : A.tmps.getD 3 undef = .int .i64 (mo : Int)) (h4 : A.tmps.getD 4 undef = .slice (some ⟨B, o, none⟩) len c) (hx : ∀ W, Below w1.heap.size w1 W → W.cell? ⟨B, o, none⟩ = some (.int .u8 b)) (hcl : ∀ W, Below w1.heap.size w1 W → Calls Tryz.prog 95 #[.slice (some ⟨B, o, none⟩) m c] W fun r w' => r = .returned (.int .i64 (n : Int)) ∧ ∃ k, w' = W.drewN k) (hl1 : 1 ≤ len) (hlc : len ≤ c) (hlb : len ≤ 1048576) (hmn : min (mo : Int) (len : Int) = (m : Int)) (hml : m ≤ len)
    (f : Nat → Bool) (e : Nat) (a : Act) (w : World) (hun : f 12 = false) (hdep : ∀ d ∈ lj_o12.after, Region.binds .any d = true → f d.on = true) (hJ : lj_J w1 B o c len mo m b n f e w) (hFr : Fr lj_O A f (fun j => lj_V B o c len mo m b n j e) a)
    (K : Act → World → Prop) (hK : Hid (∀ v e' w', v = lj_V B o c len mo m b n 12 e' → (∀ j, f j = true → lj_V B o c len mo m b n j e' = lj_V B o c len mo m b n j e) → lj_J w1 B o c len mo m b n (fun j => j == 12 || f j) e' w' → K (a.put lj_o12.dst v) w')) :
    if Region.wanted lj_o12 (yielded lj_O a.tmps) = true then Oper.wp Tryz.prog lj_o12 a w K Q else K (a.put lj_o12.dst undef) w := by
  unfold lj_o12 at hdep hK ⊢
  have hK9 := hK
  obtain ⟨hB, j1, jd⟩ := hJ
  have k11 : f 11 = true := hdep { on := 11, ground := .data } (by simp) rfl
  have v5 : a.tmps.getD 5 undef = .pointer (some ⟨e, 0, none⟩) := hFr.new 11 5 rfl k11
  have k10 : f 10 = true := hdep { on := 10, ground := .data } (by simp) rfl
  have v21 : a.tmps.getD 21 undef = rnV b n := hFr.new 10 21 rfl k10
  obtain ⟨b0, b1⟩ := j1 k11
  rw [hun] at b1
  have b1 : Blk w e rnZ := b1
  have x8 := b1.cell
  have f8 := b1.frozen
  have l8 := b1.lt
  have q8 := hid ((b1.set 0 (.int .u8 b)).set 1 (.int .i64 (n : Int)))
  replace b0 := hid b0
  replace hB := hid hB
  replace j1 := hid j1
  replace jd := hid jd
  replace hx := hid hx
  replace hcl := hid hcl
  clear hdep hFr h3 h4
  go_simp
  exact hK9.out _ e _ rfl (fun _ _ => rfl) ⟨(hB.out.setCell (p := ⟨e, 0, none⟩) b0.out _).setCell (p := ⟨e, 1, none⟩) b0.out _, fun _ => ⟨b0.out, q8.out⟩, fun h => absurd k11 (by rw [show f 11 = false from h]; exact fun h => (by cases h))⟩
set_option maxRecDepth 100000 in
set_option maxHeartbeats 4000000 in
theorem lj_reg (A : Act) (w1 : World) (Q : Exit → Act → World → Prop) (B o c len mo m : Nat) (b : Int) (n : Nat) 
    (h3 : A.tmps.getD 3 undef = .int .i64 (mo : Int)) (h4 : A.tmps.getD 4 undef = .slice (some ⟨B, o, none⟩) len c) (hx : ∀ W, Below w1.heap.size w1 W → W.cell? ⟨B, o, none⟩ = some (.int .u8 b)) (hcl : ∀ W, Below w1.heap.size w1 W → Calls Tryz.prog 95 #[.slice (some ⟨B, o, none⟩) m c] W fun r w' => r = .returned (.int .i64 (n : Int)) ∧ ∃ k, w' = W.drewN k) (hl1 : 1 ≤ len) (hlc : len ≤ c) (hlb : len ≤ 1048576) (hmn : min (mo : Int) (len : Int) = (m : Int)) (hml : m ≤ len) (hN : 22 ≤ A.tmps.size)
    (h : ∀ (w : World) (e : Nat), Below w1.heap.size w1 w ∧ w1.heap.size ≤ e ∧ Blk w e (rnA b n) → Q .normal (putsA A [(11, .slice (some ⟨B, o, none⟩) len c), (12, .pointer (some ⟨B, o, none⟩)), (13, .int .u8 b), (14, .slice (some ⟨B, o, none⟩) len c), (15, .int .i64 (mo : Int)), (16, .slice (some ⟨B, o, none⟩) len c), (17, .int .i64 (len : Int)), (18, .int .i64 (m : Int)), (19, .slice (some ⟨B, o, none⟩) m c), (20, .int .i64 (n : Int)), (21, rnV b n), (5, .pointer (some ⟨e, 0, none⟩))]) w) :
    (Code.region 3 #[({ dst := some 11, op := Op.move (Operand.tmp 4), type := 22, pos := "l12_rle.go:67", after := #[], guard := none } : Oper), ({ dst := some 12, op := Op.indexAddr 22 (Operand.tmp 11) (Operand.const (Value.int IntKind.i64 0)), type := 0, pos := "l12_rle.go:67", after := #[{ on := 0, ground := Ground.data }], guard := none } : Oper), ({ dst := some 13, op := Op.load 5 (Operand.tmp 12), type := 5, pos := "l12_rle.go:67", after := #[{ on := 1, ground := Ground.data }], guard := none } : Oper), ({ dst := some 14, op := Op.move (Operand.tmp 4), type := 22, pos := "l12_rle.go:67", after := #[], guard := none } : Oper), ({ dst := some 15, op := Op.move (Operand.tmp 3), type := 3, pos := "l12_rle.go:67", after := #[], guard := none } : Oper), ({ dst := some 16, op := Op.move (Operand.tmp 4), type := 22, pos := "l12_rle.go:67", after := #[], guard := none } : Oper), ({ dst := some 17, op := Op.call { callee := Callee.builtin Builtin.len, args := #[Operand.tmp 16], argTypes := #[22] }, type := 3, pos := "l12_rle.go:67", after := #[{ on := 5, ground := Ground.data }], guard := none } : Oper), ({ dst := some 18, op := Op.call { callee := Callee.builtin Builtin.min, args := #[Operand.tmp 15, Operand.tmp 17], argTypes := #[3, 3] }, type := 3, pos := "l12_rle.go:67", after := #[{ on := 4, ground := Ground.data }, { on := 6, ground := Ground.data }], guard := none } : Oper), ({ dst := some 19, op := Op.slice 22 (Operand.tmp 14) none (some (Operand.tmp 18)) none, type := 22, pos := "l12_rle.go:67", after := #[{ on := 3, ground := Ground.data }, { on := 7, ground := Ground.data }], guard := none } : Oper), ({ dst := some 20, op := Op.call { callee := Callee.value (Operand.func 95), args := #[Operand.tmp 19], argTypes := #[22] }, type := 3, pos := "l12_rle.go:67", after := #[{ on := 8, ground := Ground.data }], guard := none } : Oper), ({ dst := some 21, op := Op.build 126 #[(0, Operand.tmp 13), (1, Operand.tmp 20)], type := 126, pos := "l12_rle.go:67", after := #[{ on := 2, ground := Ground.data }, { on := 9, ground := Ground.data }], guard := none } : Oper), ({ dst := some 5, op := Op.alloc 126, type := 0, pos := "l12_rle.go:67", after := #[], guard := none } : Oper), ({ dst := none, op := Op.store 126 (Operand.tmp 5) (Operand.tmp 21), type := 0, pos := "l12_rle.go:67", after := #[{ on := 11, ground := Ground.data }, { on := 10, ground := Ground.data }, { on := 9, ground := Ground.chain }, { on := 0, ground := Ground.phase }, { on := 1, ground := Ground.phase }, { on := 2, ground := Ground.phase }, { on := 3, ground := Ground.phase }, { on := 4, ground := Ground.phase }, { on := 5, ground := Ground.phase }, { on := 6, ground := Ground.phase }, { on := 7, ground := Ground.phase }, { on := 8, ground := Ground.phase }, { on := 9, ground := Ground.phase }, { on := 10, ground := Ground.phase }, { on := 11, ground := Ground.phase }], guard := none } : Oper)] true).wp Tryz.prog Q A w1 := by
  show (Code.region 3 lj_O true).wp Tryz.prog Q A w1
  refine wp_region_slots (E := Nat) (lj_V B o c len mo m b n) (lj_J w1 B o c len mo m b n) (by kernel_rfl) (by kernel_rfl) (by kernel_rfl) (fun i s hi => ?_) ?_ 0 ⟨(Below.refl _ _).drew, fun h => (by cases h), fun _ => rfl⟩ ?_
  · cases hc : ([11, 12, 13, 14, 15, 16, 17, 18, 19, 20, 21, 5] : List Nat).contains s
    · exact absurd hi (lj_no hc i)
    · have : s ∈ ([11, 12, 13, 14, 15, 16, 17, 18, 19, 20, 21, 5] : List Nat) := by simpa using hc
      simp only [List.mem_cons, List.not_mem_nil, or_false] at this
      omega
  · intro f e a w i o hi ho hun hdep hJ hFr K hK
    have hi8 : i < 13 := hi
    rcases (by omega : i = 0 ∨ i = 1 ∨ i = 2 ∨ i = 3 ∨ i = 4 ∨ i = 5 ∨ i = 6 ∨ i = 7 ∨ i = 8 ∨ i = 9 ∨ i = 10 ∨ i = 11 ∨ i = 12) with rfl | rfl | rfl | rfl | rfl | rfl | rfl | rfl | rfl | rfl | rfl | rfl | rfl
    · obtain rfl := Option.some.inj ho
      exact lj_s0 A w1 Q B o c len mo m b n h3 h4 hx hcl hl1 hlc hlb hmn hml f e a w hun hdep hJ hFr K hK
    · obtain rfl := Option.some.inj ho
      exact lj_s1 A w1 Q B o c len mo m b n h3 h4 hx hcl hl1 hlc hlb hmn hml f e a w hun hdep hJ hFr K hK
    · obtain rfl := Option.some.inj ho
      exact lj_s2 A w1 Q B o c len mo m b n h3 h4 hx hcl hl1 hlc hlb hmn hml f e a w hun hdep hJ hFr K hK
    · obtain rfl := Option.some.inj ho
      exact lj_s3 A w1 Q B o c len mo m b n h3 h4 hx hcl hl1 hlc hlb hmn hml f e a w hun hdep hJ hFr K hK
    · obtain rfl := Option.some.inj ho
      exact lj_s4 A w1 Q B o c len mo m b n h3 h4 hx hcl hl1 hlc hlb hmn hml f e a w hun hdep hJ hFr K hK
    · obtain rfl := Option.some.inj ho
      exact lj_s5 A w1 Q B o c len mo m b n h3 h4 hx hcl hl1 hlc hlb hmn hml f e a w hun hdep hJ hFr K hK
    · obtain rfl := Option.some.inj ho
      exact lj_s6 A w1 Q B o c len mo m b n h3 h4 hx hcl hl1 hlc hlb hmn hml f e a w hun hdep hJ hFr K hK
    · obtain rfl := Option.some.inj ho
      exact lj_s7 A w1 Q B o c len mo m b n h3 h4 hx hcl hl1 hlc hlb hmn hml f e a w hun hdep hJ hFr K hK
    · obtain rfl := Option.some.inj ho
      exact lj_s8 A w1 Q B o c len mo m b n h3 h4 hx hcl hl1 hlc hlb hmn hml f e a w hun hdep hJ hFr K hK
    · obtain rfl := Option.some.inj ho
      exact lj_s9 A w1 Q B o c len mo m b n h3 h4 hx hcl hl1 hlc hlb hmn hml f e a w hun hdep hJ hFr K hK
    · obtain rfl := Option.some.inj ho
      exact lj_s10 A w1 Q B o c len mo m b n h3 h4 hx hcl hl1 hlc hlb hmn hml f e a w hun hdep hJ hFr K hK
    · obtain rfl := Option.some.inj ho
      exact lj_s11 A w1 Q B o c len mo m b n h3 h4 hx hcl hl1 hlc hlb hmn hml f e a w hun hdep hJ hFr K hK
    · obtain rfl := Option.some.inj ho
      exact lj_s12 A w1 Q B o c len mo m b n h3 h4 hx hcl hl1 hlc hlb hmn hml f e a w hun hdep hJ hFr K hK
  · intro f e a w hall hJ hFr
    have := h w e (by
      obtain ⟨hB, j1, _⟩ := hJ
      obtain ⟨b0, b1⟩ := j1 (hall 11 (by decide))
      rw [hall 12 (by decide)] at b1
      exact ⟨hB, b0, b1⟩)
    rw [hFr.eq [(11, .slice (some ⟨B, o, none⟩) len c), (12, .pointer (some ⟨B, o, none⟩)), (13, .int .u8 b), (14, .slice (some ⟨B, o, none⟩) len c), (15, .int .i64 (mo : Int)), (16, .slice (some ⟨B, o, none⟩) len c), (17, .int .i64 (len : Int)), (18, .int .i64 (m : Int)), (19, .slice (some ⟨B, o, none⟩) m c), (20, .int .i64 (n : Int)), (21, rnV b n), (5, .pointer (some ⟨e, 0, none⟩))] (fun s hs => ?_) (fun i s hi => ?_)]
    · exact this
    · have hne : ∀ k ∈ ([11, 12, 13, 14, 15, 16, 17, 18, 19, 20, 21, 5] : List Nat), k ≠ s := by
        intro k hk e2
        subst e2
        simp only [List.mem_cons, List.not_mem_nil, or_false] at hk
        rcases hk with rfl | rfl | rfl | rfl | rfl | rfl | rfl | rfl | rfl | rfl | rfl | rfl
        · exact hs 0 rfl
        · exact hs 1 rfl
        · exact hs 2 rfl
        · exact hs 3 rfl
        · exact hs 4 rfl
        · exact hs 5 rfl
        · exact hs 6 rfl
        · exact hs 7 rfl
        · exact hs 8 rfl
        · exact hs 9 rfl
        · exact hs 10 rfl
        · exact hs 11 rfl
      simp only [lookA]
      simp [hne]
    · have hl : i < 13 := by
        rcases Nat.lt_or_ge i 13 with h1 | h1
        · exact h1
        · unfold dstAt at hi
          rw [Array.getElem?_eq_none (by exact h1)] at hi
          cases hi
      refine ⟨hall i hl, ?_⟩
      rcases (by omega : i = 0 ∨ i = 1 ∨ i = 2 ∨ i = 3 ∨ i = 4 ∨ i = 5 ∨ i = 6 ∨ i = 7 ∨ i = 8 ∨ i = 9 ∨ i = 10 ∨ i = 11 ∨ i = 12) with rfl | rfl | rfl | rfl | rfl | rfl | rfl | rfl | rfl | rfl | rfl | rfl | rfl
      all_goals first
        | (cases hi; rfl)
        | cases hi
end Go.Proofs.YtghcagibdcblnaaGreatDoor
