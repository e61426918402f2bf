/- Drawn regions in which a reader panics: the program. -/
import Derived.Test.YtghcagibdcblnaaGreatDoorNif
import Derived.Test.YtghcagibdcblnaaGreatDoorF07
namespace Go.Proofs.YtghcagibdcblnaaGreatDoor
open Go.ChangeShapes Go.WideShapes Go.ChangeAt Go.RowKit
set_option linter.unusedVariables false
set_option linter.unusedSimpArgs false

def nk_V (H S : Nat) (ch : List PanicEntry) (R : World → World → Prop) : Nat → Unit → Value := fun i e => match i with
  | 0 => .pointer (some ⟨H, 0, none⟩)
  | 1 => .pointer (some ⟨S, 0, none⟩)
  | 2 => .pointer (some ⟨S, 0, none⟩)
  | 3 => .pointer (some ⟨S, 0, none⟩)
  | 4 => .pointer (some ⟨S, 0, none⟩)
  | 5 => .pointer (some ⟨S, 0, none⟩)
  | 6 => .pointer (some ⟨S, 14, none⟩)
  | 7 => .tuple #[]
  | _ => undef
def nk_J (w1 : World) (H S : Nat) (ch : List PanicEntry) (R : World → World → Prop) (f : Nat → Bool) (e : Unit) (w : World) : Prop :=
  Below w1.heap.size w1 w ∧ f 7 = false
def nk_o0 : Oper := ({ dst := some 17, op := Op.move (Operand.tmp 4), type := 50, pos := "l13_snap.go:152", after := #[], guard := none } : Oper)
def nk_o1 : Oper := ({ dst := some 18, op := Op.move (Operand.tmp 1), type := 87, pos := "l13_snap.go:152", after := #[], guard := none } : Oper)
def nk_o2 : Oper := ({ dst := some 19, op := Op.nilCheck (Operand.tmp 18), type := 0, pos := "l13_snap.go:152", after := #[{ on := 1, ground := Ground.data }], guard := none } : Oper)
def nk_o3 : Oper := ({ dst := some 20, op := Op.fieldAddr 33 (Operand.tmp 19) 0, type := 0, pos := "l13_snap.go:152", after := #[{ on := 2, ground := Ground.data }], guard := none } : Oper)
def nk_o4 : Oper := ({ dst := some 21, op := Op.move (Operand.tmp 1), type := 87, pos := "l13_snap.go:152", after := #[], guard := none } : Oper)
def nk_o5 : Oper := ({ dst := some 22, op := Op.nilCheck (Operand.tmp 21), type := 0, pos := "l13_snap.go:152", after := #[{ on := 4, ground := Ground.data }], guard := none } : Oper)
def nk_o6 : Oper := ({ dst := some 23, op := Op.fieldAddr 33 (Operand.tmp 22) 1, type := 0, pos := "l13_snap.go:152", after := #[{ on := 5, ground := Ground.data }], guard := none } : Oper)
def nk_o7 : Oper := ({ dst := some 24, op := Op.call { callee := Callee.value (Operand.func 74), args := #[Operand.tmp 17, Operand.tmp 20, Operand.tmp 23], argTypes := #[50, 108, 110] }, type := 0, pos := "l13_snap.go:152", after := #[{ on := 0, ground := Ground.data }, { on := 3, ground := Ground.data }, { on := 6, ground := Ground.data }], guard := none } : Oper)
def nk_O : Array Oper := #[nk_o0, nk_o1, nk_o2, nk_o3, nk_o4, nk_o5, nk_o6, nk_o7]
theorem nk_no {s : Nat} (h : ([17, 18, 19, 20, 21, 22, 23, 24] : List Nat).contains s = false) : ∀ i, dstAt nk_O i ≠ some s := by
  intro i hi
  have hl : i < 8 := by
    rcases Nat.lt_or_ge i 8 with h1 | h1
    · exact h1
    · unfold dstAt at hi
      rw [Array.getElem?_eq_none (by exact h1)] at hi
      cases hi
  rcases (by omega : i = 0 ∨ i = 1 ∨ i = 2 ∨ i = 3 ∨ i = 4 ∨ i = 5 ∨ i = 6 ∨ i = 7) with rfl | rfl | rfl | rfl | rfl | rfl | rfl | rfl
  all_goals first
    | (cases hi; simp at h)
    | cases hi
set_option maxRecDepth 100000 in
set_option maxHeartbeats 2000000 in
theorem nk_s0 (A : Act) (w1 : World) (Q : Exit → Act → World → Prop) (H S : Nat) (ch : List PanicEntry) (R : World → World → Prop) 
    (h4 : A.tmps.getD 4 undef = .pointer (some ⟨H, 0, none⟩)) (h1 : A.tmps.getD 1 undef = .pointer (some ⟨S, 0, none⟩)) (hC : ∀ W, Below w1.heap.size w1 W → Calls Tryz.prog 74 #[.pointer (some ⟨H, 0, none⟩), .pointer (some ⟨S, 0, none⟩), .pointer (some ⟨S, 14, none⟩)] W fun r w' => r = .panicked ch ∧ R W w') (hQ : ∀ a W w', a.defers = A.defers → (∀ s, ([17, 18, 19, 20, 21, 22, 23, 24] : List Nat).contains s = false → a.tmps.getD s undef = A.tmps.getD s undef) → Below w1.heap.size w1 W → R W w' → Q (.panic ch) a w')
    (f : Nat → Bool) (e : Unit) (a : Act) (w : World) (hun : f 0 = false) (hdep : ∀ d ∈ nk_o0.after, Region.binds .any d = true → f d.on = true) (hJ : nk_J w1 H S ch R f e w) (hFr : Fr nk_O A f (fun j => nk_V H S ch R j e) a)
    (K : Act → World → Prop) (hK : Hid (∀ v e' w', v = nk_V H S ch R 0 e' → (∀ j, f j = true → nk_V H S ch R j e' = nk_V H S ch R j e) → nk_J w1 H S ch R (fun j => j == 0 || f j) e' w' → K (a.put nk_o0.dst v) w')) :
    if Region.wanted nk_o0 (yielded nk_O a.tmps) = true then Oper.wp Tryz.prog nk_o0 a w K Q else K (a.put nk_o0.dst undef) w := by
  unfold nk_o0 at hdep hK ⊢
  obtain ⟨hB, hn⟩ := hJ
  have v4 := (hFr.old 4 (nk_no (by decide))).trans h4
  replace hB := hid hB
  replace hn := hid hn
  replace hC := hid hC
  replace hQ := hid hQ
  clear hdep hFr h4 h1
  go_simp
  exact hK.out _ e _ rfl (fun _ _ => rfl) ⟨hB.out, hn.out⟩
set_option maxRecDepth 100000 in
set_option maxHeartbeats 2000000 in
theorem nk_s1 (A : Act) (w1 : World) (Q : Exit → Act → World → Prop) (H S : Nat) (ch : List PanicEntry) (R : World → World → Prop) 
    (h4 : A.tmps.getD 4 undef = .pointer (some ⟨H, 0, none⟩)) (h1 : A.tmps.getD 1 undef = .pointer (some ⟨S, 0, none⟩)) (hC : ∀ W, Below w1.heap.size w1 W → Calls Tryz.prog 74 #[.pointer (some ⟨H, 0, none⟩), .pointer (some ⟨S, 0, none⟩), .pointer (some ⟨S, 14, none⟩)] W fun r w' => r = .panicked ch ∧ R W w') (hQ : ∀ a W w', a.defers = A.defers → (∀ s, ([17, 18, 19, 20, 21, 22, 23, 24] : List Nat).contains s = false → a.tmps.getD s undef = A.tmps.getD s undef) → Below w1.heap.size w1 W → R W w' → Q (.panic ch) a w')
    (f : Nat → Bool) (e : Unit) (a : Act) (w : World) (hun : f 1 = false) (hdep : ∀ d ∈ nk_o1.after, Region.binds .any d = true → f d.on = true) (hJ : nk_J w1 H S ch R f e w) (hFr : Fr nk_O A f (fun j => nk_V H S ch R j e) a)
    (K : Act → World → Prop) (hK : Hid (∀ v e' w', v = nk_V H S ch R 1 e' → (∀ j, f j = true → nk_V H S ch R j e' = nk_V H S ch R j e) → nk_J w1 H S ch R (fun j => j == 1 || f j) e' w' → K (a.put nk_o1.dst v) w')) :
    if Region.wanted nk_o1 (yielded nk_O a.tmps) = true then Oper.wp Tryz.prog nk_o1 a w K Q else K (a.put nk_o1.dst undef) w := by
  unfold nk_o1 at hdep hK ⊢
  obtain ⟨hB, hn⟩ := hJ
  have v1 := (hFr.old 1 (nk_no (by decide))).trans h1
  replace hB := hid hB
  replace hn := hid hn
  replace hC := hid hC
  replace hQ := hid hQ
  clear hdep hFr h4 h1
  go_simp
  exact hK.out _ e _ rfl (fun _ _ => rfl) ⟨hB.out, hn.out⟩
set_option maxRecDepth 100000 in
set_option maxHeartbeats 2000000 in
theorem nk_s2 (A : Act) (w1 : World) (Q : Exit → Act → World → Prop) (H S : Nat) (ch : List PanicEntry) (R : World → World → Prop) 
    (h4 : A.tmps.getD 4 undef = .pointer (some ⟨H, 0, none⟩)) (h1 : A.tmps.getD 1 undef = .pointer (some ⟨S, 0, none⟩)) (hC : ∀ W, Below w1.heap.size w1 W → Calls Tryz.prog 74 #[.pointer (some ⟨H, 0, none⟩), .pointer (some ⟨S, 0, none⟩), .pointer (some ⟨S, 14, none⟩)] W fun r w' => r = .panicked ch ∧ R W w') (hQ : ∀ a W w', a.defers = A.defers → (∀ s, ([17, 18, 19, 20, 21, 22, 23, 24] : List Nat).contains s = false → a.tmps.getD s undef = A.tmps.getD s undef) → Below w1.heap.size w1 W → R W w' → Q (.panic ch) a w')
    (f : Nat → Bool) (e : Unit) (a : Act) (w : World) (hun : f 2 = false) (hdep : ∀ d ∈ nk_o2.after, Region.binds .any d = true → f d.on = true) (hJ : nk_J w1 H S ch R f e w) (hFr : Fr nk_O A f (fun j => nk_V H S ch R j e) a)
    (K : Act → World → Prop) (hK : Hid (∀ v e' w', v = nk_V H S ch R 2 e' → (∀ j, f j = true → nk_V H S ch R j e' = nk_V H S ch R j e) → nk_J w1 H S ch R (fun j => j == 2 || f j) e' w' → K (a.put nk_o2.dst v) w')) :
    if Region.wanted nk_o2 (yielded nk_O a.tmps) = true then Oper.wp Tryz.prog nk_o2 a w K Q else K (a.put nk_o2.dst undef) w := by
  unfold nk_o2 at hdep hK ⊢
  obtain ⟨hB, hn⟩ := hJ
  have k1 : f 1 = true := hdep { on := 1, ground := .data } (by simp) rfl
  have v18 : a.tmps.getD 18 undef = .pointer (some ⟨S, 0, none⟩) := hFr.new 1 18 rfl k1
  replace hB := hid hB
  replace hn := hid hn
  replace hC := hid hC
  replace hQ := hid hQ
  clear hdep hFr h4 h1
  go_simp
  exact hK.out _ e _ rfl (fun _ _ => rfl) ⟨hB.out, hn.out⟩
set_option maxRecDepth 100000 in
set_option maxHeartbeats 2000000 in
theorem nk_s3 (A : Act) (w1 : World) (Q : Exit → Act → World → Prop) (H S : Nat) (ch : List PanicEntry) (R : World → World → Prop) 
    (h4 : A.tmps.getD 4 undef = .pointer (some ⟨H, 0, none⟩)) (h1 : A.tmps.getD 1 undef = .pointer (some ⟨S, 0, none⟩)) (hC : ∀ W, Below w1.heap.size w1 W → Calls Tryz.prog 74 #[.pointer (some ⟨H, 0, none⟩), .pointer (some ⟨S, 0, none⟩), .pointer (some ⟨S, 14, none⟩)] W fun r w' => r = .panicked ch ∧ R W w') (hQ : ∀ a W w', a.defers = A.defers → (∀ s, ([17, 18, 19, 20, 21, 22, 23, 24] : List Nat).contains s = false → a.tmps.getD s undef = A.tmps.getD s undef) → Below w1.heap.size w1 W → R W w' → Q (.panic ch) a w')
    (f : Nat → Bool) (e : Unit) (a : Act) (w : World) (hun : f 3 = false) (hdep : ∀ d ∈ nk_o3.after, Region.binds .any d = true → f d.on = true) (hJ : nk_J w1 H S ch R f e w) (hFr : Fr nk_O A f (fun j => nk_V H S ch R j e) a)
    (K : Act → World → Prop) (hK : Hid (∀ v e' w', v = nk_V H S ch R 3 e' → (∀ j, f j = true → nk_V H S ch R j e' = nk_V H S ch R j e) → nk_J w1 H S ch R (fun j => j == 3 || f j) e' w' → K (a.put nk_o3.dst v) w')) :
    if Region.wanted nk_o3 (yielded nk_O a.tmps) = true then Oper.wp Tryz.prog nk_o3 a w K Q else K (a.put nk_o3.dst undef) w := by
  unfold nk_o3 at hdep hK ⊢
  obtain ⟨hB, hn⟩ := hJ
  have k2 : f 2 = true := hdep { on := 2, ground := .data } (by simp) rfl
  have v19 : a.tmps.getD 19 undef = .pointer (some ⟨S, 0, none⟩) := hFr.new 2 19 rfl k2
  replace hB := hid hB
  replace hn := hid hn
  replace hC := hid hC
  replace hQ := hid hQ
  clear hdep hFr h4 h1
  go_simp
  exact hK.out _ e _ rfl (fun _ _ => rfl) ⟨hB.out, hn.out⟩
set_option maxRecDepth 100000 in
set_option maxHeartbeats 2000000 in
theorem nk_s4 (A : Act) (w1 : World) (Q : Exit → Act → World → Prop) (H S : Nat) (ch : List PanicEntry) (R : World → World → Prop) 
    (h4 : A.tmps.getD 4 undef = .pointer (some ⟨H, 0, none⟩)) (h1 : A.tmps.getD 1 undef = .pointer (some ⟨S, 0, none⟩)) (hC : ∀ W, Below w1.heap.size w1 W → Calls Tryz.prog 74 #[.pointer (some ⟨H, 0, none⟩), .pointer (some ⟨S, 0, none⟩), .pointer (some ⟨S, 14, none⟩)] W fun r w' => r = .panicked ch ∧ R W w') (hQ : ∀ a W w', a.defers = A.defers → (∀ s, ([17, 18, 19, 20, 21, 22, 23, 24] : List Nat).contains s = false → a.tmps.getD s undef = A.tmps.getD s undef) → Below w1.heap.size w1 W → R W w' → Q (.panic ch) a w')
    (f : Nat → Bool) (e : Unit) (a : Act) (w : World) (hun : f 4 = false) (hdep : ∀ d ∈ nk_o4.after, Region.binds .any d = true → f d.on = true) (hJ : nk_J w1 H S ch R f e w) (hFr : Fr nk_O A f (fun j => nk_V H S ch R j e) a)
    (K : Act → World → Prop) (hK : Hid (∀ v e' w', v = nk_V H S ch R 4 e' → (∀ j, f j = true → nk_V H S ch R j e' = nk_V H S ch R j e) → nk_J w1 H S ch R (fun j => j == 4 || f j) e' w' → K (a.put nk_o4.dst v) w')) :
    if Region.wanted nk_o4 (yielded nk_O a.tmps) = true then Oper.wp Tryz.prog nk_o4 a w K Q else K (a.put nk_o4.dst undef) w := by
  unfold nk_o4 at hdep hK ⊢
  obtain ⟨hB, hn⟩ := hJ
  have v1 := (hFr.old 1 (nk_no (by decide))).trans h1
  replace hB := hid hB
  replace hn := hid hn
  replace hC := hid hC
  replace hQ := hid hQ
  clear hdep hFr h4 h1
  go_simp
  exact hK.out _ e _ rfl (fun _ _ => rfl) ⟨hB.out, hn.out⟩
set_option maxRecDepth 100000 in
set_option maxHeartbeats 2000000 in
theorem nk_s5 (A : Act) (w1 : World) (Q : Exit → Act → World → Prop) (H S : Nat) (ch : List PanicEntry) (R : World → World → Prop) 
    (h4 : A.tmps.getD 4 undef = .pointer (some ⟨H, 0, none⟩)) (h1 : A.tmps.getD 1 undef = .pointer (some ⟨S, 0, none⟩)) (hC : ∀ W, Below w1.heap.size w1 W → Calls Tryz.prog 74 #[.pointer (some ⟨H, 0, none⟩), .pointer (some ⟨S, 0, none⟩), .pointer (some ⟨S, 14, none⟩)] W fun r w' => r = .panicked ch ∧ R W w') (hQ : ∀ a W w', a.defers = A.defers → (∀ s, ([17, 18, 19, 20, 21, 22, 23, 24] : List Nat).contains s = false → a.tmps.getD s undef = A.tmps.getD s undef) → Below w1.heap.size w1 W → R W w' → Q (.panic ch) a w')
    (f : Nat → Bool) (e : Unit) (a : Act) (w : World) (hun : f 5 = false) (hdep : ∀ d ∈ nk_o5.after, Region.binds .any d = true → f d.on = true) (hJ : nk_J w1 H S ch R f e w) (hFr : Fr nk_O A f (fun j => nk_V H S ch R j e) a)
    (K : Act → World → Prop) (hK : Hid (∀ v e' w', v = nk_V H S ch R 5 e' → (∀ j, f j = true → nk_V H S ch R j e' = nk_V H S ch R j e) → nk_J w1 H S ch R (fun j => j == 5 || f j) e' w' → K (a.put nk_o5.dst v) w')) :
    if Region.wanted nk_o5 (yielded nk_O a.tmps) = true then Oper.wp Tryz.prog nk_o5 a w K Q else K (a.put nk_o5.dst undef) w := by
  unfold nk_o5 at hdep hK ⊢
  obtain ⟨hB, hn⟩ := hJ
  have k4 : f 4 = true := hdep { on := 4, ground := .data } (by simp) rfl
  have v21 : a.tmps.getD 21 undef = .pointer (some ⟨S, 0, none⟩) := hFr.new 4 21 rfl k4
  replace hB := hid hB
  replace hn := hid hn
  replace hC := hid hC
  replace hQ := hid hQ
  clear hdep hFr h4 h1
  go_simp
  exact hK.out _ e _ rfl (fun _ _ => rfl) ⟨hB.out, hn.out⟩
set_option maxRecDepth 100000 in
set_option maxHeartbeats 2000000 in
theorem nk_s6 (A : Act) (w1 : World) (Q : Exit → Act → World → Prop) (H S : Nat) (ch : List PanicEntry) (R : World → World → Prop) 
    (h4 : A.tmps.getD 4 undef = .pointer (some ⟨H, 0, none⟩)) (h1 : A.tmps.getD 1 undef = .pointer (some ⟨S, 0, none⟩)) (hC : ∀ W, Below w1.heap.size w1 W → Calls Tryz.prog 74 #[.pointer (some ⟨H, 0, none⟩), .pointer (some ⟨S, 0, none⟩), .pointer (some ⟨S, 14, none⟩)] W fun r w' => r = .panicked ch ∧ R W w') (hQ : ∀ a W w', a.defers = A.defers → (∀ s, ([17, 18, 19, 20, 21, 22, 23, 24] : List Nat).contains s = false → a.tmps.getD s undef = A.tmps.getD s undef) → Below w1.heap.size w1 W → R W w' → Q (.panic ch) a w')
    (f : Nat → Bool) (e : Unit) (a : Act) (w : World) (hun : f 6 = false) (hdep : ∀ d ∈ nk_o6.after, Region.binds .any d = true → f d.on = true) (hJ : nk_J w1 H S ch R f e w) (hFr : Fr nk_O A f (fun j => nk_V H S ch R j e) a)
    (K : Act → World → Prop) (hK : Hid (∀ v e' w', v = nk_V H S ch R 6 e' → (∀ j, f j = true → nk_V H S ch R j e' = nk_V H S ch R j e) → nk_J w1 H S ch R (fun j => j == 6 || f j) e' w' → K (a.put nk_o6.dst v) w')) :
    if Region.wanted nk_o6 (yielded nk_O a.tmps) = true then Oper.wp Tryz.prog nk_o6 a w K Q else K (a.put nk_o6.dst undef) w := by
  unfold nk_o6 at hdep hK ⊢
  obtain ⟨hB, hn⟩ := hJ
  have k5 : f 5 = true := hdep { on := 5, ground := .data } (by simp) rfl
  have v22 : a.tmps.getD 22 undef = .pointer (some ⟨S, 0, none⟩) := hFr.new 5 22 rfl k5
  replace hB := hid hB
  replace hn := hid hn
  replace hC := hid hC
  replace hQ := hid hQ
  clear hdep hFr h4 h1
  go_simp
  exact hK.out _ e _ rfl (fun _ _ => rfl) ⟨hB.out, hn.out⟩
set_option maxRecDepth 100000 in
set_option maxHeartbeats 2000000 in
theorem nk_s7 (A : Act) (w1 : World) (Q : Exit → Act → World → Prop) (H S : Nat) (ch : List PanicEntry) (R : World → World → Prop) 
    (h4 : A.tmps.getD 4 undef = .pointer (some ⟨H, 0, none⟩)) (h1 : A.tmps.getD 1 undef = .pointer (some ⟨S, 0, none⟩)) (hC : ∀ W, Below w1.heap.size w1 W → Calls Tryz.prog 74 #[.pointer (some ⟨H, 0, none⟩), .pointer (some ⟨S, 0, none⟩), .pointer (some ⟨S, 14, none⟩)] W fun r w' => r = .panicked ch ∧ R W w') (hQ : ∀ a W w', a.defers = A.defers → (∀ s, ([17, 18, 19, 20, 21, 22, 23, 24] : List Nat).contains s = false → a.tmps.getD s undef = A.tmps.getD s undef) → Below w1.heap.size w1 W → R W w' → Q (.panic ch) a w')
    (f : Nat → Bool) (e : Unit) (a : Act) (w : World) (hun : f 7 = false) (hdep : ∀ d ∈ nk_o7.after, Region.binds .any d = true → f d.on = true) (hJ : nk_J w1 H S ch R f e w) (hFr : Fr nk_O A f (fun j => nk_V H S ch R j e) a)
    (K : Act → World → Prop) (hK : Hid (∀ v e' w', v = nk_V H S ch R 7 e' → (∀ j, f j = true → nk_V H S ch R j e' = nk_V H S ch R j e) → nk_J w1 H S ch R (fun j => j == 7 || f j) e' w' → K (a.put nk_o7.dst v) w')) :
    if Region.wanted nk_o7 (yielded nk_O a.tmps) = true then Oper.wp Tryz.prog nk_o7 a w K Q else K (a.put nk_o7.dst undef) w := by
  unfold nk_o7 at hdep hK ⊢
  obtain ⟨hB, hn⟩ := hJ
  have k0 : f 0 = true := hdep { on := 0, ground := .data } (by simp) rfl
  have v17 : a.tmps.getD 17 undef = .pointer (some ⟨H, 0, none⟩) := hFr.new 0 17 rfl k0
  have k3 : f 3 = true := hdep { on := 3, ground := .data } (by simp) rfl
  have v20 : a.tmps.getD 20 undef = .pointer (some ⟨S, 0, none⟩) := hFr.new 3 20 rfl k3
  have k6 : f 6 = true := hdep { on := 6, ground := .data } (by simp) rfl
  have v23 : a.tmps.getD 23 undef = .pointer (some ⟨S, 14, none⟩) := hFr.new 6 23 rfl k6
  have hdf := hid hFr.defers
  have hol := hid (fun s hs => hFr.old s (nk_no hs))
  replace hB := hid hB
  replace hn := hid hn
  replace hC := hid hC
  replace hQ := hid hQ
  clear hdep hFr h4 h1
  go_simp
  go_at_call 74
  refine (hC.out _ hB.out).mono ?_
  rintro r w' ⟨rfl, hr⟩
  exact hQ.out _ _ _ hdf.out hol.out hB.out hr
set_option maxRecDepth 100000 in
set_option maxHeartbeats 4000000 in
theorem nk_reg (A : Act) (w1 : World) (Q : Exit → Act → World → Prop) (H S : Nat) (ch : List PanicEntry) (R : World → World → Prop) 
    (h4 : A.tmps.getD 4 undef = .pointer (some ⟨H, 0, none⟩)) (h1 : A.tmps.getD 1 undef = .pointer (some ⟨S, 0, none⟩)) (hC : ∀ W, Below w1.heap.size w1 W → Calls Tryz.prog 74 #[.pointer (some ⟨H, 0, none⟩), .pointer (some ⟨S, 0, none⟩), .pointer (some ⟨S, 14, none⟩)] W fun r w' => r = .panicked ch ∧ R W w') (hQ : ∀ a W w', a.defers = A.defers → (∀ s, ([17, 18, 19, 20, 21, 22, 23, 24] : List Nat).contains s = false → a.tmps.getD s undef = A.tmps.getD s undef) → Below w1.heap.size w1 W → R W w' → Q (.panic ch) a w') (hN : 25 ≤ A.tmps.size)
    (h : ∀ (w : World) (e : Unit), False → Q .normal (putsA A [(17, .pointer (some ⟨H, 0, none⟩)), (18, .pointer (some ⟨S, 0, none⟩)), (19, .pointer (some ⟨S, 0, none⟩)), (20, .pointer (some ⟨S, 0, none⟩)), (21, .pointer (some ⟨S, 0, none⟩)), (22, .pointer (some ⟨S, 0, none⟩)), (23, .pointer (some ⟨S, 14, none⟩)), (24, .tuple #[])]) w) :
    (Code.region 3 #[({ dst := some 17, op := Op.move (Operand.tmp 4), type := 50, pos := "l13_snap.go:152", after := #[], guard := none } : Oper), ({ dst := some 18, op := Op.move (Operand.tmp 1), type := 87, pos := "l13_snap.go:152", after := #[], guard := none } : Oper), ({ dst := some 19, op := Op.nilCheck (Operand.tmp 18), type := 0, pos := "l13_snap.go:152", after := #[{ on := 1, ground := Ground.data }], guard := none } : Oper), ({ dst := some 20, op := Op.fieldAddr 33 (Operand.tmp 19) 0, type := 0, pos := "l13_snap.go:152", after := #[{ on := 2, ground := Ground.data }], guard := none } : Oper), ({ dst := some 21, op := Op.move (Operand.tmp 1), type := 87, pos := "l13_snap.go:152", after := #[], guard := none } : Oper), ({ dst := some 22, op := Op.nilCheck (Operand.tmp 21), type := 0, pos := "l13_snap.go:152", after := #[{ on := 4, ground := Ground.data }], guard := none } : Oper), ({ dst := some 23, op := Op.fieldAddr 33 (Operand.tmp 22) 1, type := 0, pos := "l13_snap.go:152", after := #[{ on := 5, ground := Ground.data }], guard := none } : Oper), ({ dst := some 24, op := Op.call { callee := Callee.value (Operand.func 74), args := #[Operand.tmp 17, Operand.tmp 20, Operand.tmp 23], argTypes := #[50, 108, 110] }, type := 0, pos := "l13_snap.go:152", after := #[{ on := 0, ground := Ground.data }, { on := 3, ground := Ground.data }, { on := 6, ground := Ground.data }], guard := none } : Oper)] true).wp Tryz.prog Q A w1 := by
  show (Code.region 3 nk_O true).wp Tryz.prog Q A w1
  refine wp_region_slots (E := Unit) (nk_V H S ch R) (nk_J w1 H S ch R) (by kernel_rfl) (by kernel_rfl) (by kernel_rfl) (fun i s hi => ?_) ?_ () ⟨(Below.refl _ _).drew, rfl⟩ ?_
  · cases hc : ([17, 18, 19, 20, 21, 22, 23, 24] : List Nat).contains s
    · exact absurd hi (nk_no hc i)
    · have : s ∈ ([17, 18, 19, 20, 21, 22, 23, 24] : List Nat) := by simpa using hc
      simp only [List.mem_cons, List.not_mem_nil, or_false] at this
      omega
  · intro f e a w i o hi ho hun hdep hJ hFr K hK
    have hi8 : i < 8 := hi
    rcases (by omega : i = 0 ∨ i = 1 ∨ i = 2 ∨ i = 3 ∨ i = 4 ∨ i = 5 ∨ i = 6 ∨ i = 7) with rfl | rfl | rfl | rfl | rfl | rfl | rfl | rfl
    · obtain rfl := Option.some.inj ho
      exact nk_s0 A w1 Q H S ch R h4 h1 hC hQ f e a w hun hdep hJ hFr K hK
    · obtain rfl := Option.some.inj ho
      exact nk_s1 A w1 Q H S ch R h4 h1 hC hQ f e a w hun hdep hJ hFr K hK
    · obtain rfl := Option.some.inj ho
      exact nk_s2 A w1 Q H S ch R h4 h1 hC hQ f e a w hun hdep hJ hFr K hK
    · obtain rfl := Option.some.inj ho
      exact nk_s3 A w1 Q H S ch R h4 h1 hC hQ f e a w hun hdep hJ hFr K hK
    · obtain rfl := Option.some.inj ho
      exact nk_s4 A w1 Q H S ch R h4 h1 hC hQ f e a w hun hdep hJ hFr K hK
    · obtain rfl := Option.some.inj ho
      exact nk_s5 A w1 Q H S ch R h4 h1 hC hQ f e a w hun hdep hJ hFr K hK
    · obtain rfl := Option.some.inj ho
      exact nk_s6 A w1 Q H S ch R h4 h1 hC hQ f e a w hun hdep hJ hFr K hK
    · obtain rfl := Option.some.inj ho
      exact nk_s7 A w1 Q H S ch R h4 h1 hC hQ f e a w hun hdep hJ hFr K hK
  · intro f e a w hall hJ hFr
    have := h w e (by have := hall 7 (by decide); rw [hJ.2] at this; cases this)
    rw [hFr.eq [(17, .pointer (some ⟨H, 0, none⟩)), (18, .pointer (some ⟨S, 0, none⟩)), (19, .pointer (some ⟨S, 0, none⟩)), (20, .pointer (some ⟨S, 0, none⟩)), (21, .pointer (some ⟨S, 0, none⟩)), (22, .pointer (some ⟨S, 0, none⟩)), (23, .pointer (some ⟨S, 14, none⟩)), (24, .tuple #[])] (fun s hs => ?_) (fun i s hi => ?_)]
    · exact this
    · have hne : ∀ k ∈ ([17, 18, 19, 20, 21, 22, 23, 24] : List Nat), k ≠ s := by
        intro k hk e2
        subst e2
        simp only [List.mem_cons, List.not_mem_nil, or_false] at hk
        rcases hk with rfl | rfl | rfl | rfl | rfl | rfl | rfl | rfl
        · exact hs 0 rfl
        · exact hs 1 rfl
        · exact hs 2 rfl
        · exact hs 3 rfl
        · exact hs 4 rfl
        · exact hs 5 rfl
        · exact hs 6 rfl
        · exact hs 7 rfl
      simp only [lookA]
      simp [hne]
    · have hl : i < 8 := by
        rcases Nat.lt_or_ge i 8 with h1 | h1
        · exact h1
        · unfold dstAt at hi
          rw [Array.getElem?_eq_none (by exact h1)] at hi
          cases hi
      refine ⟨hall i hl, ?_⟩
      rcases (by omega : i = 0 ∨ i = 1 ∨ i = 2 ∨ i = 3 ∨ i = 4 ∨ i = 5 ∨ i = 6 ∨ i = 7) with rfl | rfl | rfl | rfl | rfl | rfl | rfl | rfl
      all_goals first
        | (cases hi; rfl)
        | cases hi
def nm_V (B S k cap : Nat) (a0 : Option Addr) (ch : List PanicEntry) (R : World → World → Prop) : Nat → Unit → Value := fun i e => match i with
  | 0 => .pointer (some ⟨S, 14, none⟩)
  | 1 => .pointer (some ⟨S, 15, none⟩)
  | 2 => .slice a0 4 cap
  | 3 => .int .i64 (k : Int)
  | 4 => .pointer (some ⟨B, 0, none⟩)
  | 5 => .tuple #[]
  | 6 => .tuple #[]
  | _ => undef
def nm_J (w1 : World) (B S k cap : Nat) (a0 : Option Addr) (ch : List PanicEntry) (R : World → World → Prop) (f : Nat → Bool) (e : Unit) (w : World) : Prop :=
  Below w1.heap.size w1 w ∧ f 5 = false
def nm_o0 : Oper := ({ dst := some 21, op := Op.fieldAddr 33 (Operand.tmp 4) 1, type := 0, pos := "l13_snap.go:179", after := #[], guard := none } : Oper)
def nm_o1 : Oper := ({ dst := some 22, op := Op.fieldAddr 29 (Operand.tmp 21) 1, type := 0, pos := "l13_snap.go:179", after := #[{ on := 0, ground := Ground.data }], guard := none } : Oper)
def nm_o2 : Oper := ({ dst := some 23, op := Op.load 27 (Operand.tmp 22), type := 27, pos := "l13_snap.go:179", after := #[{ on := 1, ground := Ground.data }], guard := none } : Oper)
def nm_o3 : Oper := ({ dst := some 24, op := Op.move (Operand.tmp 6), type := 3, pos := "l13_snap.go:179", after := #[], guard := none } : Oper)
def nm_o4 : Oper := ({ dst := some 25, op := Op.move (Operand.tmp 0), type := 50, pos := "l13_snap.go:179", after := #[], guard := none } : Oper)
def nm_o5 : Oper := ({ dst := some 26, op := Op.call { callee := Callee.value (Operand.func 44), args := #[Operand.tmp 25], argTypes := #[50] }, type := 26, pos := "l13_snap.go:179", after := #[{ on := 4, ground := Ground.data }], guard := none } : Oper)
def nm_o6 : Oper := ({ dst := some 27, op := Op.indexAddr 27 (Operand.tmp 23) (Operand.tmp 24), type := 0, pos := "l13_snap.go:179", after := #[{ on := 2, ground := Ground.data }, { on := 3, ground := Ground.data }, { on := 0, ground := Ground.phase }, { on := 1, ground := Ground.phase }, { on := 2, ground := Ground.phase }, { on := 3, ground := Ground.phase }, { on := 4, ground := Ground.phase }, { on := 5, ground := Ground.phase }], guard := none } : Oper)
def nm_o7 : Oper := ({ dst := none, op := Op.store 26 (Operand.tmp 27) (Operand.tmp 26), type := 0, pos := "l13_snap.go:179", after := #[{ on := 6, ground := Ground.data }, { on := 5, ground := Ground.data }, { on := 5, ground := Ground.chain }, { on := 0, ground := Ground.phase }, { on := 1, ground := Ground.phase }, { on := 2, ground := Ground.phase }, { on := 3, ground := Ground.phase }, { on := 4, ground := Ground.phase }, { on := 5, ground := Ground.phase }], guard := none } : Oper)
def nm_O : Array Oper := #[nm_o0, nm_o1, nm_o2, nm_o3, nm_o4, nm_o5, nm_o6, nm_o7]
theorem nm_no {s : Nat} (h : ([21, 22, 23, 24, 25, 26, 27] : List Nat).contains s = false) : ∀ i, dstAt nm_O i ≠ some s := by
  intro i hi
  have hl : i < 8 := by
    rcases Nat.lt_or_ge i 8 with h1 | h1
    · exact h1
    · unfold dstAt at hi
      rw [Array.getElem?_eq_none (by exact h1)] at hi
      cases hi
  rcases (by omega : i = 0 ∨ i = 1 ∨ i = 2 ∨ i = 3 ∨ i = 4 ∨ i = 5 ∨ i = 6 ∨ i = 7) with rfl | rfl | rfl | rfl | rfl | rfl | rfl | rfl
  all_goals first
    | (cases hi; simp at h)
    | cases hi
set_option maxRecDepth 100000 in
set_option maxHeartbeats 2000000 in
theorem nm_s0 (A : Act) (w1 : World) (Q : Exit → Act → World → Prop) (B S k cap : Nat) (a0 : Option Addr) (ch : List PanicEntry) (R : World → World → Prop) 
    (h4 : A.tmps.getD 4 undef = .pointer (some ⟨S, 0, none⟩)) (h6 : A.tmps.getD 6 undef = .int .i64 (k : Int)) (h0 : A.tmps.getD 0 undef = .pointer (some ⟨B, 0, none⟩)) (x15 : ∀ W, Below w1.heap.size w1 W → W.cell? ⟨S, 15, none⟩ = some (.slice a0 4 cap)) (hC : ∀ W, Below w1.heap.size w1 W → Calls Tryz.prog 44 #[.pointer (some ⟨B, 0, none⟩)] W fun r w' => r = .panicked ch ∧ R W w') (hQ : ∀ a W w', a.defers = A.defers → (∀ s, ([21, 22, 23, 24, 25, 26, 27] : List Nat).contains s = false → a.tmps.getD s undef = A.tmps.getD s undef) → Below w1.heap.size w1 W → R W w' → Q (.panic ch) a w')
    (f : Nat → Bool) (e : Unit) (a : Act) (w : World) (hun : f 0 = false) (hdep : ∀ d ∈ nm_o0.after, Region.binds .any d = true → f d.on = true) (hJ : nm_J w1 B S k cap a0 ch R f e w) (hFr : Fr nm_O A f (fun j => nm_V B S k cap a0 ch R j e) a)
    (K : Act → World → Prop) (hK : Hid (∀ v e' w', v = nm_V B S k cap a0 ch R 0 e' → (∀ j, f j = true → nm_V B S k cap a0 ch R j e' = nm_V B S k cap a0 ch R j e) → nm_J w1 B S k cap a0 ch R (fun j => j == 0 || f j) e' w' → K (a.put nm_o0.dst v) w')) :
    if Region.wanted nm_o0 (yielded nm_O a.tmps) = true then Oper.wp Tryz.prog nm_o0 a w K Q else K (a.put nm_o0.dst undef) w := by
  unfold nm_o0 at hdep hK ⊢
  obtain ⟨hB, hn⟩ := hJ
  have v4 := (hFr.old 4 (nm_no (by decide))).trans h4
  replace hB := hid hB
  replace hn := hid hn
  replace hC := hid hC
  replace hQ := hid hQ
  clear hdep hFr h4 h6 h0
  go_simp
  exact hK.out _ e _ rfl (fun _ _ => rfl) ⟨hB.out, hn.out⟩
set_option maxRecDepth 100000 in
set_option maxHeartbeats 2000000 in
theorem nm_s1 (A : Act) (w1 : World) (Q : Exit → Act → World → Prop) (B S k cap : Nat) (a0 : Option Addr) (ch : List PanicEntry) (R : World → World → Prop) 
    (h4 : A.tmps.getD 4 undef = .pointer (some ⟨S, 0, none⟩)) (h6 : A.tmps.getD 6 undef = .int .i64 (k : Int)) (h0 : A.tmps.getD 0 undef = .pointer (some ⟨B, 0, none⟩)) (x15 : ∀ W, Below w1.heap.size w1 W → W.cell? ⟨S, 15, none⟩ = some (.slice a0 4 cap)) (hC : ∀ W, Below w1.heap.size w1 W → Calls Tryz.prog 44 #[.pointer (some ⟨B, 0, none⟩)] W fun r w' => r = .panicked ch ∧ R W w') (hQ : ∀ a W w', a.defers = A.defers → (∀ s, ([21, 22, 23, 24, 25, 26, 27] : List Nat).contains s = false → a.tmps.getD s undef = A.tmps.getD s undef) → Below w1.heap.size w1 W → R W w' → Q (.panic ch) a w')
    (f : Nat → Bool) (e : Unit) (a : Act) (w : World) (hun : f 1 = false) (hdep : ∀ d ∈ nm_o1.after, Region.binds .any d = true → f d.on = true) (hJ : nm_J w1 B S k cap a0 ch R f e w) (hFr : Fr nm_O A f (fun j => nm_V B S k cap a0 ch R j e) a)
    (K : Act → World → Prop) (hK : Hid (∀ v e' w', v = nm_V B S k cap a0 ch R 1 e' → (∀ j, f j = true → nm_V B S k cap a0 ch R j e' = nm_V B S k cap a0 ch R j e) → nm_J w1 B S k cap a0 ch R (fun j => j == 1 || f j) e' w' → K (a.put nm_o1.dst v) w')) :
    if Region.wanted nm_o1 (yielded nm_O a.tmps) = true then Oper.wp Tryz.prog nm_o1 a w K Q else K (a.put nm_o1.dst undef) w := by
  unfold nm_o1 at hdep hK ⊢
  obtain ⟨hB, hn⟩ := hJ
  have k0 : f 0 = true := hdep { on := 0, ground := .data } (by simp) rfl
  have v21 : a.tmps.getD 21 undef = .pointer (some ⟨S, 14, none⟩) := hFr.new 0 21 rfl k0
  replace hB := hid hB
  replace hn := hid hn
  replace hC := hid hC
  replace hQ := hid hQ
  clear hdep hFr h4 h6 h0
  go_simp
  exact hK.out _ e _ rfl (fun _ _ => rfl) ⟨hB.out, hn.out⟩
set_option maxRecDepth 100000 in
set_option maxHeartbeats 2000000 in
theorem nm_s2 (A : Act) (w1 : World) (Q : Exit → Act → World → Prop) (B S k cap : Nat) (a0 : Option Addr) (ch : List PanicEntry) (R : World → World → Prop) 
    (h4 : A.tmps.getD 4 undef = .pointer (some ⟨S, 0, none⟩)) (h6 : A.tmps.getD 6 undef = .int .i64 (k : Int)) (h0 : A.tmps.getD 0 undef = .pointer (some ⟨B, 0, none⟩)) (x15 : ∀ W, Below w1.heap.size w1 W → W.cell? ⟨S, 15, none⟩ = some (.slice a0 4 cap)) (hC : ∀ W, Below w1.heap.size w1 W → Calls Tryz.prog 44 #[.pointer (some ⟨B, 0, none⟩)] W fun r w' => r = .panicked ch ∧ R W w') (hQ : ∀ a W w', a.defers = A.defers → (∀ s, ([21, 22, 23, 24, 25, 26, 27] : List Nat).contains s = false → a.tmps.getD s undef = A.tmps.getD s undef) → Below w1.heap.size w1 W → R W w' → Q (.panic ch) a w')
    (f : Nat → Bool) (e : Unit) (a : Act) (w : World) (hun : f 2 = false) (hdep : ∀ d ∈ nm_o2.after, Region.binds .any d = true → f d.on = true) (hJ : nm_J w1 B S k cap a0 ch R f e w) (hFr : Fr nm_O A f (fun j => nm_V B S k cap a0 ch R j e) a)
    (K : Act → World → Prop) (hK : Hid (∀ v e' w', v = nm_V B S k cap a0 ch R 2 e' → (∀ j, f j = true → nm_V B S k cap a0 ch R j e' = nm_V B S k cap a0 ch R j e) → nm_J w1 B S k cap a0 ch R (fun j => j == 2 || f j) e' w' → K (a.put nm_o2.dst v) w')) :
    if Region.wanted nm_o2 (yielded nm_O a.tmps) = true then Oper.wp Tryz.prog nm_o2 a w K Q else K (a.put nm_o2.dst undef) w := by
  unfold nm_o2 at hdep hK ⊢
  obtain ⟨hB, hn⟩ := hJ
  have k1 : f 1 = true := hdep { on := 1, ground := .data } (by simp) rfl
  have v22 : a.tmps.getD 22 undef = .pointer (some ⟨S, 15, none⟩) := hFr.new 1 22 rfl k1
  have y := x15 w hB
  replace hB := hid hB
  replace hn := hid hn
  replace hC := hid hC
  replace hQ := hid hQ
  clear hdep hFr h4 h6 h0
  go_simp
  exact hK.out _ e _ rfl (fun _ _ => rfl) ⟨hB.out, hn.out⟩
set_option maxRecDepth 100000 in
set_option maxHeartbeats 2000000 in
theorem nm_s3 (A : Act) (w1 : World) (Q : Exit → Act → World → Prop) (B S k cap : Nat) (a0 : Option Addr) (ch : List PanicEntry) (R : World → World → Prop) 
    (h4 : A.tmps.getD 4 undef = .pointer (some ⟨S, 0, none⟩)) (h6 : A.tmps.getD 6 undef = .int .i64 (k : Int)) (h0 : A.tmps.getD 0 undef = .pointer (some ⟨B, 0, none⟩)) (x15 : ∀ W, Below w1.heap.size w1 W → W.cell? ⟨S, 15, none⟩ = some (.slice a0 4 cap)) (hC : ∀ W, Below w1.heap.size w1 W → Calls Tryz.prog 44 #[.pointer (some ⟨B, 0, none⟩)] W fun r w' => r = .panicked ch ∧ R W w') (hQ : ∀ a W w', a.defers = A.defers → (∀ s, ([21, 22, 23, 24, 25, 26, 27] : List Nat).contains s = false → a.tmps.getD s undef = A.tmps.getD s undef) → Below w1.heap.size w1 W → R W w' → Q (.panic ch) a w')
    (f : Nat → Bool) (e : Unit) (a : Act) (w : World) (hun : f 3 = false) (hdep : ∀ d ∈ nm_o3.after, Region.binds .any d = true → f d.on = true) (hJ : nm_J w1 B S k cap a0 ch R f e w) (hFr : Fr nm_O A f (fun j => nm_V B S k cap a0 ch R j e) a)
    (K : Act → World → Prop) (hK : Hid (∀ v e' w', v = nm_V B S k cap a0 ch R 3 e' → (∀ j, f j = true → nm_V B S k cap a0 ch R j e' = nm_V B S k cap a0 ch R j e) → nm_J w1 B S k cap a0 ch R (fun j => j == 3 || f j) e' w' → K (a.put nm_o3.dst v) w')) :
    if Region.wanted nm_o3 (yielded nm_O a.tmps) = true then Oper.wp Tryz.prog nm_o3 a w K Q else K (a.put nm_o3.dst undef) w := by
  unfold nm_o3 at hdep hK ⊢
  obtain ⟨hB, hn⟩ := hJ
  have v6 := (hFr.old 6 (nm_no (by decide))).trans h6
  replace hB := hid hB
  replace hn := hid hn
  replace hC := hid hC
  replace hQ := hid hQ
  clear hdep hFr h4 h6 h0
  go_simp
  exact hK.out _ e _ rfl (fun _ _ => rfl) ⟨hB.out, hn.out⟩
set_option maxRecDepth 100000 in
set_option maxHeartbeats 2000000 in
theorem nm_s4 (A : Act) (w1 : World) (Q : Exit → Act → World → Prop) (B S k cap : Nat) (a0 : Option Addr) (ch : List PanicEntry) (R : World → World → Prop) 
    (h4 : A.tmps.getD 4 undef = .pointer (some ⟨S, 0, none⟩)) (h6 : A.tmps.getD 6 undef = .int .i64 (k : Int)) (h0 : A.tmps.getD 0 undef = .pointer (some ⟨B, 0, none⟩)) (x15 : ∀ W, Below w1.heap.size w1 W → W.cell? ⟨S, 15, none⟩ = some (.slice a0 4 cap)) (hC : ∀ W, Below w1.heap.size w1 W → Calls Tryz.prog 44 #[.pointer (some ⟨B, 0, none⟩)] W fun r w' => r = .panicked ch ∧ R W w') (hQ : ∀ a W w', a.defers = A.defers → (∀ s, ([21, 22, 23, 24, 25, 26, 27] : List Nat).contains s = false → a.tmps.getD s undef = A.tmps.getD s undef) → Below w1.heap.size w1 W → R W w' → Q (.panic ch) a w')
    (f : Nat → Bool) (e : Unit) (a : Act) (w : World) (hun : f 4 = false) (hdep : ∀ d ∈ nm_o4.after, Region.binds .any d = true → f d.on = true) (hJ : nm_J w1 B S k cap a0 ch R f e w) (hFr : Fr nm_O A f (fun j => nm_V B S k cap a0 ch R j e) a)
    (K : Act → World → Prop) (hK : Hid (∀ v e' w', v = nm_V B S k cap a0 ch R 4 e' → (∀ j, f j = true → nm_V B S k cap a0 ch R j e' = nm_V B S k cap a0 ch R j e) → nm_J w1 B S k cap a0 ch R (fun j => j == 4 || f j) e' w' → K (a.put nm_o4.dst v) w')) :
    if Region.wanted nm_o4 (yielded nm_O a.tmps) = true then Oper.wp Tryz.prog nm_o4 a w K Q else K (a.put nm_o4.dst undef) w := by
  unfold nm_o4 at hdep hK ⊢
  obtain ⟨hB, hn⟩ := hJ
  have v0 := (hFr.old 0 (nm_no (by decide))).trans h0
  replace hB := hid hB
  replace hn := hid hn
  replace hC := hid hC
  replace hQ := hid hQ
  clear hdep hFr h4 h6 h0
  go_simp
  exact hK.out _ e _ rfl (fun _ _ => rfl) ⟨hB.out, hn.out⟩
set_option maxRecDepth 100000 in
set_option maxHeartbeats 2000000 in
theorem nm_s5 (A : Act) (w1 : World) (Q : Exit → Act → World → Prop) (B S k cap : Nat) (a0 : Option Addr) (ch : List PanicEntry) (R : World → World → Prop) 
    (h4 : A.tmps.getD 4 undef = .pointer (some ⟨S, 0, none⟩)) (h6 : A.tmps.getD 6 undef = .int .i64 (k : Int)) (h0 : A.tmps.getD 0 undef = .pointer (some ⟨B, 0, none⟩)) (x15 : ∀ W, Below w1.heap.size w1 W → W.cell? ⟨S, 15, none⟩ = some (.slice a0 4 cap)) (hC : ∀ W, Below w1.heap.size w1 W → Calls Tryz.prog 44 #[.pointer (some ⟨B, 0, none⟩)] W fun r w' => r = .panicked ch ∧ R W w') (hQ : ∀ a W w', a.defers = A.defers → (∀ s, ([21, 22, 23, 24, 25, 26, 27] : List Nat).contains s = false → a.tmps.getD s undef = A.tmps.getD s undef) → Below w1.heap.size w1 W → R W w' → Q (.panic ch) a w')
    (f : Nat → Bool) (e : Unit) (a : Act) (w : World) (hun : f 5 = false) (hdep : ∀ d ∈ nm_o5.after, Region.binds .any d = true → f d.on = true) (hJ : nm_J w1 B S k cap a0 ch R f e w) (hFr : Fr nm_O A f (fun j => nm_V B S k cap a0 ch R j e) a)
    (K : Act → World → Prop) (hK : Hid (∀ v e' w', v = nm_V B S k cap a0 ch R 5 e' → (∀ j, f j = true → nm_V B S k cap a0 ch R j e' = nm_V B S k cap a0 ch R j e) → nm_J w1 B S k cap a0 ch R (fun j => j == 5 || f j) e' w' → K (a.put nm_o5.dst v) w')) :
    if Region.wanted nm_o5 (yielded nm_O a.tmps) = true then Oper.wp Tryz.prog nm_o5 a w K Q else K (a.put nm_o5.dst undef) w := by
  unfold nm_o5 at hdep hK ⊢
  obtain ⟨hB, hn⟩ := hJ
  have k4 : f 4 = true := hdep { on := 4, ground := .data } (by simp) rfl
  have v25 : a.tmps.getD 25 undef = .pointer (some ⟨B, 0, none⟩) := hFr.new 4 25 rfl k4
  have hdf := hid hFr.defers
  have hol := hid (fun s hs => hFr.old s (nm_no hs))
  replace hB := hid hB
  replace hn := hid hn
  replace hC := hid hC
  replace hQ := hid hQ
  clear hdep hFr h4 h6 h0
  go_simp
  go_at_call 44
  refine (hC.out _ hB.out).mono ?_
  rintro r w' ⟨rfl, hr⟩
  exact hQ.out _ _ _ hdf.out hol.out hB.out hr
set_option maxRecDepth 100000 in
set_option maxHeartbeats 2000000 in
theorem nm_s6 (A : Act) (w1 : World) (Q : Exit → Act → World → Prop) (B S k cap : Nat) (a0 : Option Addr) (ch : List PanicEntry) (R : World → World → Prop) 
    (h4 : A.tmps.getD 4 undef = .pointer (some ⟨S, 0, none⟩)) (h6 : A.tmps.getD 6 undef = .int .i64 (k : Int)) (h0 : A.tmps.getD 0 undef = .pointer (some ⟨B, 0, none⟩)) (x15 : ∀ W, Below w1.heap.size w1 W → W.cell? ⟨S, 15, none⟩ = some (.slice a0 4 cap)) (hC : ∀ W, Below w1.heap.size w1 W → Calls Tryz.prog 44 #[.pointer (some ⟨B, 0, none⟩)] W fun r w' => r = .panicked ch ∧ R W w') (hQ : ∀ a W w', a.defers = A.defers → (∀ s, ([21, 22, 23, 24, 25, 26, 27] : List Nat).contains s = false → a.tmps.getD s undef = A.tmps.getD s undef) → Below w1.heap.size w1 W → R W w' → Q (.panic ch) a w')
    (f : Nat → Bool) (e : Unit) (a : Act) (w : World) (hun : f 6 = false) (hdep : ∀ d ∈ nm_o6.after, Region.binds .any d = true → f d.on = true) (hJ : nm_J w1 B S k cap a0 ch R f e w) (hFr : Fr nm_O A f (fun j => nm_V B S k cap a0 ch R j e) a)
    (K : Act → World → Prop) (hK : Hid (∀ v e' w', v = nm_V B S k cap a0 ch R 6 e' → (∀ j, f j = true → nm_V B S k cap a0 ch R j e' = nm_V B S k cap a0 ch R j e) → nm_J w1 B S k cap a0 ch R (fun j => j == 6 || f j) e' w' → K (a.put nm_o6.dst v) w')) :
    if Region.wanted nm_o6 (yielded nm_O a.tmps) = true then Oper.wp Tryz.prog nm_o6 a w K Q else K (a.put nm_o6.dst undef) w := by
  unfold nm_o6 at hdep hK ⊢
  obtain ⟨hB, hn⟩ := hJ
  have k5 : f 5 = true := hdep { on := 5, ground := .phase } (by simp) rfl
  rw [hn] at k5
  cases k5
set_option maxRecDepth 100000 in
set_option maxHeartbeats 2000000 in
theorem nm_s7 (A : Act) (w1 : World) (Q : Exit → Act → World → Prop) (B S k cap : Nat) (a0 : Option Addr) (ch : List PanicEntry) (R : World → World → Prop) 
    (h4 : A.tmps.getD 4 undef = .pointer (some ⟨S, 0, none⟩)) (h6 : A.tmps.getD 6 undef = .int .i64 (k : Int)) (h0 : A.tmps.getD 0 undef = .pointer (some ⟨B, 0, none⟩)) (x15 : ∀ W, Below w1.heap.size w1 W → W.cell? ⟨S, 15, none⟩ = some (.slice a0 4 cap)) (hC : ∀ W, Below w1.heap.size w1 W → Calls Tryz.prog 44 #[.pointer (some ⟨B, 0, none⟩)] W fun r w' => r = .panicked ch ∧ R W w') (hQ : ∀ a W w', a.defers = A.defers → (∀ s, ([21, 22, 23, 24, 25, 26, 27] : List Nat).contains s = false → a.tmps.getD s undef = A.tmps.getD s undef) → Below w1.heap.size w1 W → R W w' → Q (.panic ch) a w')
    (f : Nat → Bool) (e : Unit) (a : Act) (w : World) (hun : f 7 = false) (hdep : ∀ d ∈ nm_o7.after, Region.binds .any d = true → f d.on = true) (hJ : nm_J w1 B S k cap a0 ch R f e w) (hFr : Fr nm_O A f (fun j => nm_V B S k cap a0 ch R j e) a)
    (K : Act → World → Prop) (hK : Hid (∀ v e' w', v = nm_V B S k cap a0 ch R 7 e' → (∀ j, f j = true → nm_V B S k cap a0 ch R j e' = nm_V B S k cap a0 ch R j e) → nm_J w1 B S k cap a0 ch R (fun j => j == 7 || f j) e' w' → K (a.put nm_o7.dst v) w')) :
    if Region.wanted nm_o7 (yielded nm_O a.tmps) = true then Oper.wp Tryz.prog nm_o7 a w K Q else K (a.put nm_o7.dst undef) w := by
  unfold nm_o7 at hdep hK ⊢
  obtain ⟨hB, hn⟩ := hJ
  have k5 : f 5 = true := hdep { on := 5, ground := .phase } (by simp) rfl
  rw [hn] at k5
  cases k5
set_option maxRecDepth 100000 in
set_option maxHeartbeats 4000000 in
theorem nm_reg (A : Act) (w1 : World) (Q : Exit → Act → World → Prop) (B S k cap : Nat) (a0 : Option Addr) (ch : List PanicEntry) (R : World → World → Prop) 
    (h4 : A.tmps.getD 4 undef = .pointer (some ⟨S, 0, none⟩)) (h6 : A.tmps.getD 6 undef = .int .i64 (k : Int)) (h0 : A.tmps.getD 0 undef = .pointer (some ⟨B, 0, none⟩)) (x15 : ∀ W, Below w1.heap.size w1 W → W.cell? ⟨S, 15, none⟩ = some (.slice a0 4 cap)) (hC : ∀ W, Below w1.heap.size w1 W → Calls Tryz.prog 44 #[.pointer (some ⟨B, 0, none⟩)] W fun r w' => r = .panicked ch ∧ R W w') (hQ : ∀ a W w', a.defers = A.defers → (∀ s, ([21, 22, 23, 24, 25, 26, 27] : List Nat).contains s = false → a.tmps.getD s undef = A.tmps.getD s undef) → Below w1.heap.size w1 W → R W w' → Q (.panic ch) a w') (hN : 28 ≤ A.tmps.size)
    (h : ∀ (w : World) (e : Unit), False → Q .normal (putsA A [(21, .pointer (some ⟨S, 14, none⟩)), (22, .pointer (some ⟨S, 15, none⟩)), (23, .slice a0 4 cap), (24, .int .i64 (k : Int)), (25, .pointer (some ⟨B, 0, none⟩)), (26, .tuple #[]), (27, .tuple #[])]) w) :
    (Code.region 7 #[({ dst := some 21, op := Op.fieldAddr 33 (Operand.tmp 4) 1, type := 0, pos := "l13_snap.go:179", after := #[], guard := none } : Oper), ({ dst := some 22, op := Op.fieldAddr 29 (Operand.tmp 21) 1, type := 0, pos := "l13_snap.go:179", after := #[{ on := 0, ground := Ground.data }], guard := none } : Oper), ({ dst := some 23, op := Op.load 27 (Operand.tmp 22), type := 27, pos := "l13_snap.go:179", after := #[{ on := 1, ground := Ground.data }], guard := none } : Oper), ({ dst := some 24, op := Op.move (Operand.tmp 6), type := 3, pos := "l13_snap.go:179", after := #[], guard := none } : Oper), ({ dst := some 25, op := Op.move (Operand.tmp 0), type := 50, pos := "l13_snap.go:179", after := #[], guard := none } : Oper), ({ dst := some 26, op := Op.call { callee := Callee.value (Operand.func 44), args := #[Operand.tmp 25], argTypes := #[50] }, type := 26, pos := "l13_snap.go:179", after := #[{ on := 4, ground := Ground.data }], guard := none } : Oper), ({ dst := some 27, op := Op.indexAddr 27 (Operand.tmp 23) (Operand.tmp 24), type := 0, pos := "l13_snap.go:179", after := #[{ on := 2, ground := Ground.data }, { on := 3, ground := Ground.data }, { on := 0, ground := Ground.phase }, { on := 1, ground := Ground.phase }, { on := 2, ground := Ground.phase }, { on := 3, ground := Ground.phase }, { on := 4, ground := Ground.phase }, { on := 5, ground := Ground.phase }], guard := none } : Oper), ({ dst := none, op := Op.store 26 (Operand.tmp 27) (Operand.tmp 26), type := 0, pos := "l13_snap.go:179", after := #[{ on := 6, ground := Ground.data }, { on := 5, ground := Ground.data }, { on := 5, ground := Ground.chain }, { on := 0, ground := Ground.phase }, { on := 1, ground := Ground.phase }, { on := 2, ground := Ground.phase }, { on := 3, ground := Ground.phase }, { on := 4, ground := Ground.phase }, { on := 5, ground := Ground.phase }], guard := none } : Oper)] true).wp Tryz.prog Q A w1 := by
  show (Code.region 7 nm_O true).wp Tryz.prog Q A w1
  refine wp_region_slots (E := Unit) (nm_V B S k cap a0 ch R) (nm_J w1 B S k cap a0 ch R) (by kernel_rfl) (by kernel_rfl) (by kernel_rfl) (fun i s hi => ?_) ?_ () ⟨(Below.refl _ _).drew, rfl⟩ ?_
  · cases hc : ([21, 22, 23, 24, 25, 26, 27] : List Nat).contains s
    · exact absurd hi (nm_no hc i)
    · have : s ∈ ([21, 22, 23, 24, 25, 26, 27] : List Nat) := by simpa using hc
      simp only [List.mem_cons, List.not_mem_nil, or_false] at this
      omega
  · intro f e a w i o hi ho hun hdep hJ hFr K hK
    have hi8 : i < 8 := hi
    rcases (by omega : i = 0 ∨ i = 1 ∨ i = 2 ∨ i = 3 ∨ i = 4 ∨ i = 5 ∨ i = 6 ∨ i = 7) with rfl | rfl | rfl | rfl | rfl | rfl | rfl | rfl
    · obtain rfl := Option.some.inj ho
      exact nm_s0 A w1 Q B S k cap a0 ch R h4 h6 h0 x15 hC hQ f e a w hun hdep hJ hFr K hK
    · obtain rfl := Option.some.inj ho
      exact nm_s1 A w1 Q B S k cap a0 ch R h4 h6 h0 x15 hC hQ f e a w hun hdep hJ hFr K hK
    · obtain rfl := Option.some.inj ho
      exact nm_s2 A w1 Q B S k cap a0 ch R h4 h6 h0 x15 hC hQ f e a w hun hdep hJ hFr K hK
    · obtain rfl := Option.some.inj ho
      exact nm_s3 A w1 Q B S k cap a0 ch R h4 h6 h0 x15 hC hQ f e a w hun hdep hJ hFr K hK
    · obtain rfl := Option.some.inj ho
      exact nm_s4 A w1 Q B S k cap a0 ch R h4 h6 h0 x15 hC hQ f e a w hun hdep hJ hFr K hK
    · obtain rfl := Option.some.inj ho
      exact nm_s5 A w1 Q B S k cap a0 ch R h4 h6 h0 x15 hC hQ f e a w hun hdep hJ hFr K hK
    · obtain rfl := Option.some.inj ho
      exact nm_s6 A w1 Q B S k cap a0 ch R h4 h6 h0 x15 hC hQ f e a w hun hdep hJ hFr K hK
    · obtain rfl := Option.some.inj ho
      exact nm_s7 A w1 Q B S k cap a0 ch R h4 h6 h0 x15 hC hQ f e a w hun hdep hJ hFr K hK
  · intro f e a w hall hJ hFr
    have := h w e (by have := hall 5 (by decide); rw [hJ.2] at this; cases this)
    rw [hFr.eq [(21, .pointer (some ⟨S, 14, none⟩)), (22, .pointer (some ⟨S, 15, none⟩)), (23, .slice a0 4 cap), (24, .int .i64 (k : Int)), (25, .pointer (some ⟨B, 0, none⟩)), (26, .tuple #[]), (27, .tuple #[])] (fun s hs => ?_) (fun i s hi => ?_)]
    · exact this
    · have hne : ∀ k ∈ ([21, 22, 23, 24, 25, 26, 27] : List Nat), k ≠ s := by
        intro k hk e2
        subst e2
        simp only [List.mem_cons, List.not_mem_nil, or_false] at hk
        rcases hk with rfl | rfl | rfl | rfl | rfl | rfl | rfl
        · exact hs 0 rfl
        · exact hs 1 rfl
        · exact hs 2 rfl
        · exact hs 3 rfl
        · exact hs 4 rfl
        · exact hs 5 rfl
        · exact hs 6 rfl
      simp only [lookA]
      simp [hne]
    · have hl : i < 8 := by
        rcases Nat.lt_or_ge i 8 with h1 | h1
        · exact h1
        · unfold dstAt at hi
          rw [Array.getElem?_eq_none (by exact h1)] at hi
          cases hi
      refine ⟨hall i hl, ?_⟩
      rcases (by omega : i = 0 ∨ i = 1 ∨ i = 2 ∨ i = 3 ∨ i = 4 ∨ i = 5 ∨ i = 6 ∨ i = 7) with rfl | rfl | rfl | rfl | rfl | rfl | rfl | rfl
      all_goals first
        | (cases hi; rfl)
        | cases hi
def ne_V (B k : Nat) (t : ByteArray) (ch : List PanicEntry) (R : World → World → Prop) : Nat → Unit → Value := fun i e => match i with
  | 0 => .pointer (some ⟨B, 0, none⟩)
  | 1 => .pointer (some ⟨B, 0, none⟩)
  | 2 => .pointer (some ⟨B, 0, none⟩)
  | 3 => .pointer (some ⟨B, 0, none⟩)
  | 4 => .pointer (some ⟨B, 1, none⟩)
  | 5 => .int .i64 (k : Int)
  | 6 => .pointer (some ⟨B, 0, none⟩)
  | 7 => .pointer (some ⟨B, 0, none⟩)
  | 8 => .pointer (some ⟨B, 0, none⟩)
  | 9 => .pointer (some ⟨B, 0, none⟩)
  | 10 => .string t
  | 11 => .int .i64 (t.size : Int)
  | 12 => .bool true
  | 13 => .int .i64 8
  | 14 => .tuple #[]
  | _ => undef
def ne_J (w1 : World) (B k : Nat) (t : ByteArray) (ch : List PanicEntry) (R : World → World → Prop) (f : Nat → Bool) (e : Unit) (w : World) : Prop :=
  Below w1.heap.size w1 w ∧ f 14 = false
def ne_o0 : Oper := ({ dst := some 2, op := Op.move (Operand.tmp 0), type := 50, pos := "l13_snap.go:167", after := #[], guard := none } : Oper)
def ne_o1 : Oper := ({ dst := some 3, op := Op.move (Operand.tmp 0), type := 50, pos := "l13_snap.go:167", after := #[], guard := none } : Oper)
def ne_o2 : Oper := ({ dst := some 4, op := Op.nilCheck (Operand.tmp 3), type := 0, pos := "l13_snap.go:167", after := #[{ on := 1, ground := Ground.data }], guard := none } : Oper)
def ne_o3 : Oper := ({ dst := some 5, op := Op.fieldAddr 54 (Operand.tmp 4) 0, type := 0, pos := "l13_snap.go:167", after := #[{ on := 2, ground := Ground.data }], guard := none } : Oper)
def ne_o4 : Oper := ({ dst := some 6, op := Op.fieldAddr 52 (Operand.tmp 5) 1, type := 0, pos := "l13_snap.go:167", after := #[{ on := 3, ground := Ground.data }], guard := none } : Oper)
def ne_o5 : Oper := ({ dst := some 7, op := Op.load 3 (Operand.tmp 6), type := 3, pos := "l13_snap.go:167", after := #[{ on := 4, ground := Ground.data }], guard := none } : Oper)
def ne_o6 : Oper := ({ dst := some 8, op := Op.move (Operand.tmp 0), type := 50, pos := "l13_snap.go:167", after := #[], guard := none } : Oper)
def ne_o7 : Oper := ({ dst := some 9, op := Op.nilCheck (Operand.tmp 8), type := 0, pos := "l13_snap.go:167", after := #[{ on := 6, ground := Ground.data }], guard := none } : Oper)
def ne_o8 : Oper := ({ dst := some 10, op := Op.fieldAddr 54 (Operand.tmp 9) 0, type := 0, pos := "l13_snap.go:167", after := #[{ on := 7, ground := Ground.data }], guard := none } : Oper)
def ne_o9 : Oper := ({ dst := some 11, op := Op.fieldAddr 52 (Operand.tmp 10) 0, type := 0, pos := "l13_snap.go:167", after := #[{ on := 8, ground := Ground.data }], guard := none } : Oper)
def ne_o10 : Oper := ({ dst := some 12, op := Op.load 9 (Operand.tmp 11), type := 9, pos := "l13_snap.go:167", after := #[{ on := 9, ground := Ground.data }], guard := none } : Oper)
def ne_o11 : Oper := ({ dst := some 13, op := Op.call { callee := Callee.builtin Builtin.len, args := #[Operand.tmp 12], argTypes := #[9] }, type := 3, pos := "l13_snap.go:167", after := #[{ on := 10, ground := Ground.data }], guard := none } : Oper)
def ne_o12 : Oper := ({ dst := some 14, op := Op.binOp BinOp.lss 3 (Operand.tmp 7) (Operand.tmp 13) 3, type := 4, pos := "l13_snap.go:167", after := #[{ on := 5, ground := Ground.data }, { on := 11, ground := Ground.data }], guard := none } : Oper)
def ne_o13 : Oper := ({ dst := some 15, op := Op.call { callee := Callee.value (Operand.func 77), args := #[Operand.tmp 14, Operand.const (Value.int IntKind.i64 8)], argTypes := #[4, 3] }, type := 3, pos := "l13_snap.go:167", after := #[{ on := 12, ground := Ground.data }], guard := none } : Oper)
def ne_o14 : Oper := ({ dst := some 16, op := Op.call { callee := Callee.value (Operand.func 70), args := #[Operand.tmp 2, Operand.tmp 15], argTypes := #[50, 3] }, type := 0, pos := "l13_snap.go:167", after := #[{ on := 0, ground := Ground.data }, { on := 13, ground := Ground.data }, { on := 13, ground := Ground.chain }], guard := none } : Oper)
def ne_O : Array Oper := #[ne_o0, ne_o1, ne_o2, ne_o3, ne_o4, ne_o5, ne_o6, ne_o7, ne_o8, ne_o9, ne_o10, ne_o11, ne_o12, ne_o13, ne_o14]
theorem ne_no {s : Nat} (h : ([2, 3, 4, 5, 6, 7, 8, 9, 10, 11, 12, 13, 14, 15, 16] : List Nat).contains s = false) : ∀ i, dstAt ne_O i ≠ some s := by
  intro i hi
  have hl : i < 15 := by
    rcases Nat.lt_or_ge i 15 with h1 | h1
    · exact h1
    · unfold dstAt at hi
      rw [Array.getElem?_eq_none (by exact h1)] at hi
      cases hi
  rcases (by omega : i = 0 ∨ i = 1 ∨ i = 2 ∨ i = 3 ∨ i = 4 ∨ i = 5 ∨ i = 6 ∨ i = 7 ∨ i = 8 ∨ i = 9 ∨ i = 10 ∨ i = 11 ∨ i = 12 ∨ i = 13 ∨ i = 14) with rfl | rfl | rfl | rfl | rfl | rfl | rfl | rfl | rfl | rfl | rfl | rfl | rfl | rfl | rfl
  all_goals first
    | (cases hi; simp at h)
    | cases hi
set_option maxRecDepth 100000 in
set_option maxHeartbeats 2000000 in
theorem ne_s0 (A : Act) (w1 : World) (Q : Exit → Act → World → Prop) (B k : Nat) (t : ByteArray) (ch : List PanicEntry) (R : World → World → Prop) 
    (h0 : A.tmps.getD 0 undef = .pointer (some ⟨B, 0, none⟩)) (x0 : ∀ W, Below w1.heap.size w1 W → W.cell? ⟨B, 0, none⟩ = some (.string t)) (x1 : ∀ W, Below w1.heap.size w1 W → W.cell? ⟨B, 1, none⟩ = some (.int .i64 (k : Int))) (hlt : k < t.size) (hW : ∀ W, Calls Tryz.prog 77 #[.bool true, .int .i64 8] W fun r w' => r = .returned (.int .i64 8) ∧ w' = W) (hC : ∀ W, Below w1.heap.size w1 W → Calls Tryz.prog 70 #[.pointer (some ⟨B, 0, none⟩), .int .i64 8] W fun r w' => r = .panicked ch ∧ R W w') (hQ : ∀ a W w', a.defers = A.defers → (∀ s, ([2, 3, 4, 5, 6, 7, 8, 9, 10, 11, 12, 13, 14, 15, 16] : List Nat).contains s = false → a.tmps.getD s undef = A.tmps.getD s undef) → Below w1.heap.size w1 W → R W w' → Q (.panic ch) a w')
    (f : Nat → Bool) (e : Unit) (a : Act) (w : World) (hun : f 0 = false) (hdep : ∀ d ∈ ne_o0.after, Region.binds .any d = true → f d.on = true) (hJ : ne_J w1 B k t ch R f e w) (hFr : Fr ne_O A f (fun j => ne_V B k t ch R j e) a)
    (K : Act → World → Prop) (hK : Hid (∀ v e' w', v = ne_V B k t ch R 0 e' → (∀ j, f j = true → ne_V B k t ch R j e' = ne_V B k t ch R j e) → ne_J w1 B k t ch R (fun j => j == 0 || f j) e' w' → K (a.put ne_o0.dst v) w')) :
    if Region.wanted ne_o0 (yielded ne_O a.tmps) = true then Oper.wp Tryz.prog ne_o0 a w K Q else K (a.put ne_o0.dst undef) w := by
  unfold ne_o0 at hdep hK ⊢
  obtain ⟨hB, hn⟩ := hJ
  have v0 := (hFr.old 0 (ne_no (by decide))).trans h0
  replace hW := hid hW
  replace hB := hid hB
  replace hn := hid hn
  replace hC := hid hC
  replace hQ := hid hQ
  clear hdep hFr h0
  go_simp
  exact hK.out _ e _ rfl (fun _ _ => rfl) ⟨hB.out, hn.out⟩
set_option maxRecDepth 100000 in
set_option maxHeartbeats 2000000 in
theorem ne_s1 (A : Act) (w1 : World) (Q : Exit → Act → World → Prop) (B k : Nat) (t : ByteArray) (ch : List PanicEntry) (R : World → World → Prop) 
    (h0 : A.tmps.getD 0 undef = .pointer (some ⟨B, 0, none⟩)) (x0 : ∀ W, Below w1.heap.size w1 W → W.cell? ⟨B, 0, none⟩ = some (.string t)) (x1 : ∀ W, Below w1.heap.size w1 W → W.cell? ⟨B, 1, none⟩ = some (.int .i64 (k : Int))) (hlt : k < t.size) (hW : ∀ W, Calls Tryz.prog 77 #[.bool true, .int .i64 8] W fun r w' => r = .returned (.int .i64 8) ∧ w' = W) (hC : ∀ W, Below w1.heap.size w1 W → Calls Tryz.prog 70 #[.pointer (some ⟨B, 0, none⟩), .int .i64 8] W fun r w' => r = .panicked ch ∧ R W w') (hQ : ∀ a W w', a.defers = A.defers → (∀ s, ([2, 3, 4, 5, 6, 7, 8, 9, 10, 11, 12, 13, 14, 15, 16] : List Nat).contains s = false → a.tmps.getD s undef = A.tmps.getD s undef) → Below w1.heap.size w1 W → R W w' → Q (.panic ch) a w')
    (f : Nat → Bool) (e : Unit) (a : Act) (w : World) (hun : f 1 = false) (hdep : ∀ d ∈ ne_o1.after, Region.binds .any d = true → f d.on = true) (hJ : ne_J w1 B k t ch R f e w) (hFr : Fr ne_O A f (fun j => ne_V B k t ch R j e) a)
    (K : Act → World → Prop) (hK : Hid (∀ v e' w', v = ne_V B k t ch R 1 e' → (∀ j, f j = true → ne_V B k t ch R j e' = ne_V B k t ch R j e) → ne_J w1 B k t ch R (fun j => j == 1 || f j) e' w' → K (a.put ne_o1.dst v) w')) :
    if Region.wanted ne_o1 (yielded ne_O a.tmps) = true then Oper.wp Tryz.prog ne_o1 a w K Q else K (a.put ne_o1.dst undef) w := by
  unfold ne_o1 at hdep hK ⊢
  obtain ⟨hB, hn⟩ := hJ
  have v0 := (hFr.old 0 (ne_no (by decide))).trans h0
  replace hW := hid hW
  replace hB := hid hB
  replace hn := hid hn
  replace hC := hid hC
  replace hQ := hid hQ
  clear hdep hFr h0
  go_simp
  exact hK.out _ e _ rfl (fun _ _ => rfl) ⟨hB.out, hn.out⟩
set_option maxRecDepth 100000 in
set_option maxHeartbeats 2000000 in
theorem ne_s2 (A : Act) (w1 : World) (Q : Exit → Act → World → Prop) (B k : Nat) (t : ByteArray) (ch : List PanicEntry) (R : World → World → Prop) 
    (h0 : A.tmps.getD 0 undef = .pointer (some ⟨B, 0, none⟩)) (x0 : ∀ W, Below w1.heap.size w1 W → W.cell? ⟨B, 0, none⟩ = some (.string t)) (x1 : ∀ W, Below w1.heap.size w1 W → W.cell? ⟨B, 1, none⟩ = some (.int .i64 (k : Int))) (hlt : k < t.size) (hW : ∀ W, Calls Tryz.prog 77 #[.bool true, .int .i64 8] W fun r w' => r = .returned (.int .i64 8) ∧ w' = W) (hC : ∀ W, Below w1.heap.size w1 W → Calls Tryz.prog 70 #[.pointer (some ⟨B, 0, none⟩), .int .i64 8] W fun r w' => r = .panicked ch ∧ R W w') (hQ : ∀ a W w', a.defers = A.defers → (∀ s, ([2, 3, 4, 5, 6, 7, 8, 9, 10, 11, 12, 13, 14, 15, 16] : List Nat).contains s = false → a.tmps.getD s undef = A.tmps.getD s undef) → Below w1.heap.size w1 W → R W w' → Q (.panic ch) a w')
    (f : Nat → Bool) (e : Unit) (a : Act) (w : World) (hun : f 2 = false) (hdep : ∀ d ∈ ne_o2.after, Region.binds .any d = true → f d.on = true) (hJ : ne_J w1 B k t ch R f e w) (hFr : Fr ne_O A f (fun j => ne_V B k t ch R j e) a)
    (K : Act → World → Prop) (hK : Hid (∀ v e' w', v = ne_V B k t ch R 2 e' → (∀ j, f j = true → ne_V B k t ch R j e' = ne_V B k t ch R j e) → ne_J w1 B k t ch R (fun j => j == 2 || f j) e' w' → K (a.put ne_o2.dst v) w')) :
    if Region.wanted ne_o2 (yielded ne_O a.tmps) = true then Oper.wp Tryz.prog ne_o2 a w K Q else K (a.put ne_o2.dst undef) w := by
  unfold ne_o2 at hdep hK ⊢
  obtain ⟨hB, hn⟩ := hJ
  have k1 : f 1 = true := hdep { on := 1, ground := .data } (by simp) rfl
  have v3 : a.tmps.getD 3 undef = .pointer (some ⟨B, 0, none⟩) := hFr.new 1 3 rfl k1
  replace hW := hid hW
  replace hB := hid hB
  replace hn := hid hn
  replace hC := hid hC
  replace hQ := hid hQ
  clear hdep hFr h0
  go_simp
  exact hK.out _ e _ rfl (fun _ _ => rfl) ⟨hB.out, hn.out⟩
set_option maxRecDepth 100000 in
set_option maxHeartbeats 2000000 in
theorem ne_s3 (A : Act) (w1 : World) (Q : Exit → Act → World → Prop) (B k : Nat) (t : ByteArray) (ch : List PanicEntry) (R : World → World → Prop) 
    (h0 : A.tmps.getD 0 undef = .pointer (some ⟨B, 0, none⟩)) (x0 : ∀ W, Below w1.heap.size w1 W → W.cell? ⟨B, 0, none⟩ = some (.string t)) (x1 : ∀ W, Below w1.heap.size w1 W → W.cell? ⟨B, 1, none⟩ = some (.int .i64 (k : Int))) (hlt : k < t.size) (hW : ∀ W, Calls Tryz.prog 77 #[.bool true, .int .i64 8] W fun r w' => r = .returned (.int .i64 8) ∧ w' = W) (hC : ∀ W, Below w1.heap.size w1 W → Calls Tryz.prog 70 #[.pointer (some ⟨B, 0, none⟩), .int .i64 8] W fun r w' => r = .panicked ch ∧ R W w') (hQ : ∀ a W w', a.defers = A.defers → (∀ s, ([2, 3, 4, 5, 6, 7, 8, 9, 10, 11, 12, 13, 14, 15, 16] : List Nat).contains s = false → a.tmps.getD s undef = A.tmps.getD s undef) → Below w1.heap.size w1 W → R W w' → Q (.panic ch) a w')
    (f : Nat → Bool) (e : Unit) (a : Act) (w : World) (hun : f 3 = false) (hdep : ∀ d ∈ ne_o3.after, Region.binds .any d = true → f d.on = true) (hJ : ne_J w1 B k t ch R f e w) (hFr : Fr ne_O A f (fun j => ne_V B k t ch R j e) a)
    (K : Act → World → Prop) (hK : Hid (∀ v e' w', v = ne_V B k t ch R 3 e' → (∀ j, f j = true → ne_V B k t ch R j e' = ne_V B k t ch R j e) → ne_J w1 B k t ch R (fun j => j == 3 || f j) e' w' → K (a.put ne_o3.dst v) w')) :
    if Region.wanted ne_o3 (yielded ne_O a.tmps) = true then Oper.wp Tryz.prog ne_o3 a w K Q else K (a.put ne_o3.dst undef) w := by
  unfold ne_o3 at hdep hK ⊢
  obtain ⟨hB, hn⟩ := hJ
  have k2 : f 2 = true := hdep { on := 2, ground := .data } (by simp) rfl
  have v4 : a.tmps.getD 4 undef = .pointer (some ⟨B, 0, none⟩) := hFr.new 2 4 rfl k2
  replace hW := hid hW
  replace hB := hid hB
  replace hn := hid hn
  replace hC := hid hC
  replace hQ := hid hQ
  clear hdep hFr h0
  go_simp
  exact hK.out _ e _ rfl (fun _ _ => rfl) ⟨hB.out, hn.out⟩
set_option maxRecDepth 100000 in
set_option maxHeartbeats 2000000 in
theorem ne_s4 (A : Act) (w1 : World) (Q : Exit → Act → World → Prop) (B k : Nat) (t : ByteArray) (ch : List PanicEntry) (R : World → World → Prop) 
    (h0 : A.tmps.getD 0 undef = .pointer (some ⟨B, 0, none⟩)) (x0 : ∀ W, Below w1.heap.size w1 W → W.cell? ⟨B, 0, none⟩ = some (.string t)) (x1 : ∀ W, Below w1.heap.size w1 W → W.cell? ⟨B, 1, none⟩ = some (.int .i64 (k : Int))) (hlt : k < t.size) (hW : ∀ W, Calls Tryz.prog 77 #[.bool true, .int .i64 8] W fun r w' => r = .returned (.int .i64 8) ∧ w' = W) (hC : ∀ W, Below w1.heap.size w1 W → Calls Tryz.prog 70 #[.pointer (some ⟨B, 0, none⟩), .int .i64 8] W fun r w' => r = .panicked ch ∧ R W w') (hQ : ∀ a W w', a.defers = A.defers → (∀ s, ([2, 3, 4, 5, 6, 7, 8, 9, 10, 11, 12, 13, 14, 15, 16] : List Nat).contains s = false → a.tmps.getD s undef = A.tmps.getD s undef) → Below w1.heap.size w1 W → R W w' → Q (.panic ch) a w')
    (f : Nat → Bool) (e : Unit) (a : Act) (w : World) (hun : f 4 = false) (hdep : ∀ d ∈ ne_o4.after, Region.binds .any d = true → f d.on = true) (hJ : ne_J w1 B k t ch R f e w) (hFr : Fr ne_O A f (fun j => ne_V B k t ch R j e) a)
    (K : Act → World → Prop) (hK : Hid (∀ v e' w', v = ne_V B k t ch R 4 e' → (∀ j, f j = true → ne_V B k t ch R j e' = ne_V B k t ch R j e) → ne_J w1 B k t ch R (fun j => j == 4 || f j) e' w' → K (a.put ne_o4.dst v) w')) :
    if Region.wanted ne_o4 (yielded ne_O a.tmps) = true then Oper.wp Tryz.prog ne_o4 a w K Q else K (a.put ne_o4.dst undef) w := by
  unfold ne_o4 at hdep hK ⊢
  obtain ⟨hB, hn⟩ := hJ
  have k3 : f 3 = true := hdep { on := 3, ground := .data } (by simp) rfl
  have v5 : a.tmps.getD 5 undef = .pointer (some ⟨B, 0, none⟩) := hFr.new 3 5 rfl k3
  replace hW := hid hW
  replace hB := hid hB
  replace hn := hid hn
  replace hC := hid hC
  replace hQ := hid hQ
  clear hdep hFr h0
  go_simp
  exact hK.out _ e _ rfl (fun _ _ => rfl) ⟨hB.out, hn.out⟩
set_option maxRecDepth 100000 in
set_option maxHeartbeats 2000000 in
theorem ne_s5 (A : Act) (w1 : World) (Q : Exit → Act → World → Prop) (B k : Nat) (t : ByteArray) (ch : List PanicEntry) (R : World → World → Prop) 
    (h0 : A.tmps.getD 0 undef = .pointer (some ⟨B, 0, none⟩)) (x0 : ∀ W, Below w1.heap.size w1 W → W.cell? ⟨B, 0, none⟩ = some (.string t)) (x1 : ∀ W, Below w1.heap.size w1 W → W.cell? ⟨B, 1, none⟩ = some (.int .i64 (k : Int))) (hlt : k < t.size) (hW : ∀ W, Calls Tryz.prog 77 #[.bool true, .int .i64 8] W fun r w' => r = .returned (.int .i64 8) ∧ w' = W) (hC : ∀ W, Below w1.heap.size w1 W → Calls Tryz.prog 70 #[.pointer (some ⟨B, 0, none⟩), .int .i64 8] W fun r w' => r = .panicked ch ∧ R W w') (hQ : ∀ a W w', a.defers = A.defers → (∀ s, ([2, 3, 4, 5, 6, 7, 8, 9, 10, 11, 12, 13, 14, 15, 16] : List Nat).contains s = false → a.tmps.getD s undef = A.tmps.getD s undef) → Below w1.heap.size w1 W → R W w' → Q (.panic ch) a w')
    (f : Nat → Bool) (e : Unit) (a : Act) (w : World) (hun : f 5 = false) (hdep : ∀ d ∈ ne_o5.after, Region.binds .any d = true → f d.on = true) (hJ : ne_J w1 B k t ch R f e w) (hFr : Fr ne_O A f (fun j => ne_V B k t ch R j e) a)
    (K : Act → World → Prop) (hK : Hid (∀ v e' w', v = ne_V B k t ch R 5 e' → (∀ j, f j = true → ne_V B k t ch R j e' = ne_V B k t ch R j e) → ne_J w1 B k t ch R (fun j => j == 5 || f j) e' w' → K (a.put ne_o5.dst v) w')) :
    if Region.wanted ne_o5 (yielded ne_O a.tmps) = true then Oper.wp Tryz.prog ne_o5 a w K Q else K (a.put ne_o5.dst undef) w := by
  unfold ne_o5 at hdep hK ⊢
  obtain ⟨hB, hn⟩ := hJ
  have k4 : f 4 = true := hdep { on := 4, ground := .data } (by simp) rfl
  have v6 : a.tmps.getD 6 undef = .pointer (some ⟨B, 1, none⟩) := hFr.new 4 6 rfl k4
  have y := x1 w hB
  replace hW := hid hW
  replace hB := hid hB
  replace hn := hid hn
  replace hC := hid hC
  replace hQ := hid hQ
  clear hdep hFr h0
  go_simp
  exact hK.out _ e _ rfl (fun _ _ => rfl) ⟨hB.out, hn.out⟩
set_option maxRecDepth 100000 in
set_option maxHeartbeats 2000000 in
theorem ne_s6 (A : Act) (w1 : World) (Q : Exit → Act → World → Prop) (B k : Nat) (t : ByteArray) (ch : List PanicEntry) (R : World → World → Prop) 
    (h0 : A.tmps.getD 0 undef = .pointer (some ⟨B, 0, none⟩)) (x0 : ∀ W, Below w1.heap.size w1 W → W.cell? ⟨B, 0, none⟩ = some (.string t)) (x1 : ∀ W, Below w1.heap.size w1 W → W.cell? ⟨B, 1, none⟩ = some (.int .i64 (k : Int))) (hlt : k < t.size) (hW : ∀ W, Calls Tryz.prog 77 #[.bool true, .int .i64 8] W fun r w' => r = .returned (.int .i64 8) ∧ w' = W) (hC : ∀ W, Below w1.heap.size w1 W → Calls Tryz.prog 70 #[.pointer (some ⟨B, 0, none⟩), .int .i64 8] W fun r w' => r = .panicked ch ∧ R W w') (hQ : ∀ a W w', a.defers = A.defers → (∀ s, ([2, 3, 4, 5, 6, 7, 8, 9, 10, 11, 12, 13, 14, 15, 16] : List Nat).contains s = false → a.tmps.getD s undef = A.tmps.getD s undef) → Below w1.heap.size w1 W → R W w' → Q (.panic ch) a w')
    (f : Nat → Bool) (e : Unit) (a : Act) (w : World) (hun : f 6 = false) (hdep : ∀ d ∈ ne_o6.after, Region.binds .any d = true → f d.on = true) (hJ : ne_J w1 B k t ch R f e w) (hFr : Fr ne_O A f (fun j => ne_V B k t ch R j e) a)
    (K : Act → World → Prop) (hK : Hid (∀ v e' w', v = ne_V B k t ch R 6 e' → (∀ j, f j = true → ne_V B k t ch R j e' = ne_V B k t ch R j e) → ne_J w1 B k t ch R (fun j => j == 6 || f j) e' w' → K (a.put ne_o6.dst v) w')) :
    if Region.wanted ne_o6 (yielded ne_O a.tmps) = true then Oper.wp Tryz.prog ne_o6 a w K Q else K (a.put ne_o6.dst undef) w := by
  unfold ne_o6 at hdep hK ⊢
  obtain ⟨hB, hn⟩ := hJ
  have v0 := (hFr.old 0 (ne_no (by decide))).trans h0
  replace hW := hid hW
  replace hB := hid hB
  replace hn := hid hn
  replace hC := hid hC
  replace hQ := hid hQ
  clear hdep hFr h0
  go_simp
  exact hK.out _ e _ rfl (fun _ _ => rfl) ⟨hB.out, hn.out⟩
set_option maxRecDepth 100000 in
set_option maxHeartbeats 2000000 in
theorem ne_s7 (A : Act) (w1 : World) (Q : Exit → Act → World → Prop) (B k : Nat) (t : ByteArray) (ch : List PanicEntry) (R : World → World → Prop) 
    (h0 : A.tmps.getD 0 undef = .pointer (some ⟨B, 0, none⟩)) (x0 : ∀ W, Below w1.heap.size w1 W → W.cell? ⟨B, 0, none⟩ = some (.string t)) (x1 : ∀ W, Below w1.heap.size w1 W → W.cell? ⟨B, 1, none⟩ = some (.int .i64 (k : Int))) (hlt : k < t.size) (hW : ∀ W, Calls Tryz.prog 77 #[.bool true, .int .i64 8] W fun r w' => r = .returned (.int .i64 8) ∧ w' = W) (hC : ∀ W, Below w1.heap.size w1 W → Calls Tryz.prog 70 #[.pointer (some ⟨B, 0, none⟩), .int .i64 8] W fun r w' => r = .panicked ch ∧ R W w') (hQ : ∀ a W w', a.defers = A.defers → (∀ s, ([2, 3, 4, 5, 6, 7, 8, 9, 10, 11, 12, 13, 14, 15, 16] : List Nat).contains s = false → a.tmps.getD s undef = A.tmps.getD s undef) → Below w1.heap.size w1 W → R W w' → Q (.panic ch) a w')
    (f : Nat → Bool) (e : Unit) (a : Act) (w : World) (hun : f 7 = false) (hdep : ∀ d ∈ ne_o7.after, Region.binds .any d = true → f d.on = true) (hJ : ne_J w1 B k t ch R f e w) (hFr : Fr ne_O A f (fun j => ne_V B k t ch R j e) a)
    (K : Act → World → Prop) (hK : Hid (∀ v e' w', v = ne_V B k t ch R 7 e' → (∀ j, f j = true → ne_V B k t ch R j e' = ne_V B k t ch R j e) → ne_J w1 B k t ch R (fun j => j == 7 || f j) e' w' → K (a.put ne_o7.dst v) w')) :
    if Region.wanted ne_o7 (yielded ne_O a.tmps) = true then Oper.wp Tryz.prog ne_o7 a w K Q else K (a.put ne_o7.dst undef) w := by
  unfold ne_o7 at hdep hK ⊢
  obtain ⟨hB, hn⟩ := hJ
  have k6 : f 6 = true := hdep { on := 6, ground := .data } (by simp) rfl
  have v8 : a.tmps.getD 8 undef = .pointer (some ⟨B, 0, none⟩) := hFr.new 6 8 rfl k6
  replace hW := hid hW
  replace hB := hid hB
  replace hn := hid hn
  replace hC := hid hC
  replace hQ := hid hQ
  clear hdep hFr h0
  go_simp
  exact hK.out _ e _ rfl (fun _ _ => rfl) ⟨hB.out, hn.out⟩
set_option maxRecDepth 100000 in
set_option maxHeartbeats 2000000 in
theorem ne_s8 (A : Act) (w1 : World) (Q : Exit → Act → World → Prop) (B k : Nat) (t : ByteArray) (ch : List PanicEntry) (R : World → World → Prop) 
    (h0 : A.tmps.getD 0 undef = .pointer (some ⟨B, 0, none⟩)) (x0 : ∀ W, Below w1.heap.size w1 W → W.cell? ⟨B, 0, none⟩ = some (.string t)) (x1 : ∀ W, Below w1.heap.size w1 W → W.cell? ⟨B, 1, none⟩ = some (.int .i64 (k : Int))) (hlt : k < t.size) (hW : ∀ W, Calls Tryz.prog 77 #[.bool true, .int .i64 8] W fun r w' => r = .returned (.int .i64 8) ∧ w' = W) (hC : ∀ W, Below w1.heap.size w1 W → Calls Tryz.prog 70 #[.pointer (some ⟨B, 0, none⟩), .int .i64 8] W fun r w' => r = .panicked ch ∧ R W w') (hQ : ∀ a W w', a.defers = A.defers → (∀ s, ([2, 3, 4, 5, 6, 7, 8, 9, 10, 11, 12, 13, 14, 15, 16] : List Nat).contains s = false → a.tmps.getD s undef = A.tmps.getD s undef) → Below w1.heap.size w1 W → R W w' → Q (.panic ch) a w')
    (f : Nat → Bool) (e : Unit) (a : Act) (w : World) (hun : f 8 = false) (hdep : ∀ d ∈ ne_o8.after, Region.binds .any d = true → f d.on = true) (hJ : ne_J w1 B k t ch R f e w) (hFr : Fr ne_O A f (fun j => ne_V B k t ch R j e) a)
    (K : Act → World → Prop) (hK : Hid (∀ v e' w', v = ne_V B k t ch R 8 e' → (∀ j, f j = true → ne_V B k t ch R j e' = ne_V B k t ch R j e) → ne_J w1 B k t ch R (fun j => j == 8 || f j) e' w' → K (a.put ne_o8.dst v) w')) :
    if Region.wanted ne_o8 (yielded ne_O a.tmps) = true then Oper.wp Tryz.prog ne_o8 a w K Q else K (a.put ne_o8.dst undef) w := by
  unfold ne_o8 at hdep hK ⊢
  obtain ⟨hB, hn⟩ := hJ
  have k7 : f 7 = true := hdep { on := 7, ground := .data } (by simp) rfl
  have v9 : a.tmps.getD 9 undef = .pointer (some ⟨B, 0, none⟩) := hFr.new 7 9 rfl k7
  replace hW := hid hW
  replace hB := hid hB
  replace hn := hid hn
  replace hC := hid hC
  replace hQ := hid hQ
  clear hdep hFr h0
  go_simp
  exact hK.out _ e _ rfl (fun _ _ => rfl) ⟨hB.out, hn.out⟩
set_option maxRecDepth 100000 in
set_option maxHeartbeats 2000000 in
theorem ne_s9 (A : Act) (w1 : World) (Q : Exit → Act → World → Prop) (B k : Nat) (t : ByteArray) (ch : List PanicEntry) (R : World → World → Prop) 
    (h0 : A.tmps.getD 0 undef = .pointer (some ⟨B, 0, none⟩)) (x0 : ∀ W, Below w1.heap.size w1 W → W.cell? ⟨B, 0, none⟩ = some (.string t)) (x1 : ∀ W, Below w1.heap.size w1 W → W.cell? ⟨B, 1, none⟩ = some (.int .i64 (k : Int))) (hlt : k < t.size) (hW : ∀ W, Calls Tryz.prog 77 #[.bool true, .int .i64 8] W fun r w' => r = .returned (.int .i64 8) ∧ w' = W) (hC : ∀ W, Below w1.heap.size w1 W → Calls Tryz.prog 70 #[.pointer (some ⟨B, 0, none⟩), .int .i64 8] W fun r w' => r = .panicked ch ∧ R W w') (hQ : ∀ a W w', a.defers = A.defers → (∀ s, ([2, 3, 4, 5, 6, 7, 8, 9, 10, 11, 12, 13, 14, 15, 16] : List Nat).contains s = false → a.tmps.getD s undef = A.tmps.getD s undef) → Below w1.heap.size w1 W → R W w' → Q (.panic ch) a w')
    (f : Nat → Bool) (e : Unit) (a : Act) (w : World) (hun : f 9 = false) (hdep : ∀ d ∈ ne_o9.after, Region.binds .any d = true → f d.on = true) (hJ : ne_J w1 B k t ch R f e w) (hFr : Fr ne_O A f (fun j => ne_V B k t ch R j e) a)
    (K : Act → World → Prop) (hK : Hid (∀ v e' w', v = ne_V B k t ch R 9 e' → (∀ j, f j = true → ne_V B k t ch R j e' = ne_V B k t ch R j e) → ne_J w1 B k t ch R (fun j => j == 9 || f j) e' w' → K (a.put ne_o9.dst v) w')) :
    if Region.wanted ne_o9 (yielded ne_O a.tmps) = true then Oper.wp Tryz.prog ne_o9 a w K Q else K (a.put ne_o9.dst undef) w := by
  unfold ne_o9 at hdep hK ⊢
  obtain ⟨hB, hn⟩ := hJ
  have k8 : f 8 = true := hdep { on := 8, ground := .data } (by simp) rfl
  have v10 : a.tmps.getD 10 undef = .pointer (some ⟨B, 0, none⟩) := hFr.new 8 10 rfl k8
  replace hW := hid hW
  replace hB := hid hB
  replace hn := hid hn
  replace hC := hid hC
  replace hQ := hid hQ
  clear hdep hFr h0
  go_simp
  exact hK.out _ e _ rfl (fun _ _ => rfl) ⟨hB.out, hn.out⟩
set_option maxRecDepth 100000 in
set_option maxHeartbeats 2000000 in
theorem ne_s10 (A : Act) (w1 : World) (Q : Exit → Act → World → Prop) (B k : Nat) (t : ByteArray) (ch : List PanicEntry) (R : World → World → Prop) 
    (h0 : A.tmps.getD 0 undef = .pointer (some ⟨B, 0, none⟩)) (x0 : ∀ W, Below w1.heap.size w1 W → W.cell? ⟨B, 0, none⟩ = some (.string t)) (x1 : ∀ W, Below w1.heap.size w1 W → W.cell? ⟨B, 1, none⟩ = some (.int .i64 (k : Int))) (hlt : k < t.size) (hW : ∀ W, Calls Tryz.prog 77 #[.bool true, .int .i64 8] W fun r w' => r = .returned (.int .i64 8) ∧ w' = W) (hC : ∀ W, Below w1.heap.size w1 W → Calls Tryz.prog 70 #[.pointer (some ⟨B, 0, none⟩), .int .i64 8] W fun r w' => r = .panicked ch ∧ R W w') (hQ : ∀ a W w', a.defers = A.defers → (∀ s, ([2, 3, 4, 5, 6, 7, 8, 9, 10, 11, 12, 13, 14, 15, 16] : List Nat).contains s = false → a.tmps.getD s undef = A.tmps.getD s undef) → Below w1.heap.size w1 W → R W w' → Q (.panic ch) a w')
    (f : Nat → Bool) (e : Unit) (a : Act) (w : World) (hun : f 10 = false) (hdep : ∀ d ∈ ne_o10.after, Region.binds .any d = true → f d.on = true) (hJ : ne_J w1 B k t ch R f e w) (hFr : Fr ne_O A f (fun j => ne_V B k t ch R j e) a)
    (K : Act → World → Prop) (hK : Hid (∀ v e' w', v = ne_V B k t ch R 10 e' → (∀ j, f j = true → ne_V B k t ch R j e' = ne_V B k t ch R j e) → ne_J w1 B k t ch R (fun j => j == 10 || f j) e' w' → K (a.put ne_o10.dst v) w')) :
    if Region.wanted ne_o10 (yielded ne_O a.tmps) = true then Oper.wp Tryz.prog ne_o10 a w K Q else K (a.put ne_o10.dst undef) w := by
  unfold ne_o10 at hdep hK ⊢
  obtain ⟨hB, hn⟩ := hJ
  have k9 : f 9 = true := hdep { on := 9, ground := .data } (by simp) rfl
  have v11 : a.tmps.getD 11 undef = .pointer (some ⟨B, 0, none⟩) := hFr.new 9 11 rfl k9
  have y := x0 w hB
  replace hW := hid hW
  replace hB := hid hB
  replace hn := hid hn
  replace hC := hid hC
  replace hQ := hid hQ
  clear hdep hFr h0
  go_simp
  exact hK.out _ e _ rfl (fun _ _ => rfl) ⟨hB.out, hn.out⟩
set_option maxRecDepth 100000 in
set_option maxHeartbeats 2000000 in
theorem ne_s11 (A : Act) (w1 : World) (Q : Exit → Act → World → Prop) (B k : Nat) (t : ByteArray) (ch : List PanicEntry) (R : World → World → Prop) 
    (h0 : A.tmps.getD 0 undef = .pointer (some ⟨B, 0, none⟩)) (x0 : ∀ W, Below w1.heap.size w1 W → W.cell? ⟨B, 0, none⟩ = some (.string t)) (x1 : ∀ W, Below w1.heap.size w1 W → W.cell? ⟨B, 1, none⟩ = some (.int .i64 (k : Int))) (hlt : k < t.size) (hW : ∀ W, Calls Tryz.prog 77 #[.bool true, .int .i64 8] W fun r w' => r = .returned (.int .i64 8) ∧ w' = W) (hC : ∀ W, Below w1.heap.size w1 W → Calls Tryz.prog 70 #[.pointer (some ⟨B, 0, none⟩), .int .i64 8] W fun r w' => r = .panicked ch ∧ R W w') (hQ : ∀ a W w', a.defers = A.defers → (∀ s, ([2, 3, 4, 5, 6, 7, 8, 9, 10, 11, 12, 13, 14, 15, 16] : List Nat).contains s = false → a.tmps.getD s undef = A.tmps.getD s undef) → Below w1.heap.size w1 W → R W w' → Q (.panic ch) a w')
    (f : Nat → Bool) (e : Unit) (a : Act) (w : World) (hun : f 11 = false) (hdep : ∀ d ∈ ne_o11.after, Region.binds .any d = true → f d.on = true) (hJ : ne_J w1 B k t ch R f e w) (hFr : Fr ne_O A f (fun j => ne_V B k t ch R j e) a)
    (K : Act → World → Prop) (hK : Hid (∀ v e' w', v = ne_V B k t ch R 11 e' → (∀ j, f j = true → ne_V B k t ch R j e' = ne_V B k t ch R j e) → ne_J w1 B k t ch R (fun j => j == 11 || f j) e' w' → K (a.put ne_o11.dst v) w')) :
    if Region.wanted ne_o11 (yielded ne_O a.tmps) = true then Oper.wp Tryz.prog ne_o11 a w K Q else K (a.put ne_o11.dst undef) w := by
  unfold ne_o11 at hdep hK ⊢
  obtain ⟨hB, hn⟩ := hJ
  have k10 : f 10 = true := hdep { on := 10, ground := .data } (by simp) rfl
  have v12 : a.tmps.getD 12 undef = .string t := hFr.new 10 12 rfl k10
  replace hW := hid hW
  replace hB := hid hB
  replace hn := hid hn
  replace hC := hid hC
  replace hQ := hid hQ
  clear hdep hFr h0
  go_simp
  exact hK.out _ e _ rfl (fun _ _ => rfl) ⟨hB.out, hn.out⟩
set_option maxRecDepth 100000 in
set_option maxHeartbeats 2000000 in
theorem ne_s12 (A : Act) (w1 : World) (Q : Exit → Act → World → Prop) (B k : Nat) (t : ByteArray) (ch : List PanicEntry) (R : World → World → Prop) 
    (h0 : A.tmps.getD 0 undef = .pointer (some ⟨B, 0, none⟩)) (x0 : ∀ W, Below w1.heap.size w1 W → W.cell? ⟨B, 0, none⟩ = some (.string t)) (x1 : ∀ W, Below w1.heap.size w1 W → W.cell? ⟨B, 1, none⟩ = some (.int .i64 (k : Int))) (hlt : k < t.size) (hW : ∀ W, Calls Tryz.prog 77 #[.bool true, .int .i64 8] W fun r w' => r = .returned (.int .i64 8) ∧ w' = W) (hC : ∀ W, Below w1.heap.size w1 W → Calls Tryz.prog 70 #[.pointer (some ⟨B, 0, none⟩), .int .i64 8] W fun r w' => r = .panicked ch ∧ R W w') (hQ : ∀ a W w', a.defers = A.defers → (∀ s, ([2, 3, 4, 5, 6, 7, 8, 9, 10, 11, 12, 13, 14, 15, 16] : List Nat).contains s = false → a.tmps.getD s undef = A.tmps.getD s undef) → Below w1.heap.size w1 W → R W w' → Q (.panic ch) a w')
    (f : Nat → Bool) (e : Unit) (a : Act) (w : World) (hun : f 12 = false) (hdep : ∀ d ∈ ne_o12.after, Region.binds .any d = true → f d.on = true) (hJ : ne_J w1 B k t ch R f e w) (hFr : Fr ne_O A f (fun j => ne_V B k t ch R j e) a)
    (K : Act → World → Prop) (hK : Hid (∀ v e' w', v = ne_V B k t ch R 12 e' → (∀ j, f j = true → ne_V B k t ch R j e' = ne_V B k t ch R j e) → ne_J w1 B k t ch R (fun j => j == 12 || f j) e' w' → K (a.put ne_o12.dst v) w')) :
    if Region.wanted ne_o12 (yielded ne_O a.tmps) = true then Oper.wp Tryz.prog ne_o12 a w K Q else K (a.put ne_o12.dst undef) w := by
  unfold ne_o12 at hdep hK ⊢
  obtain ⟨hB, hn⟩ := hJ
  have k5 : f 5 = true := hdep { on := 5, ground := .data } (by simp) rfl
  have v7 : a.tmps.getD 7 undef = .int .i64 (k : Int) := hFr.new 5 7 rfl k5
  have k11 : f 11 = true := hdep { on := 11, ground := .data } (by simp) rfl
  have v13 : a.tmps.getD 13 undef = .int .i64 (t.size : Int) := hFr.new 11 13 rfl k11
  have hlt2 : decide ((k : Int) < (t.size : Int)) = true := decide_eq_true (by omega)
  have hlt3 : decide (k < t.size) = true := decide_eq_true hlt
  replace hW := hid hW
  replace hB := hid hB
  replace hn := hid hn
  replace hC := hid hC
  replace hQ := hid hQ
  clear hdep hFr h0
  go_simp
  exact hK.out _ e _ rfl (fun _ _ => rfl) ⟨hB.out, hn.out⟩
set_option maxRecDepth 100000 in
set_option maxHeartbeats 2000000 in
theorem ne_s13 (A : Act) (w1 : World) (Q : Exit → Act → World → Prop) (B k : Nat) (t : ByteArray) (ch : List PanicEntry) (R : World → World → Prop) 
    (h0 : A.tmps.getD 0 undef = .pointer (some ⟨B, 0, none⟩)) (x0 : ∀ W, Below w1.heap.size w1 W → W.cell? ⟨B, 0, none⟩ = some (.string t)) (x1 : ∀ W, Below w1.heap.size w1 W → W.cell? ⟨B, 1, none⟩ = some (.int .i64 (k : Int))) (hlt : k < t.size) (hW : ∀ W, Calls Tryz.prog 77 #[.bool true, .int .i64 8] W fun r w' => r = .returned (.int .i64 8) ∧ w' = W) (hC : ∀ W, Below w1.heap.size w1 W → Calls Tryz.prog 70 #[.pointer (some ⟨B, 0, none⟩), .int .i64 8] W fun r w' => r = .panicked ch ∧ R W w') (hQ : ∀ a W w', a.defers = A.defers → (∀ s, ([2, 3, 4, 5, 6, 7, 8, 9, 10, 11, 12, 13, 14, 15, 16] : List Nat).contains s = false → a.tmps.getD s undef = A.tmps.getD s undef) → Below w1.heap.size w1 W → R W w' → Q (.panic ch) a w')
    (f : Nat → Bool) (e : Unit) (a : Act) (w : World) (hun : f 13 = false) (hdep : ∀ d ∈ ne_o13.after, Region.binds .any d = true → f d.on = true) (hJ : ne_J w1 B k t ch R f e w) (hFr : Fr ne_O A f (fun j => ne_V B k t ch R j e) a)
    (K : Act → World → Prop) (hK : Hid (∀ v e' w', v = ne_V B k t ch R 13 e' → (∀ j, f j = true → ne_V B k t ch R j e' = ne_V B k t ch R j e) → ne_J w1 B k t ch R (fun j => j == 13 || f j) e' w' → K (a.put ne_o13.dst v) w')) :
    if Region.wanted ne_o13 (yielded ne_O a.tmps) = true then Oper.wp Tryz.prog ne_o13 a w K Q else K (a.put ne_o13.dst undef) w := by
  unfold ne_o13 at hdep hK ⊢
  obtain ⟨hB, hn⟩ := hJ
  have k12 : f 12 = true := hdep { on := 12, ground := .data } (by simp) rfl
  have v14 : a.tmps.getD 14 undef = .bool true := hFr.new 12 14 rfl k12
  replace hW := hid hW
  replace hB := hid hB
  replace hn := hid hn
  replace hC := hid hC
  replace hQ := hid hQ
  clear hdep hFr h0
  go_simp
  go_at_call 77
  refine (hW.out _).mono ?_
  rintro r w' ⟨rfl, hww⟩
  obtain rfl := hww.symm
  go_simp
  exact hK.out _ e _ rfl (fun _ _ => rfl) ⟨hB.out, hn.out⟩
set_option maxRecDepth 100000 in
set_option maxHeartbeats 2000000 in
theorem ne_s14 (A : Act) (w1 : World) (Q : Exit → Act → World → Prop) (B k : Nat) (t : ByteArray) (ch : List PanicEntry) (R : World → World → Prop) 
    (h0 : A.tmps.getD 0 undef = .pointer (some ⟨B, 0, none⟩)) (x0 : ∀ W, Below w1.heap.size w1 W → W.cell? ⟨B, 0, none⟩ = some (.string t)) (x1 : ∀ W, Below w1.heap.size w1 W → W.cell? ⟨B, 1, none⟩ = some (.int .i64 (k : Int))) (hlt : k < t.size) (hW : ∀ W, Calls Tryz.prog 77 #[.bool true, .int .i64 8] W fun r w' => r = .returned (.int .i64 8) ∧ w' = W) (hC : ∀ W, Below w1.heap.size w1 W → Calls Tryz.prog 70 #[.pointer (some ⟨B, 0, none⟩), .int .i64 8] W fun r w' => r = .panicked ch ∧ R W w') (hQ : ∀ a W w', a.defers = A.defers → (∀ s, ([2, 3, 4, 5, 6, 7, 8, 9, 10, 11, 12, 13, 14, 15, 16] : List Nat).contains s = false → a.tmps.getD s undef = A.tmps.getD s undef) → Below w1.heap.size w1 W → R W w' → Q (.panic ch) a w')
    (f : Nat → Bool) (e : Unit) (a : Act) (w : World) (hun : f 14 = false) (hdep : ∀ d ∈ ne_o14.after, Region.binds .any d = true → f d.on = true) (hJ : ne_J w1 B k t ch R f e w) (hFr : Fr ne_O A f (fun j => ne_V B k t ch R j e) a)
    (K : Act → World → Prop) (hK : Hid (∀ v e' w', v = ne_V B k t ch R 14 e' → (∀ j, f j = true → ne_V B k t ch R j e' = ne_V B k t ch R j e) → ne_J w1 B k t ch R (fun j => j == 14 || f j) e' w' → K (a.put ne_o14.dst v) w')) :
    if Region.wanted ne_o14 (yielded ne_O a.tmps) = true then Oper.wp Tryz.prog ne_o14 a w K Q else K (a.put ne_o14.dst undef) w := by
  unfold ne_o14 at hdep hK ⊢
  obtain ⟨hB, hn⟩ := hJ
  have k0 : f 0 = true := hdep { on := 0, ground := .data } (by simp) rfl
  have v2 : a.tmps.getD 2 undef = .pointer (some ⟨B, 0, none⟩) := hFr.new 0 2 rfl k0
  have k13 : f 13 = true := hdep { on := 13, ground := .data } (by simp) rfl
  have v15 : a.tmps.getD 15 undef = .int .i64 8 := hFr.new 13 15 rfl k13
  have hdf := hid hFr.defers
  have hol := hid (fun s hs => hFr.old s (ne_no hs))
  replace hW := hid hW
  replace hB := hid hB
  replace hn := hid hn
  replace hC := hid hC
  replace hQ := hid hQ
  clear hdep hFr h0
  go_simp
  go_at_call 70
  refine (hC.out _ hB.out).mono ?_
  rintro r w' ⟨rfl, hr⟩
  exact hQ.out _ _ _ hdf.out hol.out hB.out hr
set_option maxRecDepth 100000 in
set_option maxHeartbeats 4000000 in
theorem ne_reg (A : Act) (w1 : World) (Q : Exit → Act → World → Prop) (B k : Nat) (t : ByteArray) (ch : List PanicEntry) (R : World → World → Prop) 
    (h0 : A.tmps.getD 0 undef = .pointer (some ⟨B, 0, none⟩)) (x0 : ∀ W, Below w1.heap.size w1 W → W.cell? ⟨B, 0, none⟩ = some (.string t)) (x1 : ∀ W, Below w1.heap.size w1 W → W.cell? ⟨B, 1, none⟩ = some (.int .i64 (k : Int))) (hlt : k < t.size) (hW : ∀ W, Calls Tryz.prog 77 #[.bool true, .int .i64 8] W fun r w' => r = .returned (.int .i64 8) ∧ w' = W) (hC : ∀ W, Below w1.heap.size w1 W → Calls Tryz.prog 70 #[.pointer (some ⟨B, 0, none⟩), .int .i64 8] W fun r w' => r = .panicked ch ∧ R W w') (hQ : ∀ a W w', a.defers = A.defers → (∀ s, ([2, 3, 4, 5, 6, 7, 8, 9, 10, 11, 12, 13, 14, 15, 16] : List Nat).contains s = false → a.tmps.getD s undef = A.tmps.getD s undef) → Below w1.heap.size w1 W → R W w' → Q (.panic ch) a w') (hN : 17 ≤ A.tmps.size)
    (h : ∀ (w : World) (e : Unit), False → Q .normal (putsA A [(2, .pointer (some ⟨B, 0, none⟩)), (3, .pointer (some ⟨B, 0, none⟩)), (4, .pointer (some ⟨B, 0, none⟩)), (5, .pointer (some ⟨B, 0, none⟩)), (6, .pointer (some ⟨B, 1, none⟩)), (7, .int .i64 (k : Int)), (8, .pointer (some ⟨B, 0, none⟩)), (9, .pointer (some ⟨B, 0, none⟩)), (10, .pointer (some ⟨B, 0, none⟩)), (11, .pointer (some ⟨B, 0, none⟩)), (12, .string t), (13, .int .i64 (t.size : Int)), (14, .bool true), (15, .int .i64 8), (16, .tuple #[])]) w) :
    (Code.region 0 #[({ dst := some 2, op := Op.move (Operand.tmp 0), type := 50, pos := "l13_snap.go:167", after := #[], guard := none } : Oper), ({ dst := some 3, op := Op.move (Operand.tmp 0), type := 50, pos := "l13_snap.go:167", after := #[], guard := none } : Oper), ({ dst := some 4, op := Op.nilCheck (Operand.tmp 3), type := 0, pos := "l13_snap.go:167", after := #[{ on := 1, ground := Ground.data }], guard := none } : Oper), ({ dst := some 5, op := Op.fieldAddr 54 (Operand.tmp 4) 0, type := 0, pos := "l13_snap.go:167", after := #[{ on := 2, ground := Ground.data }], guard := none } : Oper), ({ dst := some 6, op := Op.fieldAddr 52 (Operand.tmp 5) 1, type := 0, pos := "l13_snap.go:167", after := #[{ on := 3, ground := Ground.data }], guard := none } : Oper), ({ dst := some 7, op := Op.load 3 (Operand.tmp 6), type := 3, pos := "l13_snap.go:167", after := #[{ on := 4, ground := Ground.data }], guard := none } : Oper), ({ dst := some 8, op := Op.move (Operand.tmp 0), type := 50, pos := "l13_snap.go:167", after := #[], guard := none } : Oper), ({ dst := some 9, op := Op.nilCheck (Operand.tmp 8), type := 0, pos := "l13_snap.go:167", after := #[{ on := 6, ground := Ground.data }], guard := none } : Oper), ({ dst := some 10, op := Op.fieldAddr 54 (Operand.tmp 9) 0, type := 0, pos := "l13_snap.go:167", after := #[{ on := 7, ground := Ground.data }], guard := none } : Oper), ({ dst := some 11, op := Op.fieldAddr 52 (Operand.tmp 10) 0, type := 0, pos := "l13_snap.go:167", after := #[{ on := 8, ground := Ground.data }], guard := none } : Oper), ({ dst := some 12, op := Op.load 9 (Operand.tmp 11), type := 9, pos := "l13_snap.go:167", after := #[{ on := 9, ground := Ground.data }], guard := none } : Oper), ({ dst := some 13, op := Op.call { callee := Callee.builtin Builtin.len, args := #[Operand.tmp 12], argTypes := #[9] }, type := 3, pos := "l13_snap.go:167", after := #[{ on := 10, ground := Ground.data }], guard := none } : Oper), ({ dst := some 14, op := Op.binOp BinOp.lss 3 (Operand.tmp 7) (Operand.tmp 13) 3, type := 4, pos := "l13_snap.go:167", after := #[{ on := 5, ground := Ground.data }, { on := 11, ground := Ground.data }], guard := none } : Oper), ({ dst := some 15, op := Op.call { callee := Callee.value (Operand.func 77), args := #[Operand.tmp 14, Operand.const (Value.int IntKind.i64 8)], argTypes := #[4, 3] }, type := 3, pos := "l13_snap.go:167", after := #[{ on := 12, ground := Ground.data }], guard := none } : Oper), ({ dst := some 16, op := Op.call { callee := Callee.value (Operand.func 70), args := #[Operand.tmp 2, Operand.tmp 15], argTypes := #[50, 3] }, type := 0, pos := "l13_snap.go:167", after := #[{ on := 0, ground := Ground.data }, { on := 13, ground := Ground.data }, { on := 13, ground := Ground.chain }], guard := none } : Oper)] true).wp Tryz.prog Q A w1 := by
  show (Code.region 0 ne_O true).wp Tryz.prog Q A w1
  refine wp_region_slots (E := Unit) (ne_V B k t ch R) (ne_J w1 B k t ch R) (by kernel_rfl) (by kernel_rfl) (by kernel_rfl) (fun i s hi => ?_) ?_ () ⟨(Below.refl _ _).drew, rfl⟩ ?_
  · cases hc : ([2, 3, 4, 5, 6, 7, 8, 9, 10, 11, 12, 13, 14, 15, 16] : List Nat).contains s
    · exact absurd hi (ne_no hc i)
    · have : s ∈ ([2, 3, 4, 5, 6, 7, 8, 9, 10, 11, 12, 13, 14, 15, 16] : List Nat) := by simpa using hc
      simp only [List.mem_cons, List.not_mem_nil, or_false] at this
      omega
  · intro f e a w i o hi ho hun hdep hJ hFr K hK
    have hi8 : i < 15 := hi
    rcases (by omega : i = 0 ∨ i = 1 ∨ i = 2 ∨ i = 3 ∨ i = 4 ∨ i = 5 ∨ i = 6 ∨ i = 7 ∨ i = 8 ∨ i = 9 ∨ i = 10 ∨ i = 11 ∨ i = 12 ∨ i = 13 ∨ i = 14) with rfl | rfl | rfl | rfl | rfl | rfl | rfl | rfl | rfl | rfl | rfl | rfl | rfl | rfl | rfl
    · obtain rfl := Option.some.inj ho
      exact ne_s0 A w1 Q B k t ch R h0 x0 x1 hlt hW hC hQ f e a w hun hdep hJ hFr K hK
    · obtain rfl := Option.some.inj ho
      exact ne_s1 A w1 Q B k t ch R h0 x0 x1 hlt hW hC hQ f e a w hun hdep hJ hFr K hK
    · obtain rfl := Option.some.inj ho
      exact ne_s2 A w1 Q B k t ch R h0 x0 x1 hlt hW hC hQ f e a w hun hdep hJ hFr K hK
    · obtain rfl := Option.some.inj ho
      exact ne_s3 A w1 Q B k t ch R h0 x0 x1 hlt hW hC hQ f e a w hun hdep hJ hFr K hK
    · obtain rfl := Option.some.inj ho
      exact ne_s4 A w1 Q B k t ch R h0 x0 x1 hlt hW hC hQ f e a w hun hdep hJ hFr K hK
    · obtain rfl := Option.some.inj ho
      exact ne_s5 A w1 Q B k t ch R h0 x0 x1 hlt hW hC hQ f e a w hun hdep hJ hFr K hK
    · obtain rfl := Option.some.inj ho
      exact ne_s6 A w1 Q B k t ch R h0 x0 x1 hlt hW hC hQ f e a w hun hdep hJ hFr K hK
    · obtain rfl := Option.some.inj ho
      exact ne_s7 A w1 Q B k t ch R h0 x0 x1 hlt hW hC hQ f e a w hun hdep hJ hFr K hK
    · obtain rfl := Option.some.inj ho
      exact ne_s8 A w1 Q B k t ch R h0 x0 x1 hlt hW hC hQ f e a w hun hdep hJ hFr K hK
    · obtain rfl := Option.some.inj ho
      exact ne_s9 A w1 Q B k t ch R h0 x0 x1 hlt hW hC hQ f e a w hun hdep hJ hFr K hK
    · obtain rfl := Option.some.inj ho
      exact ne_s10 A w1 Q B k t ch R h0 x0 x1 hlt hW hC hQ f e a w hun hdep hJ hFr K hK
    · obtain rfl := Option.some.inj ho
      exact ne_s11 A w1 Q B k t ch R h0 x0 x1 hlt hW hC hQ f e a w hun hdep hJ hFr K hK
    · obtain rfl := Option.some.inj ho
      exact ne_s12 A w1 Q B k t ch R h0 x0 x1 hlt hW hC hQ f e a w hun hdep hJ hFr K hK
    · obtain rfl := Option.some.inj ho
      exact ne_s13 A w1 Q B k t ch R h0 x0 x1 hlt hW hC hQ f e a w hun hdep hJ hFr K hK
    · obtain rfl := Option.some.inj ho
      exact ne_s14 A w1 Q B k t ch R h0 x0 x1 hlt hW hC hQ f e a w hun hdep hJ hFr K hK
  · intro f e a w hall hJ hFr
    have := h w e (by have := hall 14 (by decide); rw [hJ.2] at this; cases this)
    rw [hFr.eq [(2, .pointer (some ⟨B, 0, none⟩)), (3, .pointer (some ⟨B, 0, none⟩)), (4, .pointer (some ⟨B, 0, none⟩)), (5, .pointer (some ⟨B, 0, none⟩)), (6, .pointer (some ⟨B, 1, none⟩)), (7, .int .i64 (k : Int)), (8, .pointer (some ⟨B, 0, none⟩)), (9, .pointer (some ⟨B, 0, none⟩)), (10, .pointer (some ⟨B, 0, none⟩)), (11, .pointer (some ⟨B, 0, none⟩)), (12, .string t), (13, .int .i64 (t.size : Int)), (14, .bool true), (15, .int .i64 8), (16, .tuple #[])] (fun s hs => ?_) (fun i s hi => ?_)]
    · exact this
    · have hne : ∀ k ∈ ([2, 3, 4, 5, 6, 7, 8, 9, 10, 11, 12, 13, 14, 15, 16] : List Nat), k ≠ s := by
        intro k hk e2
        subst e2
        simp only [List.mem_cons, List.not_mem_nil, or_false] at hk
        rcases hk with rfl | rfl | rfl | rfl | rfl | rfl | rfl | rfl | rfl | rfl | rfl | rfl | rfl | rfl | rfl
        · exact hs 0 rfl
        · exact hs 1 rfl
        · exact hs 2 rfl
        · exact hs 3 rfl
        · exact hs 4 rfl
        · exact hs 5 rfl
        · exact hs 6 rfl
        · exact hs 7 rfl
        · exact hs 8 rfl
        · exact hs 9 rfl
        · exact hs 10 rfl
        · exact hs 11 rfl
        · exact hs 12 rfl
        · exact hs 13 rfl
        · exact hs 14 rfl
      simp only [lookA]
      simp [hne]
    · have hl : i < 15 := by
        rcases Nat.lt_or_ge i 15 with h1 | h1
        · exact h1
        · unfold dstAt at hi
          rw [Array.getElem?_eq_none (by exact h1)] at hi
          cases hi
      refine ⟨hall i hl, ?_⟩
      rcases (by omega : i = 0 ∨ i = 1 ∨ i = 2 ∨ i = 3 ∨ i = 4 ∨ i = 5 ∨ i = 6 ∨ i = 7 ∨ i = 8 ∨ i = 9 ∨ i = 10 ∨ i = 11 ∨ i = 12 ∨ i = 13 ∨ i = 14) with rfl | rfl | rfl | rfl | rfl | rfl | rfl | rfl | rfl | rfl | rfl | rfl | rfl | rfl | rfl
      all_goals first
        | (cases hi; rfl)
        | cases hi
end Go.Proofs.YtghcagibdcblnaaGreatDoor
