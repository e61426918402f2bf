/- The law FnExactSameDeck's drawn statement: the specification asked of two copies. -/
import Derived.Test.YtohnddjijedfkabDl
import Derived.Test.YtohnddjijedfkabIw
namespace Go.Proofs.Ytohnddjijedfkab
open Go.ChangeShapes Go.WideShapes Go.ChangeAt Go.RowKit
set_option linter.unusedVariables false
set_option linter.unusedSimpArgs false

def sw_V (a0 a1 : Option Addr) (c0 c1 : Nat) (D D2 : Dk) (Q0 : Bool) (bA bB : Nat) : Nat → (Option Addr × Nat) × (Option Addr × Nat) → Value := fun i e => match i with
  | 0 => .agg #[.slice a0 D.pulses.length c0, .int .i64 D.index, .int .i64 D.left, .bool D.level, .bool D.plays]
  | 1 => .agg #[.slice e.1.1 D.pulses.length e.1.2, .int .i64 D.index, .int .i64 D.left, .bool D.level, .bool D.plays]
  | 2 => .agg #[.slice a1 D2.pulses.length c1, .int .i64 D2.index, .int .i64 D2.left, .bool D2.level, .bool D2.plays]
  | 3 => .agg #[.slice e.2.1 D2.pulses.length e.2.2, .int .i64 D2.index, .int .i64 D2.left, .bool D2.level, .bool D2.plays]
  | 4 => .bool Q0
  | 5 => .bool Q0
  | _ => undef
def sw_J (w1 : World) (a0 a1 : Option Addr) (c0 c1 : Nat) (D D2 : Dk) (Q0 : Bool) (bA bB : Nat) (f : Nat → Bool) (e : (Option Addr × Nat) × (Option Addr × Nat)) (w : World) : Prop :=
  Below w1.heap.size w1 w ∧ (f 1 = true → RowR w (.slice e.1.1 D.pulses.length e.1.2) D.pulses) ∧ (f 3 = true → RowR w (.slice e.2.1 D2.pulses.length e.2.2) D2.pulses)
def sw_o0 : Oper := ({ dst := some 20, op := Op.load 24 (Operand.tmp 2), type := 24, pos := "exact.go:2899", after := #[], guard := none } : Oper)
def sw_o1 : Oper := ({ dst := some 21, op := Op.call { callee := Callee.value (Operand.func 8), args := #[Operand.tmp 20], argTypes := #[24] }, type := 26, pos := "exact.go:2899", after := #[{ on := 0, ground := Ground.data }], guard := none } : Oper)
def sw_o2 : Oper := ({ dst := some 22, op := Op.load 24 (Operand.tmp 3), type := 24, pos := "exact.go:2899", after := #[], guard := none } : Oper)
def sw_o3 : Oper := ({ dst := some 23, op := Op.call { callee := Callee.value (Operand.func 8), args := #[Operand.tmp 22], argTypes := #[24] }, type := 26, pos := "exact.go:2899", after := #[{ on := 2, ground := Ground.data }, { on := 1, ground := Ground.chain }], guard := none } : Oper)
def sw_o4 : Oper := ({ dst := some 24, op := Op.call { callee := Callee.value (Operand.func 15), args := #[Operand.tmp 21, Operand.tmp 23], argTypes := #[26, 26] }, type := 4, pos := "exact.go:2899", after := #[{ on := 1, ground := Ground.data }, { on := 3, ground := Ground.data }, { on := 3, ground := Ground.chain }], guard := none } : Oper)
def sw_o5 : Oper := ({ dst := some 6, op := Op.assign (Operand.tmp 24), type := 4, pos := "exact.go:2899", after := #[{ on := 4, ground := Ground.data }, { on := 4, ground := Ground.chain }, { on := 0, ground := Ground.phase }, { on := 1, ground := Ground.phase }, { on := 2, ground := Ground.phase }, { on := 3, ground := Ground.phase }, { on := 4, ground := Ground.phase }], guard := none } : Oper)
def sw_O : Array Oper := #[sw_o0, sw_o1, sw_o2, sw_o3, sw_o4, sw_o5]
theorem sw_no {s : Nat} (h : ([20, 21, 22, 23, 24, 6] : List Nat).contains s = false) : ∀ i, dstAt sw_O i ≠ some s := by
  intro i hi
  have hl : i < 6 := by
    rcases Nat.lt_or_ge i 6 with h1 | h1
    · exact h1
    · unfold dstAt at hi
      rw [Array.getElem?_eq_none (by exact h1)] at hi
      cases hi
  rcases (by omega : i = 0 ∨ i = 1 ∨ i = 2 ∨ i = 3 ∨ i = 4 ∨ i = 5) with rfl | rfl | rfl | rfl | rfl | rfl
  all_goals first
    | (cases hi; simp at h)
    | cases hi
theorem sw_keep1 (a0 a1 : Option Addr) (c0 c1 : Nat) (D D2 : Dk) (Q0 : Bool) (bA bB : Nat) {f : Nat → Bool} (e : (Option Addr × Nat) × (Option Addr × Nat)) (a9 : Option Addr) (c9 : Nat) (hn : f 1 = false) : ∀ j, f j = true → sw_V a0 a1 c0 c1 D D2 Q0 bA bB j ((a9, c9), e.2) = sw_V a0 a1 c0 c1 D D2 Q0 bA bB j e := by
  intro j hj
  unfold sw_V
  split
  · rfl
  · rw [hn] at hj; cases hj
  · rfl
  · rfl
  · rfl
  · rfl
  · rfl
theorem sw_keep3 (a0 a1 : Option Addr) (c0 c1 : Nat) (D D2 : Dk) (Q0 : Bool) (bA bB : Nat) {f : Nat → Bool} (e : (Option Addr × Nat) × (Option Addr × Nat)) (a9 : Option Addr) (c9 : Nat) (hn : f 3 = false) : ∀ j, f j = true → sw_V a0 a1 c0 c1 D D2 Q0 bA bB j (e.1, (a9, c9)) = sw_V a0 a1 c0 c1 D D2 Q0 bA bB j e := by
  intro j hj
  unfold sw_V
  split
  · rfl
  · rfl
  · rfl
  · rw [hn] at hj; cases hj
  · rfl
  · rfl
  · rfl
set_option maxRecDepth 100000 in
set_option maxHeartbeats 2000000 in
theorem sw_s0 (A : Act) (w1 : World) (Q : Exit → Act → World → Prop) (a0 a1 : Option Addr) (c0 c1 : Nat) (D D2 : Dk) (Q0 : Bool) (bA bB : Nat) 
    (h2 : A.tmps.getD 2 undef = .pointer (some ⟨bA, 0, none⟩)) (h3 : A.tmps.getD 3 undef = .pointer (some ⟨bB, 0, none⟩)) (qA : Blk w1 bA #[.slice a0 D.pulses.length c0, .int .i64 D.index, .int .i64 D.left, .bool D.level, .bool D.plays]) (qB : Blk w1 bB #[.slice a1 D2.pulses.length c1, .int .i64 D2.index, .int .i64 D2.left, .bool D2.level, .bool D2.plays]) (hTA : (∀ W, Below w1.heap.size w1 W → Calls Try.prog 8 #[.agg #[.slice a0 D.pulses.length c0, .int .i64 D.index, .int .i64 D.left, .bool D.level, .bool D.plays]] W fun r w' => ∃ a c, r = .returned (.agg #[.slice a D.pulses.length c, .int .i64 D.index, .int .i64 D.left, .bool D.level, .bool D.plays]) ∧ RowR w' (.slice a D.pulses.length c) D.pulses ∧ Below W.heap.size W w')) (hTB : (∀ W, Below w1.heap.size w1 W → Calls Try.prog 8 #[.agg #[.slice a1 D2.pulses.length c1, .int .i64 D2.index, .int .i64 D2.left, .bool D2.level, .bool D2.plays]] W fun r w' => ∃ a c, r = .returned (.agg #[.slice a D2.pulses.length c, .int .i64 D2.index, .int .i64 D2.left, .bool D2.level, .bool D2.plays]) ∧ RowR w' (.slice a D2.pulses.length c) D2.pulses ∧ Below W.heap.size W w')) (hS : ∀ W a c a' c', RowR W (.slice a D.pulses.length c) D.pulses → RowR W (.slice a' D2.pulses.length c') D2.pulses → Calls Try.prog 15 #[.agg #[.slice a D.pulses.length c, .int .i64 D.index, .int .i64 D.left, .bool D.level, .bool D.plays], .agg #[.slice a' D2.pulses.length c', .int .i64 D2.index, .int .i64 D2.left, .bool D2.level, .bool D2.plays]] W fun r w' => r = .returned (.bool Q0) ∧ Below W.heap.size W w')
    (f : Nat → Bool) (e : (Option Addr × Nat) × (Option Addr × Nat)) (a : Act) (w : World) (hun : f 0 = false) (hdep : ∀ d ∈ sw_o0.after, Region.binds .any d = true → f d.on = true) (hJ : sw_J w1 a0 a1 c0 c1 D D2 Q0 bA bB f e w) (hFr : Fr sw_O A f (fun j => sw_V a0 a1 c0 c1 D D2 Q0 bA bB j e) a)
    (K : Act → World → Prop) (hK : Hid (∀ v e' w', v = sw_V a0 a1 c0 c1 D D2 Q0 bA bB 0 e' → (∀ j, f j = true → sw_V a0 a1 c0 c1 D D2 Q0 bA bB j e' = sw_V a0 a1 c0 c1 D D2 Q0 bA bB j e) → sw_J w1 a0 a1 c0 c1 D D2 Q0 bA bB (fun j => j == 0 || f j) e' w' → K (a.put sw_o0.dst v) w')) :
    if Region.wanted sw_o0 (yielded sw_O a.tmps) = true then Oper.wp Try.prog sw_o0 a w K Q else K (a.put sw_o0.dst undef) w := by
  unfold sw_o0 at hdep hK ⊢
  have hK9 := hK
  obtain ⟨hB, j1, j3⟩ := hJ
  have v2 := (hFr.old 2 (sw_no (by decide))).trans h2
  have x0 := (qA.below hB qA.lt).cell
  replace hB := hid hB
  replace j1 := hid j1
  replace j3 := hid j3
  clear hdep hFr h2 h3
  go_simp
  exact hK9.out _ e _ rfl (fun _ _ => rfl) ⟨hB.out, j1.out, j3.out⟩
set_option maxRecDepth 100000 in
set_option maxHeartbeats 2000000 in
theorem sw_s1 (A : Act) (w1 : World) (Q : Exit → Act → World → Prop) (a0 a1 : Option Addr) (c0 c1 : Nat) (D D2 : Dk) (Q0 : Bool) (bA bB : Nat) 
    (h2 : A.tmps.getD 2 undef = .pointer (some ⟨bA, 0, none⟩)) (h3 : A.tmps.getD 3 undef = .pointer (some ⟨bB, 0, none⟩)) (qA : Blk w1 bA #[.slice a0 D.pulses.length c0, .int .i64 D.index, .int .i64 D.left, .bool D.level, .bool D.plays]) (qB : Blk w1 bB #[.slice a1 D2.pulses.length c1, .int .i64 D2.index, .int .i64 D2.left, .bool D2.level, .bool D2.plays]) (hTA : (∀ W, Below w1.heap.size w1 W → Calls Try.prog 8 #[.agg #[.slice a0 D.pulses.length c0, .int .i64 D.index, .int .i64 D.left, .bool D.level, .bool D.plays]] W fun r w' => ∃ a c, r = .returned (.agg #[.slice a D.pulses.length c, .int .i64 D.index, .int .i64 D.left, .bool D.level, .bool D.plays]) ∧ RowR w' (.slice a D.pulses.length c) D.pulses ∧ Below W.heap.size W w')) (hTB : (∀ W, Below w1.heap.size w1 W → Calls Try.prog 8 #[.agg #[.slice a1 D2.pulses.length c1, .int .i64 D2.index, .int .i64 D2.left, .bool D2.level, .bool D2.plays]] W fun r w' => ∃ a c, r = .returned (.agg #[.slice a D2.pulses.length c, .int .i64 D2.index, .int .i64 D2.left, .bool D2.level, .bool D2.plays]) ∧ RowR w' (.slice a D2.pulses.length c) D2.pulses ∧ Below W.heap.size W w')) (hS : ∀ W a c a' c', RowR W (.slice a D.pulses.length c) D.pulses → RowR W (.slice a' D2.pulses.length c') D2.pulses → Calls Try.prog 15 #[.agg #[.slice a D.pulses.length c, .int .i64 D.index, .int .i64 D.left, .bool D.level, .bool D.plays], .agg #[.slice a' D2.pulses.length c', .int .i64 D2.index, .int .i64 D2.left, .bool D2.level, .bool D2.plays]] W fun r w' => r = .returned (.bool Q0) ∧ Below W.heap.size W w')
    (f : Nat → Bool) (e : (Option Addr × Nat) × (Option Addr × Nat)) (a : Act) (w : World) (hun : f 1 = false) (hdep : ∀ d ∈ sw_o1.after, Region.binds .any d = true → f d.on = true) (hJ : sw_J w1 a0 a1 c0 c1 D D2 Q0 bA bB f e w) (hFr : Fr sw_O A f (fun j => sw_V a0 a1 c0 c1 D D2 Q0 bA bB j e) a)
    (K : Act → World → Prop) (hK : Hid (∀ v e' w', v = sw_V a0 a1 c0 c1 D D2 Q0 bA bB 1 e' → (∀ j, f j = true → sw_V a0 a1 c0 c1 D D2 Q0 bA bB j e' = sw_V a0 a1 c0 c1 D D2 Q0 bA bB j e) → sw_J w1 a0 a1 c0 c1 D D2 Q0 bA bB (fun j => j == 1 || f j) e' w' → K (a.put sw_o1.dst v) w')) :
    if Region.wanted sw_o1 (yielded sw_O a.tmps) = true then Oper.wp Try.prog sw_o1 a w K Q else K (a.put sw_o1.dst undef) w := by
  unfold sw_o1 at hdep hK ⊢
  have hK9 := hK
  obtain ⟨hB, j1, j3⟩ := hJ
  have k0 : f 0 = true := hdep { on := 0, ground := .data } (by simp) rfl
  have v20 : a.tmps.getD 20 undef = .agg #[.slice a0 D.pulses.length c0, .int .i64 D.index, .int .i64 D.left, .bool D.level, .bool D.plays] := hFr.new 0 20 rfl k0
  replace hB := hid hB
  replace j1 := hid j1
  replace j3 := hid j3
  clear hdep hFr h2 h3
  go_simp
  go_at_call 8
  refine (hTA _ hB.out).mono ?_
  rintro r w' ⟨a9, c9, rfl, hr', hb'⟩
  replace hb' := hid hb'
  replace hr' := hid hr'
  go_simp
  exact hK9.out _ ((a9, c9), e.2) _ rfl (sw_keep1 a0 a1 c0 c1 D D2 Q0 bA bB e a9 c9 hun) ⟨new_trans hB.out hb'.out, fun _ => hr'.out, fun h => (j3.out h).below hb'.out⟩
set_option maxRecDepth 100000 in
set_option maxHeartbeats 2000000 in
theorem sw_s2 (A : Act) (w1 : World) (Q : Exit → Act → World → Prop) (a0 a1 : Option Addr) (c0 c1 : Nat) (D D2 : Dk) (Q0 : Bool) (bA bB : Nat) 
    (h2 : A.tmps.getD 2 undef = .pointer (some ⟨bA, 0, none⟩)) (h3 : A.tmps.getD 3 undef = .pointer (some ⟨bB, 0, none⟩)) (qA : Blk w1 bA #[.slice a0 D.pulses.length c0, .int .i64 D.index, .int .i64 D.left, .bool D.level, .bool D.plays]) (qB : Blk w1 bB #[.slice a1 D2.pulses.length c1, .int .i64 D2.index, .int .i64 D2.left, .bool D2.level, .bool D2.plays]) (hTA : (∀ W, Below w1.heap.size w1 W → Calls Try.prog 8 #[.agg #[.slice a0 D.pulses.length c0, .int .i64 D.index, .int .i64 D.left, .bool D.level, .bool D.plays]] W fun r w' => ∃ a c, r = .returned (.agg #[.slice a D.pulses.length c, .int .i64 D.index, .int .i64 D.left, .bool D.level, .bool D.plays]) ∧ RowR w' (.slice a D.pulses.length c) D.pulses ∧ Below W.heap.size W w')) (hTB : (∀ W, Below w1.heap.size w1 W → Calls Try.prog 8 #[.agg #[.slice a1 D2.pulses.length c1, .int .i64 D2.index, .int .i64 D2.left, .bool D2.level, .bool D2.plays]] W fun r w' => ∃ a c, r = .returned (.agg #[.slice a D2.pulses.length c, .int .i64 D2.index, .int .i64 D2.left, .bool D2.level, .bool D2.plays]) ∧ RowR w' (.slice a D2.pulses.length c) D2.pulses ∧ Below W.heap.size W w')) (hS : ∀ W a c a' c', RowR W (.slice a D.pulses.length c) D.pulses → RowR W (.slice a' D2.pulses.length c') D2.pulses → Calls Try.prog 15 #[.agg #[.slice a D.pulses.length c, .int .i64 D.index, .int .i64 D.left, .bool D.level, .bool D.plays], .agg #[.slice a' D2.pulses.length c', .int .i64 D2.index, .int .i64 D2.left, .bool D2.level, .bool D2.plays]] W fun r w' => r = .returned (.bool Q0) ∧ Below W.heap.size W w')
    (f : Nat → Bool) (e : (Option Addr × Nat) × (Option Addr × Nat)) (a : Act) (w : World) (hun : f 2 = false) (hdep : ∀ d ∈ sw_o2.after, Region.binds .any d = true → f d.on = true) (hJ : sw_J w1 a0 a1 c0 c1 D D2 Q0 bA bB f e w) (hFr : Fr sw_O A f (fun j => sw_V a0 a1 c0 c1 D D2 Q0 bA bB j e) a)
    (K : Act → World → Prop) (hK : Hid (∀ v e' w', v = sw_V a0 a1 c0 c1 D D2 Q0 bA bB 2 e' → (∀ j, f j = true → sw_V a0 a1 c0 c1 D D2 Q0 bA bB j e' = sw_V a0 a1 c0 c1 D D2 Q0 bA bB j e) → sw_J w1 a0 a1 c0 c1 D D2 Q0 bA bB (fun j => j == 2 || f j) e' w' → K (a.put sw_o2.dst v) w')) :
    if Region.wanted sw_o2 (yielded sw_O a.tmps) = true then Oper.wp Try.prog sw_o2 a w K Q else K (a.put sw_o2.dst undef) w := by
  unfold sw_o2 at hdep hK ⊢
  have hK9 := hK
  obtain ⟨hB, j1, j3⟩ := hJ
  have v3 := (hFr.old 3 (sw_no (by decide))).trans h3
  have x0 := (qB.below hB qB.lt).cell
  replace hB := hid hB
  replace j1 := hid j1
  replace j3 := hid j3
  clear hdep hFr h2 h3
  go_simp
  exact hK9.out _ e _ rfl (fun _ _ => rfl) ⟨hB.out, j1.out, j3.out⟩
set_option maxRecDepth 100000 in
set_option maxHeartbeats 2000000 in
theorem sw_s3 (A : Act) (w1 : World) (Q : Exit → Act → World → Prop) (a0 a1 : Option Addr) (c0 c1 : Nat) (D D2 : Dk) (Q0 : Bool) (bA bB : Nat) 
    (h2 : A.tmps.getD 2 undef = .pointer (some ⟨bA, 0, none⟩)) (h3 : A.tmps.getD 3 undef = .pointer (some ⟨bB, 0, none⟩)) (qA : Blk w1 bA #[.slice a0 D.pulses.length c0, .int .i64 D.index, .int .i64 D.left, .bool D.level, .bool D.plays]) (qB : Blk w1 bB #[.slice a1 D2.pulses.length c1, .int .i64 D2.index, .int .i64 D2.left, .bool D2.level, .bool D2.plays]) (hTA : (∀ W, Below w1.heap.size w1 W → Calls Try.prog 8 #[.agg #[.slice a0 D.pulses.length c0, .int .i64 D.index, .int .i64 D.left, .bool D.level, .bool D.plays]] W fun r w' => ∃ a c, r = .returned (.agg #[.slice a D.pulses.length c, .int .i64 D.index, .int .i64 D.left, .bool D.level, .bool D.plays]) ∧ RowR w' (.slice a D.pulses.length c) D.pulses ∧ Below W.heap.size W w')) (hTB : (∀ W, Below w1.heap.size w1 W → Calls Try.prog 8 #[.agg #[.slice a1 D2.pulses.length c1, .int .i64 D2.index, .int .i64 D2.left, .bool D2.level, .bool D2.plays]] W fun r w' => ∃ a c, r = .returned (.agg #[.slice a D2.pulses.length c, .int .i64 D2.index, .int .i64 D2.left, .bool D2.level, .bool D2.plays]) ∧ RowR w' (.slice a D2.pulses.length c) D2.pulses ∧ Below W.heap.size W w')) (hS : ∀ W a c a' c', RowR W (.slice a D.pulses.length c) D.pulses → RowR W (.slice a' D2.pulses.length c') D2.pulses → Calls Try.prog 15 #[.agg #[.slice a D.pulses.length c, .int .i64 D.index, .int .i64 D.left, .bool D.level, .bool D.plays], .agg #[.slice a' D2.pulses.length c', .int .i64 D2.index, .int .i64 D2.left, .bool D2.level, .bool D2.plays]] W fun r w' => r = .returned (.bool Q0) ∧ Below W.heap.size W w')
    (f : Nat → Bool) (e : (Option Addr × Nat) × (Option Addr × Nat)) (a : Act) (w : World) (hun : f 3 = false) (hdep : ∀ d ∈ sw_o3.after, Region.binds .any d = true → f d.on = true) (hJ : sw_J w1 a0 a1 c0 c1 D D2 Q0 bA bB f e w) (hFr : Fr sw_O A f (fun j => sw_V a0 a1 c0 c1 D D2 Q0 bA bB j e) a)
    (K : Act → World → Prop) (hK : Hid (∀ v e' w', v = sw_V a0 a1 c0 c1 D D2 Q0 bA bB 3 e' → (∀ j, f j = true → sw_V a0 a1 c0 c1 D D2 Q0 bA bB j e' = sw_V a0 a1 c0 c1 D D2 Q0 bA bB j e) → sw_J w1 a0 a1 c0 c1 D D2 Q0 bA bB (fun j => j == 3 || f j) e' w' → K (a.put sw_o3.dst v) w')) :
    if Region.wanted sw_o3 (yielded sw_O a.tmps) = true then Oper.wp Try.prog sw_o3 a w K Q else K (a.put sw_o3.dst undef) w := by
  unfold sw_o3 at hdep hK ⊢
  have hK9 := hK
  obtain ⟨hB, j1, j3⟩ := hJ
  have k2 : f 2 = true := hdep { on := 2, ground := .data } (by simp) rfl
  have v22 : a.tmps.getD 22 undef = .agg #[.slice a1 D2.pulses.length c1, .int .i64 D2.index, .int .i64 D2.left, .bool D2.level, .bool D2.plays] := hFr.new 2 22 rfl k2
  replace hB := hid hB
  replace j1 := hid j1
  replace j3 := hid j3
  clear hdep hFr h2 h3
  go_simp
  go_at_call 8
  refine (hTB _ hB.out).mono ?_
  rintro r w' ⟨a9, c9, rfl, hr', hb'⟩
  replace hb' := hid hb'
  replace hr' := hid hr'
  go_simp
  exact hK9.out _ (e.1, (a9, c9)) _ rfl (sw_keep3 a0 a1 c0 c1 D D2 Q0 bA bB e a9 c9 hun) ⟨new_trans hB.out hb'.out, fun h => (j1.out h).below hb'.out, fun _ => hr'.out⟩
set_option maxRecDepth 100000 in
set_option maxHeartbeats 2000000 in
theorem sw_s4 (A : Act) (w1 : World) (Q : Exit → Act → World → Prop) (a0 a1 : Option Addr) (c0 c1 : Nat) (D D2 : Dk) (Q0 : Bool) (bA bB : Nat) 
    (h2 : A.tmps.getD 2 undef = .pointer (some ⟨bA, 0, none⟩)) (h3 : A.tmps.getD 3 undef = .pointer (some ⟨bB, 0, none⟩)) (qA : Blk w1 bA #[.slice a0 D.pulses.length c0, .int .i64 D.index, .int .i64 D.left, .bool D.level, .bool D.plays]) (qB : Blk w1 bB #[.slice a1 D2.pulses.length c1, .int .i64 D2.index, .int .i64 D2.left, .bool D2.level, .bool D2.plays]) (hTA : (∀ W, Below w1.heap.size w1 W → Calls Try.prog 8 #[.agg #[.slice a0 D.pulses.length c0, .int .i64 D.index, .int .i64 D.left, .bool D.level, .bool D.plays]] W fun r w' => ∃ a c, r = .returned (.agg #[.slice a D.pulses.length c, .int .i64 D.index, .int .i64 D.left, .bool D.level, .bool D.plays]) ∧ RowR w' (.slice a D.pulses.length c) D.pulses ∧ Below W.heap.size W w')) (hTB : (∀ W, Below w1.heap.size w1 W → Calls Try.prog 8 #[.agg #[.slice a1 D2.pulses.length c1, .int .i64 D2.index, .int .i64 D2.left, .bool D2.level, .bool D2.plays]] W fun r w' => ∃ a c, r = .returned (.agg #[.slice a D2.pulses.length c, .int .i64 D2.index, .int .i64 D2.left, .bool D2.level, .bool D2.plays]) ∧ RowR w' (.slice a D2.pulses.length c) D2.pulses ∧ Below W.heap.size W w')) (hS : ∀ W a c a' c', RowR W (.slice a D.pulses.length c) D.pulses → RowR W (.slice a' D2.pulses.length c') D2.pulses → Calls Try.prog 15 #[.agg #[.slice a D.pulses.length c, .int .i64 D.index, .int .i64 D.left, .bool D.level, .bool D.plays], .agg #[.slice a' D2.pulses.length c', .int .i64 D2.index, .int .i64 D2.left, .bool D2.level, .bool D2.plays]] W fun r w' => r = .returned (.bool Q0) ∧ Below W.heap.size W w')
    (f : Nat → Bool) (e : (Option Addr × Nat) × (Option Addr × Nat)) (a : Act) (w : World) (hun : f 4 = false) (hdep : ∀ d ∈ sw_o4.after, Region.binds .any d = true → f d.on = true) (hJ : sw_J w1 a0 a1 c0 c1 D D2 Q0 bA bB f e w) (hFr : Fr sw_O A f (fun j => sw_V a0 a1 c0 c1 D D2 Q0 bA bB j e) a)
    (K : Act → World → Prop) (hK : Hid (∀ v e' w', v = sw_V a0 a1 c0 c1 D D2 Q0 bA bB 4 e' → (∀ j, f j = true → sw_V a0 a1 c0 c1 D D2 Q0 bA bB j e' = sw_V a0 a1 c0 c1 D D2 Q0 bA bB j e) → sw_J w1 a0 a1 c0 c1 D D2 Q0 bA bB (fun j => j == 4 || f j) e' w' → K (a.put sw_o4.dst v) w')) :
    if Region.wanted sw_o4 (yielded sw_O a.tmps) = true then Oper.wp Try.prog sw_o4 a w K Q else K (a.put sw_o4.dst undef) w := by
  unfold sw_o4 at hdep hK ⊢
  have hK9 := hK
  obtain ⟨hB, j1, j3⟩ := hJ
  have k1 : f 1 = true := hdep { on := 1, ground := .data } (by simp) rfl
  have v21 : a.tmps.getD 21 undef = .agg #[.slice e.1.1 D.pulses.length e.1.2, .int .i64 D.index, .int .i64 D.left, .bool D.level, .bool D.plays] := hFr.new 1 21 rfl k1
  have k3 : f 3 = true := hdep { on := 3, ground := .data } (by simp) rfl
  have v23 : a.tmps.getD 23 undef = .agg #[.slice e.2.1 D2.pulses.length e.2.2, .int .i64 D2.index, .int .i64 D2.left, .bool D2.level, .bool D2.plays] := hFr.new 3 23 rfl k3
  have r1 := hid (j1 k1)
  have r3 := hid (j3 k3)
  replace hB := hid hB
  replace j1 := hid j1
  replace j3 := hid j3
  clear hdep hFr h2 h3
  go_simp
  go_at_call 15
  refine (hS _ _ _ _ _ r1.out r3.out).mono ?_
  rintro r w' ⟨rfl, hb'⟩
  replace hb' := hid hb'
  go_simp
  exact hK9.out _ e _ rfl (fun _ _ => rfl) ⟨new_trans hB.out hb'.out, fun h => (j1.out h).below hb'.out, fun h => (j3.out h).below hb'.out⟩
set_option maxRecDepth 100000 in
set_option maxHeartbeats 2000000 in
theorem sw_s5 (A : Act) (w1 : World) (Q : Exit → Act → World → Prop) (a0 a1 : Option Addr) (c0 c1 : Nat) (D D2 : Dk) (Q0 : Bool) (bA bB : Nat) 
    (h2 : A.tmps.getD 2 undef = .pointer (some ⟨bA, 0, none⟩)) (h3 : A.tmps.getD 3 undef = .pointer (some ⟨bB, 0, none⟩)) (qA : Blk w1 bA #[.slice a0 D.pulses.length c0, .int .i64 D.index, .int .i64 D.left, .bool D.level, .bool D.plays]) (qB : Blk w1 bB #[.slice a1 D2.pulses.length c1, .int .i64 D2.index, .int .i64 D2.left, .bool D2.level, .bool D2.plays]) (hTA : (∀ W, Below w1.heap.size w1 W → Calls Try.prog 8 #[.agg #[.slice a0 D.pulses.length c0, .int .i64 D.index, .int .i64 D.left, .bool D.level, .bool D.plays]] W fun r w' => ∃ a c, r = .returned (.agg #[.slice a D.pulses.length c, .int .i64 D.index, .int .i64 D.left, .bool D.level, .bool D.plays]) ∧ RowR w' (.slice a D.pulses.length c) D.pulses ∧ Below W.heap.size W w')) (hTB : (∀ W, Below w1.heap.size w1 W → Calls Try.prog 8 #[.agg #[.slice a1 D2.pulses.length c1, .int .i64 D2.index, .int .i64 D2.left, .bool D2.level, .bool D2.plays]] W fun r w' => ∃ a c, r = .returned (.agg #[.slice a D2.pulses.length c, .int .i64 D2.index, .int .i64 D2.left, .bool D2.level, .bool D2.plays]) ∧ RowR w' (.slice a D2.pulses.length c) D2.pulses ∧ Below W.heap.size W w')) (hS : ∀ W a c a' c', RowR W (.slice a D.pulses.length c) D.pulses → RowR W (.slice a' D2.pulses.length c') D2.pulses → Calls Try.prog 15 #[.agg #[.slice a D.pulses.length c, .int .i64 D.index, .int .i64 D.left, .bool D.level, .bool D.plays], .agg #[.slice a' D2.pulses.length c', .int .i64 D2.index, .int .i64 D2.left, .bool D2.level, .bool D2.plays]] W fun r w' => r = .returned (.bool Q0) ∧ Below W.heap.size W w')
    (f : Nat → Bool) (e : (Option Addr × Nat) × (Option Addr × Nat)) (a : Act) (w : World) (hun : f 5 = false) (hdep : ∀ d ∈ sw_o5.after, Region.binds .any d = true → f d.on = true) (hJ : sw_J w1 a0 a1 c0 c1 D D2 Q0 bA bB f e w) (hFr : Fr sw_O A f (fun j => sw_V a0 a1 c0 c1 D D2 Q0 bA bB j e) a)
    (K : Act → World → Prop) (hK : Hid (∀ v e' w', v = sw_V a0 a1 c0 c1 D D2 Q0 bA bB 5 e' → (∀ j, f j = true → sw_V a0 a1 c0 c1 D D2 Q0 bA bB j e' = sw_V a0 a1 c0 c1 D D2 Q0 bA bB j e) → sw_J w1 a0 a1 c0 c1 D D2 Q0 bA bB (fun j => j == 5 || f j) e' w' → K (a.put sw_o5.dst v) w')) :
    if Region.wanted sw_o5 (yielded sw_O a.tmps) = true then Oper.wp Try.prog sw_o5 a w K Q else K (a.put sw_o5.dst undef) w := by
  unfold sw_o5 at hdep hK ⊢
  have hK9 := hK
  obtain ⟨hB, j1, j3⟩ := hJ
  have k4 : f 4 = true := hdep { on := 4, ground := .data } (by simp) rfl
  have v24 : a.tmps.getD 24 undef = .bool Q0 := hFr.new 4 24 rfl k4
  replace hB := hid hB
  replace j1 := hid j1
  replace j3 := hid j3
  clear hdep hFr h2 h3
  go_simp
  exact hK9.out _ e _ rfl (fun _ _ => rfl) ⟨hB.out, j1.out, j3.out⟩
set_option maxRecDepth 100000 in
set_option maxHeartbeats 4000000 in
theorem sw_reg (A : Act) (w1 : World) (Q : Exit → Act → World → Prop) (a0 a1 : Option Addr) (c0 c1 : Nat) (D D2 : Dk) (Q0 : Bool) (bA bB : Nat) 
    (h2 : A.tmps.getD 2 undef = .pointer (some ⟨bA, 0, none⟩)) (h3 : A.tmps.getD 3 undef = .pointer (some ⟨bB, 0, none⟩)) (qA : Blk w1 bA #[.slice a0 D.pulses.length c0, .int .i64 D.index, .int .i64 D.left, .bool D.level, .bool D.plays]) (qB : Blk w1 bB #[.slice a1 D2.pulses.length c1, .int .i64 D2.index, .int .i64 D2.left, .bool D2.level, .bool D2.plays]) (hTA : (∀ W, Below w1.heap.size w1 W → Calls Try.prog 8 #[.agg #[.slice a0 D.pulses.length c0, .int .i64 D.index, .int .i64 D.left, .bool D.level, .bool D.plays]] W fun r w' => ∃ a c, r = .returned (.agg #[.slice a D.pulses.length c, .int .i64 D.index, .int .i64 D.left, .bool D.level, .bool D.plays]) ∧ RowR w' (.slice a D.pulses.length c) D.pulses ∧ Below W.heap.size W w')) (hTB : (∀ W, Below w1.heap.size w1 W → Calls Try.prog 8 #[.agg #[.slice a1 D2.pulses.length c1, .int .i64 D2.index, .int .i64 D2.left, .bool D2.level, .bool D2.plays]] W fun r w' => ∃ a c, r = .returned (.agg #[.slice a D2.pulses.length c, .int .i64 D2.index, .int .i64 D2.left, .bool D2.level, .bool D2.plays]) ∧ RowR w' (.slice a D2.pulses.length c) D2.pulses ∧ Below W.heap.size W w')) (hS : ∀ W a c a' c', RowR W (.slice a D.pulses.length c) D.pulses → RowR W (.slice a' D2.pulses.length c') D2.pulses → Calls Try.prog 15 #[.agg #[.slice a D.pulses.length c, .int .i64 D.index, .int .i64 D.left, .bool D.level, .bool D.plays], .agg #[.slice a' D2.pulses.length c', .int .i64 D2.index, .int .i64 D2.left, .bool D2.level, .bool D2.plays]] W fun r w' => r = .returned (.bool Q0) ∧ Below W.heap.size W w') (hN : 25 ≤ A.tmps.size)
    (h : ∀ (w : World) (e : (Option Addr × Nat) × (Option Addr × Nat)), Below w1.heap.size w1 w → Q .normal (putsA A [(20, .agg #[.slice a0 D.pulses.length c0, .int .i64 D.index, .int .i64 D.left, .bool D.level, .bool D.plays]), (21, .agg #[.slice e.1.1 D.pulses.length e.1.2, .int .i64 D.index, .int .i64 D.left, .bool D.level, .bool D.plays]), (22, .agg #[.slice a1 D2.pulses.length c1, .int .i64 D2.index, .int .i64 D2.left, .bool D2.level, .bool D2.plays]), (23, .agg #[.slice e.2.1 D2.pulses.length e.2.2, .int .i64 D2.index, .int .i64 D2.left, .bool D2.level, .bool D2.plays]), (24, .bool Q0), (6, .bool Q0)]) w) :
    (Code.region 8 #[({ dst := some 20, op := Op.load 24 (Operand.tmp 2), type := 24, pos := "exact.go:2899", after := #[], guard := none } : Oper), ({ dst := some 21, op := Op.call { callee := Callee.value (Operand.func 8), args := #[Operand.tmp 20], argTypes := #[24] }, type := 26, pos := "exact.go:2899", after := #[{ on := 0, ground := Ground.data }], guard := none } : Oper), ({ dst := some 22, op := Op.load 24 (Operand.tmp 3), type := 24, pos := "exact.go:2899", after := #[], guard := none } : Oper), ({ dst := some 23, op := Op.call { callee := Callee.value (Operand.func 8), args := #[Operand.tmp 22], argTypes := #[24] }, type := 26, pos := "exact.go:2899", after := #[{ on := 2, ground := Ground.data }, { on := 1, ground := Ground.chain }], guard := none } : Oper), ({ dst := some 24, op := Op.call { callee := Callee.value (Operand.func 15), args := #[Operand.tmp 21, Operand.tmp 23], argTypes := #[26, 26] }, type := 4, pos := "exact.go:2899", after := #[{ on := 1, ground := Ground.data }, { on := 3, ground := Ground.data }, { on := 3, ground := Ground.chain }], guard := none } : Oper), ({ dst := some 6, op := Op.assign (Operand.tmp 24), type := 4, pos := "exact.go:2899", after := #[{ on := 4, ground := Ground.data }, { on := 4, ground := Ground.chain }, { on := 0, ground := Ground.phase }, { on := 1, ground := Ground.phase }, { on := 2, ground := Ground.phase }, { on := 3, ground := Ground.phase }, { on := 4, ground := Ground.phase }], guard := none } : Oper)] true).wp Try.prog Q A w1 := by
  show (Code.region 8 sw_O true).wp Try.prog Q A w1
  refine wp_region_slots (E := (Option Addr × Nat) × (Option Addr × Nat)) (sw_V a0 a1 c0 c1 D D2 Q0 bA bB) (sw_J w1 a0 a1 c0 c1 D D2 Q0 bA bB) (by kernel_rfl) (by kernel_rfl) (by kernel_rfl) (fun i s hi => ?_) ?_ ((none, 0), (none, 0)) ⟨(Below.refl _ _).drew, fun h => (by cases h), fun h => (by cases h)⟩ ?_
  · cases hc : ([20, 21, 22, 23, 24, 6] : List Nat).contains s
    · exact absurd hi (sw_no hc i)
    · have : s ∈ ([20, 21, 22, 23, 24, 6] : List Nat) := by simpa using hc
      simp only [List.mem_cons, List.not_mem_nil, or_false] at this
      omega
  · intro f e a w i o hi ho hun hdep hJ hFr K hK
    have hi8 : i < 6 := hi
    rcases (by omega : i = 0 ∨ i = 1 ∨ i = 2 ∨ i = 3 ∨ i = 4 ∨ i = 5) with rfl | rfl | rfl | rfl | rfl | rfl
    · obtain rfl := Option.some.inj ho
      exact sw_s0 A w1 Q a0 a1 c0 c1 D D2 Q0 bA bB h2 h3 qA qB hTA hTB hS f e a w hun hdep hJ hFr K hK
    · obtain rfl := Option.some.inj ho
      exact sw_s1 A w1 Q a0 a1 c0 c1 D D2 Q0 bA bB h2 h3 qA qB hTA hTB hS f e a w hun hdep hJ hFr K hK
    · obtain rfl := Option.some.inj ho
      exact sw_s2 A w1 Q a0 a1 c0 c1 D D2 Q0 bA bB h2 h3 qA qB hTA hTB hS f e a w hun hdep hJ hFr K hK
    · obtain rfl := Option.some.inj ho
      exact sw_s3 A w1 Q a0 a1 c0 c1 D D2 Q0 bA bB h2 h3 qA qB hTA hTB hS f e a w hun hdep hJ hFr K hK
    · obtain rfl := Option.some.inj ho
      exact sw_s4 A w1 Q a0 a1 c0 c1 D D2 Q0 bA bB h2 h3 qA qB hTA hTB hS f e a w hun hdep hJ hFr K hK
    · obtain rfl := Option.some.inj ho
      exact sw_s5 A w1 Q a0 a1 c0 c1 D D2 Q0 bA bB h2 h3 qA qB hTA hTB hS f e a w hun hdep hJ hFr K hK
  · intro f e a w hall hJ hFr
    have := h w e hJ.1
    rw [hFr.eq [(20, .agg #[.slice a0 D.pulses.length c0, .int .i64 D.index, .int .i64 D.left, .bool D.level, .bool D.plays]), (21, .agg #[.slice e.1.1 D.pulses.length e.1.2, .int .i64 D.index, .int .i64 D.left, .bool D.level, .bool D.plays]), (22, .agg #[.slice a1 D2.pulses.length c1, .int .i64 D2.index, .int .i64 D2.left, .bool D2.level, .bool D2.plays]), (23, .agg #[.slice e.2.1 D2.pulses.length e.2.2, .int .i64 D2.index, .int .i64 D2.left, .bool D2.level, .bool D2.plays]), (24, .bool Q0), (6, .bool Q0)] (fun s hs => ?_) (fun i s hi => ?_)]
    · exact this
    · have hne : ∀ k ∈ ([20, 21, 22, 23, 24, 6] : List Nat), k ≠ s := by
        intro k hk e2
        subst e2
        simp only [List.mem_cons, List.not_mem_nil, or_false] at hk
        rcases hk with rfl | rfl | rfl | rfl | rfl | rfl
        · exact hs 0 rfl
        · exact hs 1 rfl
        · exact hs 2 rfl
        · exact hs 3 rfl
        · exact hs 4 rfl
        · exact hs 5 rfl
      simp only [lookA]
      simp [hne]
    · have hl : i < 6 := by
        rcases Nat.lt_or_ge i 6 with h1 | h1
        · exact h1
        · unfold dstAt at hi
          rw [Array.getElem?_eq_none (by exact h1)] at hi
          cases hi
      refine ⟨hall i hl, ?_⟩
      rcases (by omega : i = 0 ∨ i = 1 ∨ i = 2 ∨ i = 3 ∨ i = 4 ∨ i = 5) with rfl | rfl | rfl | rfl | rfl | rfl
      all_goals first
        | (cases hi; rfl)
        | cases hi
end Go.Proofs.Ytohnddjijedfkab
